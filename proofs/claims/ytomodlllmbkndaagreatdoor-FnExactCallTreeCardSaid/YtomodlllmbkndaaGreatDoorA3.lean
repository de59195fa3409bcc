/- readBody: the statements that a text tells. Condition: texts of at most 2^30 bytes. letterOf and readProcedure: a name and a body, or none, as a part's plain reading tells. Condition: texts of at most 2^30 bytes, and the library's own number can be read. The model's l13Cut at ';': the parts of a text. Condition: a text of at most 2^30 bytes. Texts as lists of bytes; sums of texts; blocks laid. Plain lemmas. What l1Open's walk leans on: rows of procedures, names one behind the other, the ways that fail. Plain lemmas; no walk. How a program lies in memory: the row of its procedures, and the bodies that they lead to. Plain lemmas; no walk. -/
import Derived.Test.YtomodlllmbkndaaGreatDoorA2
import Derived.Test.YtomodlllmbkndaaGreatDoorA1
import Derived.Test.YtomodlllmbkndaaGreatDoorShelf
import Derived.Deep.QuietTactic
import Derived.BigQuiet
import Derived.Deep.AppendLies
import Derived.Deep.RegionLaw
namespace Go.Proofs.YtomodlllmbkndaaGreatDoor
open Go.RowKit Gram

set_option maxHeartbeats 400000 in
theorem body_any (s : ByteArray) (w : World) (hm : s.size ≤ 1073741824) : Calls Tryz.prog 78 #[.string s] w (ReadTo (bodyOf s) w) := by
  have HR := Lib.hid (read_any s 400 false w hm (by decide))
  change Hid (Calls Tryz.prog _ _ w (ReadTo (bodyOf s) w)) at HR
  cases hb : bodyOf s with
  | none =>
    rw [hb] at HR
    go_enter Tryz.func78, Tryz.ntmps78
    go_wp2_with fail
    refine HR.out.mono ?_
    rintro e w1 ⟨rfl, hb⟩
    go_wp2_with fail
    go_ret2
    exact ⟨rfl, hb⟩
  | some xs =>
    rw [hb] at HR
    go_enter Tryz.func78, Tryz.ntmps78
    go_wp2_with fail
    refine HR.out.mono ?_
    rintro e w1 ⟨⟨v, S, rfl, hB, hS⟩, hb⟩
    obtain ⟨va, vn, vc, rfl⟩ := hB.form
    have HB := Lib.hid hB
    have HS := Lib.hid hS
    clear hB hS
    go_wp2_with fail
    go_ret2
    exact ⟨⟨_, S, rfl, HB.out, HS.out⟩, hb⟩
end Go.Proofs.YtomodlllmbkndaaGreatDoor
namespace Go.Proofs.YtomodlllmbkndaaGreatDoor
open Go.RowKit Gram

/-- the library's own number can be read -/
def MaxCell (w : World) : Prop := ∃ m, w.cell? ⟨0, 0, none⟩ = some (.int .i64 m)
theorem MaxCell.pos {w : World} (h : MaxCell w) : 0 < w.heap.size := by
  obtain ⟨m, h⟩ := h
  exact World.block_lt_of_cell? w _ h
theorem MaxCell.later {w w' : World} (h : MaxCell w) (hb : Below w.heap.size w w') : MaxCell w' := by
  have := h.pos
  obtain ⟨m, h⟩ := h
  exact ⟨m, by rw [hb.cell (p := ⟨0, 0, none⟩) this]; exact h⟩

/-- what readProcedure hands back for what a part tells -/
def ProcTo (o : Option Pr) (w : World) (r : Ending) (w' : World) : Prop :=
  (match o with
    | some (n, xs) => ∃ v S, r = .returned (.tuple #[.agg #[.int .u8 n.toNat, v], .bool true]) ∧ IsBody w' S xs v ∧ ∀ k, S k → w.heap.size ≤ k ∧ ∃ cur fz, w'.heap[k]? = some (.cells cur 139 fz)
    | none => ∃ (n : UInt8) (a : Option Addr) (m c : Nat), r = .returned (.tuple #[.agg #[.int .u8 n.toNat, .slice a m c], .bool false])) ∧ Below w.heap.size w w'

theorem proc_plain (p : List UInt8) : procOf p = (match nameOf (Lib.cut p [58]).1, (Lib.cut p [58]).2.2, bodyOf ⟨(Lib.cut p [58]).2.1.toArray⟩ with | some n, true, some b => some (n, b) | _, _, _ => none) := by
  rw [cut_colon]
  dsimp only
  generalize Lib.cut p [58] = c
  obtain ⟨a, b, f⟩ := c
  dsimp only
  generalize bodyOf ⟨b.toArray⟩ = o
  match a with
  | [] => simp [nameOf]
  | [n] =>
    cases hl : isLet n <;> cases f <;> cases o <;> simp [nameOf, hl]
  | n :: m :: r => simp [nameOf]

theorem cut_len (p : List UInt8) : (Lib.cut p [58]).2.1.length ≤ p.length := by
  unfold Lib.cut
  split
  · simp
  · simp

theorem proc_cells {w w3 : World} {n : Nat} (h : Below ((w.alloc (Obj.cells #[.int .u8 0, .slice none 0 0] 76)).drewN n).heap.size ((w.alloc (Obj.cells #[.int .u8 0, .slice none 0 0] 76)).drewN n) w3) :
    w3.heap[w.heap.size]? = some (Obj.cells #[.int .u8 0, .slice none 0 0] 76 (0, 0)) ∧ w.heap.size < ((w.alloc (Obj.cells #[.int .u8 0, .slice none 0 0] 76)).drewN n).heap.size ∧ Below w.heap.size w w3 := by
  have hz : ((w.alloc (Obj.cells #[.int .u8 0, .slice none 0 0] 76)).drewN n).heap.size = w.heap.size + 1 := by
    show (w.heap.push _).size = _
    rw [Array.size_push]
  have hb : w3.heap[w.heap.size]? = some (Obj.cells #[.int .u8 0, .slice none 0 0] 76 (0, 0)) := by
    rw [h.block w.heap.size (by omega)]; exact heap_alloc_new w _
  have h1 : Below w.heap.size w ((w.alloc (Obj.cells #[.int .u8 0, .slice none 0 0] 76)).drewN n) := ((Below.refl _ _).alloc (Nat.le_refl _) _).trans ⟨rfl, rfl, rfl, Nat.le_refl _, fun _ _ => rfl⟩
  exact ⟨hb, by omega, h1.trans (h.mono h1.size)⟩

theorem proc_set {w3 : World} {g : Nat} (hb : w3.heap[g]? = some (Obj.cells #[.int .u8 0, .slice none 0 0] 76 (0, 0))) (x y : Value) :
    ((w3.setCell ⟨g, 0, none⟩ x).setCell ⟨g, 1, none⟩ y).cell? ⟨g, 0, none⟩ = some x ∧ ((w3.setCell ⟨g, 0, none⟩ x).setCell ⟨g, 1, none⟩ y).cell? ⟨g, 1, none⟩ = some y ∧
      ∀ k, k ≠ g → ((w3.setCell ⟨g, 0, none⟩ x).setCell ⟨g, 1, none⟩ y).heap[k]? = w3.heap[k]? := by
  have h2 := heap_set_same (k := 1) (heap_set_same (k := 0) hb x) y
  exact ⟨by rw [Lib.cell_of_heap h2]; rfl, by rw [Lib.cell_of_heap h2]; rfl, fun k hk => by rw [heap_set_other hk, heap_set_other hk]⟩

set_option maxHeartbeats 1000000 in
theorem procedure_any (s : ByteArray) (w : World) (hs : s.size ≤ 1073741824) (hm : MaxCell w) :
    Calls Tryz.prog 55 #[.string s] w (ProcTo (procOf s.data.toList) w) := by
  obtain ⟨m, hm⟩ := hm
  have hlt := World.block_lt_of_cell? w _ hm
  have hcl := cut_len s.data.toList
  rw [proc_plain]
  have hC : ∀ w2 : World, w2.cell? ⟨0, 0, none⟩ = some (.int .i64 m) → Calls Tryz.prog 76 #[.string s, .string ⟨#[58]⟩] w2 fun e w' => e = .returned (.tuple #[.string ⟨(Lib.cut s.data.toList [58]).1.toArray⟩, .string ⟨(Lib.cut s.data.toList [58]).2.1.toArray⟩, .bool (Lib.cut s.data.toList [58]).2.2]) ∧ ∃ n, w' = w2.drewN n :=
    fun w2 h => Tryz.strings_Cut s ⟨#[58]⟩ m w2 (by omega) h
  generalize Lib.cut s.data.toList [58] = c at *
  obtain ⟨a, b, f⟩ := c
  dsimp only at *
  have hb : (⟨b.toArray⟩ : ByteArray).size ≤ 1073741824 := by
    have : (⟨b.toArray⟩ : ByteArray).size = b.length := rfl
    have : s.data.toList.length = s.size := size_of s
    omega
  have HL := Lib.hid (letter_of ⟨a.toArray⟩)
  have HR := Lib.hid (fun w => body_any ⟨b.toArray⟩ w hb)
  have HC := Lib.hid hC
  have HM := Lib.hid hm
  clear hm hC hb hcl hs
  rw [show ((⟨a.toArray⟩ : ByteArray).data.toList) = a from rfl] at HL
  generalize nameOf a = nm at *
  have HE : Hid (∀ n, nm = some n → letN nm = n) := fun n h => by rw [h]; rfl
  generalize letN nm = ln at *
  generalize bodyOf ⟨b.toArray⟩ = bd at *
  generalize (⟨a.toArray⟩ : ByteArray) = sa at *
  generalize (⟨b.toArray⟩ : ByteArray) = sb at *
  cases bd with
  | none =>
    cases f <;> cases nm
    all_goals
      dsimp only
      go_enter Tryz.func55, Tryz.ntmps55
      go_wp2_with fail
      refine (HC.out _ ?_).mono ?_
      · exact cell_later ((Below.refl _ _).alloc (Nat.le_refl _) _) HM.out
      rintro e w1 ⟨rfl, n, rfl⟩
      go_wp2_with fail
      refine (HL.out _).mono ?_
      rintro e w2 ⟨rfl, rfl⟩
      go_wp2_with fail
      refine (HR.out _).mono ?_
      rintro e w3 ⟨hr, hbw⟩
      obtain ⟨qb, qn, qw⟩ := proc_cells hbw
      have q1 : w3.cell? ⟨w.heap.size, 0, none⟩ = some (.int .u8 0) := by rw [Lib.cell_of_heap qb]; rfl
      have q2 : w3.cell? ⟨w.heap.size, 1, none⟩ = some (.slice none 0 0) := by rw [Lib.cell_of_heap qb]; rfl
      have q3 : w3.frozen? ⟨w.heap.size, 0, none⟩ = false := Lib.frozen_of_heap qb 0
      have q4 : w3.frozen? ⟨w.heap.size, 1, none⟩ = false := Lib.frozen_of_heap qb 1
      have QB := Lib.hid qb
      have HB := Lib.hid qw
      have HW := Lib.hid hbw
      have QN := Lib.hid qn
      clear hbw qw qb qn
      dsimp only at hr
      subst hr
      go_wp2_with fail
      clear q1 q2 q3 q4
      obtain ⟨c0, c1, hk⟩ := proc_set QB.out (.int .u8 ln.toNat) (.slice none 0 0)
      refine bodyPost_ret (v := .tuple #[.agg #[.int .u8 ln.toNat, .slice none 0 0], .bool false]) ?_ rfl ?_
      · simp [results, Tryz.results55, go_sem, c0, c1]
      · exact ⟨⟨_, _, _, _, rfl⟩, (HB.out.setCell (Nat.le_refl _) _).setCell (Nat.le_refl _) _⟩
  | some xs =>
    cases f <;> cases nm
    all_goals
      dsimp only
      go_enter Tryz.func55, Tryz.ntmps55
      go_wp2_with fail
      refine (HC.out _ ?_).mono ?_
      · exact cell_later ((Below.refl _ _).alloc (Nat.le_refl _) _) HM.out
      rintro e w1 ⟨rfl, n, rfl⟩
      go_wp2_with fail
      refine (HL.out _).mono ?_
      rintro e w2 ⟨rfl, rfl⟩
      go_wp2_with fail
      refine (HR.out _).mono ?_
      rintro e w3 ⟨hr, hbw⟩
      obtain ⟨qb, qn, qw⟩ := proc_cells hbw
      have q1 : w3.cell? ⟨w.heap.size, 0, none⟩ = some (.int .u8 0) := by rw [Lib.cell_of_heap qb]; rfl
      have q2 : w3.cell? ⟨w.heap.size, 1, none⟩ = some (.slice none 0 0) := by rw [Lib.cell_of_heap qb]; rfl
      have q3 : w3.frozen? ⟨w.heap.size, 0, none⟩ = false := Lib.frozen_of_heap qb 0
      have q4 : w3.frozen? ⟨w.heap.size, 1, none⟩ = false := Lib.frozen_of_heap qb 1
      have QB := Lib.hid qb
      have HB := Lib.hid qw
      have HW := Lib.hid hbw
      have QN := Lib.hid qn
      clear hbw qw qb qn
      obtain ⟨v, S, hre, hB, hS⟩ := hr
      obtain ⟨va, vn, vc, hv⟩ := hB.form
      subst hv
      subst hre
      have HBd := Lib.hid hB
      have HS := Lib.hid hS
      clear hB hS
      go_wp2_with fail
      clear q1 q2 q3 q4
      obtain ⟨c0, c1, hk⟩ := proc_set QB.out (.int .u8 ln.toNat) (.slice va vn vc)
    · refine bodyPost_ret (v := .tuple #[.agg #[.int .u8 ln.toNat, .slice va vn vc], .bool false]) ?_ rfl ?_
      · simp [results, Tryz.results55, go_sem, c0, c1]
      · exact ⟨⟨_, _, _, _, rfl⟩, (HB.out.setCell (Nat.le_refl _) _).setCell (Nat.le_refl _) _⟩
    · refine bodyPost_ret (v := .tuple #[.agg #[.int .u8 ln.toNat, .slice va vn vc], .bool false]) ?_ rfl ?_
      · simp [results, Tryz.results55, go_sem, c0, c1]
      · exact ⟨⟨_, _, _, _, rfl⟩, (HB.out.setCell (Nat.le_refl _) _).setCell (Nat.le_refl _) _⟩
    · refine bodyPost_ret (v := .tuple #[.agg #[.int .u8 ln.toNat, .slice va vn vc], .bool false]) ?_ rfl ?_
      · simp [results, Tryz.results55, go_sem, c0, c1]
      · exact ⟨⟨_, _, _, _, rfl⟩, (HB.out.setCell (Nat.le_refl _) _).setCell (Nat.le_refl _) _⟩
    · have hln := HE.out _ rfl
      subst hln
      have hlo := QN.out
      refine bodyPost_ret (v := .tuple #[.agg #[.int .u8 ln.toNat, .slice va vn vc], .bool true]) ?_ rfl ?_
      · simp [results, Tryz.results55, go_sem, c0, c1]
      · refine ⟨⟨_, S, rfl, ?_, ?_⟩, (HB.out.setCell (Nat.le_refl _) _).setCell (Nat.le_refl _) _⟩
        · exact HBd.out.kept (fun k hS => hk k (by have := (HS.out k hS).1; omega)) (fun _ h => h)
        · intro k hS
          obtain ⟨h1, cur, fz, h2⟩ := HS.out k hS
          exact ⟨by omega, cur, fz, by rw [hk k (by omega)]; exact h2⟩
end Go.Proofs.YtomodlllmbkndaaGreatDoor
namespace Go.Proofs.YtomodlllmbkndaaGreatDoor
open Go.RowKit Gram

def txtV (l : List UInt8) : Value := .string ⟨l.toArray⟩
def partVs (ps : List (List UInt8)) : List Value := ps.map txtV
theorem partVs_snoc (ps : List (List UInt8)) (p : List UInt8) : partVs (ps ++ [p]) = partVs ps ++ [txtV p] := by simp [partVs]
theorem partVs_len (ps : List (List UInt8)) : (partVs ps).length = ps.length := by simp [partVs]

/-- the sign at an index -/
def sgn (s : ByteArray) (i : Nat) : UInt8 := s.data.toList.getD i 0
def seg (s : ByteArray) (f i : Nat) : List UInt8 := (s.data.toList.drop f).take (i - f)
theorem seg_V (s : ByteArray) (f i : Nat) : Value.string (s.extract f i) = txtV (seg s f i) := by
  rw [txtV]
  congr 1
  apply ByteArray.ext
  apply Array.ext'
  simp [seg, Array.toList_extract, List.extract_eq_take_drop]
theorem seg_nil (s : ByteArray) (f : Nat) : seg s f f = [] := by simp [seg]

/-- what is read so far -/
def CutTo (s : ByteArray) (f i : Nat) (outs : List (List UInt8)) : Prop :=
  outs.length ≤ i ∧ ((i ≤ s.size ∧ f ≤ i ∧ cuts s.data.toList = outs ++ cutsP (seg s f i) (s.data.toList.drop i)) ∨ (i = s.size + 1 ∧ cuts s.data.toList = outs))

theorem cutTo_start (s : ByteArray) : CutTo s 0 0 [] := ⟨Nat.le_refl _, .inl ⟨Nat.zero_le _, Nat.le_refl _, by simp [seg, cuts]⟩⟩
theorem drop_sgn (s : ByteArray) (i : Nat) (h : i < s.size) : s.data.toList.drop i = sgn s i :: s.data.toList.drop (i + 1) := by
  have hl : i < s.data.toList.length := by simpa using h
  rw [List.drop_eq_getElem_cons hl, sgn, List.getD_eq_getElem?_getD, List.getElem?_eq_getElem hl]; rfl
theorem cutTo_end {s : ByteArray} {f : Nat} {outs : List (List UInt8)} (h : CutTo s f s.size outs) : f ≤ s.size ∧ CutTo s (s.size + 1) (s.size + 1) (outs ++ [seg s f s.size]) := by
  obtain ⟨h0, ⟨h1, h2, h3⟩ | ⟨h1, _⟩⟩ := h
  · refine ⟨h2, by simp; omega, .inr ⟨rfl, ?_⟩⟩
    rw [h3, List.drop_of_length_le (by simp), cutsP]
  · omega
theorem cutTo_hit {s : ByteArray} {f i : Nat} {outs : List (List UInt8)} (h : CutTo s f i outs) (hi : i < s.size) (hc : sgn s i = 59) : f ≤ i ∧ CutTo s (i + 1) (i + 1) (outs ++ [seg s f i]) := by
  obtain ⟨h0, ⟨h1, h2, h3⟩ | ⟨h1, _⟩⟩ := h
  · refine ⟨h2, by simp; omega, .inl ⟨hi, Nat.le_refl _, ?_⟩⟩
    rw [h3, drop_sgn s i hi, hc, cutsP, if_pos rfl, seg_nil]
    simp
  · omega
theorem cutTo_pass {s : ByteArray} {f i : Nat} {outs : List (List UInt8)} (h : CutTo s f i outs) (hi : i < s.size) (hc : sgn s i ≠ 59) : CutTo s f (i + 1) outs := by
  obtain ⟨h0, ⟨h1, h2, h3⟩ | ⟨h1, _⟩⟩ := h
  · refine ⟨by omega, .inl ⟨hi, by omega, ?_⟩⟩
    have hs : seg s f (i + 1) = seg s f i ++ [sgn s i] := by
      have hl : i - f < (s.data.toList.drop f).length := by simp; omega
      rw [seg, seg, show i + 1 - f = (i - f) + 1 by omega, List.take_add_one, List.getElem?_eq_getElem hl, sgn, List.getD_eq_getElem?_getD, List.getElem_drop]
      simp [show f + (i - f) = i by omega]
      rw [Array.getElem?_eq_getElem (by simpa using hi)]; rfl
    rw [h3, drop_sgn s i hi, cutsP, if_neg hc, hs]
  · omega

theorem sgn_at (s : ByteArray) (i : Nat) (h : i < s.size) : s[i] = sgn s i := by
  have hl : i < s.data.toList.length := by simpa using h
  rw [sgn, List.getD_eq_getElem?_getD, List.getElem?_eq_getElem hl]; rfl
theorem sgn_is (s : ByteArray) (i : Nat) (h : i < s.size) (c : UInt8) : ((s[i].toNat : Int) == (c.toNat : Int)) = (sgn s i == c) := by rw [toNat_beq, sgn_at]

set_option maxHeartbeats 1000000 in
set_option maxRecDepth 100000 in
theorem cut_any (s : ByteArray) (w : World) (hs : s.size ≤ 1073741824) :
    Calls Tryz.prog 80 #[.string s, .int .u8 59] w fun e w' => ∃ v, e = .returned v ∧
      w'.ownsRow w.heap.size 9 1 v (cuts s.data.toList).length (partVs (cuts s.data.toList)) ∧ Below w.heap.size w w' := by
  obtain ⟨i0, hi, hz0, hz1, hz2⟩ := info_parts info_str
  go_enter Tryz.func80, Tryz.ntmps80
  go_wp2_with fail
  go_loopw [5, 6, 7] (fun v f_ i_ wr => ∃ (f i : Nat) (ys : List (List UInt8)), f_ = .int .i64 f ∧ i_ = .int .i64 i ∧ i ≤ s.size + 1 ∧ wr.ownsRow w.heap.size 9 1 v ys.length (partVs ys) ∧ Below w.heap.size w wr ∧ Hid (CutTo s f i ys)) (fun _ _ i_ _ => s.size + 1 - (intOf i_).toNat)
  case atStart =>
    refine ⟨0, 0, [], by go_num, by go_num, by omega, ?_, (Below.refl _ _).alloc (Nat.le_refl _) _, cutTo_start s⟩
    exact ⟨by simp [partVs], .inr ⟨w.heap.size, 0, #[], rfl, Nat.le_refl _, heap_alloc_new w _, Nat.le_refl _, by simp [maxLen], by simp, by simp [partVs]⟩⟩
  case round =>
    obtain ⟨f, i, ys, rfl, rfl, hk, hown, hbw, hC⟩ := hrel
    have hsz := hbw.size
    have hyl : ys.length ≤ i := hC.out.1
    by_cases hle : i ≤ s.size
    · by_cases hlt : i < s.size
      · by_cases hc : sgn s i = 59
        · have hb : ((s[i].toNat : Int) == 59) = true := by rw [show (59 : Int) = ((59 : UInt8).toNat : Int) from rfl, sgn_is s i hlt 59, hc]; rfl
          obtain ⟨hfi, hn⟩ := cutTo_hit hC.out hlt hc
          have HN := Lib.hid hn
          have HV := Lib.hid (seg_V s f i)
          clear hn hC hc
          go_wp2_with (at_builtin; refine wpList_append_own _ rfl _ _ 98 rfl w.heap.size 9 i0 (.string ⟨#[]⟩) 1 16 Tryz.underlying98 hi hz0 hz1 hz2 rfl (by decide) _ _ _ rfl (hown.alloc _) ⟨wr.heap.size, 0, none⟩ 1 1 [.string (s.extract f i)] rfl rfl ?c1 ?c2 ?c3 ?c4 ?c5 ?_)
          case c1 => exact cell_one_new _ _ _
          case c2 => intro u hu; simp at hu; subst hu; rfl
          case c3 => unfold maxLen; omega
          case c4 => omega
          case c5 => simp; omega
          intro v' w1 hown' hgrow _
          go_wp2_with fail
          go_roundw
          case rel =>
            refine ⟨i + 1, i + 1, ys ++ [seg s f i], by go_num, by go_num, by omega, ?_, (hbw.alloc (by omega) _).grown hgrow (by simp; omega) (fun j hj => (hown.lt j hj).1), HN.out⟩
            rw [partVs_snoc, ← HV.out]; simpa using hown'
          case measure => simp [intOf] <;> omega
        · have hb : ((s[i].toNat : Int) == 59) = false := by rw [show (59 : Int) = ((59 : UInt8).toNat : Int) from rfl, sgn_is s i hlt 59, beq_eq_false_iff_ne]; exact hc
          have HN := Lib.hid (cutTo_pass hC.out hlt hc)
          clear hC hc
          go_wp2_with fail
          go_roundw
          case rel => exact ⟨f, i + 1, ys, by go_num, by go_num, by omega, hown, hbw, HN.out⟩
          case measure => simp [intOf] <;> omega
      · have hie : i = s.size := by omega
        subst hie
        obtain ⟨hfi, hn⟩ := cutTo_end hC.out
        have HN := Lib.hid hn
        have HV := Lib.hid (seg_V s f s.size)
        clear hn hC
        go_wp2_with (at_builtin; refine wpList_append_own _ rfl _ _ 98 rfl w.heap.size 9 i0 (.string ⟨#[]⟩) 1 16 Tryz.underlying98 hi hz0 hz1 hz2 rfl (by decide) _ _ _ rfl (hown.alloc _) ⟨wr.heap.size, 0, none⟩ 1 1 [.string (s.extract f s.size)] rfl rfl ?c1 ?c2 ?c3 ?c4 ?c5 ?_)
        case c1 => exact cell_one_new _ _ _
        case c2 => intro u hu; simp at hu; subst hu; rfl
        case c3 => unfold maxLen; omega
        case c4 => omega
        case c5 => simp; omega
        intro v' w1 hown' hgrow _
        go_wp2_with fail
        go_roundw
        case rel =>
          refine ⟨s.size + 1, s.size + 1, ys ++ [seg s f s.size], by go_num, by go_num, by omega, ?_, (hbw.alloc (by omega) _).grown hgrow (by simp; omega) (fun j hj => (hown.lt j hj).1), HN.out⟩
          rw [partVs_snoc, ← HV.out]; simpa using hown'
        case measure => simp [intOf] <;> omega
    · have hN := Lib.hid (show cuts s.data.toList = ys by
        obtain ⟨_, ⟨h1, _⟩ | ⟨_, h2⟩⟩ := hC.out
        · omega
        · exact h2)
      clear hC
      go_wp2_with fail
      go_ret
      exact ⟨_, rfl, by rw [hN.out]; exact hown, hbw⟩
end Go.Proofs.YtomodlllmbkndaaGreatDoor
namespace Go.Proofs.YtomodlllmbkndaaGreatDoor
open Go.RowKit Gram

def txtOf (l : List UInt8) : ByteArray := ⟨l.toArray⟩
theorem txtOf_size (l : List UInt8) : (txtOf l).size = l.length := rfl
theorem txtOf_data (l : List UInt8) : (txtOf l).data.toList = l := rfl
theorem str_sum (x y : ByteArray) (h : x.size + y.size ≤ 9223372036854775807) (w : World) : (Op.stringOp .add x y).run Tryz.prog w = .ok (.string (x ++ y)) w := run_string_add_sum w x y h
theorem alloc_more (w : World) (o : Obj) : w.heap.size < (w.alloc o).heap.size := by
  show _ < (w.heap.push o).size
  rw [Array.size_push]; omega
theorem alloc_size (w : World) (o : Obj) : (w.alloc o).heap.size = w.heap.size + 1 := by
  show (w.heap.push o).size = _
  rw [Array.size_push]
theorem text_none {s : ByteArray} (h : s.size = 0) : s.toList.isEmpty = true := by
  rw [ByteArray.toList_eq]
  have : s.data.toList.length = 0 := by simpa using h
  rw [List.length_eq_zero_iff.1 this]; rfl
theorem text_some {s : ByteArray} (h : 0 < s.size) : s.toList.isEmpty = false := by
  rw [ByteArray.toList_eq]
  have : 0 < s.data.toList.length := by simpa using h
  cases hl : s.data.toList with
  | nil => rw [hl] at this; simp at this
  | cons x t => rfl
end Go.Proofs.YtomodlllmbkndaaGreatDoor
namespace Go.Proofs.YtomodlllmbkndaaGreatDoor
open Go.RowKit Gram

theorem info_pr : (Tryz.prog.info? 108).map (fun i => (i.zero, i.size, i.bytes)) = some (some (.agg #[.int .u8 0, .string ⟨#[]⟩]), 2, 24) := by kernel_rfl

def prV (p : Pr) : List Value := [.int .u8 p.1.toNat, .string ⟨(txts p.2).toArray⟩]
def prVs (ps : List Pr) : List Value := ps.flatMap prV
theorem prVs_len (ps : List Pr) : (prVs ps).length = ps.length * 2 := by
  induction ps with
  | nil => rfl
  | cons p t ih => simp [prVs, prV] at ih ⊢; omega
theorem prVs_snoc (ps : List Pr) (p : Pr) : prVs (ps ++ [p]) = prVs ps ++ prV p := by simp [prVs]

theorem part_get {w : World} {B : Nat} {e : TypeId} {v : Value} {ps : List (List UInt8)} (h : w.ownsRow B e 1 v ps.length (partVs ps)) (k : Nat) (hk : k < ps.length) :
    ∃ g c, v = .slice (some ⟨g, 0, none⟩) ps.length c ∧ w.cell? ⟨g, k, none⟩ = some (.string (txtOf ps[k])) := by
  rcases h.2 with ⟨h1, h2⟩ | ⟨g, cap, cur, h1, _, _⟩
  · omega
  · subst h1
    exact ⟨g, cap, rfl, row_cell h k _ (by rw [partVs, List.getElem?_map, List.getElem?_eq_getElem hk]; rfl)⟩

theorem procOf_short {p : List UInt8} (h : p.length < 2) : procOf p = none := by
  match p, h with
  | [], _ => rfl
  | [_], _ => rfl
theorem procOf_long {p : List UInt8} (h : 2 ≤ p.length) : procOf p = if isLet (p.getD 0 0) = true ∧ p.getD 1 0 = 58 then (bodyOf (txtOf (p.drop 2))).map fun b => (p.getD 0 0, b) else none := by
  match p, h with
  | n :: c :: r, _ => rfl
theorem procsOf_step (ps : List Pr) (parts : List (List UInt8)) (k : Nat) (h : k < parts.length) : procsOf ps (parts.drop k) = match procOf parts[k] with
    | none => none
    | some x => if lastBelow ps x.1 = true then procsOf (ps ++ [x]) (parts.drop (k + 1)) else none := by
  rw [List.drop_eq_getElem_cons h]; rfl

/-- the rest behind the second sign -/
theorem rest_eq (t : ByteArray) : t.extract (min 2 t.size) t.size = txtOf (t.data.toList.drop 2) := by
  rw [txtOf]
  apply ByteArray.ext
  apply Array.ext'
  simp [Array.toList_extract, List.extract_eq_take_drop]
  rcases Nat.lt_or_ge t.size 2 with h | h
  · rw [Nat.min_eq_right (by omega), List.drop_of_length_le (by simp), List.drop_of_length_le (by simp; omega)]; simp
  · rw [Nat.min_eq_left h, List.take_of_length_le (by simp)]

theorem txt_get (l : List UInt8) (j : Nat) (h : j < (txtOf l).size) : (txtOf l)[j] = l.getD j 0 := by
  have hl : j < l.length := h
  rw [List.getD_eq_getElem?_getD, List.getElem?_eq_getElem hl]; rfl
theorem last_name (ps : List Pr) (n : UInt8) (h : 0 < ps.length) : ∃ j, ∃ hj : j < (txtOf (namesOf ps)).size, (txtOf (namesOf ps)).size = j + 1 ∧ lastBelow ps n = decide ((txtOf (namesOf ps))[j].toNat < n.toNat) := by
  rcases List.eq_nil_or_concat ps with rfl | ⟨qs, q, rfl⟩
  · simp at h
  · rw [List.concat_eq_append] at h ⊢
    have hz : (txtOf (namesOf (qs ++ [q]))).size = qs.length + 1 := by rw [txtOf_size]; simp [namesOf]
    refine ⟨qs.length, by rw [hz]; omega, hz, ?_⟩
    rw [txt_get]
    have : (namesOf (qs ++ [q])).getD qs.length 0 = q.1 := by simp [namesOf, List.getD_eq_getElem?_getD]
    rw [this]
    simp [lastBelow, UInt8.lt_iff_toNat_lt]

theorem names_snoc (ps : List Pr) (t : ByteArray) (h : 0 < t.size) (b : List Stm) : txtOf (namesOf ps) ++ t.extract 0 1 = txtOf (namesOf (ps ++ [(sgn t 0, b)])) := by
  apply ByteArray.ext
  apply Array.toList_inj.1
  have hl : 0 < t.data.toList.length := by simpa using h
  have : (t.extract 0 1).data.toList = [sgn t 0] := by
    rw [sgn, List.getD_eq_getElem?_getD, List.getElem?_eq_getElem hl]
    simp [Array.toList_extract, List.extract_eq_take_drop]
    rw [List.take_one]
    simp [List.head?_eq_getElem?]
  simp only [ByteArray.toList_data_append, this, txtOf, namesOf]
  simp
theorem pr_snoc (ps : List Pr) (t : ByteArray) (h : 0 < t.size) (b : List Stm) (hb : bodyOf (txtOf (t.data.toList.drop 2)) = some b) : prVs ps ++ [.int .u8 t[0].toNat, .string (t.extract 2 t.size)] = prVs (ps ++ [(sgn t 0, b)]) := by
  obtain ⟨_, h2, _⟩ := bodyOf_some hb
  rw [prVs_snoc, prV, sgn_at]
  have : t.extract 2 t.size = ⟨(txts b).toArray⟩ := by
    apply ByteArray.ext
    apply Array.toList_inj.1
    rw [txtOf_data] at h2
    rw [← h2]
    simp [Array.toList_extract, List.extract_eq_take_drop]
    rw [List.take_of_length_le (by simp)]
  rw [this]

theorem last_of (ps : List Pr) (n : UInt8) (nm : ByteArray) (h : 0 < ps.length) (hn : txtOf (namesOf ps) = nm) : ∃ j, ∃ hj : j < nm.size, nm.size = j + 1 ∧ lastBelow ps n = decide (nm[j].toNat < n.toNat) := by
  subst hn; exact last_name ps n h
/-- what l1Open hands back -/
def OpenTo (s : ByteArray) (w : World) (e : Ending) (w' : World) : Prop := ∃ v b ps, e = .returned (.tuple #[v, .bool b]) ∧ Hid ((b = false ∧ progOf s = none) ∨ (b = true ∧ progOf s = some ps)) ∧
  w'.ownsRow w.heap.size 108 2 v ps.length (prVs ps) ∧ Below w.heap.size w w'

theorem prog_none {s : ByteArray} {parts : List (List UInt8)} (hp : cuts s.data.toList = parts) (h : procsOf [] parts = none) : progOf s = none := by
  unfold progOf
  split
  · rw [hp, h]; rfl
  · rfl

theorem row_empty (w wr : World) (h : Below w.heap.size w wr) : (wr.alloc (.cells #[] 108)).ownsRow w.heap.size 108 2 (.slice (some ⟨wr.heap.size, 0, none⟩) 0 0) (List.length ([] : List Pr)) (prVs []) :=
  ⟨by simp [prVs], .inr ⟨wr.heap.size, 0, #[], rfl, h.size, heap_alloc_new wr _, Nat.le_refl _, by simp [maxLen], by simp, by simp [prVs]⟩⟩
theorem failed {s : ByteArray} {w wr : World} {n : Nat} (hN : progOf s = none) (h : Below w.heap.size w wr) : OpenTo s w (.returned (.tuple #[.slice (some ⟨wr.heap.size, 0, none⟩) 0 0, .bool false])) ((wr.drewN n).alloc (.cells #[] 108)) :=
  have h' : Below w.heap.size w (wr.drewN n) := h.trans ⟨rfl, rfl, rfl, Nat.le_refl _, fun _ _ => rfl⟩
  ⟨_, false, [], rfl, .inl ⟨rfl, hN⟩, row_empty w (wr.drewN n) h', h'.alloc h'.size _⟩

theorem cuts_le (l : List UInt8) : ∀ p : List UInt8, (cutsP p l).length ≤ l.length + 1 ∧ ∀ x ∈ cutsP p l, x.length ≤ p.length + l.length := by
  induction l with
  | nil => intro p; simp [cutsP]
  | cons c t ih =>
    intro p
    rw [cutsP]
    split
    · have h := ih []
      refine ⟨by simp; exact h.1, fun x hx => ?_⟩
      rcases List.mem_cons.1 hx with rfl | hx
      · omega
      · have := h.2 x hx; simp at this ⊢; omega
    · have h := ih (p ++ [c])
      refine ⟨by simp; omega, fun x hx => ?_⟩
      have := h.2 x hx; simp at this ⊢; omega

end Go.Proofs.YtomodlllmbkndaaGreatDoor
namespace Go.Proofs.YtomodlllmbkndaaGreatDoor
open Go.RowKit Gram

/-- a procedure and the slice of its body -/
abbrev Qr := Pr × Value
def qV (q : Qr) : List Value := [.int .u8 q.1.1.toNat, q.2]
def qVs (qs : List Qr) : List Value := qs.flatMap qV
theorem qVs_len (qs : List Qr) : (qVs qs).length = qs.length * 2 := by
  induction qs with
  | nil => rfl
  | cons p t ih => simp [qVs, qV] at ih ⊢; omega
theorem qVs_snoc (qs : List Qr) (q : Qr) : qVs (qs ++ [q]) = qVs qs ++ qV q := by simp [qVs]
theorem qVs_get (qs : List Qr) (k : Nat) (hk : k < qs.length) : (qVs qs)[k * 2]? = some (.int .u8 qs[k].1.1.toNat) ∧ (qVs qs)[k * 2 + 1]? = some qs[k].2 := by
  induction qs generalizing k with
  | nil => simp at hk
  | cons p t ih =>
    cases k with
    | zero => exact ⟨rfl, rfl⟩
    | succ k =>
      have := ih k (by simpa using hk)
      simp only [qVs, List.flatMap_cons, qV] at this ⊢
      rw [show (k + 1) * 2 = k * 2 + 2 by omega, show k * 2 + 2 + 1 = (k * 2 + 1) + 2 by omega]
      simpa using this

/-- a program in memory: its procedures' row, and what their bodies lead to -/
structure IsProg (w : World) (B : Nat) (S : Nat → Prop) (qs : List Qr) (v : Value) : Prop where
  row : w.ownsRow B 76 2 v qs.length (qVs qs)
  body : ∀ q ∈ qs, IsBody w S q.1.2 q.2
  set : ∀ k, S k → B ≤ k ∧ ∃ cur fz, w.heap[k]? = some (.cells cur 139 fz)

theorem IsProg.lt {w : World} {B : Nat} {S : Nat → Prop} {qs : List Qr} {v : Value} (h : IsProg w B S qs v) : ∀ k, S k → k < w.heap.size := by
  intro k hk
  obtain ⟨_, cur, fz, hc⟩ := h.set k hk
  exact heap_lt hc
theorem IsProg.row_block {w : World} {B : Nat} {S : Nat → Prop} {qs : List Qr} {v : Value} (h : IsProg w B S qs v) {g : Nat} (hg : v.ownBlock = some g) : B ≤ g ∧ ∃ cur, w.heap[g]? = some (.cells cur 76 (0, 0)) := by
  rcases h.row.2 with ⟨h1, h2⟩ | ⟨g', cap, cur, h1, hb, hc, _⟩
  · rw [h1] at hg; cases hg
  · rw [h1] at hg
    have : g' = g := by simpa [Value.ownBlock] using hg
    subst this
    exact ⟨hb, cur, hc⟩
theorem IsProg.apart {w : World} {B : Nat} {S : Nat → Prop} {qs : List Qr} {v : Value} (h : IsProg w B S qs v) {g : Nat} (hg : v.ownBlock = some g) : ¬ S g := by
  intro hS
  obtain ⟨_, cur, hc⟩ := h.row_block hg
  obtain ⟨_, cur', fz, hc'⟩ := h.set g hS
  rw [hc] at hc'
  injection hc' with hc'
  injection hc' with _ ht _
  exact absurd ht (by decide)
theorem IsProg.kept {w w' : World} {B : Nat} {S : Nat → Prop} {qs : List Qr} {v : Value} (h : IsProg w B S qs v) (hb : ∀ k, k < w.heap.size → w'.heap[k]? = w.heap[k]?) : IsProg w' B S qs v :=
  ⟨ownsRow_of h.row fun g hg => hb g (by obtain ⟨_, cur, hc⟩ := h.row_block hg; exact heap_lt hc),
   fun q hq => (h.body q hq).kept (fun k hk => hb k (h.lt k hk)) (fun _ h => h),
   fun k hk => by obtain ⟨h1, cur, fz, hc⟩ := h.set k hk; exact ⟨h1, cur, fz, by rw [hb k (heap_lt hc)]; exact hc⟩⟩
theorem IsProg.form {w : World} {B : Nat} {S : Nat → Prop} {qs : List Qr} {v : Value} (h : IsProg w B S qs v) : ∃ a c, v = .slice a qs.length c := by
  rcases h.row.2 with ⟨h1, h2⟩ | ⟨g, cap, cur, h1, _⟩
  · exact ⟨none, 0, by rw [h1, h2]⟩
  · exact ⟨_, _, h1⟩
theorem IsProg.empty (w : World) (B : Nat) : IsProg w B (fun _ => False) [] (.slice none 0 0) :=
  ⟨World.ownsRow_nil _ _ _ _, fun q hq => by simp at hq, fun _ h => h.elim⟩
theorem IsProg.get {w : World} {B : Nat} {S : Nat → Prop} {qs : List Qr} {a : Option Addr} {n c : Nat} (h : IsProg w B S qs (.slice a n c)) (k : Nat) (hk : k < qs.length) :
    ∃ g, a = some ⟨g, 0, none⟩ ∧ B ≤ g ∧ w.cell? ⟨g, k * 2, none⟩ = some (.int .u8 qs[k].1.1.toNat) ∧ w.cell? ⟨g, k * 2 + 1, none⟩ = some qs[k].2 := by
  rcases h.row.2 with ⟨h1, h2⟩ | ⟨g, cap, cur, h1, hb, _⟩
  · omega
  · have hr := h.row
    rw [h1] at hr
    have hr2 := hr
    injection h1 with h3 h4 h5
    subst h3
    exact ⟨g, rfl, hb, row_cell hr _ _ (qVs_get qs k hk).1, row_cell hr _ _ (qVs_get qs k hk).2⟩
/-- one procedure more -/
theorem IsProg.snoc {w w1 w2 : World} {B : Nat} {S S2 : Nat → Prop} {qs : List Qr} {v v' : Value} {q : Qr} (h : IsProg w B S qs v) (hB : IsBody w S2 q.1.2 q.2) (hS : ∀ k, S2 k → B ≤ k ∧ ∃ cur fz, w.heap[k]? = some (.cells cur 139 fz))
    (hb : ∀ k, k < w.heap.size → w1.heap[k]? = w.heap[k]?) (hz : w.heap.size ≤ w1.heap.size) (hrow : w2.ownsRow B 76 2 v' (qs.length + 1) (qVs qs ++ qV q)) (hg : w1.grownBy w2 v.ownBlock) :
    IsProg w2 B (fun k => S k ∨ S2 k) (qs ++ [q]) v' := by
  have hk : ∀ k, (S k ∨ S2 k) → w2.heap[k]? = w.heap[k]? := by
    intro k hk
    have hne : v.ownBlock ≠ some k := by
      intro he
      rcases hk with hk | hk
      · exact h.apart he hk
      · obtain ⟨_, cur, hc⟩ := h.row_block he
        obtain ⟨_, cur', fz, hc'⟩ := hS k hk
        rw [hc] at hc'
        injection hc' with hc'
        injection hc' with _ ht _
        exact absurd ht (by decide)
    have hlt : k < w.heap.size := by
      rcases hk with hk | hk
      · exact h.lt k hk
      · obtain ⟨_, cur', fz, hc'⟩ := hS k hk; exact heap_lt hc'
    rw [hg.block k (by omega) (fun e => hne e.symm), hb k hlt]
  refine ⟨by rw [qVs_snoc]; simpa using hrow, ?_, ?_⟩
  · intro p hp
    rcases List.mem_append.1 hp with hp | hp
    · exact (h.body p hp).kept (fun k hS => hk k (.inl hS)) (fun _ h => .inl h)
    · rw [List.mem_singleton.1 hp]
      exact hB.kept (fun k hS => hk k (.inr hS)) (fun _ h => .inr h)
  · intro k hS'
    rcases hS' with h1 | h1
    · obtain ⟨a, cur, fz, hc⟩ := h.set k h1; exact ⟨a, cur, fz, by rw [hk k (.inl h1)]; exact hc⟩
    · obtain ⟨a, cur, fz, hc⟩ := hS k h1; exact ⟨a, cur, fz, by rw [hk k (.inr h1)]; exact hc⟩
end Go.Proofs.YtomodlllmbkndaaGreatDoor
