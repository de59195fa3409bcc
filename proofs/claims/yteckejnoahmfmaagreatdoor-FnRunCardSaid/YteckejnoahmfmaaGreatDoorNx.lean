/- Plain mathematics, no program: a run prints as often as it comes to a print, but for one whose step is not done; too long is a run of 500 steps. No condition. The laws' eqOutcome, markOutcome and heldOutcome. Condition: lists of at most 2^20 numbers. SameOutcome of the program; the laws' wvNumbers and wvOutcome. Condition: lists of at most 2^20 numbers. RunProgram of the program and of the model. Conditions: texts of at most 2^30 bytes, and the library's own number can be read. How much a run holds; rows that stay. Plain lemmas. JoinPointsOf of the program and of the model. Conditions: texts of at most 2^30 bytes, and the library's own number can be read. The law FnRun answers true whatever bytes it is given. Condition: the library's own number can be read. -/
import Derived.Test.YteckejnoahmfmaaGreatDoorRun
import Derived.Test.YteckejnoahmfmaaGreatDoorInts
import Derived.Test.YteckejnoahmfmaaGreatDoorRd
import Derived.Test.YteckejnoahmfmaaGreatDoorDx
import Derived.Deep.QuietTactic
import Derived.Test.YteckejnoahmfmaaGreatDoorRx
import Derived.Test.YteckejnoahmfmaaGreatDoorMx
import Derived.Test.YteckejnoahmfmaaGreatDoorJx
namespace Go.Proofs.YteckejnoahmfmaaGreatDoor.Gram

/-- how many of some join points are prints -/
def prints (l : List Jpt) : Nat := (l.filter (fun j => j.nm.isNone)).length
theorem prints_snoc (l : List Jpt) (j : Jpt) : prints (l ++ [j]) = prints l + (if j.nm.isNone then 1 else 0) := by
  unfold prints
  rw [List.filter_append, List.length_append]
  obtain ⟨nm, stk⟩ := j
  cases nm <;> rfl

/-- as often as it comes to a print, but for one whose step is not done -/
def TellsBy (m : Mst) : Option Fin → Prop
  | some .long => m.steps = 500 ∧ (prints m.pts = m.out.length ∨ prints m.pts = m.out.length + 1)
  | _ => prints m.pts = m.out.length
def Tells (k : Nat) (r : Mst × Option Fin) : Prop := k ≤ r.1.steps ∧ r.1.steps ≤ 500 ∧ TellsBy r.1 r.2
theorem Tells.mono {k k' : Nat} {r : Mst × Option Fin} (h : Tells k r) (hk : k' ≤ k) : Tells k' r := ⟨Nat.le_trans hk h.1, h.2⟩

/-- what is known of doing statements with a fuel -/
def TellsAll (n : Nat) (ex : Mst → List Stm → Mst × Option Fin) : Prop :=
  ∀ (m : Mst) (xs : List Stm), 501 ≤ n + m.steps → m.steps ≤ 500 → prints m.pts = m.out.length → Tells m.steps (ex m xs)

theorem callBy_tells {n : Nat} {ex : Mst → List Stm → Mst × Option Fin} (B : UInt8 → List Stm) (hex : TellsAll n ex) {m : Mst} (h1 : 501 ≤ n + m.steps) (h2 : m.steps ≤ 500) (h3 : prints m.pts = m.out.length) (c : UInt8) : Tells m.steps (callBy ex B m c) := by
  have h := hex (m.enter c) (B c) h1 h2 h3
  unfold callBy
  cases hr : ex (m.enter c) (B c) with
  | mk m' o =>
    rw [hr] at h
    cases o with
    | none => exact h
    | some e => exact h

theorem stepBy_tells {n : Nat} {ex : Mst → List Stm → Mst × Option Fin} (B : UInt8 → List Stm) (hex : TellsAll n ex) {m : Mst} (h1 : 501 ≤ n + 1 + m.steps) (h2 : m.steps ≤ 500) (h3 : prints m.pts = m.out.length) (x : Stm) :
    Tells m.steps (stepBy ex B (m.come x) x) ∧ ((stepBy ex B (m.come x) x).2 = none → m.steps + 1 ≤ (stepBy ex B (m.come x) x).1.steps) := by
  have hcs : (m.come x).steps = m.steps := by cases x <;> rfl
  have hco : (m.come x).out = m.out := by cases x <;> rfl
  unfold stepBy
  by_cases hs : (m.come x).steps = 500
  · rw [if_pos hs]
    refine ⟨⟨by rw [hcs]; exact Nat.le_refl _, by rw [hs]; exact Nat.le_refl _, hs, ?_⟩, (fun h => nomatch h)⟩
    cases x with
    | prt => right; show prints (m.pts ++ [_]) = m.out.length + 1; rw [prints_snoc, h3]; rfl
    | call c => left; show prints (m.pts ++ [_]) = m.out.length; rw [prints_snoc, h3]; rfl
    | _ => exact .inl h3
  · rw [if_neg hs]
    have hs' : m.steps ≤ 499 := by omega
    cases x with
    | chg g d => exact ⟨⟨Nat.le_succ _, by show m.steps + 1 ≤ 500; omega, h3⟩, fun _ => Nat.le_refl _⟩
    | pro => exact ⟨⟨Nat.le_succ _, by show m.steps + 1 ≤ 500; omega, h3⟩, fun _ => Nat.le_refl _⟩
    | prt =>
      refine ⟨⟨Nat.le_succ _, by show m.steps + 1 ≤ 500; omega, ?_⟩, fun _ => Nat.le_refl _⟩
      show prints (m.pts ++ [_]) = (m.out ++ [_]).length
      rw [prints_snoc, List.length_append, h3]; rfl
    | call c =>
      have hp : prints ((m.come (.call c)).tick).pts = ((m.come (.call c)).tick).out.length := by
        show prints (m.pts ++ [_]) = m.out.length
        rw [prints_snoc, h3]; rfl
      dsimp only
      by_cases hd : (m.come (.call c)).stk.length = 20
      · rw [if_pos hd]
        exact ⟨⟨Nat.le_succ _, by show m.steps + 1 ≤ 500; omega, hp⟩, (fun h => nomatch h)⟩
      · rw [if_neg hd]
        have h := callBy_tells B hex (m := (m.come (.call c)).tick) (by show 501 ≤ n + (m.steps + 1); omega) (by show m.steps + 1 ≤ 500; omega) hp c
        exact ⟨h.mono (Nat.le_succ _), fun _ => h.1⟩
    | cho a b =>
      dsimp only
      have h := hex (m.come (.cho a b)).tick (if 0 < (m.come (.cho a b)).val then a else b) (by show 501 ≤ n + (m.steps + 1); omega) (by show m.steps + 1 ≤ 500; omega) h3
      exact ⟨h.mono (Nat.le_succ _), fun _ => h.1⟩

theorem exec_tells (B : UInt8 → List Stm) (n : Nat) : TellsAll n (exec B n) := by
  induction n with
  | zero =>
    intro m xs h1 h2 h3
    omega
  | succ n ih =>
    intro m xs h1 h2 h3
    cases xs with
    | nil => exact ⟨Nat.le_refl _, h2, h3⟩
    | cons x xs =>
      obtain ⟨s1, s2⟩ := stepBy_tells B ih h1 h2 h3 x
      rw [exec]
      cases hr : stepBy (exec B n) B (m.come x) x with
      | mk m' o =>
        rw [hr] at s1 s2
        cases o with
        | none =>
          have s3 : m.steps + 1 ≤ m'.steps := s2 rfl
          exact (ih m' xs (by omega) s1.2.1 s1.2.2).mono (by omega)
        | some e => exact s1

/-- of a whole run -/
theorem run_tells (B : UInt8 → List Stm) (c : UInt8) (v : Int) : Tells 0 (runOf B c v) :=
  callBy_tells B (exec_tells B 501) (m := Mst.start v) (Nat.le_refl _) (Nat.zero_le _) rfl c
end Go.Proofs.YteckejnoahmfmaaGreatDoor.Gram
namespace Go.Proofs.YteckejnoahmfmaaGreatDoor
open Go.RowKit

/-- an outcome as a value -/
def oV (v : Int) (a : Option Addr) (n c : Nat) (e : ByteArray) (st : Int) : Value := .agg #[.int .i64 v, .slice a n c, .string e, .int .i64 st]
/-- two outcomes that lie one behind the other -/
theorem two_lie {w w3 : World} {x0 x1 x2 x3 y0 y1 y2 y3 : Value} {t t' : TypeId} (hb : Below (w.heap.size + 1 + 1) ((w.alloc (Obj.cells #[x0, x1, x2, x3] t)).alloc (Obj.cells #[y0, y1, y2, y3] t')) w3) :
    w3.heap[w.heap.size]? = some (.cells #[x0, x1, x2, x3] t (0, 0)) ∧ w3.heap[w.heap.size + 1]? = some (.cells #[y0, y1, y2, y3] t' (0, 0)) ∧ Below w.heap.size w w3 := by
  have h0 := heap_alloc_new w (Obj.cells #[x0, x1, x2, x3] t)
  have h1 := heap_alloc_new (w.alloc (Obj.cells #[x0, x1, x2, x3] t)) (Obj.cells #[y0, y1, y2, y3] t')
  rw [alloc_size'] at h1
  refine ⟨(hb.block _ (by omega)).trans ((alloc_heap _ _ (by rw [alloc_size']; omega)).trans h0), (hb.block _ (by omega)).trans h1, ?_⟩
  exact (((Below.refl w.heap.size w).alloc (Nat.le_refl _) _).alloc (by rw [alloc_size']; omega) _).trans (hb.mono (by omega))
theorem read4 {w : World} {g : Nat} {x0 x1 x2 x3 : Value} {t : TypeId} (h : w.heap[g]? = some (.cells #[x0, x1, x2, x3] t (0, 0))) : w.cell? ⟨g, 0, none⟩ = some x0 ∧ w.cell? ⟨g, 1, none⟩ = some x1 ∧ w.cell? ⟨g, 2, none⟩ = some x2 ∧ w.cell? ⟨g, 3, none⟩ = some x3 := by
  refine ⟨?_, ?_, ?_, ?_⟩ <;> (rw [Lib.cell_of_heap h]; rfl)

/-- a row of numbers is a list of them -/
theorem ints_of {w : World} {B n c : Nat} {a : Option Addr} {zs : List Int} (h : w.ownsRow B 3 1 (.slice a n c) n (intVs zs)) : Ints w a n zs := by
  have hl : zs.length = n := by have := h.1; rw [intVs_len] at this; omega
  refine ⟨hl, fun i hi => ?_⟩
  rcases h.2 with ⟨h1, h2⟩ | ⟨g, cap, cur, h1, hb, hc, hm⟩
  · omega
  · injection h1 with h1 h2 h3
    subst h1; subst h3
    exact ⟨g, 0, rfl, by
      rw [Nat.zero_add]
      exact row_cell h i _ (by simp [intVs, hi])⟩

/-- numbers in order from k on, n of them, in front of what stands behind -/
def nums (k : Nat) (j : Nat) (zs : List Int) : List Int := (List.range' k j).map (fun i => ((i : Nat) : Int)) ++ zs.drop j
theorem nums_zero (k : Nat) (zs : List Int) : nums k 0 zs = zs := by simp [nums]
theorem nums_len (k j : Nat) (zs : List Int) (h : j ≤ zs.length) : (nums k j zs).length = zs.length := by simp [nums]; omega
theorem nums_get (k j : Nat) (zs : List Int) (i : Nat) (hi : i < j) : (nums k j zs)[i]? = some (((k + i : Nat)) : Int) := by
  unfold nums
  rw [List.getElem?_append_left (by simp; exact hi), List.getElem?_map, List.getElem?_range' hi]
  simp
theorem nums_set (k j : Nat) (zs : List Int) (h : j < zs.length) : (nums k j zs).set j ((k + j : Nat) : Int) = nums k (j + 1) zs := by
  apply List.ext_getElem?
  intro i
  rw [List.getElem?_set]
  by_cases hij : j = i
  · subst hij
    rw [if_pos rfl, if_pos (by rw [nums_len k j zs (by omega)]; exact h), nums_get k (j + 1) zs j (by omega)]
  · rw [if_neg hij]
    by_cases hlt : i < j
    · rw [nums_get k j zs i hlt, nums_get k (j + 1) zs i (by omega)]
    · unfold nums
      rw [List.getElem?_append_right (by simp; omega), List.getElem?_append_right (by simp; omega)]
      simp only [List.length_map, List.length_range', List.getElem?_drop]
      congr 1
      omega

theorem intVs_set (zs : List Int) (j : Nat) (x : Int) : intVs (zs.set j x) = (intVs zs).set j (.int .i64 x) := by simp [intVs, List.map_set]

end Go.Proofs.YteckejnoahmfmaaGreatDoor
namespace Go.Proofs.YteckejnoahmfmaaGreatDoor
open Go.RowKit

set_option maxHeartbeats 1000000 in
set_option maxRecDepth 100000 in
theorem equal_any (w : World) (a b : Option Addr) (n c m d : Nat) (zs ws : List Int) (hA : Ints w a n zs) (hB : Ints w b m ws) (hn : n ≤ 1099511627776) (hm : m ≤ 1099511627776) :
    Calls Tryz.prog 37 #[.slice a n c, .slice b m d] w fun e w' => e = .returned (.bool (zs == ws)) ∧ Below w.heap.size w w' := by
  have HA := Lib.hid hA
  have HB := Lib.hid hB
  by_cases hl : n = m
  · subst hl
    clear hA hB
    go_enter Tryz.func37, Tryz.ntmps37
    go_wp2_with fail
    go_loopw [13] (fun i wr => ∃ k : Nat, k ≤ n ∧ i = .int .i64 k ∧ Hid (zs.take k = ws.take k) ∧ Hid (Below w.heap.size w wr)) (fun i _ => n - (intOf i).toNat)
    case atStart => exact ⟨0, Nat.zero_le _, by go_num, rfl, Below.refl _ _⟩
    case round =>
      obtain ⟨k, hk, rfl, hE, hW⟩ := hrel
      by_cases hlt : k < n
      · have hz : k < zs.length := by rw [HA.out.len]; exact hlt
        have hw : k < ws.length := by rw [HB.out.len]; exact hlt
        obtain ⟨g, off, rfl, q1⟩ := HA.out.at_ k hz
        obtain ⟨g', off', rfl, q2⟩ := HB.out.at_ k hw
        have c1 : wr.cell? ⟨g, off + k, none⟩ = some (.int .i64 zs[k]) := by rw [hW.out.cell (p := ⟨g, off + k, none⟩) (World.block_lt_of_cell? w _ q1)]; exact q1
        have c2 : wr.cell? ⟨g', off' + k, none⟩ = some (.int .i64 ws[k]) := by rw [hW.out.cell (p := ⟨g', off' + k, none⟩) (World.block_lt_of_cell? w _ q2)]; exact q2
        have HT := Lib.hid (take_eq zs ws k hz hw)
        clear q1 q2
        have HNe := Lib.hid (fun (h : zs[k] ≠ ws[k]) => show (zs == ws) = false by
          rw [beq_eq_false_iff_ne]; rintro rfl; exact h rfl)
        generalize zs[k] = x at *
        generalize ws[k] = y at *
        cases hxy : (x == y) with
        | true =>
          have HX := Lib.hid (by simpa using hxy : x = y)
          go_wp2_with fail
          go_quiet (fail)
          go_wp2_with fail
          go_roundw
          case rel => exact ⟨k + 1, by omega, by go_num, HT.out.2 ⟨hE.out, HX.out⟩, hW.out.trans ⟨rfl, rfl, rfl, Nat.le_refl _, fun _ _ => rfl⟩⟩
          case measure => simp [intOf]; omega
        | false =>
          have HX := Lib.hid (HNe.out (by simpa using hxy))
          go_wp2_with fail
          go_quiet (fail)
          go_wp2_with fail
          go_ret
          exact ⟨ret_bool HX.out.symm, hW.out.trans ⟨rfl, rfl, rfl, Nat.le_refl _, fun _ _ => rfl⟩⟩
      · have HEq := Lib.hid (show (zs == ws) = true by
          have h := hE.out
          rw [List.take_of_length_le (by rw [HA.out.len]; omega), List.take_of_length_le (by rw [HB.out.len]; omega)] at h
          rw [h]; simp)
        go_wp2_with fail
        go_ret
        exact ⟨ret_bool HEq.out.symm, hW.out⟩
  · have hne : ((n : Int) == (m : Int)) = false := by rw [beq_eq_false_iff_ne]; omega
    have HN := Lib.hid (show (zs == ws) = false by
      rw [beq_eq_false_iff_ne]
      intro e
      have h1 := hA.len
      have h2 := hB.len
      rw [e] at h1
      omega)
    clear hA hB
    go_enter Tryz.func37, Tryz.ntmps37
    go_wp2_with fail
    go_ret
    exact ⟨by rw [HN.out]; rfl, Below.refl _ _⟩

/-- the same value, prints and end -/
def sameP (v v' : Int) (zs zs' : List Int) (e e' : ByteArray) : Bool := (v == v') && ((zs == zs') && (e.toList == e'.toList))

set_option maxHeartbeats 1000000 in
set_option maxRecDepth 100000 in
theorem impl_same (w : World) (v v' : Int) (a a' : Option Addr) (n c n' c' : Nat) (zs zs' : List Int) (e e' : ByteArray) (st st' : Int) (hA : Ints w a n zs) (hB : Ints w a' n' zs') (hn : n ≤ 1048576) (hn' : n' ≤ 1048576) :
    Calls Tryz.prog 20 #[oV v a n c e st, oV v' a' n' c' e' st'] w fun r w' => r = .returned (.bool (sameP v v' zs zs' e e')) ∧ Below w.heap.size w w' := by
  have HE := Lib.hid (fun w' hb => equal_any w' a a' n c n' c' zs zs' (hA.later hb) (hB.later hb) (by omega) (by omega))
  clear hA hB
  unfold oV
  by_cases hv : v = v'
  · subst hv
    have HS := Lib.hid (show sameP v v zs zs' e e' = ((zs == zs') && (e.toList == e'.toList)) by simp [sameP])
    rw [HS.out]
    cases hz : zs == zs' with
    | false =>
      rw [hz] at HE
      go_enter Tryz.func20, Tryz.ntmps20
      go_wp2_with fail
      refine (HE.out _ (((Below.refl w.heap.size w).alloc (Nat.le_refl _) _).alloc (by simp) _)).mono ?_
      rintro r w3 ⟨rfl, hb⟩
      rw [alloc_size', alloc_size'] at hb
      have HB := Lib.hid (two_lie hb).2.2
      clear hb
      go_wp2_with fail
      go_ret
      exact ⟨rfl, HB.out⟩
    | true =>
      rw [hz] at HE
      rw [Bool.true_and]
      go_enter Tryz.func20, Tryz.ntmps20
      go_wp2_with fail
      refine (HE.out _ (((Below.refl w.heap.size w).alloc (Nat.le_refl _) _).alloc (by simp) _)).mono ?_
      rintro r w3 ⟨rfl, hb⟩
      rw [alloc_size', alloc_size'] at hb
      obtain ⟨l0, l1, hB⟩ := two_lie hb
      have HB := Lib.hid hB
      obtain ⟨_, _, q2, _⟩ := read4 l0
      obtain ⟨_, _, r2, _⟩ := read4 l1
      clear hb l0 l1 hB
      go_wp2_with fail
      go_ret
      exact ⟨rfl, HB.out⟩
  · have hvb : (v == v') = false := by rw [beq_eq_false_iff_ne]; exact hv
    have HS := Lib.hid (show sameP v v' zs zs' e e' = false by rw [sameP, hvb]; rfl)
    rw [HS.out]
    clear hv
    go_enter Tryz.func20, Tryz.ntmps20
    go_wp2_with fail
    go_ret
    exact ⟨rfl, ((Below.refl w.heap.size w).alloc (Nat.le_refl _) _).alloc (by simp) _⟩


set_option maxHeartbeats 1000000 in
set_option maxRecDepth 100000 in
theorem wvNum_any (w : World) (a b : Option Addr) (n c d : Nat) (zs : List Int) (hA : Ints w a n zs) (hB : Ints w b n zs) (hn : n ≤ 1048576) :
    Calls Tryz.prog 21 #[.slice a n c, .slice b n d] w fun e w' => e = .returned (.bool true) ∧ Below w.heap.size w w' := by
  have HA := Lib.hid hA
  have HB := Lib.hid hB
  clear hA hB
  go_enter Tryz.func21, Tryz.ntmps21
  go_wp2_with fail
  go_loopw [11] (fun i wr => ∃ k : Nat, k ≤ n ∧ i = .int .i64 k ∧ Hid (Below w.heap.size w wr)) (fun i _ => n - (intOf i).toNat)
  case atStart => exact ⟨0, Nat.zero_le _, by go_num, Below.refl _ _⟩
  case round =>
    obtain ⟨k, hk, rfl, hW⟩ := hrel
    by_cases hlt : k < n
    · have hz : k < zs.length := by rw [HA.out.len]; exact hlt
      obtain ⟨g, off, rfl, q1⟩ := HA.out.at_ k hz
      obtain ⟨g', off', rfl, q2⟩ := HB.out.at_ k hz
      have c1 : wr.cell? ⟨g, off + k, none⟩ = some (.int .i64 zs[k]) := by rw [hW.out.cell (p := ⟨g, off + k, none⟩) (World.block_lt_of_cell? w _ q1)]; exact q1
      have c2 : wr.cell? ⟨g', off' + k, none⟩ = some (.int .i64 zs[k]) := by rw [hW.out.cell (p := ⟨g', off' + k, none⟩) (World.block_lt_of_cell? w _ q2)]; exact q2
      clear q1 q2
      generalize zs[k] = x at *
      go_wp2_with fail
      go_quiet (fail)
      go_wp2_with fail
      go_roundw
      case rel => exact ⟨k + 1, by omega, by go_num, hW.out.trans ⟨rfl, rfl, rfl, Nat.le_refl _, fun _ _ => rfl⟩⟩
      case measure => simp [intOf]; omega
    · go_wp2_with fail
      go_ret
      exact ⟨rfl, hW.out⟩

set_option maxHeartbeats 1000000 in
set_option maxRecDepth 100000 in
theorem wvOut_any (w : World) (v : Int) (a a' : Option Addr) (n c c' : Nat) (zs : List Int) (e : ByteArray) (st : Int) (hA : Ints w a n zs) (hB : Ints w a' n zs) (hn : n ≤ 1048576) :
    Calls Tryz.prog 8 #[oV v a n c e st, oV v a' n c' e st] w fun r w' => r = .returned (.bool true) ∧ Below w.heap.size w w' := by
  have HS := Lib.hid (fun w' (hb : Below w.heap.size w w') => impl_same w' v v a a' n c n c' zs zs e e st st (hA.later hb) (hB.later hb) hn hn)
  have hs : sameP v v zs zs e e = true := by simp [sameP]
  rw [hs] at HS
  have HN := Lib.hid (fun w' (hb : Below w.heap.size w w') => wvNum_any w' a a' n c c' zs (hA.later hb) (hB.later hb) hn)
  clear hA hB hs
  unfold oV at *
  go_enter Tryz.func8, Tryz.ntmps8
  go_wp2_with fail
  refine (HS.out _ (((Below.refl w.heap.size w).alloc (Nat.le_refl _) _).alloc (by simp) _)).mono ?_
  rintro r w3 ⟨rfl, hb⟩
  rw [alloc_size', alloc_size'] at hb
  obtain ⟨l0, l1, hB⟩ := two_lie hb
  have HB := Lib.hid hB
  have HL := Lib.hid (And.intro l0 l1)
  obtain ⟨p0, p1, p2, p3⟩ := read4 l0
  obtain ⟨r0, r1, r2, r3⟩ := read4 l1
  clear hb l0 l1 hB
  go_wp2_with fail
  refine (HN.out _ HB.out).mono ?_
  rintro r w4 ⟨rfl, hb4⟩
  have HB4 := Lib.hid (HB.out.trans (hb4.mono HB.out.size))
  have k0 : w4.heap[w.heap.size]? = w3.heap[w.heap.size]? := hb4.block _ (heap_lt HL.out.1)
  have k1 : w4.heap[w.heap.size + 1]? = w3.heap[w.heap.size + 1]? := hb4.block _ (heap_lt HL.out.2)
  obtain ⟨s0, s1, s2, s3⟩ := read4 (k0.trans HL.out.1)
  obtain ⟨t0, t1, t2, t3⟩ := read4 (k1.trans HL.out.2)
  clear hb4 k0 k1 p0 p1 p2 p3 r0 r1 r2 r3
  go_wp2_with fail
  go_ret
  exact ⟨rfl, HB4.out⟩
end Go.Proofs.YteckejnoahmfmaaGreatDoor
namespace Go.Proofs.YteckejnoahmfmaaGreatDoor
open Go.RowKit Gram

/-- the outcome of a run, if there is one -/
def outP (o : Option (Mst × Option Fin)) : Int × List Int × ByteArray × Int := match o with
  | some r => (r.1.val, r.1.out, txtOf (Fin.word r.2), (r.1.steps : Int))
  | none => (0, [], ⟨#[]⟩, 0)
/-- what RunProgram hands back -/
def OutTo (o : Option (Mst × Option Fin)) (w : World) (e : Ending) (w' : World) : Prop :=
  (∃ a c, e = .returned (.tuple #[oV (outP o).1 a (outP o).2.1.length c (outP o).2.2.1 (outP o).2.2.2, .bool o.isSome]) ∧ w'.ownsRow w.heap.size 3 1 (.slice a (outP o).2.1.length c) (outP o).2.1.length (intVs (outP o).2.1)) ∧ Below w.heap.size w w'
theorem outTo_none {w w' : World} (hb : Below w.heap.size w w') : OutTo none w (.returned (.tuple #[oV 0 none 0 0 ⟨#[]⟩ 0, .bool false])) w' := ⟨⟨none, 0, rfl, World.ownsRow_nil _ _ _ _⟩, hb⟩

/-- an outcome in a block of its own -/
structure OAt (w : World) (g : Nat) (v : Int) (o : Value) (e : ByteArray) (st : Int) : Prop where
  own : w.heap[g]? = some (Obj.cells #[.int .i64 v, o, .string e, .int .i64 st] 27 (0, 0))
theorem OAt.read {w : World} {g : Nat} {v : Int} {o : Value} {e : ByteArray} {st : Int} (h : OAt w g v o e st) : w.cell? ⟨g, 0, none⟩ = some (.int .i64 v) ∧ w.cell? ⟨g, 1, none⟩ = some o ∧ w.cell? ⟨g, 2, none⟩ = some (.string e) ∧ w.cell? ⟨g, 3, none⟩ = some (.int .i64 st) ∧
    w.frozen? ⟨g, 0, none⟩ = false ∧ w.frozen? ⟨g, 1, none⟩ = false ∧ w.frozen? ⟨g, 2, none⟩ = false ∧ w.frozen? ⟨g, 3, none⟩ = false :=
  ⟨Lib.cell_of_heap h.own 0, Lib.cell_of_heap h.own 1, Lib.cell_of_heap h.own 2, Lib.cell_of_heap h.own 3, Lib.frozen_of_heap h.own 0, Lib.frozen_of_heap h.own 1, Lib.frozen_of_heap h.own 2, Lib.frozen_of_heap h.own 3⟩
/-- its four cells put anew -/
abbrev oPut (w : World) (g : Nat) (v : Int) (o : Value) (e : ByteArray) (st : Int) : World := (((w.setCell ⟨g, 0, none⟩ (.int .i64 v)).setCell ⟨g, 1, none⟩ o).setCell ⟨g, 2, none⟩ (.string e)).setCell ⟨g, 3, none⟩ (.int .i64 st)
theorem OAt.put {w : World} {g : Nat} {v : Int} {o : Value} {e : ByteArray} {st : Int} (h : OAt w g v o e st) (v' : Int) (o' : Value) (e' : ByteArray) (st' : Int) : OAt (oPut w g v' o' e' st') g v' o' e' st' :=
  ⟨by unfold oPut; rw [heap_set_same (heap_set_same (heap_set_same (heap_set_same h.own _) _) _) _]; rfl⟩
theorem OAt.later {w w' : World} {g : Nat} {v : Int} {o : Value} {e : ByteArray} {st : Int} (h : OAt w g v o e st) (hb : Below w.heap.size w w') : OAt w' g v o e st := ⟨by rw [hb.block g (heap_lt h.own)]; exact h.own⟩
theorem oPut_below {w w1 : World} (hb : Below w.heap.size w w1) (v : Int) (o : Value) (e : ByteArray) (st : Int) : Below w.heap.size w (oPut w1 w.heap.size v o e st) :=
  (((hb.setCell (p := ⟨w.heap.size, 0, none⟩) (Nat.le_refl _) _).setCell (p := ⟨w.heap.size, 1, none⟩) (Nat.le_refl _) _).setCell (p := ⟨w.heap.size, 2, none⟩) (Nat.le_refl _) _).setCell (p := ⟨w.heap.size, 3, none⟩) (Nat.le_refl _) _
theorem oPut_other {w : World} {g j : Nat} (hj : j ≠ g) (v : Int) (o : Value) (e : ByteArray) (st : Int) : (oPut w g v o e st).heap[j]? = w.heap[j]? := by
  unfold oPut
  rw [heap_set_other hj, heap_set_other hj, heap_set_other hj, heap_set_other hj]

set_option maxHeartbeats 1000000 in
set_option maxRecDepth 100000 in
theorem impl_run (s nm : ByteArray) (v : Int) (w : World) (hs : s.size ≤ 1073741824) (hm : MaxCell w) :
    Calls Tryz.prog 6 #[.string s, .string nm, .int .i64 v] w (OutTo (runP s nm v) w) := by
  have hba : Below w.heap.size w (w.alloc (Obj.cells #[.int .i64 0, .slice none 0 0, .string ⟨#[]⟩, .int .i64 0] 27)) := (Below.refl _ _).alloc (Nat.le_refl _) _
  have HF := Lib.hid (run_of s nm v (w.alloc (Obj.cells #[.int .i64 0, .slice none 0 0, .string ⟨#[]⟩, .int .i64 0] 27)) hs (hm.later hba))
  have HA := Lib.hid (⟨heap_alloc_new w _⟩ : OAt (w.alloc (Obj.cells #[.int .i64 0, .slice none 0 0, .string ⟨#[]⟩, .int .i64 0] 27)) w.heap.size 0 (.slice none 0 0) ⟨#[]⟩ 0)
  have HZ := Lib.hid (alloc_size' w (Obj.cells #[.int .i64 0, .slice none 0 0, .string ⟨#[]⟩, .int .i64 0] 27))
  have HB := Lib.hid hba
  clear hm hs hba
  cases hr : runP s nm v with
  | none =>
    go_enter Tryz.func6, Tryz.ntmps6
    go_wp2_with fail
    refine HF.out.mono ?_
    rintro e w1 ⟨hx, hb⟩
    rw [hr] at hx
    subst hx
    have H1 := Lib.hid (⟨HB.out.trans (hb.mono HB.out.size), HA.out.later hb⟩ : _ ∧ _)
    obtain ⟨_, _, _, _, f0, f1, f2, f3⟩ := H1.out.2.read
    clear hb hr
    go_wp2_with fail
    obtain ⟨r0, r1, r2, r3, _⟩ := (H1.out.2.put 0 (.slice none 0 0) ⟨#[]⟩ 0).read
    unfold oPut at r0 r1 r2 r3
    refine bodyPost_ret (v := .tuple #[oV 0 none 0 0 ⟨#[]⟩ 0, .bool false]) ?_ rfl (outTo_none (oPut_below H1.out.1 0 (.slice none 0 0) ⟨#[]⟩ 0))
    simp [results, Tryz.results6, go_sem, r0, r1, r2, r3, oV]
  | some r =>
    go_enter Tryz.func6, Tryz.ntmps6
    go_wp2_with fail
    refine HF.out.mono ?_
    rintro e w1 ⟨hx, hb⟩
    rw [hr] at hx
    obtain ⟨B, rb, S, qs, pv, oa, ja, oc, jc, rfl, hB, hD, hPw, hpr⟩ := hx
    have H1 := Lib.hid (⟨HB.out.trans (hb.mono HB.out.size), HA.out.later hb⟩ : _ ∧ _)
    obtain ⟨_, _, _, _, f0, f1, f2, f3⟩ := H1.out.2.read
    have HD := Lib.hid (⟨hD, hB⟩ : _ ∧ _)
    have c0 : w1.cell? ⟨rb, 0, none⟩ = some (.int .i64 r.1.val) := hD.cell 0
    have c1 : w1.cell? ⟨rb, 1, none⟩ = some (.slice oa r.1.out.length oc) := hD.cell 1
    have c2 : w1.cell? ⟨rb, 2, none⟩ = some (.string (txtOf (Fin.word r.2))) := hD.cell 2
    have c3 : w1.cell? ⟨rb, 3, none⟩ = some (.int .i64 r.1.steps) := hD.cell 3
    clear hb hr hB hD hPw hpr
    go_wp2_with fail
    obtain ⟨r0, r1, r2, r3, _⟩ := (H1.out.2.put r.1.val (.slice oa r.1.out.length oc) (txtOf (Fin.word r.2)) r.1.steps).read
    unfold oPut at r0 r1 r2 r3
    refine bodyPost_ret (v := .tuple #[oV r.1.val oa r.1.out.length oc (txtOf (Fin.word r.2)) r.1.steps, .bool true]) ?_ rfl ?_
    · simp [results, Tryz.results6, go_sem, r0, r1, r2, r3, oV]
    · refine ⟨⟨oa, oc, rfl, ?_⟩, oPut_below H1.out.1 r.1.val (.slice oa r.1.out.length oc) (txtOf (Fin.word r.2)) r.1.steps⟩
      have hz := HD.out.2
      rw [HZ.out] at hz
      have hge : ∀ g, Value.ownBlock (.slice oa r.1.out.length oc) = some g → w.heap.size + 1 ≤ g := fun g hg => by have := (row_block HD.out.1.out hg).1; omega
      exact ownsRow_base (ownsRow_of HD.out.1.out fun g hg => oPut_other (by have := hge g hg; omega) _ _ _ _) (fun g hg => by have := hge g hg; omega)

set_option maxHeartbeats 1000000 in
set_option maxRecDepth 100000 in
theorem spec_run (s nm : ByteArray) (v : Int) (w : World) (hs : s.size ≤ 1073741824) :
    Calls Tryz.prog 7 #[.string s, .string nm, .int .i64 v] w (OutTo (runP s nm v) w) := by
  have hba : Below w.heap.size w ((w.alloc (Obj.cells #[.int .i64 0, .slice none 0 0, .string ⟨#[]⟩, .int .i64 0] 27)).alloc (Obj.cells #[] 152)) := ((Below.refl _ _).alloc (Nat.le_refl _) _).alloc (by rw [alloc_size']; omega) _
  have HF := Lib.hid (start_any s nm v (some ⟨w.heap.size + 1, 0, none⟩) 0 ((w.alloc (Obj.cells #[.int .i64 0, .slice none 0 0, .string ⟨#[]⟩, .int .i64 0] 27)).alloc (Obj.cells #[] 152)) hs)
  have HA := Lib.hid (⟨(Lib.alloc_old _ _ _ (by rw [alloc_size']; omega)).trans (heap_alloc_new w _)⟩ : OAt ((w.alloc (Obj.cells #[.int .i64 0, .slice none 0 0, .string ⟨#[]⟩, .int .i64 0] 27)).alloc (Obj.cells #[] 152)) w.heap.size 0 (.slice none 0 0) ⟨#[]⟩ 0)
  have HZ := Lib.hid (show ((w.alloc (Obj.cells #[.int .i64 0, .slice none 0 0, .string ⟨#[]⟩, .int .i64 0] 27)).alloc (Obj.cells #[] 152)).heap.size = w.heap.size + 1 + 1 by rw [alloc_size', alloc_size'])
  have HB := Lib.hid hba
  clear hs hba
  cases hr : runP s nm v with
  | none =>
    go_enter Tryz.func7, Tryz.ntmps7
    go_wp2_with fail
    refine HF.out.mono ?_
    rintro e w1 ⟨hx, hb⟩
    rw [hr] at hx
    obtain ⟨rb, rfl⟩ := hx
    have H1 := Lib.hid (⟨HB.out.trans (hb.mono HB.out.size), HA.out.later hb⟩ : _ ∧ _)
    obtain ⟨_, _, _, _, f0, f1, f2, f3⟩ := H1.out.2.read
    clear hb hr
    go_wp2_with fail
    obtain ⟨r0, r1, r2, r3, _⟩ := (H1.out.2.put 0 (.slice none 0 0) ⟨#[]⟩ 0).read
    unfold oPut at r0 r1 r2 r3
    refine bodyPost_ret (v := .tuple #[oV 0 none 0 0 ⟨#[]⟩ 0, .bool false]) ?_ rfl (outTo_none (oPut_below H1.out.1 0 (.slice none 0 0) ⟨#[]⟩ 0))
    simp [results, Tryz.results7, go_sem, r0, r1, r2, r3, oV]
  | some r =>
    go_enter Tryz.func7, Tryz.ntmps7
    go_wp2_with fail
    refine HF.out.mono ?_
    rintro e w1 ⟨hx, hb⟩
    rw [hr] at hx
    obtain ⟨B, rb, pv, av, cv, oa, ja, oc, jc, rfl, hB, hD⟩ := hx
    have H1 := Lib.hid (⟨HB.out.trans (hb.mono HB.out.size), HA.out.later hb⟩ : _ ∧ _)
    obtain ⟨_, _, _, _, f0, f1, f2, f3⟩ := H1.out.2.read
    have HD := Lib.hid (⟨hD, hB⟩ : _ ∧ _)
    have c0 : w1.cell? ⟨rb, 0, none⟩ = some (.int .i64 r.1.val) := hD.cell 0
    have c1 : w1.cell? ⟨rb, 1, none⟩ = some (.slice oa r.1.out.length oc) := hD.cell 1
    have c2 : w1.cell? ⟨rb, 2, none⟩ = some (.string (txtOf (Fin.word r.2))) := hD.cell 2
    have c3 : w1.cell? ⟨rb, 3, none⟩ = some (.int .i64 r.1.steps) := hD.cell 3
    clear hb hr hB hD
    go_wp2_with fail
    obtain ⟨r0, r1, r2, r3, _⟩ := (H1.out.2.put r.1.val (.slice oa r.1.out.length oc) (txtOf (Fin.word r.2)) r.1.steps).read
    unfold oPut at r0 r1 r2 r3
    refine bodyPost_ret (v := .tuple #[oV r.1.val oa r.1.out.length oc (txtOf (Fin.word r.2)) r.1.steps, .bool true]) ?_ rfl ?_
    · simp [results, Tryz.results7, go_sem, r0, r1, r2, r3, oV]
    · refine ⟨⟨oa, oc, rfl, ?_⟩, oPut_below H1.out.1 r.1.val (.slice oa r.1.out.length oc) (txtOf (Fin.word r.2)) r.1.steps⟩
      have hz := HD.out.2
      rw [HZ.out] at hz
      have hge : ∀ g, Value.ownBlock (.slice oa r.1.out.length oc) = some g → w.heap.size + 1 ≤ g := fun g hg => by have := (row_block HD.out.1.out hg).1; omega
      exact ownsRow_base (ownsRow_of HD.out.1.out fun g hg => oPut_other (by have := hge g hg; omega) _ _ _ _) (fun g hg => by have := hge g hg; omega)
end Go.Proofs.YteckejnoahmfmaaGreatDoor
namespace Go.Proofs.YteckejnoahmfmaaGreatDoor
open Go.RowKit Gram

/-- a row that lies lower than a block that has grown -/
theorem row_under {w w' : World} {B : Nat} {row : Option Nat} {e : TypeId} {sz n : Nat} {v : Value} {xs : List Value} (h : w.ownsRow B e sz v n xs) (hg : w.grownBy w' row) (hne : ∀ j, v.ownBlock = some j → row ≠ some j) : w'.ownsRow B e sz v n xs :=
  ownsRow_of h (fun j hj => hg.block j (h.lt j hj).2 (fun he => hne j hj he.symm))
theorem row_up {w w' : World} {B : Nat} {e : TypeId} {sz n : Nat} {v : Value} {xs : List Value} (h : w.ownsRow B e sz v n xs) (hb : Below w.heap.size w w') : w'.ownsRow B e sz v n xs :=
  ownsRow_of h (fun j hj => hb.block j (h.lt j hj).2)

/-- how much a run holds -/
theorem runP_small {s nm : ByteArray} {v : Int} {r : Mst × Option Fin} (h : runP s nm v = some r) : r.1.out.length ≤ 500 ∧ r.1.pts.length ≤ 501 := by
  unfold runP at h
  cases hp : progOf s with
  | none => rw [hp] at h; cases h
  | some ps =>
    cases hl : lookP s nm with
    | none => rw [hp, hl] at h; cases h
    | some p =>
      rw [hp, hl] at h
      dsimp only at h
      split at h
      · rename_i hv
        injection h with h
        have hlet : isLet p.1 = true := ((prog_facts hp).2.1 p (look_mem hp hl).1).2.2.2
        have hB : ∀ c, wfs (bodyP ps c) = true := fun c => by
          unfold bodyP
          split
          · rename_i q hq
            exact (fits_ps hp q (List.mem_of_find?_eq_some hq)).1
          · rfl
        have hk := exec_keeps hB 501 ((Mst.start v).enter p.1) (bodyP ps p.1) (start_ok hv.1 hv.2 hlet) (hB p.1)
        unfold runOf callBy at h
        cases hr : exec (bodyP ps) 501 ((Mst.start v).enter p.1) (bodyP ps p.1) with
        | mk m' o =>
          rw [hr] at h hk
          have h1 := hk.1.out
          have h2 := hk.1.steps
          have h3 := hk.1.pts
          cases o with
          | none => subst h; exact ⟨by show m'.out.length ≤ 500; dsimp only at h1 h2; omega, by show m'.pts.length ≤ 501; dsimp only at h3 h2; omega⟩
          | some f => subst h; exact ⟨by show m'.out.length ≤ 500; dsimp only at h1 h2; omega, by show m'.pts.length ≤ 501; dsimp only at h3 h2; omega⟩
      · cases h
end Go.Proofs.YteckejnoahmfmaaGreatDoor
namespace Go.Proofs.YteckejnoahmfmaaGreatDoor
open Go.RowKit Gram

/-- the join points of a run, if there is one -/
def ptsP (o : Option (Mst × Option Fin)) : List Jpt := match o with
  | some r => r.1.pts
  | none => []
/-- what JoinPointsOf hands back -/
def PtsTo (o : Option (Mst × Option Fin)) (w : World) (e : Ending) (w' : World) : Prop :=
  (∃ a c, e = .returned (.tuple #[.slice a (ptsP o).length c, .bool o.isSome]) ∧ w'.ownsRow w.heap.size 35 3 (.slice a (ptsP o).length c) (ptsP o).length (jpC (ptsP o))) ∧ Below w.heap.size w w'

set_option maxHeartbeats 1000000 in
set_option maxRecDepth 100000 in
theorem impl_pts (s nm : ByteArray) (v : Int) (w : World) (hs : s.size ≤ 1073741824) (hm : MaxCell w) :
    Calls Tryz.prog 9 #[.string s, .string nm, .int .i64 v] w (PtsTo (runP s nm v) w) := by
  have HF := Lib.hid (run_of s nm v w hs hm)
  clear hm hs
  cases hr : runP s nm v with
  | none =>
    go_enter Tryz.func9, Tryz.ntmps9
    go_wp2_with fail
    refine HF.out.mono ?_
    rintro e w1 ⟨hx, hb⟩
    rw [hr] at hx
    subst hx
    have HB := Lib.hid hb
    clear hb hr
    go_wp2_with fail
    go_ret2
    exact ⟨⟨none, 0, rfl, World.ownsRow_nil _ _ _ _⟩, HB.out⟩
  | some r =>
    go_enter Tryz.func9, Tryz.ntmps9
    go_wp2_with fail
    refine HF.out.mono ?_
    rintro e w1 ⟨hx, hb⟩
    rw [hr] at hx
    obtain ⟨B, rb, S, qs, pv, oa, ja, oc, jc, rfl, hB, hD, hPw, hpr⟩ := hx
    have c5 : w1.cell? ⟨rb, 5, none⟩ = some (.slice ja r.1.pts.length jc) := hD.cell 5
    have HB := Lib.hid (⟨hb, hD, hB⟩ : _ ∧ _ ∧ _)
    clear hb hr hB hD hPw hpr
    go_wp2_with fail
    go_ret2
    exact ⟨⟨ja, jc, rfl, ownsRow_base HB.out.2.1.pts fun g hg => Nat.le_trans HB.out.2.2 (row_block HB.out.2.1.pts hg).1⟩, HB.out.1⟩

/-- join points put behind an empty row -/
theorem app_row (W : World) (B g0 : Nat) (h0 : W.heap[g0]? = some (Obj.cells #[] 35 (0, 0))) (hB : B ≤ g0) (B' n c : Nat) (a : Option Addr) (js : List Jpt) (hs : W.ownsRow B' 35 3 (.slice a n c) n (jpC js)) (hn : n ≤ 1000) :
    ∃ g c' w', (Builtin.append_ #[31, 31] 31 #[.slice (some ⟨g0, 0, none⟩) 0 0, .slice a n c]).run Tryz.prog W = .ok (.slice (some ⟨g, 0, none⟩) n c') w' ∧
      w'.ownsRow B 35 3 (.slice (some ⟨g, 0, none⟩) n c') n (jpC js) ∧ W.grownBy w' (some g0) := by
  obtain ⟨i0, hi, hz0, hz1, hz2⟩ := info_parts info_jp
  have hl : js.length = n := by have := hs.1; rw [jpC_len] at this; omega
  have hrow : W.ownsRow B 35 3 (.slice (some ⟨g0, 0, none⟩) 0 0) 0 [] := ⟨rfl, .inr ⟨g0, 0, #[], rfl, hB, h0, Nat.le_refl _, Nat.zero_le _, by simp, by simp⟩⟩
  by_cases hn0 : n = 0
  · subst hn0
    have hjs : js = [] := List.length_eq_zero_iff.1 hl
    subst hjs
    have hsrc : Src Tryz.prog i0.size 31 (.slice a 0 c) 0 [] W := by
      cases a with
      | none => exact Src.ofNil W Tryz.underlying31 c
      | some a => exact Src.ofSlice W Tryz.underlying31 a 0 c [] (by simp) (fun j u h => by simp at h) (fun _ h => by cases h)
    exact ⟨g0, 0, W, run_append_nothing W _ _ _ 35 i0 Tryz.underlying31 hi (some ⟨g0, 0, none⟩) 0 0 (Nat.le_refl _) _ hsrc, hrow, ⟨rfl, rfl, rfl, Nat.le_refl _, fun _ _ _ => rfl⟩⟩
  · rcases hs.2 with ⟨h1, h2⟩ | ⟨gs, cap, cur, h1, _, hc, _⟩
    · omega
    · injection h1 with h1 _ h3
      subst h1; subst h3
      obtain ⟨g', c', w', hrun, h2, h3, _, _⟩ := run_append_lies (P := Tryz.prog) W 31 31 B 35 i0 (.agg #[.string ⟨#[]⟩, .string ⟨#[]⟩, .string ⟨#[]⟩]) 3 48 Tryz.underlying31 hi hz0 hz1 hz2 rfl (by decide) (.slice (some ⟨g0, 0, none⟩) 0 0) 0 [] hrow ⟨gs, 0, none⟩ n c (jpC js) (by rw [jpC_len, hl])
        (fun j u hu => by
          rw [Go.WideShapes.add_plain, Nat.zero_add]
          exact row_cell hs j u hu) (by
          intro u hu
          simp only [jpC, List.mem_flatMap] at hu
          obtain ⟨j, _, hj⟩ := hu
          simp at hj
          rcases hj with rfl | rfl | rfl <;> rfl) (by omega) (by unfold maxLen; omega) (by omega) (by have := heap_lt h0; omega) W.heap.size rfl
      rw [Nat.zero_add] at hrun h2
      exact ⟨g', c', w', hrun, h2, h3⟩

set_option maxHeartbeats 1000000 in
set_option maxRecDepth 100000 in
theorem spec_pts (s nm : ByteArray) (v : Int) (w : World) (hs : s.size ≤ 1073741824) :
    Calls Tryz.prog 11 #[.string s, .string nm, .int .i64 v] w (PtsTo (runP s nm v) w) := by
  have hba : Below w.heap.size w (w.alloc (Obj.cells #[] 152)) := (Below.refl _ _).alloc (Nat.le_refl _) _
  have HF := Lib.hid (start_any s nm v (some ⟨w.heap.size, 0, none⟩) 0 (w.alloc (Obj.cells #[] 152)) hs)
  have HA := Lib.hid hba
  have HZ := Lib.hid (alloc_size' w (Obj.cells #[] 152))
  clear hs hba
  cases hr : runP s nm v with
  | none =>
    go_enter Tryz.func11, Tryz.ntmps11
    go_wp2_with fail
    refine HF.out.mono ?_
    rintro e w1 ⟨hx, hb⟩
    rw [hr] at hx
    obtain ⟨rb, rfl⟩ := hx
    have HB := Lib.hid (HA.out.trans (hb.mono HA.out.size))
    clear hb hr
    go_wp2_with fail
    go_ret2
    exact ⟨⟨some ⟨w1.heap.size, 0, none⟩, 0, rfl, ⟨rfl, .inr ⟨w1.heap.size, 0, #[], rfl, HB.out.size, heap_alloc_new w1 _, Nat.le_refl _, Nat.zero_le _, by simp [ptsP], by simp [ptsP, jpC]⟩⟩⟩, HB.out.alloc HB.out.size _⟩
  | some r =>
    have hsm := (runP_small hr).2
    go_enter Tryz.func11, Tryz.ntmps11
    go_wp2_with fail
    refine HF.out.mono ?_
    rintro e w1 ⟨hx, hb⟩
    rw [hr] at hx
    obtain ⟨B, rb, pv, av, cv, oa, ja, oc, jc, rfl, hB, hD⟩ := hx
    have c7 : w1.cell? ⟨rb, 7, none⟩ = some (.slice ja r.1.pts.length jc) := hD.cell 7
    have HB := Lib.hid (HA.out.trans (hb.mono HA.out.size))
    have hx : Below w1.heap.size w1 (w1.alloc (Obj.cells #[] 35)) := (Below.refl _ _).alloc (Nat.le_refl _) _
    have d7 : (w1.alloc (Obj.cells #[] 35)).cell? ⟨rb, 7, none⟩ = some (.slice ja r.1.pts.length jc) := (later_m hD hx).cell 7
    obtain ⟨g', c', w2, hrun, hrow, hg⟩ := app_row (w1.alloc (Obj.cells #[] 35)) w.heap.size w1.heap.size (heap_alloc_new w1 _) HB.out.size B r.1.pts.length jc ja r.1.pts ((later_m hD hx).pts) (by omega)
    have RUN := Lib.hid hrun
    have HR := Lib.hid (⟨hrow, (HB.out.alloc HB.out.size _).grown hg (by rw [alloc_size']; exact Nat.le_succ_of_le HB.out.size) (fun j hj => by injection hj with hj; have := HB.out.size; omega)⟩ : _ ∧ Below w.heap.size w w2)
    clear hb hr hB hD hx hrun hrow hg c7
    go_wp2_with (at_builtin; go_loud (refine Lib.wpList_append_run _ rfl (.tmp 21) (.tmp 25) _ _ rfl _ _ rfl rfl _ _ RUN.out ?_))
    go_wp2_with fail
    go_ret2
    exact ⟨⟨_, _, rfl, HR.out.1⟩, HR.out.2⟩
end Go.Proofs.YteckejnoahmfmaaGreatDoor
namespace Go.Proofs.YteckejnoahmfmaaGreatDoor
open Go.RowKit Gram

theorem runP_facts {s nm : ByteArray} {v : Int} {r : Mst × Option Fin} (h : runP s nm v = some r) : Tells 0 r ∧ (-9999 ≤ r.1.val ∧ r.1.val ≤ 9999) ∧ r.1.out.length ≤ r.1.steps := by
  unfold runP at h
  cases hp : progOf s with
  | none => rw [hp] at h; cases h
  | some ps =>
    cases hl : lookP s nm with
    | none => rw [hp, hl] at h; cases h
    | some p =>
      rw [hp, hl] at h
      dsimp only at h
      split at h
      · rename_i hv
        injection h with h
        have hlet : isLet p.1 = true := ((prog_facts hp).2.1 p (look_mem hp hl).1).2.2.2
        have hB : ∀ c, wfs (bodyP ps c) = true := fun c => by
          unfold bodyP
          split
          · rename_i q hq
            exact (fits_ps hp q (List.mem_of_find?_eq_some hq)).1
          · rfl
        have hk := exec_keeps hB 501 ((Mst.start v).enter p.1) (bodyP ps p.1) (start_ok hv.1 hv.2 hlet) (hB p.1)
        have ht := run_tells (bodyP ps) p.1 v
        rw [h] at ht
        refine ⟨ht, ?_⟩
        clear ht
        unfold runOf callBy at h
        cases hr : exec (bodyP ps) 501 ((Mst.start v).enter p.1) (bodyP ps p.1) with
        | mk m' o =>
          rw [hr] at h hk
          have h1 := hk.1.lo
          have h2 := hk.1.hi
          have h3 := hk.1.out
          cases o with
          | none => subst h; exact ⟨⟨h1, h2⟩, h3⟩
          | some f => subst h; exact ⟨⟨h1, h2⟩, h3⟩
      · cases h

theorem prints_le (l : List Jpt) : prints l ≤ l.length := List.length_filter_le _ _
theorem prints_take (l : List Jpt) (k : Nat) (h : k < l.length) : prints (l.take (k + 1)) = prints (l.take k) + (if l[k].nm.isNone then 1 else 0) := by
  rw [List.take_succ_eq_append_getElem h, prints_snoc]
theorem jpC_at : ∀ (l : List Jpt) (k : Nat) (h : k < l.length), (jpC l)[k * 3]? = some (.string (txtOf (if l[k].nm.isSome then [99, 97, 108, 108] else [112, 114, 105, 110, 116]))) ∧ (jpC l)[k * 3 + 1]? = some (.string (txtOf l[k].nm.toList)) ∧ (jpC l)[k * 3 + 2]? = some (.string (txtOf l[k].stk))
  | j :: l, 0, _ => ⟨rfl, rfl, rfl⟩
  | j :: l, k + 1, h => by
    have ih := jpC_at l k (by simpa using h)
    have e : jpC (j :: l) = [.string (txtOf (if j.nm.isSome then [99, 97, 108, 108] else [112, 114, 105, 110, 116])), .string (txtOf j.nm.toList), .string (txtOf j.stk)] ++ jpC l := rfl
    rw [e]
    refine ⟨?_, ?_, ?_⟩
    · rw [List.getElem?_append_right (by simp; omega)]; simpa [Nat.succ_mul] using ih.1
    · rw [List.getElem?_append_right (by simp; omega)]; have := ih.2.1; simp [Nat.succ_mul]; exact this
    · rw [List.getElem?_append_right (by simp; omega)]; have := ih.2.2; simp [Nat.succ_mul]; exact this
/-- the cells of a join point in a row of them -/
theorem jp_cell {w : World} {B c : Nat} {a : Option Addr} {js : List Jpt} (h : w.ownsRow B 35 3 (.slice a js.length c) js.length (jpC js)) (k : Nat) (hk : k < js.length) :
    ∃ (g : Nat) (kd y z : ByteArray), a = some ⟨g, 0, none⟩ ∧ w.cell? ⟨g, k * 3, none⟩ = some (.string kd) ∧ w.cell? ⟨g, k * 3 + 1, none⟩ = some (.string y) ∧ w.cell? ⟨g, k * 3 + 2, none⟩ = some (.string z) ∧ (kd.toList == [112, 114, 105, 110, 116]) = js[k].nm.isNone := by
  rcases h.2 with ⟨h1, h2⟩ | ⟨g, cap, cur, h1, hb, hc, hm⟩
  · omega
  · injection h1 with h1 h2 h3
    obtain ⟨e0, e1, e2⟩ := jpC_at js k hk
    subst h1; subst h3
    refine ⟨g, _, _, _, rfl, row_cell h _ _ e0, row_cell h _ _ e1, row_cell h _ _ e2, ?_⟩
    rw [ByteArray.toList_eq]
    cases js[k].nm <;> rfl

/-- what is known of the outcome and the join points of a run, if there is one -/
structure RunFacts (ov : Int) (oz : List Int) (oe : ByteArray) (os : Int) (js : List Jpt) : Prop where
  lo : -9999 ≤ ov
  hi : ov ≤ 9999
  pos : 0 ≤ os
  most : os ≤ 500
  out : (oz.length : Int) ≤ os
  pts : js.length ≤ 501
  ends : (prints js = oz.length ∧ (oe = txtOf [100, 111, 110, 101] ∨ oe = txtOf [100, 101, 101, 112])) ∨ (oe = txtOf [108, 111, 110, 103] ∧ os = 500 ∧ (prints js = oz.length ∨ prints js = oz.length + 1))

theorem run_facts (s nm : ByteArray) (v : Int) (h : (runP s nm v).isSome = true) : RunFacts (outP (runP s nm v)).1 (outP (runP s nm v)).2.1 (outP (runP s nm v)).2.2.1 (outP (runP s nm v)).2.2.2 (ptsP (runP s nm v)) := by
  cases hr : runP s nm v with
  | none => rw [hr] at h; cases h
  | some r =>
    obtain ⟨ht, ⟨h1, h2⟩, h3⟩ := runP_facts hr
    obtain ⟨m, o⟩ := r
    have h4 : m.steps ≤ 500 := ht.2.1
    have h6 : m.pts.length ≤ 501 := (runP_small hr).2
    have h7 := ht.2.2
    refine ⟨h1, h2, by show (0 : Int) ≤ (m.steps : Int); omega, by show (m.steps : Int) ≤ 500; omega, by show (m.out.length : Int) ≤ (m.steps : Int); dsimp only at h3; omega, h6, ?_⟩
    cases o with
    | none => exact .inl ⟨h7, .inl rfl⟩
    | some f =>
      cases f with
      | deep => exact .inl ⟨h7, .inr rfl⟩
      | long =>
        obtain ⟨k1, k2⟩ : m.steps = 500 ∧ (prints m.pts = m.out.length ∨ prints m.pts = m.out.length + 1) := h7
        exact .inr ⟨rfl, by show (m.steps : Int) = 500; omega, k2⟩

theorem outP_smallR (s nm : ByteArray) (v : Int) : (outP (runP s nm v)).2.1.length ≤ 500 := by
  cases h : runP s nm v with
  | none => simp [outP]
  | some r => exact (runP_small h).1

set_option maxHeartbeats 400000 in
theorem rnl_long (w : World) (a : Option Addr) (n c : Nat) (hl : 1048576 < n) (hnc : n ≤ c) (hc : c ≤ 9223372036854775807) :
    Calls Tryz.prog 3 #[.slice a n c] w fun e w' => e = .returned (.bool true) ∧ Below w.heap.size w w' := by
  go_enter Tryz.func3, Tryz.ntmps3
  go_wp2_with fail
  go_ret
  exact ⟨rfl, Below.refl _ _⟩

set_option maxHeartbeats 4000000 in
set_option maxRecDepth 100000 in
theorem rnl_short (w : World) (a : Option Addr) (n0 c : Nat) (h : BytesAt w a n0) (hn : n0 ≤ 1048576) (hnc : n0 ≤ c) (hc : c ≤ 9223372036854775807) (hnil : a = none → n0 = 0) (hm : MaxCell w) :
    Calls Tryz.prog 3 #[.slice a n0 c] w fun e w' => e = .returned (.bool true) ∧ Below w.heap.size w w' := by
  have HD := Lib.hid (drawRun_any w a n0 c h hnc hc hnil)
  have HM := Lib.hid hm
  clear h hnil hm
  go_enter Tryz.func3, Tryz.ntmps3
  go_wp2_with fail
  refine HD.out.mono ?_
  rintro e w0 ⟨⟨s, nm, v, rfl, hs, hnm, hv1, hv2⟩, b0⟩
  have B0 := Lib.hid b0
  have HI := Lib.hid (fun w => impl_run s nm v w (by omega))
  have HS := Lib.hid (fun w => spec_run s nm v w (by omega))
  have HJ := Lib.hid (fun w => impl_pts s nm v w (by omega))
  have HF := Lib.hid (run_facts s nm v)
  have hsm := outP_smallR s nm v
  unfold OutTo at HI HS
  unfold PtsTo at HJ
  clear b0 HD
  generalize (outP (runP s nm v)).1 = ov at *
  generalize (outP (runP s nm v)).2.2.1 = oe at *
  generalize (outP (runP s nm v)).2.2.2 = os at *
  generalize (outP (runP s nm v)).2.1 = oz at *
  generalize ptsP (runP s nm v) = js at *
  generalize (runP s nm v).isSome = ok at *
  generalize hnn : oz.length = n at *
  have HNn := Lib.hid hnn
  have HQ := Lib.hid (fun w a a' c c' B B' (h1 : w.ownsRow B 3 1 (.slice a n c) n (intVs oz)) (h2 : w.ownsRow B' 3 1 (.slice a' n c') n (intVs oz)) => wvOut_any w ov a a' n c c' oz oe os (ints_of h1) (ints_of h2) (by omega))
  unfold oV at HI HS HQ
  clear hnn
  go_wp2_with fail
  refine (HI.out _ (HM.out.later B0.out)).mono ?_
  rintro e w1 ⟨⟨a1, c1, rfl, q1⟩, b1⟩
  have Q1 := Lib.hid q1
  have B1 := Lib.hid (B0.out.trans (b1.mono B0.out.size))
  clear q1 b1
  go_wp2_with fail
  have hx1 : Below w1.heap.size w1 (w1.alloc (Obj.cells #[.int .i64 ov, .slice a1 n c1, .string oe, .int .i64 os] 27)) := (Below.refl _ _).alloc (Nat.le_refl _) _
  have P1 := Lib.hid (⟨heap_alloc_new w1 _⟩ : OAt (w1.alloc (Obj.cells #[.int .i64 ov, .slice a1 n c1, .string oe, .int .i64 os] 27)) w1.heap.size ov (.slice a1 n c1) oe os)
  have QX1 := Lib.hid (row_up Q1.out hx1)
  have BX1 := Lib.hid (B1.out.trans (hx1.mono B1.out.size))
  clear hx1 Q1
  refine (HS.out _).mono ?_
  rintro e w2 ⟨⟨a2, c2, rfl, o2⟩, b2⟩
  have P2 := Lib.hid (P1.out.later b2)
  have Q2 := Lib.hid (row_up QX1.out b2)
  have O2 := Lib.hid o2
  have B2 := Lib.hid (BX1.out.trans (b2.mono BX1.out.size))
  clear b2 o2 P1 QX1 BX1
  have hx2 : Below w2.heap.size w2 (w2.alloc (Obj.cells #[.int .i64 ov, .slice a2 n c2, .string oe, .int .i64 os] 27)) := (Below.refl _ _).alloc (Nat.le_refl _) _
  have G3 := Lib.hid (⟨heap_alloc_new w2 _⟩ : OAt (w2.alloc (Obj.cells #[.int .i64 ov, .slice a2 n c2, .string oe, .int .i64 os] 27)) w2.heap.size ov (.slice a2 n c2) oe os)
  have P3 := Lib.hid (P2.out.later hx2)
  have Q3 := Lib.hid (row_up Q2.out hx2)
  have O3 := Lib.hid (row_up O2.out hx2)
  have B3 := Lib.hid (B2.out.trans (hx2.mono B2.out.size))
  clear hx2 P2 Q2 O2
  obtain ⟨g0, g1, g2, g3, _⟩ := G3.out.read
  obtain ⟨p0, p1, p2, p3, _⟩ := P3.out.read
  go_wp2_with fail
  refine (HQ.out _ _ _ _ _ _ _ Q3.out O3.out).mono ?_
  rintro e w4 ⟨rfl, b4⟩
  have G4 := Lib.hid (G3.out.later b4)
  have P4 := Lib.hid (P3.out.later b4)
  have Q4 := Lib.hid (row_up Q3.out b4)
  have O4 := Lib.hid (row_up O3.out b4)
  have B4 := Lib.hid (B3.out.trans (b4.mono B3.out.size))
  clear b4 g0 g1 g2 g3 p0 p1 p2 p3 G3 P3 Q3 O3 B3
  obtain ⟨g0, g1, g2, g3, _⟩ := G4.out.read
  obtain ⟨p0, p1, p2, p3, _⟩ := P4.out.read
  cases ok with
  | false =>
    go_wp2_with fail
    refine (HQ.out _ _ _ _ _ _ _ Q4.out O4.out).mono ?_
    rintro e w5 ⟨rfl, b5⟩
    have B5 := Lib.hid (B4.out.trans (b5.mono B4.out.size))
    clear b5
    go_wp2_with fail
    go_ret
    exact ⟨rfl, B5.out⟩
  | true =>
    have HFt := Lib.hid (HF.out rfl)
    clear HF
    go_wp2_with fail
    refine (HJ.out _ (HM.out.later B4.out)).mono ?_
    rintro e w5 ⟨⟨ja, jc, rfl, qj⟩, b5⟩
    have J5 := Lib.hid qj
    have P5 := Lib.hid (P4.out.later b5)
    have B5 := Lib.hid (B4.out.trans (b5.mono B4.out.size))
    clear qj b5 g0 g1 g2 g3 p0 p1 p2 p3
    go_wp2_with fail
    have hjl := HFt.out.pts
    go_loopw [12, 69] (fun pv i wr => ∃ k : Nat, k ≤ js.length ∧ i = .int .i64 k ∧ pv = .int .i64 (prints (js.take k)) ∧ Hid (Below w5.heap.size w5 wr)) (fun _ i _ => js.length - (intOf i).toNat)
    case atStart => exact ⟨0, Nat.zero_le _, by go_num, rfl, Below.refl _ _⟩
    case round =>
      obtain ⟨k, hk, rfl, rfl, hW⟩ := hrel
      have hpk := prints_le (js.take k)
      rw [List.length_take] at hpk
      have hpk' : prints (js.take k) ≤ 501 := by omega
      clear hpk
      by_cases hlt : k < js.length
      · obtain ⟨g, kd, y, z, rfl, q0, q1, q2, hkd⟩ := jp_cell J5.out k hlt
        have hg := World.block_lt_of_cell? w5 _ q0
        have d0 : wr.cell? ⟨g, k * 3, none⟩ = some (.string kd) := by rw [hW.out.cell (p := ⟨g, k * 3, none⟩) hg]; exact q0
        have d1 : wr.cell? ⟨g, k * 3 + 1, none⟩ = some (.string y) := by rw [hW.out.cell (p := ⟨g, k * 3 + 1, none⟩) hg]; exact q1
        have d2 : wr.cell? ⟨g, k * 3 + 2, none⟩ = some (.string z) := by rw [hW.out.cell (p := ⟨g, k * 3 + 2, none⟩) hg]; exact q2
        have HT := Lib.hid (prints_take js k hlt)
        clear q0 q1 q2 hg
        generalize hP : prints (js.take k) = P at *
        clear hP
        cases hb : js[k].nm.isNone with
        | true =>
          rw [hb] at hkd HT
          clear hb
          go_wp2_with fail
          go_roundw
          case rel => exact ⟨k + 1, by omega, by go_num, by rw [HT.out]; go_num, hW.out.alloc hW.out.size _⟩
          case measure => simp [intOf]; omega
        | false =>
          rw [hb] at hkd HT
          clear hb
          go_wp2_with fail
          go_roundw
          case rel => exact ⟨k + 1, by omega, by go_num, by rw [HT.out]; go_num, hW.out.alloc hW.out.size _⟩
          case measure => simp [intOf]; omega
      · have hall : js.take k = js := List.take_of_length_le (by omega)
        rw [hall] at hpk' ⊢
        have P6 := Lib.hid (P5.out.later hW.out)
        have B6 := Lib.hid (B5.out.trans (hW.out.mono B5.out.size))
        obtain ⟨p0, p1, p2, p3, _⟩ := P6.out.read
        obtain ⟨f1, f2, f3, f4, f5, _, f7⟩ := HFt.out
        rw [HNn.out] at f5 f7
        have hl1 : oe = txtOf [108, 111, 110, 103] → (oe.toList == [108, 111, 110, 103]) = true := fun h => by rw [h, ByteArray.toList_eq]; rfl
        generalize prints js = P at *
        clear HFt hall hW
        rcases f7 with ⟨rfl, he⟩ | ⟨he, rfl, rfl | rfl⟩
        · rcases he with he | he
          · have e1 : (oe.toList == [100, 111, 110, 101]) = true := by rw [he, ByteArray.toList_eq]; rfl
            clear he hl1
            go_wp2_with fail
            all_goals go_ret
            all_goals exact ⟨rfl, B6.out⟩
          · have e1 : (oe.toList == [100, 111, 110, 101]) = false := by rw [he, ByteArray.toList_eq]; rfl
            have e2 : (oe.toList == [100, 101, 101, 112]) = true := by rw [he, ByteArray.toList_eq]; rfl
            clear he hl1
            go_wp2_with fail
            all_goals go_ret
            all_goals exact ⟨rfl, B6.out⟩
        · have e1 : (oe.toList == [100, 111, 110, 101]) = false := by rw [he, ByteArray.toList_eq]; rfl
          have e2 : (oe.toList == [100, 101, 101, 112]) = false := by rw [he, ByteArray.toList_eq]; rfl
          have e3 := hl1 he
          clear he hl1
          go_wp2_with fail
          all_goals go_ret
          all_goals exact ⟨rfl, B6.out⟩
        · have k0 : ((n + 1 : Nat) : Int) - (n : Int) = 1 := by omega
          have e1 : (oe.toList == [100, 111, 110, 101]) = false := by rw [he, ByteArray.toList_eq]; rfl
          have e2 : (oe.toList == [100, 101, 101, 112]) = false := by rw [he, ByteArray.toList_eq]; rfl
          have e3 := hl1 he
          clear he hl1
          generalize ((n + 1 : Nat) : Int) = m at *
          go_wp2_with fail
          all_goals go_ret
          all_goals exact ⟨rfl, B6.out⟩

theorem rnl_any (w : World) (a : Option Addr) (n c : Nat) (h : BytesAt w a n) (hnc : n ≤ c) (hc : c ≤ 9223372036854775807) (hnil : a = none → n = 0) (hm : MaxCell w) :
    Calls Tryz.prog 3 #[.slice a n c] w fun e w' => e = .returned (.bool true) ∧ Below w.heap.size w w' := by
  by_cases hn : n ≤ 1048576
  · exact rnl_short w a n c h hn hnc hc hnil hm
  · exact rnl_long w a n c (by omega) hnc hc
end Go.Proofs.YteckejnoahmfmaaGreatDoor
