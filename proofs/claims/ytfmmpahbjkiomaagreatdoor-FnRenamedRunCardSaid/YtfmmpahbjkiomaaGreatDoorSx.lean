/- The model's l1Text: a program's text of rows. Condition: at most 30 rows. The model's l1Renamed: a body in which another procedure is called. Condition: texts of at most 2^20 bytes. A program has at most 26 procedures. Plain lemma. The cases of a name. Plain lemma. RenameProc of the model. Condition: texts of at most 2^20 bytes. The law FnExactRenameProc answers true at all texts. Conditions: the library's own number can be read. -/
import Derived.Test.YtfmmpahbjkiomaaGreatDoorOpen1
import Derived.Test.YtfmmpahbjkiomaaGreatDoorQx
import Derived.Test.YtfmmpahbjkiomaaGreatDoorPx
import Derived.Test.YtfmmpahbjkiomaaGreatDoorNx
import Derived.Test.YtfmmpahbjkiomaaGreatDoorFacts
import Derived.Test.YtfmmpahbjkiomaaGreatDoorSets
import Derived.Test.YtfmmpahbjkiomaaGreatDoorLet
import Derived.Test.YtfmmpahbjkiomaaGreatDoorParts
import Derived.BigQuiet
import Derived.Test.YtfmmpahbjkiomaaGreatDoorTx
namespace Go.Proofs.YtfmmpahbjkiomaaGreatDoor
open Go.RowKit Gram

/-- rows of names and bodies, whatever these are -/
abbrev Rw := UInt8 × ByteArray
def rV (r : Rw) : List Value := [.int .u8 r.1.toNat, .string r.2]
def rVs (rs : List Rw) : List Value := rs.flatMap rV
theorem rVs_snoc (rs : List Rw) (r : Rw) : rVs (rs ++ [r]) = rVs rs ++ rV r := by simp [rVs]
theorem rVs_get (rs : List Rw) (k : Nat) (hk : k < rs.length) : (rVs rs)[k * 2]? = some (.int .u8 rs[k].1.toNat) ∧ (rVs rs)[k * 2 + 1]? = some (.string rs[k].2) := by
  induction rs generalizing k with
  | nil => simp at hk
  | cons p t ih =>
    cases k with
    | zero => exact ⟨rfl, rfl⟩
    | succ k =>
      have := ih k (by simpa using hk)
      simp only [rVs, List.flatMap_cons, rV] at this ⊢
      rw [show (k + 1) * 2 = k * 2 + 2 by omega, show k * 2 + 2 + 1 = (k * 2 + 1) + 2 by omega]
      simpa using this
theorem rw_get {w : World} {B c : Nat} {e : TypeId} {a : Option Addr} {rs : List Rw} (h : w.ownsRow B e 2 (.slice a rs.length c) rs.length (rVs rs)) (k : Nat) (hk : k < rs.length) :
    ∃ g, a = some ⟨g, 0, none⟩ ∧ B ≤ g ∧ w.cell? ⟨g, k * 2, none⟩ = some (.int .u8 rs[k].1.toNat) ∧ w.cell? ⟨g, k * 2 + 1, none⟩ = some (.string rs[k].2) := by
  rcases h.2 with ⟨h1, h2⟩ | ⟨g, cap, cur, h1, hb, _⟩
  · omega
  · injection h1 with h1 h3 h4
    subst h1
    subst h4
    exact ⟨g, rfl, hb, row_cell h _ _ (rVs_get rs k hk).1, row_cell h _ _ (rVs_get rs k hk).2⟩

/-- the text of rows, each behind a ';' but the first one -/
def rowT (rs : List Rw) : ByteArray := rs.foldl (fun t r => (if t.size = 0 then t else t ++ ⟨#[59]⟩) ++ ⟨#[r.1, 58]⟩ ++ r.2) ⟨#[]⟩
theorem rowT_snoc (rs : List Rw) (r : Rw) : rowT (rs ++ [r]) = (if (rowT rs).size = 0 then rowT rs else rowT rs ++ ⟨#[59]⟩) ++ ⟨#[r.1, 58]⟩ ++ r.2 := by simp [rowT]
theorem rowT_zero (rs : List Rw) : (rowT rs).size = 0 ↔ rs = [] := by
  constructor
  · intro h
    rcases List.eq_nil_or_concat rs with rfl | ⟨qs, q, rfl⟩
    · rfl
    · rw [List.concat_eq_append, rowT_snoc] at h
      simp only [ByteArray.size_append] at h
      have : (⟨#[q.1, 58]⟩ : ByteArray).size = 2 := rfl
      omega
  · rintro rfl; rfl
theorem rowT_take (rs : List Rw) (k : Nat) (hk : k < rs.length) : rowT (rs.take (k + 1)) = (if k = 0 then rowT (rs.take k) else rowT (rs.take k) ++ ⟨#[59]⟩) ++ ⟨#[rs[k].1, 58]⟩ ++ rs[k].2 := by
  rw [List.take_succ_eq_append_getElem hk, rowT_snoc]
  congr 2
  have : (rowT (rs.take k)).size = 0 ↔ k = 0 := by
    rw [rowT_zero]
    constructor
    · intro h
      have h2 : (rs.take k).length = k := by rw [List.length_take]; omega
      rw [h] at h2; exact h2.symm
    · rintro rfl; rfl
  by_cases h0 : k = 0
  · rw [if_pos h0, if_pos (this.2 h0)]
  · rw [if_neg h0, if_neg (fun h => h0 (this.1 h))]
theorem rowT_le (M : Nat) (rs : List Rw) (h : ∀ r ∈ rs, r.2.size ≤ M) : (rowT rs).size ≤ rs.length * (M + 3) := by
  have key : ∀ n (rs : List Rw), rs.length = n → (∀ r ∈ rs, r.2.size ≤ M) → (rowT rs).size ≤ n * (M + 3) := by
    intro n
    induction n with
    | zero => intro rs hn _; rw [List.length_eq_zero_iff.1 hn]; exact Nat.zero_le _
    | succ n ih =>
      intro rs hn h
      rcases List.eq_nil_or_concat rs with rfl | ⟨qs, q, rfl⟩
      · simp at hn
      · rw [List.concat_eq_append] at hn h ⊢
        have h1 := ih qs (by simpa using hn) fun r hr => h r (List.mem_append.2 (.inl hr))
        have h2 := h q (by simp)
        rw [rowT_snoc]
        simp only [ByteArray.size_append]
        have e1 : (⟨#[q.1, 58]⟩ : ByteArray).size = 2 := rfl
        have e2 : (⟨#[59]⟩ : ByteArray).size = 1 := rfl
        rw [Nat.add_mul, Nat.one_mul]
        split
        · omega
        · rw [ByteArray.size_append]; omega
  exact key _ rs rfl h

set_option maxHeartbeats 2000000 in
set_option maxRecDepth 100000 in
theorem text_rows {w : World} {B n c M : Nat} {a : Option Addr} {rs : List Rw} (ho : w.ownsRow B 75 2 (.slice a rs.length c) rs.length (rVs rs)) (hn : rs.length = n) (hl : n ≤ 30) (hM : ∀ r ∈ rs, r.2.size ≤ M) (hMb : M ≤ 4194304) :
    Calls Tryz.prog 38 #[.slice a n c] w fun e w' => e = .returned (.string (rowT rs)) ∧ Below w.heap.size w w' := by
  have HO := Lib.hid ho
  have HN := Lib.hid hn
  have HM := Lib.hid hM
  have HBd : Hid (∀ k, k ≤ 30 → (rowT (rs.take k)).size ≤ 30 * (M + 3)) := fun k hk => Nat.le_trans (rowT_le M (rs.take k) fun r hr => hM r (List.mem_of_mem_take hr)) (Nat.mul_le_mul_right _ (by rw [List.length_take]; omega))
  clear ho hn hM
  go_enter Tryz.func38, Tryz.ntmps38
  go_wp2_with fail
  go_loopw [3, 8] (fun o i wr => ∃ k : Nat, i = .int .i64 k ∧ k ≤ n ∧ o = .string (rowT (rs.take k)) ∧ Hid (Below w.heap.size w wr)) (fun _ i _ => n - (intOf i).toNat)
  case atStart => exact ⟨0, by go_num, Nat.zero_le _, rfl, Below.refl _ _⟩
  case round =>
    obtain ⟨k, rfl, hk, rfl, hb⟩ := hrel
    by_cases hlt : k < n
    · have hkp : k < rs.length := by rw [HN.out]; exact hlt
      obtain ⟨g, rfl, _, c0, c1⟩ := rw_get HO.out k hkp
      have hgl : g < w.heap.size := World.block_lt_of_cell? w _ c0
      have d0 : wr.cell? ⟨g, k * 2, none⟩ = some (.int .u8 rs[k].1.toNat) := by rw [hb.out.cell (p := ⟨g, k * 2, none⟩) hgl]; exact c0
      have d1 : wr.cell? ⟨g, k * 2 + 1, none⟩ = some (.string rs[k].2) := by rw [hb.out.cell (p := ⟨g, k * 2 + 1, none⟩) hgl]; exact c1
      have hMk := HM.out rs[k] (List.getElem_mem hkp)
      have hbd := HBd.out k (by omega)
      have HT := Lib.hid (rowT_take rs k hkp)
      have hs2 := fun o : Obj => str2 rs[k].1 58 (wr.alloc o) (wr.heap.size + 1) (by rw [alloc_size])
      simp only [UInt8.reduceToNat, Int.cast_ofNat_Int, strV] at hs2
      have z1 : (⟨#[59]⟩ : ByteArray).size = 1 := rfl
      clear c0 c1 hgl
      generalize rs[k].1 = nm at *
      generalize rs[k].2 = bd at *
      have z2 : (⟨#[nm, 58]⟩ : ByteArray).size = 2 := rfl
      generalize rowT (rs.take k) = t at *
      by_cases h0 : k = 0
      · rw [if_pos h0] at HT
        have e2 := str_add t ⟨#[nm, 58]⟩ (by omega)
        have e3 := str_add (t ++ ⟨#[nm, 58]⟩) bd (by rw [ByteArray.size_append]; omega)
        have hk0 : ¬ (0 : Int) < (k : Int) := by omega
        have HK0 := Lib.hid h0
        clear h0 z1 z2
        go_wp2_with fail
        go_roundw
        case rel => exact ⟨k + 1, by go_num, by omega, by rw [HT.out], (hb.out.alloc hb.out.size _).alloc (by rw [alloc_size]; exact Nat.le_succ_of_le hb.out.size) _⟩
        case measure => simp [intOf]; omega
      · rw [if_neg h0] at HT
        have e1 := str_add t ⟨#[59]⟩ (by omega)
        have e2 := str_add (t ++ ⟨#[59]⟩) ⟨#[nm, 58]⟩ (by rw [ByteArray.size_append]; omega)
        have e3 := str_add (t ++ ⟨#[59]⟩ ++ ⟨#[nm, 58]⟩) bd (by rw [ByteArray.size_append, ByteArray.size_append]; omega)
        have hk0 : (0 : Int) < (k : Int) := by omega
        clear z1 z2
        go_wp2_with fail
        go_roundw
        case rel => exact ⟨k + 1, by go_num, by omega, by rw [HT.out], (hb.out.alloc hb.out.size _).alloc (by rw [alloc_size]; exact Nat.le_succ_of_le hb.out.size) _⟩
        case measure => simp [intOf]; omega
    · have hall : rs.take k = rs := List.take_of_length_le (by rw [HN.out]; omega)
      rw [hall]
      go_wp2_with fail
      go_ret
      exact ⟨rfl, hb.out⟩

/-- a procedure's row -/
def rwOf (p : Pr) : Rw := (p.1, txtOf (txts p.2))
theorem rowT_join (ps : List Pr) : rowT (ps.map rwOf) = txtOf (joinP ps) := by
  have key : ∀ n (ps : List Pr), ps.length = n → rowT (ps.map rwOf) = txtOf (joinP ps) := by
    intro n
    induction n with
    | zero => intro ps h; rw [List.length_eq_zero_iff.1 h]; rfl
    | succ n ih =>
      intro ps h
      rcases List.eq_nil_or_concat ps with rfl | ⟨qs, q, rfl⟩
      · simp at h
      · rw [List.concat_eq_append] at h ⊢
        have h1 := ih qs (by simpa using h)
        rw [List.map_append, List.map_cons, List.map_nil, rowT_snoc, joinP_snoc]
        have h0 : (rowT (qs.map rwOf)).size = 0 ↔ qs = [] := by rw [rowT_zero]; simp
        by_cases hq : qs = []
        · subst hq
          rw [if_pos (h0.2 rfl), if_pos rfl, h1]
          apply ByteArray.ext; apply Array.ext'; simp [txtOf, rwOf]
        · rw [if_neg (fun h => hq (h0.1 h)), if_neg hq, h1]
          apply ByteArray.ext; apply Array.ext'; simp [txtOf, rwOf]
  exact key _ ps rfl
end Go.Proofs.YtfmmpahbjkiomaaGreatDoor
namespace Go.Proofs.YtfmmpahbjkiomaaGreatDoor
open Go.RowKit Gram

theorem endC_snoc (l : List UInt8) (p : Bool) (c : UInt8) : endC p (l ++ [c]) = (c == 67) := by rw [endC_append]; rfl
/-- the letter in front of the k-th is a 'C' -/
def behindC (l : List UInt8) (k : Nat) : Bool := match k with | 0 => false | k + 1 => match l[k]? with | some c => c == 67 | none => false
theorem endC_take (l : List UInt8) : ∀ (k : Nat), k ≤ l.length → endC false (l.take k) = behindC l k
  | 0, _ => rfl
  | k + 1, h => by
    rw [List.take_succ_eq_append_getElem (by omega), endC_snoc, behindC, List.getElem?_eq_getElem (by omega)]
theorem renB_take (a b : UInt8) (l : List UInt8) (k : Nat) (h : k < l.length) : renB a b false (l.take (k + 1)) = renB a b false (l.take k) ++ [if behindC l k = true ∧ l[k] = a then b else l[k]] := by
  rw [List.take_succ_eq_append_getElem h, renB_append, endC_take l k (by omega)]; rfl
theorem renB_len (a b : UInt8) : ∀ (l : List UInt8) (p : Bool), (renB a b p l).length = l.length
  | [], _ => rfl
  | c :: l, p => by rw [renB, List.length_cons, renB_len a b l, List.length_cons]
theorem behindC_succ (l : List UInt8) (k : Nat) (h : k < l.length) : behindC l (k + 1) = (l[k] == 67) := by rw [behindC, List.getElem?_eq_getElem h]

set_option maxHeartbeats 2000000 in
set_option maxRecDepth 100000 in
theorem renamed_any (s : ByteArray) (a b : UInt8) (hs : s.size ≤ 1048576) (w : World) :
    Calls Tryz.prog 37 #[.string s, .int .u8 a.toNat, .int .u8 b.toNat] w fun e w' => e = .returned (.string (txtOf (renB a b false s.data.toList))) ∧ Below w.heap.size w w' := by
  have hsl : s.data.toList.length = s.size := by simp
  go_enter Tryz.func37, Tryz.ntmps37
  go_wp2_with fail
  go_loopw [7, 12] (fun o i wr => ∃ (k : Nat) (pre : List UInt8), k ≤ s.size ∧ i = .int .i64 k ∧ o = .string (txtOf pre) ∧ pre.length = k ∧ Hid (pre = renB a b false (s.data.toList.take k)) ∧ Hid (Below w.heap.size w wr)) (fun _ i _ => s.size - (intOf i).toNat)
  case atStart => exact ⟨0, [], Nat.zero_le _, by go_num, rfl, rfl, rfl, Below.refl _ _⟩
  case round =>
    obtain ⟨k, pre, hk, rfl, rfl, hp, hH, hbr⟩ := hrel
    by_cases hlt : k < s.size
    · have hq : ((s[k].toNat : Int) == (a.toNat : Int)) = (s.data.toList[k] == a) := toNat_beq s[k] a
      have HK := Lib.hid (renB_take a b s.data.toList k (by omega))
      have e1 : ∀ d : UInt8, (txtOf pre).size + (⟨#[d]⟩ : ByteArray).size ≤ 9223372036854775807 := fun d => by rw [txtOf_size, show (⟨#[d]⟩ : ByteArray).size = 1 from rfl]; omega
      have e2 := fun d => str_sum (txtOf pre) ⟨#[d]⟩ (e1 d)
      have HA := Lib.hid (fun d : UInt8 => (show txtOf pre ++ (⟨#[d]⟩ : ByteArray) = txtOf (pre ++ [d]) by apply ByteArray.ext; apply Array.ext'; simp [txtOf]))
      have hch := fun (d : UInt8) (w' : World) => chrA d w' w'.heap.size rfl
      have HN := Lib.hid (fun d (h : renB a b false (s.data.toList.take (k + 1)) = pre ++ [d]) => (show ∃ (k' : Nat) (pre' : List UInt8), k' ≤ s.size ∧ Value.int .i64 ((k : Int) + 1) = .int .i64 k' ∧ Value.string (txtOf pre ++ ⟨#[d]⟩) = .string (txtOf pre') ∧ pre'.length = k' ∧ Hid (pre' = renB a b false (s.data.toList.take k')) ∧ Hid (Below w.heap.size w (wr.alloc (Obj.cells #[.int .u8 (d.toNat : Int)] 5))) from
        ⟨k + 1, pre ++ [d], by omega, by go_num, by rw [HA.out d], by simp [hp], h.symm, hbr.out.alloc hbr.out.size _⟩))
      clear e1
      rcases Nat.eq_zero_or_pos k with h0 | hpos
      · have hz : ¬ 0 < k := by omega
        have hb0 : behindC s.data.toList k = false := by rw [h0]; rfl
        have hk1 := HK.out
        rw [hb0, if_neg (by simp), ← hH.out] at hk1
        have HK1 := Lib.hid (HN.out _ hk1)
        clear hb0 hk1 h0
        go_wp2_with fail
        exact ⟨HK1.out, by simp [intOf]; omega⟩
      · obtain ⟨m, rfl⟩ : ∃ m, k = m + 1 := ⟨k - 1, by omega⟩
        have hm1 : (((m + 1 : Nat) : Int)) - 1 = (m : Int) := by omega
        have hmw : IntKind.i64.wrap (m : Int) = (m : Int) := IntWalk.i64_in _ (by omega)
        have hms : m < s.size := by omega
        have h67 : ((s[m].toNat : Int) == 67) = (s.data.toList[m] == 67) := toNat_beq s[m] 67
        have hk1 := HK.out
        rw [behindC_succ _ m (by omega), ← hH.out] at hk1
        cases hc : (s.data.toList[m] == 67) with
        | false =>
          rw [hc, if_neg (by simp)] at hk1
          rw [hc] at h67
          have HK1 := Lib.hid (HN.out _ hk1)
          clear hk1 hc
          go_wp2_with fail
          exact ⟨HK1.out, by simp [intOf]; omega⟩
        | true =>
          rw [hc] at h67
          cases ha : (s.data.toList[m + 1] == a) with
          | false =>
            rw [hc, if_neg (by simpa using ha)] at hk1
            rw [ha] at hq
            have HK1 := Lib.hid (HN.out _ hk1)
            clear hk1 hc ha
            go_wp2_with fail
            exact ⟨HK1.out, by simp [intOf]; omega⟩
          | true =>
            rw [hc, if_pos ⟨rfl, by simpa using ha⟩] at hk1
            rw [ha] at hq
            have HK1 := Lib.hid (HN.out _ hk1)
            clear hk1 hc ha
            go_wp2_with fail
            exact ⟨HK1.out, by simp [intOf]; omega⟩
    · have HE := Lib.hid (show renB a b false s.data.toList = pre by
        have h1 := hH.out
        rw [List.take_of_length_le (by omega)] at h1
        exact h1.symm)
      go_wp2_with fail
      go_ret
      exact ⟨by rw [HE.out]; rfl, hbr.out⟩
end Go.Proofs.YtfmmpahbjkiomaaGreatDoor
namespace Go.Proofs.YtfmmpahbjkiomaaGreatDoor
open Go.RowKit Gram

theorem asc_lets (l : List UInt8) (h : asc l) : ∀ b, (∀ x ∈ l, b ≤ x.toNat) → (∀ x ∈ l, x.toNat ≤ 122) → b ≤ 123 → l.length ≤ 123 - b := by
  induction l with
  | nil => intro b _ _ _; exact Nat.zero_le _
  | cons c t ih =>
    intro b hb hu hb2
    rw [asc, List.pairwise_cons] at h
    have h1 := hb c List.mem_cons_self
    have h2 := hu c List.mem_cons_self
    have h3 := ih h.2 (c.toNat + 1) (fun x hx => h.1 x hx) (fun x hx => hu x (List.mem_cons_of_mem _ hx)) (by omega)
    rw [List.length_cons]
    omega
theorem prog_len {ps : List Pr} (h : asc (namesOf ps)) (hg : ∀ p ∈ ps, Good p) : ps.length ≤ 26 := by
  have hl : ∀ x ∈ namesOf ps, 97 ≤ x.toNat ∧ x.toNat ≤ 122 := by
    intro x hx
    rw [namesOf, List.mem_map] at hx
    obtain ⟨p, hp, rfl⟩ := hx
    exact let_rng (hg p hp).2.2.2
  have := asc_lets _ h 97 (fun x hx => (hl x hx).1) (fun x hx => (hl x hx).2) (by omega)
  simpa [namesOf] using this
end Go.Proofs.YtfmmpahbjkiomaaGreatDoor
namespace Go.Proofs.YtfmmpahbjkiomaaGreatDoor
open Go.RowKit Gram

theorem name_cases (nm : ByteArray) : (∃ t, nameOf nm.data.toList = some t ∧ nm = ⟨#[t]⟩ ∧ isLet t = true) ∨ (nameOf nm.data.toList = none ∧ nm.size ≠ 1) ∨ (∃ t, nameOf nm.data.toList = none ∧ nm = ⟨#[t]⟩ ∧ isLet t = false) := by
  by_cases h : nm.size = 1
  · obtain ⟨t, ht⟩ : ∃ t, nm.data.toList = [t] := by
      have : nm.data.toList.length = 1 := by simpa using h
      exact List.length_eq_one_iff.1 this
    have hn : nm = ⟨#[t]⟩ := by apply ByteArray.ext; apply Array.ext'; rw [ht]
    rw [ht, nameOf]
    cases hl : isLet t with
    | true => exact .inl ⟨t, by simp, hn, hl⟩
    | false => exact .inr (.inr ⟨t, by simp, hn, hl⟩)
  · refine .inr (.inl ⟨?_, h⟩)
    have hl : nm.data.toList.length ≠ 1 := by simpa using h
    match hm : nm.data.toList with
    | [] => rfl
    | [a] => rw [hm] at hl; exact absurd rfl hl
    | a :: b :: r => rfl
end Go.Proofs.YtfmmpahbjkiomaaGreatDoor
namespace Go.Proofs.YtfmmpahbjkiomaaGreatDoor
open Go.RowKit Gram

/-- what the two loops have put together: the letters below m, and of the first j those with the letter m -/
def outR (qs : List Pr) (m j : Nat) : List Pr := ((List.range' 97 (m - 97)).flatMap fun c => qs.filter fun p => p.1.toNat == c) ++ (qs.take j).filter fun p => p.1.toNat == m
theorem outR_step (qs : List Pr) (m j : Nat) (hj : j < qs.length) : outR qs m (j + 1) = outR qs m j ++ if (qs[j].1.toNat == m) = true then [qs[j]] else [] := by
  unfold outR
  rw [List.take_succ_eq_append_getElem hj, List.filter_append, ← List.append_assoc]
  congr 1
  rw [List.filter_cons, List.filter_nil]
theorem outR_next (qs : List Pr) (m : Nat) (hm : 97 ≤ m) : outR qs m qs.length = outR qs (m + 1) 0 := by
  unfold outR
  rw [List.take_length, List.take_zero, List.filter_nil, List.append_nil, show m + 1 - 97 = (m - 97) + 1 by omega, List.range'_1_concat, List.flatMap_append, List.flatMap_cons, List.flatMap_nil, List.append_nil, show 97 + (m - 97) = m by omega]
theorem outR_start (qs : List Pr) : outR qs 97 0 = [] := by simp [outR]
theorem outR_all (qs : List Pr) : outR qs 123 0 = sortP qs := by unfold outR sortP; simp
theorem rows_prs (ps : List Pr) : prVs ps = rVs (ps.map rwOf) := by
  rw [prVs, rVs, List.flatMap_map]; rfl
theorem row_made1 (w : World) (B : Nat) (hb : B ≤ w.heap.size) : (w.alloc (.cells #[] 75)).ownsRow B 75 2 (.slice (some ⟨w.heap.size, 0, none⟩) 0 0) 0 [] :=
  ⟨by simp, .inr ⟨w.heap.size, 0, #[], rfl, hb, heap_alloc_new _ _, Nat.le_refl _, Nat.zero_le _, by simp, by simp⟩⟩
theorem prVs_one (ps : List Pr) (p : Pr) : prVs (ps ++ [p]) = prVs ps ++ prV p := by simp [prVs]

/-- where it refuses -/
def renOk (s nm tn : ByteArray) : Prop := ∃ ps a b, progOf s = some ps ∧ nameOf nm.data.toList = some a ∧ nameOf tn.data.toList = some b ∧ a ∈ namesOf ps ∧ (b ∉ namesOf ps ∨ b = a)
theorem renV_no {s nm tn : ByteArray} (h : ¬ renOk s nm tn) : renV s nm tn = .tuple #[.string ⟨#[]⟩, .bool false] := by
  unfold renV
  split
  · rename_i ps a b h1 h2 h3
    rw [if_neg fun h4 => h ⟨ps, a, b, h1, h2, h3, h4.1, h4.2⟩]
  · rfl
theorem named_some {s nm : ByteArray} {ps : List Pr} (hp : progOf s = some ps) : (namedIn ps nm).isSome = true ↔ ∃ a, nameOf nm.data.toList = some a ∧ a ∈ namesOf ps := by
  rw [namedIn_look hp, lookP, hp]
  cases hn : nameOf nm.data.toList with
  | none => simp
  | some a =>
    simp only [List.find?_isSome, Option.some.injEq, exists_eq_left', namesOf, List.mem_map]
    constructor
    · rintro ⟨p, h1, h2⟩; exact ⟨p, h1, eq_of_beq h2⟩
    · rintro ⟨p, h1, h2⟩; exact ⟨p, h1, by simp [h2]⟩

set_option maxHeartbeats 4000000 in
set_option maxRecDepth 100000 in
theorem srr_none (s nm tn : ByteArray) (w : World) (hs : s.size ≤ 1048576) (hno : ¬ renOk s nm tn) :
    Calls Tryz.prog 9 #[.string s, .string nm, .string tn] w fun e w' => e = .returned (.tuple #[.string ⟨#[]⟩, .bool false]) ∧ Below w.heap.size w w' := by
  have HP := Lib.hid ((open_prog s w (by omega)).mono fun _ _ h => h.cases)
  have hnc := name_cases tn
  have HLf := Lib.hid (fun (t : UInt8) (h : isLet t = false) w' => letter_is t false h w')
  have HNo := Lib.hid hno
  obtain ⟨p1, hp1⟩ : ∃ b, b = (progOf s).isSome := ⟨_, rfl⟩
  rw [← hp1] at HP
  have HP1 := Lib.hid hp1
  clear hs hno hp1
  go_enter Tryz.func9, Tryz.ntmps9
  go_wp2_with fail
  refine HP.out.mono ?_
  rintro e w2 ⟨a, n, c, ps', rfl, hb2, hn, hrow, heq⟩
  have HB2 := Lib.hid hb2
  have hn401 : n ≤ 9223372036854775807 := by
    rcases hrow.2 with ⟨h1, h2⟩ | ⟨g, cap, cur, h1, _, _, h3, h4, _⟩
    · omega
    · unfold maxLen at h4; omega
  have HL1 := Lib.hid (fun w' (hb : Below w2.heap.size w2 w') (x : ByteArray) => l1body_any (w := w') (B := w.heap.size) (a := a) (c := c) (ps := ps') (by rw [hn]; exact ownsRow_of hrow (fun j hj => hb.block j (hrow.lt j hj).2)) hn hn401 x)
  have HEq := Lib.hid heq
  clear hb2 hn hrow heq hn401
  go_wp2_with fail
  refine (HL1.out w2 (Below.refl _ _) nm).mono ?_
  rintro e w3 ⟨rfl, hb3⟩
  have HB3 := Lib.hid hb3
  clear hb3
  obtain ⟨b2, hb2⟩ : ∃ b, b = (namedIn ps' nm).isSome := ⟨_, rfl⟩
  rw [← hb2]
  have HB2' := Lib.hid hb2
  clear hb2
  generalize bodyT (namedIn ps' nm) = t2
  go_wp2_with fail
  refine (HL1.out w3 HB3.out tn).mono ?_
  rintro e w4 ⟨rfl, hb4⟩
  have HB4 := Lib.hid (HB2.out.trans ((HB3.out.trans (hb4.mono HB3.out.size)).mono HB2.out.size))
  clear hb4
  obtain ⟨b3, hb3⟩ : ∃ b, b = (namedIn ps' tn).isSome := ⟨_, rfl⟩
  rw [← hb3]
  have HB3' := Lib.hid hb3
  clear hb3
  generalize bodyT (namedIn ps' tn) = t3
  cases hps : progOf s with
  | none =>
    have hp0 := HP1.out
    rw [hps] at hp0
    subst hp0
    go_wp2_with fail
    go_ret2
    exact ⟨rfl, HB4.out⟩
  | some ps =>
    have hp0 := HP1.out
    rw [hps] at hp0
    simp only [Option.isSome] at hp0
    subst hp0
    have he := HEq.out ps hps
    subst he
    cases b2 with
    | false =>
      go_wp2_with fail
      go_ret2
      exact ⟨rfl, HB4.out⟩
    | true =>
      obtain ⟨a', ha1, ha2⟩ := (named_some hps).1 HB2'.out.symm
      have hna := nameOf_some ha1
      have hnl : nm.toList = [a'] := by rw [← hna.1, ByteArray.toList_eq]
      have hlen : tn.toList.length = tn.size := by rw [ByteArray.toList_eq]; simp
      cases b3 with
      | true =>
        obtain ⟨b', hb1, hb2⟩ := (named_some hps).1 HB3'.out.symm
        have hnb := nameOf_some hb1
        have htl : tn.toList = [b'] := by rw [← hnb.1, ByteArray.toList_eq]
        have hq : (nm.toList == tn.toList) = false := by
          rw [hnl, htl, beq_eq_false_iff_ne]
          intro h
          injection h with h
          exact HNo.out ⟨ps', a', b', hps, ha1, hb1, ha2, .inr h.symm⟩
        clear hnl htl hlen hnc
        go_wp2_with fail
        go_ret2
        exact ⟨rfl, HB4.out⟩
      | false =>
        rcases hnc with ⟨t, h, rfl, hl⟩ | ⟨_, hsz⟩ | ⟨t, _, rfl, hl⟩
        · exfalso
          refine HNo.out ⟨ps', a', t, hps, ha1, h, ha2, .inl fun hm => ?_⟩
          have := (named_some (nm := ⟨#[t]⟩) hps).2 ⟨t, h, hm⟩
          rw [← HB3'.out] at this; cases this
        · have hne : ((tn.size : Int) == 1) = false := by rw [beq_eq_false_iff_ne]; omega
          clear hnl hlen
          go_wp2_with fail
          go_ret2
          exact ⟨rfl, HB4.out⟩
        · have h0 : (⟨#[t]⟩ : ByteArray)[0]'(show 0 < (⟨#[t]⟩ : ByteArray).size from Nat.zero_lt_one) = t := rfl
          have hz : (⟨#[t]⟩ : ByteArray).size = 1 := rfl
          have HLL := Lib.hid (HLf.out t hl)
          clear hl hnl hlen
          go_wp2_with fail
          refine (HLL.out _).mono ?_
          rintro e w5 ⟨rfl, rfl⟩
          go_wp2_with fail
          go_ret2
          exact ⟨rfl, HB4.out⟩

set_option maxHeartbeats 8000000 in
set_option maxRecDepth 100000 in
theorem srr_ok (s nm tn : ByteArray) (a b : UInt8) (hnm : nm = ⟨#[a]⟩) (htn : tn = ⟨#[b]⟩) (w : World) (hs : s.size ≤ 1048576) (ps : List Pr) (hp : progOf s = some ps) (hb : isLet b = true) (ha : a ∈ namesOf ps) (hla : isLet a = true) (hf : b ∉ namesOf ps ∨ b = a) :
    Calls Tryz.prog 9 #[.string s, .string nm, .string tn] w fun e w' => e = .returned (.tuple #[.string (rnT ps a b), .bool true]) ∧ Below w.heap.size w w' := by
  have HP := Lib.hid ((open_prog s w (by omega)).mono fun _ _ h => h.cases)
  rw [hp] at HP
  have HLb := Lib.hid (fun w' => letter_is b true hb w')
  have hpf := prog_facts hp
  have hasc : asc (namesOf ps) := procs_asc _ _ _ hpf.2.2.2 (by simp [asc, namesOf])
  have HR := Lib.hid (ren_facts hp ha hb hf)
  have HG := Lib.hid hpf.2.1
  have HL26 := Lib.hid (prog_len hasc hpf.2.1)
  have hna : nameOf (⟨#[a]⟩ : ByteArray).data.toList = some a := by show nameOf [a] = _; rw [nameOf, if_pos hla]
  have hnb : nameOf (⟨#[b]⟩ : ByteArray).data.toList = some b := by show nameOf [b] = _; rw [nameOf, if_pos hb]
  have hi : (namedIn ps nm).isSome = true := by rw [hnm]; exact (named_some hp).2 ⟨a, hna, ha⟩
  have ho : (namedIn ps tn).isSome = decide (b ∈ namesOf ps) := by
    rw [htn, Bool.eq_iff_iff, named_some hp, decide_eq_true_iff]
    constructor
    · rintro ⟨x, h1, h2⟩; rw [hnb] at h1; injection h1 with h1; rw [h1]; exact h2
    · intro h; exact ⟨b, hnb, h⟩
  have hneq : (nm.toList == tn.toList) = (a == b) := by rw [hnm, htn, ByteArray.toList_eq, ByteArray.toList_eq]; simp
  have az : nm.size = 1 := by rw [hnm]; rfl
  have a0 : nm[0]'(by omega) = a := by subst hnm; rfl
  have bz : tn.size = 1 := by rw [htn]; rfl
  have b0 : tn[0]'(by omega) = b := by subst htn; rfl
  have HI := Lib.hid hi
  have HO := Lib.hid ho
  have HNq := Lib.hid hneq
  clear hs hp hpf hasc hna hnb hi ho hneq hnm htn
  go_enter Tryz.func9, Tryz.ntmps9
  go_wp2_with fail
  refine HP.out.mono ?_
  rintro e w2 ⟨la, n, c, ps', rfl, hb2, hn, hrow, heq⟩
  have heq := heq ps rfl
  subst heq
  have HB2 := Lib.hid hb2
  have hn26 : n ≤ 26 := by rw [← hn]; exact HL26.out
  have HL1 := Lib.hid (fun w' (hb : Below w2.heap.size w2 w') (x : ByteArray) => l1body_any (w := w') (B := w.heap.size) (a := la) (c := c) (ps := ps') (by rw [hn]; exact ownsRow_of hrow (fun j hj => hb.block j (hrow.lt j hj).2)) hn (by omega) x)
  have HRow := Lib.hid hrow
  have HN := Lib.hid hn
  clear hb2 hn hrow
  go_wp2_with fail
  refine (HL1.out w2 (Below.refl _ _) _).mono ?_
  rintro e w3 ⟨rfl, hb3⟩
  have HB3 := Lib.hid hb3
  clear hb3
  go_wp2_with fail
  refine (HL1.out w3 HB3.out _).mono ?_
  rintro e w4 ⟨rfl, hb4⟩
  have HB24 := Lib.hid (HB3.out.trans (hb4.mono HB3.out.size))
  have HB4 := Lib.hid (HB2.out.trans (HB24.out.mono HB2.out.size))
  have HRow4 := Lib.hid (ownsRow_of (w' := w4) HRow.out (fun j hj => HB24.out.block j (HRow.out.lt j hj).2))
  clear hb4
  rw [HI.out, HO.out]
  have hkey : decide (b ∈ namesOf ps') = false ∨ (decide (b ∈ namesOf ps') = true ∧ (nm.toList == tn.toList) = true) := by
    rcases hf with h | h
    · exact .inl (decide_eq_false h)
    · exact .inr ⟨decide_eq_true (h ▸ ha), by rw [HNq.out, h]; simp⟩
  clear ha hf
  generalize decide (b ∈ namesOf ps') = bb at *
  generalize bodyT (namedIn ps' nm) = t2 at *
  generalize bodyT (namedIn ps' tn) = t3 at *
  obtain ⟨i0, hi, hz0, hz1, hz2⟩ := info_parts info_pr
  have hqr := Lib.hid (show (ps'.map (renP a b)).length = n by rw [List.length_map, HN.out])
  rcases hkey with rfl | ⟨rfl, hq⟩
  all_goals
    go_wp2_with fail
    refine (HLb.out _).mono ?_
    rintro e w5 ⟨rfl, rfl⟩
    go_wp2_with fail
    try clear hq
    have HE0 := Lib.hid (row_made1 w4 w4.heap.size (Nat.le_refl _))
    have HB5 := Lib.hid ((Below.refl w4.heap.size w4).alloc (Nat.le_refl _) (.cells #[] 75))
    generalize w4.alloc (.cells #[] 75) = w5 at HE0 HB5 ⊢
    go_loopw [14, 15] (fun v cc wr => ∃ m k : Nat, 97 ≤ m ∧ m ≤ 123 ∧ cc = .int .u8 m ∧ k ≤ (m - 97) * 401 ∧ Hid ((outR (ps'.map (renP a b)) m 0).length = k) ∧ Hid (wr.ownsRow w4.heap.size 75 2 v k (prVs (outR (ps'.map (renP a b)) m 0))) ∧ Hid (Below w4.heap.size w4 wr)) (fun _ cc _ => 123 - (intOf cc).toNat)
    case atStart => exact ⟨97, 0, Nat.le_refl _, by omega, by go_num, by omega, by show _ = _; rw [outR_start]; rfl, by rw [outR_start]; exact HE0.out, HB5.out⟩
    case round =>
      obtain ⟨m, k, hm1, hm2, rfl, hk, hL, hO, hbr⟩ := hrel
      by_cases hlt : m ≤ 122
      · go_wp2_with fail
        have hdi : decide ((m : Int) ≤ 122) = true := decide_eq_true (by omega)
        have hdn : decide (m ≤ 122) = true := decide_eq_true hlt
        try rw [hdi]
        try rw [hdn]
        clear hdi hdn
        go_loopw [14, 67] (fun v i wr2 => ∃ j k2 : Nat, j ≤ n ∧ i = .int .i64 j ∧ k2 ≤ (m - 97) * 401 + j ∧ Hid ((outR (ps'.map (renP a b)) m j).length = k2) ∧ Hid (wr2.ownsRow w4.heap.size 75 2 v k2 (prVs (outR (ps'.map (renP a b)) m j))) ∧ Hid (Below w4.heap.size w4 wr2)) (fun _ i _ => n - (intOf i).toNat)
        case atStart => exact ⟨0, k, Nat.zero_le _, by go_num, by omega, hL.out, hO.out, hbr.out⟩
        case round =>
          rename_i wq
          obtain ⟨j, k2, hj, rfl, hk2, hL2, hO2, hb2⟩ := hrel
          by_cases hlj : j < n
          · have hjp : j < ps'.length := by rw [HN.out]; exact hlj
            have hR2 := ownsRow_of (w' := wr) HRow4.out (fun x hx => hb2.out.block x (HRow4.out.lt x hx).2)
            rw [← HN.out] at hR2
            obtain ⟨g, rfl, d0, d1⟩ := pr_get hR2 j hjp
            have hgd := HG.out _ (List.getElem_mem hjp)
            have hst := stms_ren a b ps'[j].2 hgd.1
            have HRn := Lib.hid (fun w' => renamed_any (txtOf (txts ps'[j].2)) a b (by rw [txtOf_size]; have := hgd.2.2.1; omega) w')
            rw [show (txtOf (txts ps'[j].2)).data.toList = txts ps'[j].2 from rfl, hst.1] at HRn
            have HStep := Lib.hid (outR_step (ps'.map (renP a b)) m j (by rw [List.length_map]; exact hjp))
            rw [List.getElem_map] at HStep
            have HV := Lib.hid (show prV (renP a b ps'[j]) = [.int .u8 (renN a b ps'[j].1).toNat, .string (txtOf (txts (rens a b ps'[j].2)))] from rfl)
            have hszr := hb2.out.size
            generalize txtOf (txts ps'[j].2) = t0 at *
            generalize txtOf (txts (rens a b ps'[j].2)) = t1 at *
            have HN1 := Lib.hid (show (renP a b ps'[j]).1 = renN a b ps'[j].1 from rfl)
            generalize renP a b ps'[j] = pj at *
            generalize ps'[j].1 = nj at *
            have hbx := ((Below.refl wr.heap.size wr).alloc (Nat.le_refl _) (.cells #[.int .u8 nj.toNat, .string t0] 75))
            clear hR2 hgd hst hL hO hbr hk
            go_wp2_with fail
            have hz0' : wr.heap.size < (wr.alloc (.cells #[.int .u8 nj.toNat, .string t0] 75)).heap.size := by rw [alloc_size']; omega
            have hx0 := heap_alloc_new wr (.cells #[.int .u8 nj.toNat, .string t0] 75)
            have HZ0 := Lib.hid hz0'
            have HX0 := Lib.hid hx0
            have HBx := Lib.hid hbx
            clear hz0' hx0 hbx
            rename_i K hK
            have HK := Lib.hid hK
            clear hK
            refine (fun (hT : Hid (∀ (w6 : World), Hid (w6.heap[wr.heap.size]? = some (.cells #[.int .u8 nj.toNat, .string t0] 75 (0, 0))) → Hid (Below wr.heap.size wr w6) → K ?_ (w6.setCell ⟨wr.heap.size, 1, none⟩ (.string t1)))) => ?_) ?_
            rotate_left 1
            ·
              go_region_with ((first
                | (go_at_call 37
                   refine (HRn.out _).mono ?_
                   rintro e w6 ⟨rfl, hb6⟩
                   have hblk := (hb6.block _ HZ0.out).trans HX0.out
                   have q0 : w6.cell? ⟨wr.heap.size, 0, none⟩ = some (.int .u8 nj.toNat) := by rw [Lib.cell_of_heap hblk]; rfl
                   have q1 : w6.cell? ⟨wr.heap.size, 1, none⟩ = some (.string t0) := by rw [Lib.cell_of_heap hblk]; rfl
                   have f1 : w6.frozen? ⟨wr.heap.size, 1, none⟩ = false := Lib.frozen_of_heap hblk _
                   have HBk := Lib.hid hblk
                   have HB6 := Lib.hid (HBx.out.drew.trans (hb6.mono HBx.out.drew.size))
                   clear hb6 hblk)))
              all_goals exact hT.out _ HBk HB6
            ·
              intro w6 HBk HBr
              refine HK.out _ _ ?_
              have hblk7 : (w6.setCell ⟨wr.heap.size, 1, none⟩ (.string t1)).heap[wr.heap.size]? = some (.cells #[.int .u8 nj.toNat, .string t1] 75 (0, 0)) := heap_set_same HBk.out (.string t1)
              have HB7 := Lib.hid (HBr.out.setCell (p := ⟨wr.heap.size, 1, none⟩) (Nat.le_refl _) (.string t1))
              generalize w6.setCell ⟨wr.heap.size, 1, none⟩ (.string t1) = w7 at *
              have q0 : w7.cell? ⟨wr.heap.size, 0, none⟩ = some (.int .u8 nj.toNat) := by rw [Lib.cell_of_heap hblk7]; rfl
              have HB7k := Lib.hid hblk7
              have hq : ((nj.toNat : Int) == (a.toNat : Int)) = (nj == a) := toNat_beq nj a
              clear hblk7 HBk HBr
              cases hna : (nj == a)
              · rw [hna] at hq
                have hre : renN a b nj = nj := by rw [renN, if_neg (by simpa using hna)]
                rw [hre] at HV HN1
                clear hre hna
                go_wp2_with fail
                go_quiet (fail)
                have hblk8 : (w7.drewN nq).heap[wr.heap.size]? = some (.cells #[.int .u8 nj.toNat, .string t1] 75 (0, 0)) := HB7k.out
                have HB8 := Lib.hid (below_drewN HB7.out nq)
                generalize w7.drewN nq = w8 at hblk8 HB8 ⊢
                have hblk9 := hblk8
                have HB9 := HB8
                have hs9 : w8.heap.size = w8.heap.size := rfl
                have r0 : w8.cell? ⟨wr.heap.size, 0, none⟩ = some (.int .u8 nj.toNat) := by rw [Lib.cell_of_heap hblk9]; rfl
                have r1 : w8.cell? ⟨wr.heap.size, 1, none⟩ = some (.string t1) := by rw [Lib.cell_of_heap hblk9]; rfl
                have HOW := Lib.hid (ownsRow_of (w' := w8) hO2.out (fun y hy => HB9.out.block y (hO2.out.lt y hy).2))
                have HS9 := Lib.hid hs9
                have hs9' : w4.heap.size ≤ w8.heap.size := by rw [← hs9]; exact (hb2.out.trans (HB9.out.mono hszr)).size
                have HBE := Lib.hid (hb2.out.trans (HB9.out.mono hszr))
                clear hblk8 hblk9 hs9 q0
                have hqm : ((nj.toNat : Int) == (m : Int)) = (nj.toNat == m) := by rw [Bool.eq_iff_iff, beq_iff_eq, beq_iff_eq]; omega
                cases hxm : (nj.toNat == m)
                · rw [hxm] at hqm
                  have HE := Lib.hid (show outR (ps'.map (renP a b)) m (j + 1) = outR (ps'.map (renP a b)) m j by rw [HStep.out, HN1.out, hxm]; simp)
                  clear hxm
                  go_wp2_with fail
                  go_roundw
                  case rel => exact ⟨j + 1, k2, by omega, by go_num, by omega, (show _ = _ by rw [HE.out]; exact hL2.out), (show World.ownsRow _ _ _ _ _ _ _ by rw [HE.out]; exact HOW.out), HBE⟩
                  case measure => simp [intOf]; omega
                · rw [hxm] at hqm
                  have HE := Lib.hid (show outR (ps'.map (renP a b)) m (j + 1) = outR (ps'.map (renP a b)) m j ++ [pj] by rw [HStep.out, HN1.out, hxm]; simp)
                  clear hxm
                  have HCc := Lib.hid (show ∀ (y : Nat) (u : Value), [Value.int .u8 nj.toNat, .string t1][y]? = some u → (w8.alloc (Obj.cells #[.int .u8 nj.toNat, .string t1] 75)).cell? ((⟨w8.heap.size, 0, none⟩ : Addr).add y) = some u from by rw [← HS9.out]; exact World.news_of_block (heap_alloc_new _ _))
                  have hown8 := World.ownsRow.alloc HOW.out (Obj.cells #[.int .u8 nj.toNat, .string t1] 75)
                  have HO8 := Lib.hid hown8
                  clear hown8
                  go_wp2_with (at_builtin; refine wpList_append_own _ rfl _ _ 70 rfl w4.heap.size 75 i0 (.agg #[.int .u8 0, .string ⟨#[]⟩]) 2 24 Tryz.underlying70 hi hz0 hz1 hz2 rfl (by decide) u14 k2 (prVs (outR (ps'.map (renP a b)) m j)) rfl HO8.out ⟨w8.heap.size, 0, none⟩ 1 1 [.int .u8 nj.toNat, .string t1] rfl rfl HCc.out (fun u hu => by simp only [List.mem_cons, List.not_mem_nil, or_false] at hu; rcases hu with rfl | rfl <;> rfl) (by unfold maxLen; omega) (by omega) (HBE.out.alloc HBE.out.size _).size ?_)
                  intro v' w10 hown' hgrow _
                  have HO9 := Lib.hid hown'
                  have HG9 := Lib.hid ((HBE.out.alloc HBE.out.size _).grown hgrow (HBE.out.alloc HBE.out.size _).size (fun y hy => (hO2.out.lt y hy).1))
                  clear hown' hgrow
                  go_wp2_with fail
                  go_roundw
                  case rel => exact ⟨j + 1, k2 + 1, by omega, by go_num, by omega, (show _ = _ by rw [HE.out, List.length_append, hL2.out]; rfl), (show World.ownsRow _ _ _ _ _ _ _ by rw [HE.out, prVs_one, HV.out]; exact HO9.out), HG9⟩
                  case measure => simp [intOf]; omega
              · rw [hna] at hq
                have hre : renN a b nj = b := by rw [renN, if_pos (by simpa using hna)]
                rw [hre] at HV HN1
                clear hre hna
                go_wp2_with fail
                go_quiet (fail)
                have hblk8 : (w7.drewN nq).heap[wr.heap.size]? = some (.cells #[.int .u8 nj.toNat, .string t1] 75 (0, 0)) := HB7k.out
                have HB8 := Lib.hid (below_drewN HB7.out nq)
                generalize w7.drewN nq = w8 at hblk8 HB8 ⊢
                have hblk9 : (w8.setCell ⟨wr.heap.size, 0, none⟩ (.int .u8 b.toNat)).heap[wr.heap.size]? = some (.cells #[.int .u8 b.toNat, .string t1] 75 (0, 0)) := heap_set_same hblk8 _
                have f0 : w8.frozen? ⟨wr.heap.size, 0, none⟩ = false := Lib.frozen_of_heap hblk8 _
                have c0 : w8.cell? ⟨wr.heap.size, 0, none⟩ = some (.int .u8 nj.toNat) := by rw [Lib.cell_of_heap hblk8]; rfl
                have HB9 := Lib.hid (HB8.out.setCell (p := ⟨wr.heap.size, 0, none⟩) (Nat.le_refl _) (.int .u8 b.toNat))
                have hs9 : (w8.setCell ⟨wr.heap.size, 0, none⟩ (.int .u8 b.toNat)).heap.size = w8.heap.size := by simp [World.setCell]
                have r0 : (w8.setCell ⟨wr.heap.size, 0, none⟩ (.int .u8 b.toNat)).cell? ⟨wr.heap.size, 0, none⟩ = some (.int .u8 b.toNat) := by rw [Lib.cell_of_heap hblk9]; rfl
                have r1 : (w8.setCell ⟨wr.heap.size, 0, none⟩ (.int .u8 b.toNat)).cell? ⟨wr.heap.size, 1, none⟩ = some (.string t1) := by rw [Lib.cell_of_heap hblk9]; rfl
                have HOW := Lib.hid (ownsRow_of (w' := (w8.setCell ⟨wr.heap.size, 0, none⟩ (.int .u8 b.toNat))) hO2.out (fun y hy => HB9.out.block y (hO2.out.lt y hy).2))
                have HS9 := Lib.hid hs9
                have hs9' : w4.heap.size ≤ w8.heap.size := by rw [← hs9]; exact (hb2.out.trans (HB9.out.mono hszr)).size
                have HBE := Lib.hid (hb2.out.trans (HB9.out.mono hszr))
                clear hblk8 hblk9 hs9 q0
                have hqm : ((b.toNat : Int) == (m : Int)) = (b.toNat == m) := by rw [Bool.eq_iff_iff, beq_iff_eq, beq_iff_eq]; omega
                cases hxm : (b.toNat == m)
                · rw [hxm] at hqm
                  have HE := Lib.hid (show outR (ps'.map (renP a b)) m (j + 1) = outR (ps'.map (renP a b)) m j by rw [HStep.out, HN1.out, hxm]; simp)
                  clear hxm
                  go_wp2_with fail
                  go_roundw
                  case rel => exact ⟨j + 1, k2, by omega, by go_num, by omega, (show _ = _ by rw [HE.out]; exact hL2.out), (show World.ownsRow _ _ _ _ _ _ _ by rw [HE.out]; exact HOW.out), HBE⟩
                  case measure => simp [intOf]; omega
                · rw [hxm] at hqm
                  have HE := Lib.hid (show outR (ps'.map (renP a b)) m (j + 1) = outR (ps'.map (renP a b)) m j ++ [pj] by rw [HStep.out, HN1.out, hxm]; simp)
                  clear hxm
                  have HCc := Lib.hid (show ∀ (y : Nat) (u : Value), [Value.int .u8 b.toNat, .string t1][y]? = some u → ((w8.setCell ⟨wr.heap.size, 0, none⟩ (.int .u8 b.toNat)).alloc (Obj.cells #[.int .u8 b.toNat, .string t1] 75)).cell? ((⟨w8.heap.size, 0, none⟩ : Addr).add y) = some u from by rw [← HS9.out]; exact World.news_of_block (heap_alloc_new _ _))
                  have hown8 := World.ownsRow.alloc HOW.out (Obj.cells #[.int .u8 b.toNat, .string t1] 75)
                  have HO8 := Lib.hid hown8
                  clear hown8
                  go_wp2_with (at_builtin; refine wpList_append_own _ rfl _ _ 70 rfl w4.heap.size 75 i0 (.agg #[.int .u8 0, .string ⟨#[]⟩]) 2 24 Tryz.underlying70 hi hz0 hz1 hz2 rfl (by decide) u14 k2 (prVs (outR (ps'.map (renP a b)) m j)) rfl HO8.out ⟨w8.heap.size, 0, none⟩ 1 1 [.int .u8 b.toNat, .string t1] rfl rfl HCc.out (fun u hu => by simp only [List.mem_cons, List.not_mem_nil, or_false] at hu; rcases hu with rfl | rfl <;> rfl) (by unfold maxLen; omega) (by omega) (HBE.out.alloc HBE.out.size _).size ?_)
                  intro v' w10 hown' hgrow _
                  have HO9 := Lib.hid hown'
                  have HG9 := Lib.hid ((HBE.out.alloc HBE.out.size _).grown hgrow (HBE.out.alloc HBE.out.size _).size (fun y hy => (hO2.out.lt y hy).1))
                  clear hown' hgrow
                  go_wp2_with fail
                  go_roundw
                  case rel => exact ⟨j + 1, k2 + 1, by omega, by go_num, by omega, (show _ = _ by rw [HE.out, List.length_append, hL2.out]; rfl), (show World.ownsRow _ _ _ _ _ _ _ by rw [HE.out, prVs_one, HV.out]; exact HO9.out), HG9⟩
                  case measure => simp [intOf]; omega
          · have hjn : j = n := by omega
            subst hjn
            have hw1 : IntKind.u8.wrap ((m : Int) + 1) = ((m + 1 : Nat) : Int) := by rw [IntWalk.u8_in _ (by omega)]; omega
            rw [← hqr.out, outR_next _ m hm1] at hO2 hL2
            clear hL hO hbr hk
            go_wp2_with fail
            go_roundw
            case rel => exact ⟨m + 1, k2, by omega, by omega, by go_num, by omega, hL2, hO2, hb2⟩
            case measure => simp [intOf]; omega
      · have hm : m = 123 := by omega
        subst hm
        rw [outR_all] at hO hL
        obtain ⟨va, vn, vc, rfl⟩ := slice_form hO.out
        have hvn : vn = k := by
          rcases hO.out.2 with ⟨h1, h2⟩ | ⟨g, cap, cur, h1, _⟩
          · injection h1 with _ h3; omega
          · injection h1 with _ h3
        subst hvn
        have hk26 : vn ≤ 26 := by
          rw [← hL.out, (sortP_perm HR.out.nodup HR.out.lets).length_eq, hqr.out]; exact hn26
        have hT := text_rows (w := wr) (B := w4.heap.size) (n := vn) (c := vc) (M := 400) (a := va) (rs := (sortP (ps'.map (renP a b))).map rwOf) (by rw [List.length_map, hL.out, ← rows_prs]; exact hO.out) (by rw [List.length_map, hL.out]) (by omega) (fun r hr => by
          obtain ⟨p, hp, rfl⟩ := List.mem_map.1 hr
          obtain ⟨q, hq, rfl⟩ := List.mem_map.1 ((mem_sortP HR.out.lets p).1 hp)
          show (txtOf (txts (rens a b q.2))).size ≤ 400
          rw [txtOf_size, (stms_ren_wf a b hb q.2 (HG.out q hq).1).2.2.1]
          exact (HG.out q hq).2.2.1) (by omega)
        rw [rowT_join] at hT
        have HT := Lib.hid hT
        clear hT
        go_wp2_with fail
        refine HT.out.mono ?_
        rintro e w6 ⟨rfl, hb6⟩
        have HB6 := Lib.hid (HB4.out.trans ((hbr.out.trans (hb6.mono hbr.out.size)).mono HB4.out.size))
        clear hb6
        go_wp2_with fail
        go_ret2
        exact ⟨rfl, HB6.out⟩
end Go.Proofs.YtfmmpahbjkiomaaGreatDoor
namespace Go.Proofs.YtfmmpahbjkiomaaGreatDoor
open Go.RowKit Gram

theorem nm_one {nm : ByteArray} {a : UInt8} (h : nm.data.toList = [a]) : nm = ⟨#[a]⟩ := by
  apply ByteArray.ext; apply Array.ext'; rw [h]
theorem spec_ren (s nm tn : ByteArray) (w : World) (hs : s.size ≤ 1048576) :
    Calls Tryz.prog 9 #[.string s, .string nm, .string tn] w fun e w' => e = .returned (renV s nm tn) ∧ Below w.heap.size w w' := by
  by_cases hok : renOk s nm tn
  · obtain ⟨ps, a, b, hp, hn, ht, ha, hf⟩ := hok
    have hV : renV s nm tn = .tuple #[.string (rnT ps a b), .bool true] := by simp only [renV, hp, hn, ht]; rw [if_pos ⟨ha, hf⟩]
    rw [hV]
    exact srr_ok s nm tn a b (nm_one (nameOf_some hn).1) (nm_one (nameOf_some ht).1) w hs ps hp (nameOf_some ht).2 ha (nameOf_some hn).2 hf
  · rw [renV_no hok]
    exact srr_none s nm tn w hs hok
theorem renV_form (s nm tn : ByteArray) : ∃ V b, renV s nm tn = .tuple #[.string V, .bool b] := by
  unfold renV
  split
  · split
    · exact ⟨_, _, rfl⟩
    · exact ⟨_, _, rfl⟩
  · exact ⟨_, _, rfl⟩

set_option maxHeartbeats 400000 in
theorem rn_long1 (s nm tn : ByteArray) (w : World) (hl : 1048576 < s.size) (hx : s.size ≤ maxLen) :
    Calls Tryz.prog 4 #[.string s, .string nm, .string tn] w fun e w' => e = .returned (.bool true) ∧ Below w.heap.size w w' := by
  unfold maxLen at hx
  go_enter Tryz.func4, Tryz.ntmps4
  go_wp2_with fail
  go_ret
  exact ⟨rfl, Below.refl _ _⟩
set_option maxHeartbeats 400000 in
theorem rn_long2 (s nm tn : ByteArray) (w : World) (hs : s.size ≤ 1048576) (hl : 1048576 < nm.size) (hx : nm.size ≤ maxLen) :
    Calls Tryz.prog 4 #[.string s, .string nm, .string tn] w fun e w' => e = .returned (.bool true) ∧ Below w.heap.size w w' := by
  unfold maxLen at hx
  go_enter Tryz.func4, Tryz.ntmps4
  go_wp2_with fail
  go_ret
  exact ⟨rfl, Below.refl _ _⟩
set_option maxHeartbeats 400000 in
theorem rn_long3 (s nm tn : ByteArray) (w : World) (hs : s.size ≤ 1048576) (hn : nm.size ≤ 1048576) (hl : 1048576 < tn.size) (hx : tn.size ≤ maxLen) :
    Calls Tryz.prog 4 #[.string s, .string nm, .string tn] w fun e w' => e = .returned (.bool true) ∧ Below w.heap.size w w' := by
  unfold maxLen at hx
  go_enter Tryz.func4, Tryz.ntmps4
  go_wp2_with fail
  go_ret
  exact ⟨rfl, Below.refl _ _⟩
set_option maxHeartbeats 400000 in
theorem rn_short (s nm tn : ByteArray) (w : World) (hl : s.size ≤ 1048576) (hl2 : nm.size ≤ 1048576) (hl3 : tn.size ≤ 1048576) (hm : MaxCell w) :
    Calls Tryz.prog 4 #[.string s, .string nm, .string tn] w fun e w' => e = .returned (.bool true) ∧ Below w.heap.size w w' := by
  have HI := Lib.hid (fun w => impl_ren s nm tn w (by omega))
  have HS := Lib.hid (fun w => spec_ren s nm tn w hl)
  have HM := Lib.hid hm
  obtain ⟨V, b, hV⟩ := renV_form s nm tn
  rw [hV] at HI HS
  clear hm hV
  go_enter Tryz.func4, Tryz.ntmps4
  go_wp2_with fail
  refine (HS.out _).mono ?_
  rintro e w1 ⟨rfl, b1⟩
  have B1 := Lib.hid b1
  clear b1
  go_wp2_with fail
  refine (HI.out _ (HM.out.later B1.out)).mono ?_
  rintro e w2 ⟨rfl, b2⟩
  have B2 := Lib.hid (B1.out.trans (b2.mono B1.out.size))
  clear b2
  cases b
  all_goals
    go_wp2_with fail
    go_ret
    exact ⟨rfl, B2.out⟩
theorem rn_any (s nm tn : ByteArray) (w : World) (hx : s.size ≤ maxLen) (hx2 : nm.size ≤ maxLen) (hx3 : tn.size ≤ maxLen) (hm : MaxCell w) :
    Calls Tryz.prog 4 #[.string s, .string nm, .string tn] w fun e w' => e = .returned (.bool true) ∧ Below w.heap.size w w' := by
  by_cases h : s.size ≤ 1048576
  · by_cases h2 : nm.size ≤ 1048576
    · by_cases h3 : tn.size ≤ 1048576
      · exact rn_short s nm tn w h h2 h3 hm
      · exact rn_long3 s nm tn w h h2 (by omega) hx3
    · exact rn_long2 s nm tn w h (by omega) hx2
  · exact rn_long1 s nm tn w (by omega) hx
end Go.Proofs.YtfmmpahbjkiomaaGreatDoor
