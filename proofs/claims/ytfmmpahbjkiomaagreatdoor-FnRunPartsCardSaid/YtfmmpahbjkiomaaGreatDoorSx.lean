/- The model's l1Text: a program's text of rows. Condition: at most 30 rows. -/
import Derived.Test.YtfmmpahbjkiomaaGreatDoorOpen1
import Derived.Test.YtfmmpahbjkiomaaGreatDoorQx
import Derived.Test.YtfmmpahbjkiomaaGreatDoorPx
namespace Go.Proofs.YtfmmpahbjkiomaaGreatDoor
open Go.RowKit Gram

/-- rows of names and bodies, whatever these are -/
abbrev Rw := UInt8 × ByteArray
def rV (r : Rw) : List Value := [.int .u8 r.1.toNat, .string r.2]
def rVs (rs : List Rw) : List Value := rs.flatMap rV
theorem rVs_snoc (rs : List Rw) (r : Rw) : rVs (rs ++ [r]) = rVs rs ++ rV r := by simp [rVs]
theorem rVs_get (rs : List Rw) (k : Nat) (hk : k < rs.length) : (rVs rs)[k * 2]? = some (.int .u8 rs[k].1.toNat) ∧ (rVs rs)[k * 2 + 1]? = some (.string rs[k].2) := by
  induction rs generalizing k with
  | nil => simp at hk
  | cons p t ih =>
    cases k with
    | zero => exact ⟨rfl, rfl⟩
    | succ k =>
      have := ih k (by simpa using hk)
      simp only [rVs, List.flatMap_cons, rV] at this ⊢
      rw [show (k + 1) * 2 = k * 2 + 2 by omega, show k * 2 + 2 + 1 = (k * 2 + 1) + 2 by omega]
      simpa using this
theorem rw_get {w : World} {B c : Nat} {e : TypeId} {a : Option Addr} {rs : List Rw} (h : w.ownsRow B e 2 (.slice a rs.length c) rs.length (rVs rs)) (k : Nat) (hk : k < rs.length) :
    ∃ g, a = some ⟨g, 0, none⟩ ∧ B ≤ g ∧ w.cell? ⟨g, k * 2, none⟩ = some (.int .u8 rs[k].1.toNat) ∧ w.cell? ⟨g, k * 2 + 1, none⟩ = some (.string rs[k].2) := by
  rcases h.2 with ⟨h1, h2⟩ | ⟨g, cap, cur, h1, hb, _⟩
  · omega
  · injection h1 with h1 h3 h4
    subst h1
    subst h4
    exact ⟨g, rfl, hb, row_cell h _ _ (rVs_get rs k hk).1, row_cell h _ _ (rVs_get rs k hk).2⟩

/-- the text of rows, each behind a ';' but the first one -/
def rowT (rs : List Rw) : ByteArray := rs.foldl (fun t r => (if t.size = 0 then t else t ++ ⟨#[59]⟩) ++ ⟨#[r.1, 58]⟩ ++ r.2) ⟨#[]⟩
theorem rowT_snoc (rs : List Rw) (r : Rw) : rowT (rs ++ [r]) = (if (rowT rs).size = 0 then rowT rs else rowT rs ++ ⟨#[59]⟩) ++ ⟨#[r.1, 58]⟩ ++ r.2 := by simp [rowT]
theorem rowT_zero (rs : List Rw) : (rowT rs).size = 0 ↔ rs = [] := by
  constructor
  · intro h
    rcases List.eq_nil_or_concat rs with rfl | ⟨qs, q, rfl⟩
    · rfl
    · rw [List.concat_eq_append, rowT_snoc] at h
      simp only [ByteArray.size_append] at h
      have : (⟨#[q.1, 58]⟩ : ByteArray).size = 2 := rfl
      omega
  · rintro rfl; rfl
theorem rowT_take (rs : List Rw) (k : Nat) (hk : k < rs.length) : rowT (rs.take (k + 1)) = (if k = 0 then rowT (rs.take k) else rowT (rs.take k) ++ ⟨#[59]⟩) ++ ⟨#[rs[k].1, 58]⟩ ++ rs[k].2 := by
  rw [List.take_succ_eq_append_getElem hk, rowT_snoc]
  congr 2
  have : (rowT (rs.take k)).size = 0 ↔ k = 0 := by
    rw [rowT_zero]
    constructor
    · intro h
      have h2 : (rs.take k).length = k := by rw [List.length_take]; omega
      rw [h] at h2; exact h2.symm
    · rintro rfl; rfl
  by_cases h0 : k = 0
  · rw [if_pos h0, if_pos (this.2 h0)]
  · rw [if_neg h0, if_neg (fun h => h0 (this.1 h))]
theorem rowT_le (M : Nat) (rs : List Rw) (h : ∀ r ∈ rs, r.2.size ≤ M) : (rowT rs).size ≤ rs.length * (M + 3) := by
  have key : ∀ n (rs : List Rw), rs.length = n → (∀ r ∈ rs, r.2.size ≤ M) → (rowT rs).size ≤ n * (M + 3) := by
    intro n
    induction n with
    | zero => intro rs hn _; rw [List.length_eq_zero_iff.1 hn]; exact Nat.zero_le _
    | succ n ih =>
      intro rs hn h
      rcases List.eq_nil_or_concat rs with rfl | ⟨qs, q, rfl⟩
      · simp at hn
      · rw [List.concat_eq_append] at hn h ⊢
        have h1 := ih qs (by simpa using hn) fun r hr => h r (List.mem_append.2 (.inl hr))
        have h2 := h q (by simp)
        rw [rowT_snoc]
        simp only [ByteArray.size_append]
        have e1 : (⟨#[q.1, 58]⟩ : ByteArray).size = 2 := rfl
        have e2 : (⟨#[59]⟩ : ByteArray).size = 1 := rfl
        rw [Nat.add_mul, Nat.one_mul]
        split
        · omega
        · rw [ByteArray.size_append]; omega
  exact key _ rs rfl h

set_option maxHeartbeats 2000000 in
set_option maxRecDepth 100000 in
theorem text_rows {w : World} {B n c M : Nat} {a : Option Addr} {rs : List Rw} (ho : w.ownsRow B 75 2 (.slice a rs.length c) rs.length (rVs rs)) (hn : rs.length = n) (hl : n ≤ 30) (hM : ∀ r ∈ rs, r.2.size ≤ M) (hMb : M ≤ 4194304) :
    Calls Tryz.prog 38 #[.slice a n c] w fun e w' => e = .returned (.string (rowT rs)) ∧ Below w.heap.size w w' := by
  have HO := Lib.hid ho
  have HN := Lib.hid hn
  have HM := Lib.hid hM
  have HBd : Hid (∀ k, k ≤ 30 → (rowT (rs.take k)).size ≤ 30 * (M + 3)) := fun k hk => Nat.le_trans (rowT_le M (rs.take k) fun r hr => hM r (List.mem_of_mem_take hr)) (Nat.mul_le_mul_right _ (by rw [List.length_take]; omega))
  clear ho hn hM
  go_enter Tryz.func38, Tryz.ntmps38
  go_wp2_with fail
  go_loopw [3, 8] (fun o i wr => ∃ k : Nat, i = .int .i64 k ∧ k ≤ n ∧ o = .string (rowT (rs.take k)) ∧ Hid (Below w.heap.size w wr)) (fun _ i _ => n - (intOf i).toNat)
  case atStart => exact ⟨0, by go_num, Nat.zero_le _, rfl, Below.refl _ _⟩
  case round =>
    obtain ⟨k, rfl, hk, rfl, hb⟩ := hrel
    by_cases hlt : k < n
    · have hkp : k < rs.length := by rw [HN.out]; exact hlt
      obtain ⟨g, rfl, _, c0, c1⟩ := rw_get HO.out k hkp
      have hgl : g < w.heap.size := World.block_lt_of_cell? w _ c0
      have d0 : wr.cell? ⟨g, k * 2, none⟩ = some (.int .u8 rs[k].1.toNat) := by rw [hb.out.cell (p := ⟨g, k * 2, none⟩) hgl]; exact c0
      have d1 : wr.cell? ⟨g, k * 2 + 1, none⟩ = some (.string rs[k].2) := by rw [hb.out.cell (p := ⟨g, k * 2 + 1, none⟩) hgl]; exact c1
      have hMk := HM.out rs[k] (List.getElem_mem hkp)
      have hbd := HBd.out k (by omega)
      have HT := Lib.hid (rowT_take rs k hkp)
      have hs2 := fun o : Obj => str2 rs[k].1 58 (wr.alloc o) (wr.heap.size + 1) (by rw [alloc_size])
      simp only [UInt8.reduceToNat, Int.cast_ofNat_Int, strV] at hs2
      have z1 : (⟨#[59]⟩ : ByteArray).size = 1 := rfl
      clear c0 c1 hgl
      generalize rs[k].1 = nm at *
      generalize rs[k].2 = bd at *
      have z2 : (⟨#[nm, 58]⟩ : ByteArray).size = 2 := rfl
      generalize rowT (rs.take k) = t at *
      by_cases h0 : k = 0
      · rw [if_pos h0] at HT
        have e2 := str_add t ⟨#[nm, 58]⟩ (by omega)
        have e3 := str_add (t ++ ⟨#[nm, 58]⟩) bd (by rw [ByteArray.size_append]; omega)
        have hk0 : ¬ (0 : Int) < (k : Int) := by omega
        have HK0 := Lib.hid h0
        clear h0 z1 z2
        go_wp2_with fail
        go_roundw
        case rel => exact ⟨k + 1, by go_num, by omega, by rw [HT.out], (hb.out.alloc hb.out.size _).alloc (by rw [alloc_size]; exact Nat.le_succ_of_le hb.out.size) _⟩
        case measure => simp [intOf]; omega
      · rw [if_neg h0] at HT
        have e1 := str_add t ⟨#[59]⟩ (by omega)
        have e2 := str_add (t ++ ⟨#[59]⟩) ⟨#[nm, 58]⟩ (by rw [ByteArray.size_append]; omega)
        have e3 := str_add (t ++ ⟨#[59]⟩ ++ ⟨#[nm, 58]⟩) bd (by rw [ByteArray.size_append, ByteArray.size_append]; omega)
        have hk0 : (0 : Int) < (k : Int) := by omega
        clear z1 z2
        go_wp2_with fail
        go_roundw
        case rel => exact ⟨k + 1, by go_num, by omega, by rw [HT.out], (hb.out.alloc hb.out.size _).alloc (by rw [alloc_size]; exact Nat.le_succ_of_le hb.out.size) _⟩
        case measure => simp [intOf]; omega
    · have hall : rs.take k = rs := List.take_of_length_le (by rw [HN.out]; omega)
      rw [hall]
      go_wp2_with fail
      go_ret
      exact ⟨rfl, hb.out⟩

/-- a procedure's row -/
def rwOf (p : Pr) : Rw := (p.1, txtOf (txts p.2))
theorem rowT_join (ps : List Pr) : rowT (ps.map rwOf) = txtOf (joinP ps) := by
  have key : ∀ n (ps : List Pr), ps.length = n → rowT (ps.map rwOf) = txtOf (joinP ps) := by
    intro n
    induction n with
    | zero => intro ps h; rw [List.length_eq_zero_iff.1 h]; rfl
    | succ n ih =>
      intro ps h
      rcases List.eq_nil_or_concat ps with rfl | ⟨qs, q, rfl⟩
      · simp at h
      · rw [List.concat_eq_append] at h ⊢
        have h1 := ih qs (by simpa using h)
        rw [List.map_append, List.map_cons, List.map_nil, rowT_snoc, joinP_snoc]
        have h0 : (rowT (qs.map rwOf)).size = 0 ↔ qs = [] := by rw [rowT_zero]; simp
        by_cases hq : qs = []
        · subst hq
          rw [if_pos (h0.2 rfl), if_pos rfl, h1]
          apply ByteArray.ext; apply Array.ext'; simp [txtOf, rwOf]
        · rw [if_neg (fun h => hq (h0.1 h)), if_neg hq, h1]
          apply ByteArray.ext; apply Array.ext'; simp [txtOf, rwOf]
  exact key _ ps rfl
end Go.Proofs.YtfmmpahbjkiomaaGreatDoor
