/- The program's StatementsOf tells what the model's does. Condition: texts of at most 2^30 bytes. -/
import Derived.Test.YtkdnbdgpcgookaaGreatDoorPx
import Derived.Test.YtkdnbdgpcgookaaGreatDoorBx
namespace Go.Proofs.YtkdnbdgpcgookaaGreatDoor
open Go.RowKit Gram

/-- what both StatementsOf hand back -/
def StmsTo (s : ByteArray) (w : World) (e : Ending) (w' : World) : Prop :=
  ∃ v b xs, e = .returned (.tuple #[v, .bool b]) ∧ Hid ((b = false ∧ bodyOf s = none ∧ xs = []) ∨ (b = true ∧ bodyOf s = some xs)) ∧
      w'.ownsRow w.heap.size 9 1 v xs.length (stmVs xs) ∧ Below w.heap.size w w'

set_option maxHeartbeats 2000000 in
set_option maxRecDepth 100000 in
theorem impl_none (s : ByteArray) (w : World) (hm : s.size ≤ 1073741824) (h : bodyOf s = none) :
    Calls Tryz.prog 20 #[.string s] w (StmsTo s w) := by
  have HR := body_any s w hm
  rw [h] at HR
  have HR := Lib.hid HR
  have HN := Lib.hid h
  clear h
  go_enter Tryz.func20, Tryz.ntmps20
  go_wp2_with fail
  refine HR.out.mono ?_
  rintro e w1 ⟨rfl, hb⟩
  go_wp2_with fail
  go_ret2
  exact ⟨_, _, [], rfl, .inl ⟨rfl, HN.out, rfl⟩, World.ownsRow_nil _ _ _ _, hb⟩

set_option maxHeartbeats 2000000 in
set_option maxRecDepth 100000 in
theorem impl_some (s : ByteArray) (w : World) (xs : List Stm) (hm : s.size ≤ 1073741824) (h : bodyOf s = some xs) :
    Calls Tryz.prog 20 #[.string s] w (StmsTo s w) := by
  have HR := body_any s w hm
  rw [h] at HR
  have HR := Lib.hid HR
  have HN := Lib.hid h
  obtain ⟨h1, h2, h3, h4⟩ := bodyOf_some h
  have hxl := txts_ge xs
  have hx4 : (txts xs).length ≤ 400 := by rw [← h2]; simpa using h1
  obtain ⟨i0, hi, hz0, hz1, hz2⟩ := info_parts info_str
  clear h h1 h2 h3 h4
  go_enter Tryz.func20, Tryz.ntmps20
  go_wp2_with fail
  refine HR.out.mono ?_
  rintro e w1 ⟨⟨v, S, rfl, hB, hS⟩, hb⟩
  obtain ⟨vs, hr, hs⟩ := hB
  obtain ⟨a, ln, c, rfl⟩ := slice_form hr.1
  have hln : ln = xs.length := by
    have hl := IsStms.len _ _ hs
    rcases hr.1.2 with ⟨h1, h2⟩ | ⟨g, cap, cur, h1, _⟩
    · injection h1 with _ h3; omega
    · injection h1 with _ h3; omega
  have hlb : ln ≤ 400 := by omega
  have HRw := Lib.hid hr
  have HSt := Lib.hid hs
  have HL := Lib.hid hln
  have hSS := Lib.hid hS
  clear hr hs hS hln
  have hsz1 := hb.size
  go_wp2_with (at_make; refine wpList_make_own _ rfl _ _ 39 rfl w1.heap.size 9 i0 (.string ⟨#[]⟩) 1 Tryz.underlying39 hi hz0 hz1 _ _ _ ln rfl rfl (by omega) ?c1 ?c2 ?c3 ?_)
  case c1 => rw [hz2]; omega
  case c2 => unfold maxLen; omega
  case c3 => exact Nat.le_refl _
  intro w2 hown hgrow
  have HO := Lib.hid hown
  have hb2 := Lib.hid (show Below w1.heap.size w1 w2 from (Below.refl _ _).grown hgrow (Nat.le_refl _) (fun k hk => by cases hk))
  have hsz2 := hgrow.size
  clear hown hgrow
  go_wp2_with fail
  go_loopw [6, 21] (fun v i wr => ∃ k : Nat, k ≤ ln ∧ i = .int .i64 k ∧ Hid (wr.ownsRow w1.heap.size 9 1 v k (stmVs (xs.take k))) ∧ Below w1.heap.size w1 wr) (fun _ i _ => ln - (intOf i).toNat)
  case atStart => exact ⟨0, Nat.zero_le _, by go_num, HO.out, hb2.out⟩
  case round =>
    obtain ⟨k, hk, rfl, HOw, hbr⟩ := hrel
    have hszr := hbr.size
    by_cases hlt : k < ln
    · obtain ⟨x, v, hxk, hvk, hst⟩ := IsStms.get xs vs HSt.out k (by rw [← HL.out]; exact hlt)
      have hS1 : ∀ j, S j → j < w1.heap.size := fun j hj => by
        obtain ⟨_, cur, fz, h2⟩ := hSS.out j hj
        exact heap_lt h2
      obtain ⟨g, hga, hc1⟩ : ∃ g, a = some ⟨g, 0, none⟩ ∧ wr.cell? ⟨g, k, none⟩ = some v := by
        rcases HRw.out.1.2 with ⟨h1, h2⟩ | ⟨g, cap, cur, h1, _, _⟩
        · injection h1 with h3 h4; omega
        · injection h1 with h3 h4 h5
          subst h3; subst h4; subst h5
          have hg : g < w1.heap.size := hS1 g (HRw.out.2 g rfl)
          have := row_cell HRw.out.1 k v hvk
          exact ⟨g, rfl, by rw [← this]; exact World.cell?_of_block (a := ⟨g, k, none⟩) (hbr.block g hg)⟩
      subst hga
      have hkeep : ∀ j, S j → wr.heap[j]? = w1.heap[j]? := fun j hj => hbr.block j (hS1 j hj)
      have hst2 := IsStm.kept hkeep (fun _ h => h) _ _ hst
      obtain ⟨ty, pv, rfl⟩ := hst2.iface
      have htl := ttxts_take xs k x hxk
      have hlk := txts_le xs (k + 1)
      rw [htl] at hlk
      simp only [List.length_append] at hlk
      have hC := text_all 400 x wr S ty pv (by omega) (by omega) (fun j hj => Nat.lt_of_lt_of_le (hS1 j hj) hszr) hst2
      have HC := Lib.hid hC
      have hsn : stmVs (xs.take (k + 1)) = stmVs (xs.take k) ++ [.string ⟨x.txt.toArray⟩] := by
        obtain ⟨hk', rfl⟩ := List.getElem?_eq_some_iff.1 hxk
        rw [List.take_succ_eq_append_getElem hk', stmVs_snoc]; rfl
      have HT := Lib.hid hsn
      clear hC htl hlk hsn hst hkeep hxk hvk hS1
      generalize x.txt = tx at *
      cases x with
      | pro =>
        simp only [IsStm] at hst2
        injection hst2 with h1 h2; subst h1; subst h2
        have hm := meth_pro
        go_wp2_with fail
        refine HC.out.mono ?_
        rintro e w4 ⟨rfl, hb4⟩
        have hsz4 := hb4.size
        have HB4 := Lib.hid hb4
        have hown4 := ownsRow_of HOw.out (fun j hj => hb4.block j (HOw.out.lt j hj).2)
        clear hb4
        unfold strV
        go_wp2_with (at_builtin; refine wpList_append_own _ rfl _ _ 39 rfl w1.heap.size 9 i0 (.string ⟨#[]⟩) 1 16 Tryz.underlying39 hi hz0 hz1 hz2 rfl (by decide) u6 k (stmVs (xs.take k)) rfl (hown4.alloc _) ⟨w4.heap.size, 0, none⟩ 1 1 [.string ⟨tx.toArray⟩] rfl rfl ?c1 ?c2 ?c3 ?c4 ?c5 ?_)
        case c1 => exact cell_one_new _ _ _
        case c2 => intro u hu; simp at hu; subst hu; rfl
        case c3 => unfold maxLen; omega
        case c4 => omega
        case c5 => simp; omega
        intro v' w5 hown' hgrow _
        have HO5 := Lib.hid hown'
        have HG5 := Lib.hid hgrow
        clear hown' hgrow
        go_wp2_with fail
        go_roundw
        case rel =>
          refine ⟨k + 1, by omega, by go_num, ?_, ((hbr.trans (HB4.out.mono hszr)).alloc (by omega) _).grown HG5.out (by simp; omega) (fun j hj => (HOw.out.lt j hj).1)⟩
          show World.ownsRow _ _ _ _ _ _ _
          rw [HT.out]; exact HO5.out
        case measure => simp [intOf]; omega
      | chg g d =>
        simp only [IsStm] at hst2
        injection hst2 with h1 h2; subst h1; subst h2
        have hm := meth_chg (.int .u8 g.toNat) (.int .u8 d.toNat)
        go_wp2_with fail
        refine HC.out.mono ?_
        rintro e w4 ⟨rfl, hb4⟩
        have hsz4 := hb4.size
        have HB4 := Lib.hid hb4
        have hown4 := ownsRow_of HOw.out (fun j hj => hb4.block j (HOw.out.lt j hj).2)
        clear hb4
        unfold strV
        go_wp2_with (at_builtin; refine wpList_append_own _ rfl _ _ 39 rfl w1.heap.size 9 i0 (.string ⟨#[]⟩) 1 16 Tryz.underlying39 hi hz0 hz1 hz2 rfl (by decide) u6 k (stmVs (xs.take k)) rfl (hown4.alloc _) ⟨w4.heap.size, 0, none⟩ 1 1 [.string ⟨tx.toArray⟩] rfl rfl ?c1 ?c2 ?c3 ?c4 ?c5 ?_)
        case c1 => exact cell_one_new _ _ _
        case c2 => intro u hu; simp at hu; subst hu; rfl
        case c3 => unfold maxLen; omega
        case c4 => omega
        case c5 => simp; omega
        intro v' w5 hown' hgrow _
        have HO5 := Lib.hid hown'
        have HG5 := Lib.hid hgrow
        clear hown' hgrow
        go_wp2_with fail
        go_roundw
        case rel =>
          refine ⟨k + 1, by omega, by go_num, ?_, ((hbr.trans (HB4.out.mono hszr)).alloc (by omega) _).grown HG5.out (by simp; omega) (fun j hj => (HOw.out.lt j hj).1)⟩
          show World.ownsRow _ _ _ _ _ _ _
          rw [HT.out]; exact HO5.out
        case measure => simp [intOf]; omega
      | prt =>
        simp only [IsStm] at hst2
        injection hst2 with h1 h2; subst h1; subst h2
        have hm := meth_prt
        go_wp2_with fail
        refine HC.out.mono ?_
        rintro e w4 ⟨rfl, hb4⟩
        have hsz4 := hb4.size
        have HB4 := Lib.hid hb4
        have hown4 := ownsRow_of HOw.out (fun j hj => hb4.block j (HOw.out.lt j hj).2)
        clear hb4
        unfold strV
        go_wp2_with (at_builtin; refine wpList_append_own _ rfl _ _ 39 rfl w1.heap.size 9 i0 (.string ⟨#[]⟩) 1 16 Tryz.underlying39 hi hz0 hz1 hz2 rfl (by decide) u6 k (stmVs (xs.take k)) rfl (hown4.alloc _) ⟨w4.heap.size, 0, none⟩ 1 1 [.string ⟨tx.toArray⟩] rfl rfl ?c1 ?c2 ?c3 ?c4 ?c5 ?_)
        case c1 => exact cell_one_new _ _ _
        case c2 => intro u hu; simp at hu; subst hu; rfl
        case c3 => unfold maxLen; omega
        case c4 => omega
        case c5 => simp; omega
        intro v' w5 hown' hgrow _
        have HO5 := Lib.hid hown'
        have HG5 := Lib.hid hgrow
        clear hown' hgrow
        go_wp2_with fail
        go_roundw
        case rel =>
          refine ⟨k + 1, by omega, by go_num, ?_, ((hbr.trans (HB4.out.mono hszr)).alloc (by omega) _).grown HG5.out (by simp; omega) (fun j hj => (HOw.out.lt j hj).1)⟩
          show World.ownsRow _ _ _ _ _ _ _
          rw [HT.out]; exact HO5.out
        case measure => simp [intOf]; omega
      | call d =>
        simp only [IsStm] at hst2
        injection hst2 with h1 h2; subst h1; subst h2
        have hm := meth_call (.int .u8 d.toNat)
        go_wp2_with fail
        refine HC.out.mono ?_
        rintro e w4 ⟨rfl, hb4⟩
        have hsz4 := hb4.size
        have HB4 := Lib.hid hb4
        have hown4 := ownsRow_of HOw.out (fun j hj => hb4.block j (HOw.out.lt j hj).2)
        clear hb4
        unfold strV
        go_wp2_with (at_builtin; refine wpList_append_own _ rfl _ _ 39 rfl w1.heap.size 9 i0 (.string ⟨#[]⟩) 1 16 Tryz.underlying39 hi hz0 hz1 hz2 rfl (by decide) u6 k (stmVs (xs.take k)) rfl (hown4.alloc _) ⟨w4.heap.size, 0, none⟩ 1 1 [.string ⟨tx.toArray⟩] rfl rfl ?c1 ?c2 ?c3 ?c4 ?c5 ?_)
        case c1 => exact cell_one_new _ _ _
        case c2 => intro u hu; simp at hu; subst hu; rfl
        case c3 => unfold maxLen; omega
        case c4 => omega
        case c5 => simp; omega
        intro v' w5 hown' hgrow _
        have HO5 := Lib.hid hown'
        have HG5 := Lib.hid hgrow
        clear hown' hgrow
        go_wp2_with fail
        go_roundw
        case rel =>
          refine ⟨k + 1, by omega, by go_num, ?_, ((hbr.trans (HB4.out.mono hszr)).alloc (by omega) _).grown HG5.out (by simp; omega) (fun j hj => (HOw.out.lt j hj).1)⟩
          show World.ownsRow _ _ _ _ _ _ _
          rw [HT.out]; exact HO5.out
        case measure => simp [intOf]; omega
      | cho p q =>
        simp only [IsStm] at hst2
        obtain ⟨va, vb, vas, vbs, he, _⟩ := hst2
        injection he with h1 h2; subst h1; subst h2
        have hm := meth_cho va vb
        go_wp2_with fail
        refine HC.out.mono ?_
        rintro e w4 ⟨rfl, hb4⟩
        have hsz4 := hb4.size
        have HB4 := Lib.hid hb4
        have hown4 := ownsRow_of HOw.out (fun j hj => hb4.block j (HOw.out.lt j hj).2)
        clear hb4
        unfold strV
        go_wp2_with (at_builtin; refine wpList_append_own _ rfl _ _ 39 rfl w1.heap.size 9 i0 (.string ⟨#[]⟩) 1 16 Tryz.underlying39 hi hz0 hz1 hz2 rfl (by decide) u6 k (stmVs (xs.take k)) rfl (hown4.alloc _) ⟨w4.heap.size, 0, none⟩ 1 1 [.string ⟨tx.toArray⟩] rfl rfl ?c1 ?c2 ?c3 ?c4 ?c5 ?_)
        case c1 => exact cell_one_new _ _ _
        case c2 => intro u hu; simp at hu; subst hu; rfl
        case c3 => unfold maxLen; omega
        case c4 => omega
        case c5 => simp; omega
        intro v' w5 hown' hgrow _
        have HO5 := Lib.hid hown'
        have HG5 := Lib.hid hgrow
        clear hown' hgrow
        go_wp2_with fail
        go_roundw
        case rel =>
          refine ⟨k + 1, by omega, by go_num, ?_, ((hbr.trans (HB4.out.mono hszr)).alloc (by omega) _).grown HG5.out (by simp; omega) (fun j hj => (HOw.out.lt j hj).1)⟩
          show World.ownsRow _ _ _ _ _ _ _
          rw [HT.out]; exact HO5.out
        case measure => simp [intOf]; omega
    · have hkl : k = ln := by omega
      subst hkl
      have hall : xs.take k = xs := List.take_of_length_le (by rw [← HL.out]; exact Nat.le_refl _)
      have hO' := HOw.out
      rw [hall] at hO'
      have hO2 := ownsRow_base (base' := w.heap.size) hO' (fun j hj => Nat.le_trans hsz1 (hO'.lt j hj).1)
      have HOf := Lib.hid hO2
      clear HOw hO' hO2 hall
      go_wp2_with fail
      go_ret2
      refine ⟨_, _, xs, rfl, .inr ⟨rfl, HN.out⟩, ?_, hb.trans (hbr.mono hsz1)⟩
      have h9 := HOf.out
      rw [HL.out] at h9
      exact h9

theorem impl_statements (s : ByteArray) (w : World) (hm : s.size ≤ 1073741824) :
    Calls Tryz.prog 20 #[.string s] w (StmsTo s w) := by
  cases h : bodyOf s with
  | none => exact impl_none s w hm h
  | some xs => exact impl_some s w xs hm h

theorem spec_statements' (s : ByteArray) (w : World) (hm : s.size ≤ 1073741824) :
    Calls Tryz.prog 44 #[.string s] w (StmsTo s w) := spec_statements s w hm
end Go.Proofs.YtkdnbdgpcgookaaGreatDoor
