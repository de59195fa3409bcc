/- The model's ParseAspect, as the plain parA says. Condition: a text of at most 2^30 bytes. -/
import Derived.Test.YtkdnbdgpcgookaaGreatDoorPa
import Derived.Test.YtkdnbdgpcgookaaGreatDoorSasp
namespace Go.Proofs.YtkdnbdgpcgookaaGreatDoor
open Go.RowKit Gram

mutual
theorem stm_space (x : Stm) (h : x.wf = true) : 32 ∉ x.txt := by
  match x with
  | .chg g d =>
    simp only [Stm.wf, Bool.and_eq_true] at h
    have hd : d ≠ 32 := by rintro rfl; exact absurd h.2 (by decide)
    rcases sgn_cases h.1 with rfl | rfl | rfl <;> simp [Stm.txt, hd.symm]
  | .prt => simp [Stm.txt]
  | .pro => simp [Stm.txt]
  | .call c =>
    simp only [Stm.wf] at h
    have hd : c ≠ 32 := by rintro rfl; exact absurd h (by decide)
    simp [Stm.txt, hd.symm]
  | .cho a b =>
    simp only [Stm.wf, Bool.and_eq_true] at h
    have ha := stms_space a h.1
    have hb := stms_space b h.2
    simp [Stm.txt, ha, hb]
theorem stms_space (xs : List Stm) (h : wfs xs = true) : 32 ∉ txts xs := by
  match xs with
  | [] => simp [txts]
  | x :: xs =>
    simp only [wfs, Bool.and_eq_true] at h
    have ha := stm_space x h.1
    have hb := stms_space xs h.2
    simp [txts, ha, hb]
end
theorem adv_space {b : ByteArray} {xs : List Stm} (h : advOf b = some xs) : 32 ∉ b.data.toList := by
  obtain ⟨_, htx, hwf, _⟩ := advOf_some h
  rw [htx]; exact stms_space xs hwf
theorem asp_space {k c b : ByteArray} (h : (aspOf k c b).isSome = true) : 32 ∉ b.data.toList := by
  obtain ⟨⟨n, xs⟩, h⟩ := Option.isSome_iff_exists.1 h
  exact adv_space (aspOf_some h).2.2.1

/-- a text cut once, and cut everywhere -/
theorem cut_cases (l : List UInt8) : (32 ∉ l ∧ Lib.cut l [32] = (l, [], false) ∧ w_cuts l = [l]) ∨ ∃ a r, 32 ∈ l ∧ Lib.cut l [32] = (a, r, true) ∧ w_cuts l = a :: w_cuts r := by
  rcases w_index_cases 32 l with ⟨h1, h2⟩ | ⟨a, b, h1, h2, h3⟩
  · left
    refine ⟨h2, ?_, ?_⟩
    · unfold Lib.cut; rw [h1]; rfl
    · have := w_cutsP_none l [] h2
      simpa [w_cuts] using this
  · right
    refine ⟨a, b, by rw [h1]; simp, ?_, ?_⟩
    · unfold Lib.cut
      rw [h3, if_pos (by omega)]
      show (l.take a.length, l.drop (a.length + 1), true) = _
      rw [h1]; simp
    · have := w_cutsP_hit a b [] h2
      rw [h1]
      simpa [w_cuts] using this

theorem cuts_pos (l : List UInt8) : 1 ≤ (w_cuts l).length := by
  rcases cut_cases l with ⟨_, _, h⟩ | ⟨a, r, _, _, h⟩ <;> rw [h] <;> simp

/-- what the parts of a text say of the aspect that it tells -/
theorem par_three (s : ByteArray) (k c b : List UInt8) (h : w_cuts s.data.toList = [k, c, b]) :
    parA s = if (aspOf (strL k) (strL c) (strL b)).isSome = true then some (strL k, strL c, strL b) else none := by
  rcases cut_cases s.data.toList with ⟨_, _, h2⟩ | ⟨a1, r1, _, h1, h2⟩
  · rw [h2] at h; cases h
  · rw [h2] at h
    injection h with e1 h
    rcases cut_cases r1 with ⟨_, _, h4⟩ | ⟨a2, r2, _, h3, h4⟩
    · rw [h4] at h; cases h
    · rw [h4] at h
      injection h with e2 h
      rcases cut_cases r2 with ⟨_, _, h6⟩ | ⟨a3, r3, _, _, h6⟩
      · rw [h6] at h
        injection h with e3
        subst e1; subst e2; subst e3
        rw [parA, two_is s a1 r1 a2 r2 true true h1 h3, if_pos rfl]
      · rw [h6] at h
        injection h with _ h
        have := cuts_pos r3
        rw [h] at this
        simp at this
theorem par_not (s : ByteArray) (h : (w_cuts s.data.toList).length ≠ 3) : parA s = none := by
  rcases cut_cases s.data.toList with ⟨_, h1, _⟩ | ⟨a1, r1, _, h1, h2⟩
  · have h3 : Lib.cut ([] : List UInt8) [32] = ([], [], false) := by
      rcases cut_cases [] with ⟨_, h3, _⟩ | ⟨_, _, h4, _⟩
      · exact h3
      · simp at h4
    rw [parA, two_is s _ [] [] [] false false h1 h3]
    rfl
  · rcases cut_cases r1 with ⟨_, h3, _⟩ | ⟨a2, r2, _, h3, h4⟩
    · rw [parA, two_is s a1 r1 _ _ true false h1 h3]; rfl
    · rw [parA, two_is s a1 r1 a2 r2 true true h1 h3, if_pos rfl]
      dsimp only
      rcases cut_cases r2 with ⟨_, _, h6⟩ | ⟨a3, r3, h5, _, _⟩
      · rw [h2, h4, h6] at h; exact absurd rfl h
      · rw [if_neg]
        intro h7
        exact asp_space h7 h5

set_option maxHeartbeats 2000000 in
set_option maxRecDepth 100000 in
theorem spec_par (s : ByteArray) (w : World) (hs : s.size ≤ 1073741824) (hl : ∀ t ∈ w_cuts s.data.toList, t.length ≤ 1073741824) :
    Calls Tryz.prog 13 #[.string s] w fun e w' => e = .returned (parV (parA s)) ∧ Below w.heap.size w w' := by
  have HC := Lib.hid (fun w' => w_cut_any s w' hs)
  have HR := Lib.hid (Cell3.new w (.string ⟨#[]⟩) (.string ⟨#[]⟩) (.string ⟨#[]⟩))
  have HB0 := Lib.hid ((Below.refl _ w).alloc (Nat.le_refl _) (.cells #[.string ⟨#[]⟩, .string ⟨#[]⟩, .string ⟨#[]⟩] 24))
  by_cases h3 : (w_cuts s.data.toList).length = 3
  · obtain ⟨k, c, b, hp⟩ : ∃ k c b, w_cuts s.data.toList = [k, c, b] := by
      match w_cuts s.data.toList, h3 with
      | [k, c, b], _ => exact ⟨k, c, b, rfl⟩
    have hq := par_three s k c b hp
    rw [hp] at HC hl
    have HA := Lib.hid (fun w' => spec_asp (strL k) (strL c) (strL b) w' (by rw [strL_size]; exact hl c (by simp)) (by rw [strL_size]; exact hl b (by simp)))
    rw [hq]
    clear hl h3 hp hq
    simp only [w_partVs, List.map_cons, List.map_nil, w_txtV, List.length_cons, List.length_nil, Nat.zero_add, Nat.reduceAdd] at HC
    unfold parV aspV strL at *
    generalize (⟨k.toArray⟩ : ByteArray) = kk at *
    generalize (⟨c.toArray⟩ : ByteArray) = cc at *
    generalize (⟨b.toArray⟩ : ByteArray) = bb at *
    generalize (aspOf kk cc bb).isSome = t at *
    obtain ⟨q, hq⟩ : ∃ q, q = parV (if t = true then some (kk, cc, bb) else none) := ⟨_, rfl⟩
    have HQ := Lib.hid hq
    unfold parV aspV at hq
    rw [← hq]
    clear hq
    go_enter Tryz.func13, Tryz.ntmps13
    go_wp2_with fail
    refine (HC.out _).mono ?_
    rintro e w1 ⟨v, rfl, hown, hb1⟩
    have HB1 := Lib.hid (HB0.out.trans (hb1.mono (by simp)))
    have HR1 := Lib.hid (HR.out.later hb1)
    obtain ⟨g, cp, rfl⟩ : ∃ g cp, v = .slice (some ⟨g, 0, none⟩) 3 cp := by
      rcases hown.2 with ⟨h1, h2⟩ | ⟨g, cap, cur, h1, _⟩
      · omega
      · exact ⟨g, cap, h1⟩
    have k0 := row_cell hown 0 (.string kk) rfl
    have k1 := row_cell hown 1 (.string cc) rfl
    have k2 := row_cell hown 2 (.string bb) rfl
    have hgl : g < w1.heap.size := World.block_lt_of_cell? _ _ k0
    have j0 := fun o => (World.cell?_of_block (a := ⟨g, 0, none⟩) (alloc_heap (w := w1) o g hgl)).trans k0
    have j1 := fun o => (World.cell?_of_block (a := ⟨g, 1, none⟩) (alloc_heap (w := w1) o g hgl)).trans k1
    have j2 := fun o => (World.cell?_of_block (a := ⟨g, 2, none⟩) (alloc_heap (w := w1) o g hgl)).trans k2
    clear hown hb1 hgl
    obtain ⟨q0, q1, q2, g0, g1, g2⟩ := HR1.out.read
    go_wp2_with fail
    go_region
    have HR2 := Lib.hid (show Cell3 (w1.alloc (.cells #[.string kk, .string cc, .string bb] 24)).drew w.heap.size (.string ⟨#[]⟩) (.string ⟨#[]⟩) (.string ⟨#[]⟩) from HR1.out.later ((Below.refl _ _).alloc (Nat.le_refl _) _).drew)
    have HA2 := Lib.hid (show Cell3 (w1.alloc (.cells #[.string kk, .string cc, .string bb] 24)).drew w1.heap.size (.string kk) (.string cc) (.string bb) from Cell3.new _ _ _ _)
    have HB2 := Lib.hid (show Below w.heap.size w (w1.alloc (.cells #[.string kk, .string cc, .string bb] 24)).drew from (HB1.out.alloc HB1.out.size _).drew)
    have HL := Lib.hid (show w.heap.size < w1.heap.size from heap_lt HR1.out)
    clear q0 q1 q2 g0 g1 g2 k0 k1 k2 j0 j1 j2
    generalize (w1.alloc (.cells #[.string kk, .string cc, .string bb] 24)).drew = w2 at *
    obtain ⟨a0, a1, a2, _⟩ := HA2.out.read
    cases t with
    | false =>
      have HV := Lib.hid (show q = .tuple #[.agg #[.string ⟨#[]⟩, .string ⟨#[]⟩, .string ⟨#[]⟩], .bool false] from HQ.out)
      go_wp2_with fail
      refine (HA.out _).mono ?_
      rintro e w3 ⟨rfl, hb3⟩
      have HB3 := Lib.hid (HB2.out.trans (hb3.mono HB2.out.size))
      have HR3 := Lib.hid (HR2.out.later hb3)
      obtain ⟨q0, q1, q2, g0, g1, g2⟩ := HR3.out.read
      clear hb3
      go_wp2_with fail
      obtain ⟨r0, r1, r2, _⟩ := (HR3.out.put (.string ⟨#[]⟩) (.string ⟨#[]⟩) (.string ⟨#[]⟩)).read
      refine bodyPost_ret (v := .tuple #[.agg #[.string ⟨#[]⟩, .string ⟨#[]⟩, .string ⟨#[]⟩], .bool false]) ?_ rfl ⟨by rw [HV.out], ((HB3.out.setCell (Nat.le_refl _) _).setCell (Nat.le_refl _) _).setCell (Nat.le_refl _) _⟩
      simp [results, Tryz.results13, go_sem, r0, r1, r2]
    | true =>
      have HV := Lib.hid (show q = .tuple #[.agg #[.string kk, .string cc, .string bb], .bool true] from HQ.out)
      go_wp2_with fail
      refine (HA.out _).mono ?_
      rintro e w3 ⟨rfl, hb3⟩
      have HB3 := Lib.hid (HB2.out.trans (hb3.mono HB2.out.size))
      have HR3 := Lib.hid (HR2.out.later hb3)
      obtain ⟨q0, q1, q2, g0, g1, g2⟩ := HR3.out.read
      clear a0 a1 a2
      obtain ⟨a0, a1, a2, _⟩ := (HA2.out.later hb3).read
      clear hb3
      go_wp2_with fail
      obtain ⟨r0, r1, r2, _⟩ := (HR3.out.put (.string kk) (.string cc) (.string bb)).read
      refine bodyPost_ret (v := .tuple #[.agg #[.string kk, .string cc, .string bb], .bool true]) ?_ rfl ⟨by rw [HV.out], ((HB3.out.setCell (Nat.le_refl _) _).setCell (Nat.le_refl _) _).setCell (Nat.le_refl _) _⟩
      simp [results, Tryz.results13, go_sem, r0, r1, r2]
  · have hq := par_not s h3
    rw [hq]
    clear hq hl
    have HN := Lib.hid h3
    clear h3
    unfold parV aspV
    go_enter Tryz.func13, Tryz.ntmps13
    go_wp2_with fail
    refine (HC.out _).mono ?_
    rintro e w1 ⟨v, rfl, hown, hb1⟩
    have HB1 := Lib.hid (HB0.out.trans (hb1.mono (by simp)))
    have HR1 := Lib.hid (HR.out.later hb1)
    obtain ⟨ad, ln, cp, rfl, hln⟩ : ∃ ad ln cp, v = .slice ad ln cp ∧ ((ln : Int) == 3) = false := by
      rcases hown.2 with ⟨h1, h2⟩ | ⟨g, cap, cur, h1, _⟩
      · exact ⟨_, _, _, h1, by rw [beq_eq_false_iff_ne]; omega⟩
      · exact ⟨_, _, _, h1, by have := HN.out; rw [beq_eq_false_iff_ne]; omega⟩
    clear hown hb1
    obtain ⟨q0, q1, q2, g0, g1, g2⟩ := HR1.out.read
    go_wp2_with fail
    obtain ⟨r0, r1, r2, _⟩ := (HR1.out.put (.string ⟨#[]⟩) (.string ⟨#[]⟩) (.string ⟨#[]⟩)).read
    refine bodyPost_ret (v := .tuple #[.agg #[.string ⟨#[]⟩, .string ⟨#[]⟩, .string ⟨#[]⟩], .bool false]) ?_ rfl ⟨rfl, ((HB1.out.setCell (Nat.le_refl _) _).setCell (Nat.le_refl _) _).setCell (Nat.le_refl _) _⟩
    simp [results, Tryz.results13, go_sem, r0, r1, r2]
end Go.Proofs.YtkdnbdgpcgookaaGreatDoor
