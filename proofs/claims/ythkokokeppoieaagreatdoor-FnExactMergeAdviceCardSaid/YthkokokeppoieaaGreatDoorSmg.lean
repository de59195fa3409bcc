/- The model's MergeAdvice, as the plain mgA says. Condition: texts of at most 2^20 bytes together. -/
import Derived.Test.YthkokokeppoieaaGreatDoorPut
import Derived.Test.YthkokokeppoieaaGreatDoorSasp
namespace Go.Proofs.YthkokokeppoieaaGreatDoor
open Go.RowKit Gram

theorem asp_body {k c b : ByteArray} (h : (aspOf k c b).isSome = true) : b.size ≤ 60 := by
  obtain ⟨q, hq⟩ := Option.isSome_iff_exists.1 h
  obtain ⟨n, xs⟩ := q
  exact (advOf_some (aspOf_some hq).2.2.1).1
theorem mgS_le (bef aft : Bool) (a b : ByteArray) (ha : a.size ≤ 60) (hb : b.size ≤ 60) : (mgS bef aft a b).size ≤ 4000 := by
  unfold mgS
  split
  · rw [ByteArray.size_append]; omega
  · split
    · rw [ByteArray.size_append]; omega
    · rw [txtOf_size]
      refine Nat.le_trans (putK_len _ _) ?_
      rw [show b.data.toList.length = b.size by simp, show a.data.toList.length = a.size by simp]
      exact Nat.le_trans (Nat.mul_le_mul ha (show b.size + 1 ≤ 61 by omega)) (by decide)

set_option maxHeartbeats 4000000 in
set_option maxRecDepth 100000 in
theorem smg_road (k c b k' c' b' B : ByteArray) (bef aft : Bool) (hbef : isBefore k = bef) (haft : isAfter k = aft) (hB : B = mgS bef aft b b') (w : World) (hs : k.size + c.size + b.size + (k'.size + c'.size + b'.size) ≤ 1048576) :
    Calls Tryz.prog 13 #[aspV k c b, aspV k' c' b'] w fun e w' => e = .returned (parV (if ((aspOf k c b).isSome && (aspOf k' c' b').isSome && (k.toList == k'.toList) && (c.toList == c'.toList) && (aspOf k c B).isSome) = true then some (k, c, B) else none)) ∧ Below w.heap.size w w' := by
  have HA := Lib.hid (fun w' => spec_asp k c b w' (by omega) (by omega))
  have HO := Lib.hid (fun w' => spec_asp k' c' b' w' (by omega) (by omega))
  have HN := Lib.hid (fun w' (h1 : (aspOf k c b).isSome = true) (h2 : (aspOf k' c' b').isSome = true) => spec_asp k c B w' (by omega) (by rw [hB]; exact Nat.le_trans (mgS_le bef aft b b' (asp_body h1) (asp_body h2)) (by decide)))
  have e1 := str_sum b b' (by omega)
  have e2 := str_sum b' b (by omega)
  have HP := Lib.hid (put_any b b' (by omega) (by omega))
  obtain ⟨w2, hw2⟩ : ∃ w2, w2 = (((w.alloc (.cells #[.string k, .string c, .string b] 34)).alloc (.cells #[.string k', .string c', .string b'] 34)).alloc (.cells #[.string ⟨#[]⟩, .string ⟨#[]⟩, .string ⟨#[]⟩] 34)).alloc (.cells #[.string k, .string c, .string B] 34) := ⟨_, rfl⟩
  have Z1 : (w.alloc (.cells #[.string k, .string c, .string b] 34)).heap.size = w.heap.size + 1 := alloc_size' _ _
  have Z2 : ((w.alloc (.cells #[.string k, .string c, .string b] 34)).alloc (.cells #[.string k', .string c', .string b'] 34)).heap.size = w.heap.size + 1 + 1 := by rw [alloc_size', Z1]
  have Z3 : (((w.alloc (.cells #[.string k, .string c, .string b] 34)).alloc (.cells #[.string k', .string c', .string b'] 34)).alloc (.cells #[.string ⟨#[]⟩, .string ⟨#[]⟩, .string ⟨#[]⟩] 34)).heap.size = w.heap.size + 1 + 1 + 1 := by rw [alloc_size', Z2]
  have up : ∀ (w0 : World) (o : Obj), Below w0.heap.size w0 (w0.alloc o) := fun w0 o => (Below.refl _ _).alloc (Nat.le_refl _) _
  have HX2 := Lib.hid (show Cell3 w2 w.heap.size (.string k) (.string c) (.string b) by
    rw [hw2]; exact (((Cell3.new _ _ _ _).later (up _ _)).later (up _ _)).later (up _ _))
  have HY2 := Lib.hid (show Cell3 w2 (w.heap.size + 1) (.string k') (.string c') (.string b') by
    rw [hw2, ← Z1]; exact ((Cell3.new _ _ _ _).later (up _ _)).later (up _ _))
  have HR2 := Lib.hid (show Cell3 w2 (w.heap.size + 1 + 1) (.string ⟨#[]⟩) (.string ⟨#[]⟩) (.string ⟨#[]⟩) by
    rw [hw2, ← Z2]; exact (Cell3.new _ _ _ _).later (up _ _))
  have HN2 := Lib.hid (show Cell3 w2 (w.heap.size + 1 + 1 + 1) (.string k) (.string c) (.string B) by rw [hw2, ← Z3]; exact Cell3.new _ _ _ _)
  have HW2 := Lib.hid (show Below w.heap.size w w2 by rw [hw2]; exact ((((Below.refl _ w).alloc (Nat.le_refl _) _).alloc (by simp) _).alloc (by simp; omega) _).alloc (by simp; omega) _)
  have HE := Lib.hid hw2
  clear hs Z1 Z2 Z3 up hw2
  obtain ⟨rv, hrv⟩ : ∃ rv, rv = parV (if ((aspOf k c b).isSome && (aspOf k' c' b').isSome && (k.toList == k'.toList) && (c.toList == c'.toList) && (aspOf k c B).isSome) = true then some (k, c, B) else none) := ⟨_, rfl⟩
  rw [← hrv]
  have HV := Lib.hid hrv
  clear hrv
  unfold parV at HV
  unfold aspV at *
  obtain ⟨a0, b0⟩ := word_is k _ _ hbef
  obtain ⟨a1, b1⟩ := word_is k _ _ haft
  clear hbef haft
  generalize hp : (aspOf k c b).isSome = p at *
  generalize hq : (aspOf k' c' b').isSome = q at *
  generalize (aspOf k c B).isSome = r at *
  clear hp hq
  generalize hkk : (k.toList == k'.toList) = kk at *
  generalize hcc : (c.toList == c'.toList) = cc at *
  have h3 : (bef = true ∧ B = b ++ b') ∨ (bef = false ∧ aft = true ∧ B = b' ++ b) ∨ (bef = false ∧ aft = false ∧ B = txtOf (putK b.data.toList b'.data.toList)) := by
    cases bef with
    | true => exact .inl ⟨rfl, hB⟩
    | false => cases aft with
      | true => exact .inr (.inl ⟨rfl, rfl, hB⟩)
      | false => exact .inr (.inr ⟨rfl, rfl, hB⟩)
  clear hB
  have HK := Lib.hid hkk
  have HC := Lib.hid hcc
  clear hkk hcc
  obtain ⟨BB, hBE⟩ : ∃ BB, BB = B := ⟨_, rfl⟩
  rw [← hBE] at h3 HE HN2 HN HV
  clear hBE
  rcases h3 with ⟨rfl, hBB⟩ | ⟨rfl, rfl, hBB⟩ | ⟨rfl, rfl, hBB⟩
  all_goals
    go_enter Tryz.func13, Tryz.ntmps13
    have HBB := Lib.hid hBB
    clear hBB
    go_wp2_with fail
    try (refine (HP.out _).mono ?_
         rintro e w1 ⟨rfl, rfl⟩
         go_wp2_with fail)
    rw [← HBB.out, ← HE.out]
    refine (HA.out _).mono ?_
    rintro e w3 ⟨rfl, hb3⟩
    have HX3 := Lib.hid (HX2.out.later hb3)
    have HY3 := Lib.hid (HY2.out.later hb3)
    have HR3 := Lib.hid (HR2.out.later hb3)
    have HN3 := Lib.hid (HN2.out.later hb3)
    have HW3 := Lib.hid (HW2.out.trans (hb3.mono HW2.out.size))
    clear hb3
    cases p with
    | false =>
      have HV0 := Lib.hid (show rv = .tuple #[.agg #[.string ⟨#[]⟩, .string ⟨#[]⟩, .string ⟨#[]⟩], .bool false] from HV.out)
      obtain ⟨q0, q1, q2, f0, f1, f2⟩ := HR3.out.read
      go_wp2_with fail
      obtain ⟨r0, r1, r2, _⟩ := (HR3.out.put (.string ⟨#[]⟩) (.string ⟨#[]⟩) (.string ⟨#[]⟩)).read
      refine bodyPost_ret (v := .tuple #[.agg #[.string ⟨#[]⟩, .string ⟨#[]⟩, .string ⟨#[]⟩], .bool false]) ?_ rfl ⟨by rw [HV0.out], ((HW3.out.setCell (by simp; omega) _).setCell (by simp; omega) _).setCell (by simp; omega) _⟩
      simp [results, Tryz.results13, go_sem, r0, r1, r2]
    | true =>
      obtain ⟨y0, y1, y2, _⟩ := HY3.out.read
      go_wp2_with fail
      refine (HO.out _).mono ?_
      rintro e w4 ⟨rfl, hb4⟩
      clear y0 y1 y2
      have HX4 := Lib.hid (HX3.out.later hb4)
      have HY4 := Lib.hid (HY3.out.later hb4)
      have HR4 := Lib.hid (HR3.out.later hb4)
      have HN4 := Lib.hid (HN3.out.later hb4)
      have HW4 := Lib.hid (HW3.out.trans (hb4.mono HW3.out.size))
      clear hb4
      cases q with
      | false =>
        have HV0 := Lib.hid (show rv = .tuple #[.agg #[.string ⟨#[]⟩, .string ⟨#[]⟩, .string ⟨#[]⟩], .bool false] from HV.out)
        obtain ⟨q0, q1, q2, f0, f1, f2⟩ := HR4.out.read
        go_wp2_with fail
        obtain ⟨r0, r1, r2, _⟩ := (HR4.out.put (.string ⟨#[]⟩) (.string ⟨#[]⟩) (.string ⟨#[]⟩)).read
        refine bodyPost_ret (v := .tuple #[.agg #[.string ⟨#[]⟩, .string ⟨#[]⟩, .string ⟨#[]⟩], .bool false]) ?_ rfl ⟨by rw [HV0.out], ((HW4.out.setCell (by simp; omega) _).setCell (by simp; omega) _).setCell (by simp; omega) _⟩
        simp [results, Tryz.results13, go_sem, r0, r1, r2]
      | true =>
        obtain ⟨x0, x1, _⟩ := HX4.out.read
        obtain ⟨y0, y1, _⟩ := HY4.out.read
        have hkk := HK.out
        have hcc := HC.out
        cases kk with
        | false =>
          have HV0 := Lib.hid (show rv = .tuple #[.agg #[.string ⟨#[]⟩, .string ⟨#[]⟩, .string ⟨#[]⟩], .bool false] from HV.out)
          obtain ⟨q0, q1, q2, f0, f1, f2⟩ := HR4.out.read
          go_wp2_with fail
          obtain ⟨r0, r1, r2, _⟩ := (HR4.out.put (.string ⟨#[]⟩) (.string ⟨#[]⟩) (.string ⟨#[]⟩)).read
          refine bodyPost_ret (v := .tuple #[.agg #[.string ⟨#[]⟩, .string ⟨#[]⟩, .string ⟨#[]⟩], .bool false]) ?_ rfl ⟨by rw [HV0.out], ((HW4.out.setCell (by simp; omega) _).setCell (by simp; omega) _).setCell (by simp; omega) _⟩
          simp [results, Tryz.results13, go_sem, r0, r1, r2]
        | true =>
          cases cc with
          | false =>
            have HV0 := Lib.hid (show rv = .tuple #[.agg #[.string ⟨#[]⟩, .string ⟨#[]⟩, .string ⟨#[]⟩], .bool false] from HV.out)
            obtain ⟨q0, q1, q2, f0, f1, f2⟩ := HR4.out.read
            go_wp2_with fail
            obtain ⟨r0, r1, r2, _⟩ := (HR4.out.put (.string ⟨#[]⟩) (.string ⟨#[]⟩) (.string ⟨#[]⟩)).read
            refine bodyPost_ret (v := .tuple #[.agg #[.string ⟨#[]⟩, .string ⟨#[]⟩, .string ⟨#[]⟩], .bool false]) ?_ rfl ⟨by rw [HV0.out], ((HW4.out.setCell (by simp; omega) _).setCell (by simp; omega) _).setCell (by simp; omega) _⟩
            simp [results, Tryz.results13, go_sem, r0, r1, r2]
          | true =>
            obtain ⟨n0, n1, n2, _⟩ := HN4.out.read
            go_wp2_with fail
            refine (HN.out _ trivial trivial).mono ?_
            rintro e w5 ⟨rfl, hb5⟩
            clear x0 x1 y0 y1 n0 n1 n2
            have HX5 := Lib.hid (HX4.out.later hb5)
            have HY5 := Lib.hid (HY4.out.later hb5)
            have HR5 := Lib.hid (HR4.out.later hb5)
            have HN5 := Lib.hid (HN4.out.later hb5)
            have HW5 := Lib.hid (HW4.out.trans (hb5.mono HW4.out.size))
            clear hb5
            cases r with
            | false =>
              have HV0 := Lib.hid (show rv = .tuple #[.agg #[.string ⟨#[]⟩, .string ⟨#[]⟩, .string ⟨#[]⟩], .bool false] from HV.out)
              obtain ⟨q0, q1, q2, f0, f1, f2⟩ := HR5.out.read
              go_wp2_with fail
              obtain ⟨r0, r1, r2, _⟩ := (HR5.out.put (.string ⟨#[]⟩) (.string ⟨#[]⟩) (.string ⟨#[]⟩)).read
              refine bodyPost_ret (v := .tuple #[.agg #[.string ⟨#[]⟩, .string ⟨#[]⟩, .string ⟨#[]⟩], .bool false]) ?_ rfl ⟨by rw [HV0.out], ((HW5.out.setCell (by simp; omega) _).setCell (by simp; omega) _).setCell (by simp; omega) _⟩
              simp [results, Tryz.results13, go_sem, r0, r1, r2]
            | true =>
              have HV0 := Lib.hid (show rv = .tuple #[.agg #[.string k, .string c, .string BB], .bool true] from HV.out)
              obtain ⟨q0, q1, q2, f0, f1, f2⟩ := HR5.out.read
              obtain ⟨n0, n1, n2, _⟩ := HN5.out.read
              go_wp2_with fail
              obtain ⟨r0, r1, r2, _⟩ := (HR5.out.put (.string k) (.string c) (.string BB)).read
              refine bodyPost_ret (v := .tuple #[.agg #[.string k, .string c, .string BB], .bool true]) ?_ rfl ⟨by rw [HV0.out], ((HW5.out.setCell (by simp; omega) _).setCell (by simp; omega) _).setCell (by simp; omega) _⟩
              simp [results, Tryz.results13, go_sem, r0, r1, r2]

theorem spec_mg (k c b k' c' b' : ByteArray) (w : World) (hs : k.size + c.size + b.size + (k'.size + c'.size + b'.size) ≤ 1048576) :
    Calls Tryz.prog 13 #[aspV k c b, aspV k' c' b'] w fun e w' => e = .returned (parV (mgA k c b k' c' b')) ∧ Below w.heap.size w w' :=
  smg_road k c b k' c' b' _ _ _ rfl rfl rfl w hs
end Go.Proofs.YthkokokeppoieaaGreatDoor
