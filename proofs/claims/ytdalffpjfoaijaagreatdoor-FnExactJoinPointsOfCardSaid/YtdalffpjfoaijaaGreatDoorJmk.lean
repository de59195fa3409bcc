/- The laws' markJoinPointS, heldJoinPointS over a row of join points, its texts laid flat, and eqJoinPointS. Conditions: at most 2^20 join points. -/
import Derived.Test.YtdalffpjfoaijaaGreatDoorMkt
import Derived.Deep.RegionHeld3
namespace Go.Proofs.YtdalffpjfoaijaaGreatDoor
open Go.RowKit Gram

set_option maxHeartbeats 2000000 in
set_option maxRecDepth 100000 in
theorem marksJ_any (a : Option Addr) (n c : Nat) (B k0 : Nat) (ss : List ByteArray) (w : World) (hn : n ≤ 1048576) (hk0 : 1 ≤ k0) (hkb : k0 ≤ 1000) (ha : w.ownsRow B 56 3 (.slice a n c) n (ss.map Value.string)) :
    Calls Tryz.prog 13 #[.slice a n c, .int .i64 k0] w fun e w' => e = .returned (.int .i64 (k0 + n * 3 : Nat)) ∧ w'.ownsRow B 56 3 (.slice a n c) n ((marksTo k0 (n * 3) ss).map Value.string) ∧ w.grownBy w' (Value.slice a n c).ownBlock := by
  have hl : ss.length = n * 3 := by have := ha.1; simp at this; omega
  have HL := Lib.hid hl
  have HA := Lib.hid ha
  clear ha hl
  go_enter Tryz.func13, Tryz.ntmps13
  go_wp2_with fail
  go_loopw [1, 5] (fun k i wr => ∃ j : Nat, j ≤ n ∧ i = .int .i64 j ∧ k = .int .i64 (k0 + j * 3 : Nat) ∧ Hid (wr.ownsRow B 56 3 (.slice a n c) n ((marksTo k0 (j * 3) ss).map Value.string) ∧ w.grownBy wr (Value.slice a n c).ownBlock)) (fun _ i _ => n - (intOf i).toNat)
  case atStart => exact ⟨0, Nat.zero_le _, by go_num, by go_num, by rw [Nat.zero_mul, marksTo_zero]; exact ⟨HA.out, World.grownBy.refl _ _⟩⟩
  case round =>
    obtain ⟨j, hj, rfl, rfl, hr⟩ := hrel
    by_cases hlt : j < n
    · have hlm : ∀ i, i ≤ n * 3 → (marksTo k0 i ss).length = n * 3 := fun i hi => by rw [marksTo_len k0 i ss (by rw [HL.out]; exact hi), HL.out]
      obtain ⟨g, s0, rfl, _, hc0, _⟩ := rowS_get hr.out.1 (j * 3) (by rw [hlm _ (by omega)]; omega)
      have HLM := Lib.hid hlm
      have M0 := Lib.hid (mark_int (k0 + j * 3) (by omega) (by omega))
      have M1 := Lib.hid (mark_int (k0 + (j * 3 + 1)) (by omega) (by omega))
      have M2 := Lib.hid (mark_int (k0 + (j * 3 + 2)) (by omega) (by omega))
      clear hc0 hlm
      go_wp2_with fail
      refine (M0.out _ (by omega) _).mono ?_
      rintro e w2 ⟨rfl, hb2⟩
      obtain ⟨o0, c0, f0⟩ := rowS_at hr.out.1 hb2 (j * 3) (by rw [HLM.out _ (by omega)]; omega)
      have R1 := Lib.hid (row_mark hr.out.1 hb2 (by rw [HL.out]; omega))
      have G1 := Lib.hid (grown_mark hr.out.2 hb2 (j * 3) (.string (markV (k0 + j * 3))))
      clear hb2
      generalize markV (k0 + j * 3) = m0 at *
      go_wp2_with fail
      clear c0 f0
      generalize w2.setCell ⟨g, j * 3, none⟩ (.string m0) = w3 at *
      refine (M1.out _ (by omega) _).mono ?_
      rintro e w4 ⟨rfl, hb4⟩
      obtain ⟨o1, c1, f1⟩ := rowS_at R1.out hb4 (j * 3 + 1) (by rw [HLM.out _ (by omega)]; omega)
      have R2 := Lib.hid (row_mark R1.out hb4 (by rw [HL.out]; omega))
      have G2 := Lib.hid (grown_mark G1.out hb4 (j * 3 + 1) (.string (markV (k0 + (j * 3 + 1)))))
      clear hb4 R1 G1
      generalize markV (k0 + (j * 3 + 1)) = m1 at *
      go_wp2_with fail
      clear c1 f1
      generalize w4.setCell ⟨g, j * 3 + 1, none⟩ (.string m1) = w5 at *
      refine (M2.out _ (by omega) _).mono ?_
      rintro e w6 ⟨rfl, hb6⟩
      obtain ⟨o2, c2, f2⟩ := rowS_at R2.out hb6 (j * 3 + 2) (by rw [HLM.out _ (by omega)]; omega)
      have R3 := Lib.hid (row_mark R2.out hb6 (by rw [HL.out]; omega))
      have G3 := Lib.hid (grown_mark G2.out hb6 (j * 3 + 2) (.string (markV (k0 + (j * 3 + 2)))))
      clear hb6 R2 G2
      generalize markV (k0 + (j * 3 + 2)) = m2 at *
      go_wp2_with fail
      exact ⟨⟨j + 1, by omega, by go_num, by congr 1; omega, by rw [show (j + 1) * 3 = j * 3 + 2 + 1 by omega]; exact ⟨R3.out, G3.out⟩⟩, by simp [intOf]; omega⟩
    · have hjn : j = n := by omega
      subst hjn
      go_wp2_with fail
      go_ret
      exact ⟨rfl, hr.out⟩
theorem three_laterJ {w0 w w' : World} {g o : Nat} {x y z : Value} (h : w.cell? ⟨g, o, none⟩ = some x ∧ w.cell? ⟨g, o + 1, none⟩ = some y ∧ w.cell? ⟨g, o + 2, none⟩ = some z ∧ Below w0.heap.size w0 w) (hb : Below w.heap.size w w') :
    w'.cell? ⟨g, o, none⟩ = some x ∧ w'.cell? ⟨g, o + 1, none⟩ = some y ∧ w'.cell? ⟨g, o + 2, none⟩ = some z ∧ Below w0.heap.size w0 w' := by
  obtain ⟨h0, h1, h2, h3⟩ := h
  refine ⟨?_, ?_, ?_, h3.trans (hb.mono h3.size)⟩
  · rw [hb.cell (p := ⟨g, o, none⟩) (World.block_lt_of_cell? w _ h0)]; exact h0
  · rw [hb.cell (p := ⟨g, o + 1, none⟩) (World.block_lt_of_cell? w _ h1)]; exact h1
  · rw [hb.cell (p := ⟨g, o + 2, none⟩) (World.block_lt_of_cell? w _ h2)]; exact h2

set_option maxHeartbeats 4000000 in
set_option maxRecDepth 100000 in
theorem heldJ_any (a : Option Addr) (n c : Nat) (B k0 : Nat) (ss : List ByteArray) (w : World) (hn : n ≤ 1048576) (hk0 : 1 ≤ k0) (hkb : k0 ≤ 1000) (hl : ss.length = n * 3) (ha : w.ownsRow B 56 3 (.slice a n c) n ((marksTo k0 (n * 3) ss).map Value.string)) :
    Calls Tryz.prog 14 #[.slice a n c, .int .i64 k0] w fun e w' => e = .returned (.int .i64 (k0 + n * 3 : Nat)) ∧ Below w.heap.size w w' := by
  have HL := Lib.hid (marksTo_len k0 (n * 3) ss (by omega))
  have HN := Lib.hid hl
  have HA := Lib.hid ha
  clear ha hl
  go_enter Tryz.func14, Tryz.ntmps14
  go_wp2_with fail
  go_loopw [1, 5] (fun k i wr => ∃ j : Nat, j ≤ n ∧ i = .int .i64 j ∧ k = .int .i64 (k0 + j * 3 : Nat) ∧ Hid (Below w.heap.size w wr)) (fun _ i _ => n - (intOf i).toNat)
  case atStart => exact ⟨0, Nat.zero_le _, by go_num, by go_num, Below.refl _ _⟩
  case round =>
    obtain ⟨j, hj, rfl, rfl, hb⟩ := hrel
    by_cases hlt : j < n
    · obtain ⟨g, s0, rfl, e0, c0, _⟩ := rowS_get HA.out (j * 3) (by rw [HL.out, HN.out]; omega)
      obtain ⟨g1, s1, h1, e1, c1, _⟩ := rowS_get HA.out (j * 3 + 1) (by rw [HL.out, HN.out]; omega)
      obtain ⟨g2, s2, h2, e2, c2, _⟩ := rowS_get HA.out (j * 3 + 2) (by rw [HL.out, HN.out]; omega)
      injection h1 with h1; injection h1 with h1; subst h1
      injection h2 with h2; injection h2 with h2; subst h2
      rw [marksTo_get _ _ _ _ (by omega)] at e0 e1 e2
      injection e0 with e0; injection e1 with e1; injection e2 with e2
      subst e0; subst e1; subst e2
      have M0 := Lib.hid (mark_int (k0 + j * 3) (by omega) (by omega))
      have M1 := Lib.hid (mark_int (k0 + (j * 3 + 1)) (by omega) (by omega))
      have M2 := Lib.hid (mark_int (k0 + (j * 3 + 2)) (by omega) (by omega))
      generalize markV (k0 + j * 3) = m0 at *
      generalize markV (k0 + (j * 3 + 1)) = m1 at *
      generalize markV (k0 + (j * 3 + 2)) = m2 at *
      have C1 := Lib.hid (three_laterJ ⟨c0, c1, c2, Below.refl w.heap.size w⟩ hb.out)
      clear c0 c1 c2
      obtain ⟨c0, c1, c2, hbw⟩ := C1.out
      go_wp2_with fail
      go_region_held3 (fun w' => w'.cell? ⟨g, j * 3, none⟩ = some (.string m0) ∧ w'.cell? ⟨g, j * 3 + 1, none⟩ = some (.string m1) ∧ w'.cell? ⟨g, j * 3 + 2, none⟩ = some (.string m2) ∧ Below w.heap.size w w')
        ((first | assumption | exact ⟨c0, c1, c2, hbw.drew⟩ | (apply three_laterJ; assumption; assumption)))
        ((first | (go_at_call 21; refine (M0.out _ (by omega) _).mono ?_; rintro e w5 ⟨rfl, hbw5⟩)))
      go_wp2_with fail
      clear c0 c1 c2 hbw C1 hbw5
      rename w5.cell? ⟨g, j * 3, none⟩ = some (.string m0) ∧ w5.cell? ⟨g, j * 3 + 1, none⟩ = some (.string m1) ∧ w5.cell? ⟨g, j * 3 + 2, none⟩ = some (.string m2) ∧ Below w.heap.size w w5 => hOld
      have C1 := Lib.hid hOld
      clear hOld
      obtain ⟨c0, c1, c2, hbw⟩ := C1.out
      go_region_held3 (fun w' => w'.cell? ⟨g, j * 3, none⟩ = some (.string m0) ∧ w'.cell? ⟨g, j * 3 + 1, none⟩ = some (.string m1) ∧ w'.cell? ⟨g, j * 3 + 2, none⟩ = some (.string m2) ∧ Below w.heap.size w w')
        ((first | assumption | exact ⟨c0, c1, c2, hbw.drew⟩ | (apply three_laterJ; assumption; assumption)))
        ((first | (go_at_call 21; refine (M1.out _ (by omega) _).mono ?_; rintro e w6 ⟨rfl, hbw6⟩)))
      go_wp2_with fail
      clear c0 c1 c2 hbw C1 hbw6
      rename w6.cell? ⟨g, j * 3, none⟩ = some (.string m0) ∧ w6.cell? ⟨g, j * 3 + 1, none⟩ = some (.string m1) ∧ w6.cell? ⟨g, j * 3 + 2, none⟩ = some (.string m2) ∧ Below w.heap.size w w6 => hOld
      have C1 := Lib.hid hOld
      clear hOld
      obtain ⟨c0, c1, c2, hbw⟩ := C1.out
      go_region_held3 (fun w' => w'.cell? ⟨g, j * 3, none⟩ = some (.string m0) ∧ w'.cell? ⟨g, j * 3 + 1, none⟩ = some (.string m1) ∧ w'.cell? ⟨g, j * 3 + 2, none⟩ = some (.string m2) ∧ Below w.heap.size w w')
        ((first | assumption | exact ⟨c0, c1, c2, hbw.drew⟩ | (apply three_laterJ; assumption; assumption)))
        ((first | (go_at_call 21; refine (M2.out _ (by omega) _).mono ?_; rintro e w7 ⟨rfl, hbw7⟩)))
      go_wp2_with fail
      clear c0 c1 c2 hbw C1 hbw7
      rename w7.cell? ⟨g, j * 3, none⟩ = some (.string m0) ∧ w7.cell? ⟨g, j * 3 + 1, none⟩ = some (.string m1) ∧ w7.cell? ⟨g, j * 3 + 2, none⟩ = some (.string m2) ∧ Below w.heap.size w w7 => hOld
      have C1 := Lib.hid hOld
      clear hOld
      obtain ⟨c0, c1, c2, hbw⟩ := C1.out
      exact ⟨⟨j + 1, by omega, by go_num, by congr 1; omega, hbw⟩, by simp [intOf]; omega⟩
    · have hjn : j = n := by omega
      subst hjn
      go_wp2_with fail
      go_ret
      exact ⟨rfl, hb.out⟩
theorem marksJ_one (a : Option Addr) (n c : Nat) (B : Nat) (ss : List ByteArray) (w : World) (hn : n ≤ 1048576) (ha : w.ownsRow B 56 3 (.slice a n c) n (ss.map Value.string)) :
    Calls Tryz.prog 13 #[.slice a n c, .int .i64 1] w fun e w' => e = .returned (.int .i64 (1 + ((n * 3 : Nat) : Int))) ∧ w'.ownsRow B 56 3 (.slice a n c) n ((marksTo 1 (n * 3) ss).map Value.string) ∧ w.grownBy w' (Value.slice a n c).ownBlock := by
  refine (marksJ_any a n c B 1 ss w hn (by omega) (by omega) ha).mono ?_
  rintro e w' ⟨h1, h2, h3⟩
  exact ⟨by rw [h1]; exact ret_int (by omega), h2, h3⟩
theorem heldJ_one (a : Option Addr) (n c : Nat) (B : Nat) (ss : List ByteArray) (w : World) (hn : n ≤ 1048576) (hl : ss.length = n * 3) (ha : w.ownsRow B 56 3 (.slice a n c) n ((marksTo 1 (n * 3) ss).map Value.string)) :
    Calls Tryz.prog 14 #[.slice a n c, .int .i64 1] w fun e w' => e = .returned (.int .i64 (1 + ((n * 3 : Nat) : Int))) ∧ Below w.heap.size w w' := by
  refine (heldJ_any a n c B 1 ss w hn (by omega) (by omega) hl ha).mono ?_
  rintro e w' ⟨h1, h2⟩
  exact ⟨by rw [h1]; exact ret_int (by omega), h2⟩

set_option maxHeartbeats 1000000 in
set_option maxRecDepth 100000 in
theorem eqjp_same (k c b : ByteArray) (w : World) :
    Calls Tryz.prog 20 #[.agg #[.string k, .string c, .string b], .agg #[.string k, .string c, .string b]] w fun e w' => e = .returned (.bool true) ∧ Below w.heap.size w w' := by
  go_enter Tryz.func20, Tryz.ntmps20
  go_wp2_with fail
  go_ret
  exact ⟨rfl, ((Below.refl _ w).alloc (Nat.le_refl _) _).alloc (by simp) _⟩

theorem six_laterJ {w0 w w' : World} {g o g' o' : Nat} {x y z x' y' z' : Value} (h : w.cell? ⟨g, o, none⟩ = some x ∧ w.cell? ⟨g, o + 1, none⟩ = some y ∧ w.cell? ⟨g, o + 2, none⟩ = some z ∧
    w.cell? ⟨g', o', none⟩ = some x' ∧ w.cell? ⟨g', o' + 1, none⟩ = some y' ∧ w.cell? ⟨g', o' + 2, none⟩ = some z' ∧ Below w0.heap.size w0 w) (hb : Below w.heap.size w w') :
    w'.cell? ⟨g, o, none⟩ = some x ∧ w'.cell? ⟨g, o + 1, none⟩ = some y ∧ w'.cell? ⟨g, o + 2, none⟩ = some z ∧
    w'.cell? ⟨g', o', none⟩ = some x' ∧ w'.cell? ⟨g', o' + 1, none⟩ = some y' ∧ w'.cell? ⟨g', o' + 2, none⟩ = some z' ∧ Below w0.heap.size w0 w' := by
  obtain ⟨h0, h1, h2, h3, h4, h5, h6⟩ := h
  refine ⟨?_, ?_, ?_, ?_, ?_, ?_, h6.trans (hb.mono h6.size)⟩
  · rw [hb.cell (p := ⟨g, o, none⟩) (World.block_lt_of_cell? w _ h0)]; exact h0
  · rw [hb.cell (p := ⟨g, o + 1, none⟩) (World.block_lt_of_cell? w _ h1)]; exact h1
  · rw [hb.cell (p := ⟨g, o + 2, none⟩) (World.block_lt_of_cell? w _ h2)]; exact h2
  · rw [hb.cell (p := ⟨g', o', none⟩) (World.block_lt_of_cell? w _ h3)]; exact h3
  · rw [hb.cell (p := ⟨g', o' + 1, none⟩) (World.block_lt_of_cell? w _ h4)]; exact h4
  · rw [hb.cell (p := ⟨g', o' + 2, none⟩) (World.block_lt_of_cell? w _ h5)]; exact h5

set_option maxHeartbeats 2000000 in
set_option maxRecDepth 100000 in
theorem eqjps_same (a b : Option Addr) (n c d B B' : Nat) (ss : List ByteArray) (w : World) (hn : n ≤ 1048576) (ha : w.ownsRow B 56 3 (.slice a n c) n (ss.map Value.string)) (hb : w.ownsRow B' 56 3 (.slice b n d) n (ss.map Value.string)) :
    Calls Tryz.prog 12 #[.slice a n c, .slice b n d] w fun e w' => e = .returned (.bool true) ∧ Below w.heap.size w w' := by
  have HL := Lib.hid (show ss.length = n * 3 from by have := ha.1; simp at this; omega)
  have HA := Lib.hid ha
  have HB := Lib.hid hb
  have HE := Lib.hid (fun k c b w => eqjp_same k c b w)
  clear ha hb
  go_enter Tryz.func12, Tryz.ntmps12
  go_wp2_with fail
  go_loopw [5] (fun i wr => ∃ k : Nat, k ≤ n ∧ i = .int .i64 k ∧ Hid (Below w.heap.size w wr)) (fun i _ => n - (intOf i).toNat)
  case atStart => exact ⟨0, Nat.zero_le _, by go_num, Below.refl _ _⟩
  case round =>
    obtain ⟨k, hk, rfl, hW⟩ := hrel
    by_cases hlt : k < n
    · have hA2 := ownsRow_of (w' := wr) HA.out (fun j hj => hW.out.block j (HA.out.lt j hj).2)
      have hB2 := ownsRow_of (w' := wr) HB.out (fun j hj => hW.out.block j (HB.out.lt j hj).2)
      obtain ⟨g, x, rfl, e0, c0, _⟩ := rowS_get hA2 (k * 3) (by rw [HL.out]; omega)
      obtain ⟨g1, y, h1, e1, c1, _⟩ := rowS_get hA2 (k * 3 + 1) (by rw [HL.out]; omega)
      obtain ⟨g2, z, h2, e2, c2, _⟩ := rowS_get hA2 (k * 3 + 2) (by rw [HL.out]; omega)
      injection h1 with h1; injection h1 with h1; subst h1
      injection h2 with h2; injection h2 with h2; subst h2
      obtain ⟨g', x', rfl, e0', d0, _⟩ := rowS_get hB2 (k * 3) (by rw [HL.out]; omega)
      obtain ⟨g1', y', h1, e1', d1, _⟩ := rowS_get hB2 (k * 3 + 1) (by rw [HL.out]; omega)
      obtain ⟨g2', z', h2, e2', d2, _⟩ := rowS_get hB2 (k * 3 + 2) (by rw [HL.out]; omega)
      injection h1 with h1; injection h1 with h1; subst h1
      injection h2 with h2; injection h2 with h2; subst h2
      rw [e0] at e0'; rw [e1] at e1'; rw [e2] at e2'
      injection e0' with e0'; injection e1' with e1'; injection e2' with e2'
      subst e0'; subst e1'; subst e2'
      clear e0 e1 e2 hA2 hB2
      go_wp2_with fail
      go_region_held3 (fun w' => w'.cell? ⟨g, k * 3, none⟩ = some (.string x) ∧ w'.cell? ⟨g, k * 3 + 1, none⟩ = some (.string y) ∧ w'.cell? ⟨g, k * 3 + 2, none⟩ = some (.string z) ∧
          w'.cell? ⟨g', k * 3, none⟩ = some (.string x) ∧ w'.cell? ⟨g', k * 3 + 1, none⟩ = some (.string y) ∧ w'.cell? ⟨g', k * 3 + 2, none⟩ = some (.string z) ∧ Below w.heap.size w w')
        ((first | assumption | exact ⟨c0, c1, c2, d0, d1, d2, hW.out.drew⟩ | (apply six_laterJ; assumption; assumption)))
        ((first | (go_at_call 20; refine (HE.out _ _ _ _).mono ?_; rintro e w5 ⟨rfl, hb5⟩)))
      all_goals
        have HB5 := Lib.hid (hW.out.drew.trans (hb5.mono hW.out.drew.size))
        go_wp2_with fail
        exact ⟨⟨k + 1, by omega, by go_num, HB5.out⟩, by simp [intOf]; omega⟩
    · go_wp2_with fail
      go_ret
      exact ⟨rfl, hW.out⟩
end Go.Proofs.YtdalffpjfoaijaaGreatDoor
