/- The laws' markAspectS, heldAspectS over a row of aspects, its texts laid flat. Conditions: at most 2^20 aspects. -/
import Derived.Test.YtcahnffgpmanpaaDoorMkt
import Derived.Test.YtcahnffgpmanpaaDoorAsps2
import Derived.Deep.RegionHeld3
namespace Go.Proofs.YtcahnffgpmanpaaDoor
open Go.RowKit Gram

/-- the texts of aspects, laid flat -/
def asF (zs : List As) : List ByteArray := zs.flatMap fun p => [p.1, p.2.1, p.2.2]
theorem asF_len (zs : List As) : (asF zs).length = zs.length * 3 := by
  induction zs with
  | nil => rfl
  | cons p t ih => simp only [asF, List.flatMap_cons, List.length_append, List.length_cons, List.length_nil] at ih ⊢; omega
theorem asF_get (zs : List As) : ∀ i (h : i < zs.length), (asF zs)[i * 3]? = some zs[i].1 ∧ (asF zs)[i * 3 + 1]? = some zs[i].2.1 ∧ (asF zs)[i * 3 + 2]? = some zs[i].2.2 := by
  induction zs with
  | nil => intro i h; simp at h
  | cons p t ih =>
    intro i h
    cases i with
    | zero => exact ⟨rfl, rfl, rfl⟩
    | succ i =>
      have := ih i (by simpa using h)
      rw [show (i + 1) * 3 = i * 3 + 1 + 1 + 1 by omega, show i * 3 + 1 + 1 + 1 + 1 = i * 3 + 1 + 1 + 1 + 1 from rfl]
      simp only [asF, List.flatMap_cons, List.cons_append, List.nil_append, List.getElem?_cons_succ, List.getElem_cons_succ]
      exact this
theorem asF_snoc (zs : List As) (p : As) : asF (zs ++ [p]) = asF zs ++ [p.1, p.2.1, p.2.2] := by simp [asF]

/-- a row of aspects is a list of them -/
theorem asps_of_row {w : World} {B n c : Nat} {a : Option Addr} {zs : List As} (h : w.ownsRow B 35 3 (.slice a n c) n ((asF zs).map Value.string)) : Asps w a n zs := by
  have hl : zs.length = n := by have := h.1; rw [List.length_map, asF_len] at this; omega
  refine ⟨hl, fun i hi => ?_⟩
  obtain ⟨e0, e1, e2⟩ := asF_get zs i hi
  have hlen := asF_len zs
  obtain ⟨g, s, rfl, _, _, _⟩ := rowS_get h (i * 3) (by omega)
  refine ⟨g, 0, rfl, ?_, ?_, ?_⟩
  · rw [Nat.zero_add]; exact row_cell h _ _ (by rw [List.getElem?_map, e0]; rfl)
  · rw [Nat.zero_add]; exact row_cell h _ _ (by rw [List.getElem?_map, e1]; rfl)
  · rw [Nat.zero_add]; exact row_cell h _ _ (by rw [List.getElem?_map, e2]; rfl)
/-- a fresh copy is a row -/
theorem row_of_asps {w : World} {g n B : Nat} {zs : List As} {arr : Array Value} (h : Asps w (some ⟨g, 0, none⟩) n zs) (harr : w.heap[g]? = some (.cells arr 35 (0, 0))) (hsz : arr.size = n * 3) (hn : n ≤ maxLen) (hb : B ≤ g) :
    w.ownsRow B 35 3 (.slice (some ⟨g, 0, none⟩) n n) n ((asF zs).map Value.string) := by
  have hl := h.len
  refine ⟨by rw [List.length_map, asF_len, hl], .inr ⟨g, n, arr, rfl, hb, harr, Nat.le_refl _, hn, hsz, ?_⟩⟩
  rw [List.take_of_length_le (by simp [hsz])]
  apply List.ext_getElem?
  intro j
  by_cases hj : j < n * 3
  · have hi : j / 3 < zs.length := by omega
    obtain ⟨g', off, ha, c0, c1, c2⟩ := h.at_ (j / 3) hi
    injection ha with ha
    injection ha with ha1 ha2
    subst ha1; subst ha2
    obtain ⟨e0, e1, e2⟩ := asF_get zs (j / 3) hi
    rw [Nat.zero_add, Lib.cell_of_heap harr] at c0 c1 c2
    rw [Array.getElem?_toList, List.getElem?_map]
    have hm : j = j / 3 * 3 ∨ j = j / 3 * 3 + 1 ∨ j = j / 3 * 3 + 2 := by omega
    rcases hm with hm | hm | hm
    · rw [hm, show j / 3 * 3 / 3 = j / 3 by omega] at *; rw [c0, e0]; rfl
    · rw [hm, show (j / 3 * 3 + 1) / 3 = j / 3 by omega] at *; rw [c1, e1]; rfl
    · rw [hm, show (j / 3 * 3 + 2) / 3 = j / 3 by omega] at *; rw [c2, e2]; rfl
  · rw [List.getElem?_eq_none (by simp [hsz]; omega), List.getElem?_eq_none (by rw [List.length_map, asF_len, hl]; omega)]

set_option maxHeartbeats 2000000 in
set_option maxRecDepth 100000 in
theorem marksA_any (a : Option Addr) (n c : Nat) (B k0 : Nat) (ss : List ByteArray) (w : World) (hn : n ≤ 1048576) (hk0 : 1 ≤ k0) (hkb : k0 ≤ 1000) (ha : w.ownsRow B 35 3 (.slice a n c) n (ss.map Value.string)) :
    Calls Tryd.prog 9 #[.slice a n c, .int .i64 k0] w fun e w' => e = .returned (.int .i64 (k0 + n * 3 : Nat)) ∧ w'.ownsRow B 35 3 (.slice a n c) n ((marksTo k0 (n * 3) ss).map Value.string) ∧ w.grownBy w' (Value.slice a n c).ownBlock := by
  have hl : ss.length = n * 3 := by have := ha.1; simp at this; omega
  have HL := Lib.hid hl
  have HA := Lib.hid ha
  clear ha hl
  go_enter Tryd.func9, Tryd.ntmps9
  go_wp2_with fail
  go_loopw [1, 5] (fun k i wr => ∃ j : Nat, j ≤ n ∧ i = .int .i64 j ∧ k = .int .i64 (k0 + j * 3 : Nat) ∧ Hid (wr.ownsRow B 35 3 (.slice a n c) n ((marksTo k0 (j * 3) ss).map Value.string) ∧ w.grownBy wr (Value.slice a n c).ownBlock)) (fun _ i _ => n - (intOf i).toNat)
  case atStart => exact ⟨0, Nat.zero_le _, by go_num, by go_num, by rw [Nat.zero_mul, marksTo_zero]; exact ⟨HA.out, World.grownBy.refl _ _⟩⟩
  case round =>
    obtain ⟨j, hj, rfl, rfl, hr⟩ := hrel
    by_cases hlt : j < n
    · have hlm : ∀ i, i ≤ n * 3 → (marksTo k0 i ss).length = n * 3 := fun i hi => by rw [marksTo_len k0 i ss (by rw [HL.out]; exact hi), HL.out]
      obtain ⟨g, s0, rfl, _, hc0, _⟩ := rowS_get hr.out.1 (j * 3) (by rw [hlm _ (by omega)]; omega)
      have HLM := Lib.hid hlm
      have M0 := Lib.hid (mark_int (k0 + j * 3) (by omega) (by omega))
      have M1 := Lib.hid (mark_int (k0 + (j * 3 + 1)) (by omega) (by omega))
      have M2 := Lib.hid (mark_int (k0 + (j * 3 + 2)) (by omega) (by omega))
      clear hc0 hlm
      go_wp2_with fail
      refine (M0.out _ (by omega) _).mono ?_
      rintro e w2 ⟨rfl, hb2⟩
      obtain ⟨o0, c0, f0⟩ := rowS_at hr.out.1 hb2 (j * 3) (by rw [HLM.out _ (by omega)]; omega)
      have R1 := Lib.hid (row_mark hr.out.1 hb2 (by rw [HL.out]; omega))
      have G1 := Lib.hid (grown_mark hr.out.2 hb2 (j * 3) (.string (markV (k0 + j * 3))))
      clear hb2
      generalize markV (k0 + j * 3) = m0 at *
      go_wp2_with fail
      clear c0 f0
      generalize w2.setCell ⟨g, j * 3, none⟩ (.string m0) = w3 at *
      refine (M1.out _ (by omega) _).mono ?_
      rintro e w4 ⟨rfl, hb4⟩
      obtain ⟨o1, c1, f1⟩ := rowS_at R1.out hb4 (j * 3 + 1) (by rw [HLM.out _ (by omega)]; omega)
      have R2 := Lib.hid (row_mark R1.out hb4 (by rw [HL.out]; omega))
      have G2 := Lib.hid (grown_mark G1.out hb4 (j * 3 + 1) (.string (markV (k0 + (j * 3 + 1)))))
      clear hb4 R1 G1
      generalize markV (k0 + (j * 3 + 1)) = m1 at *
      go_wp2_with fail
      clear c1 f1
      generalize w4.setCell ⟨g, j * 3 + 1, none⟩ (.string m1) = w5 at *
      refine (M2.out _ (by omega) _).mono ?_
      rintro e w6 ⟨rfl, hb6⟩
      obtain ⟨o2, c2, f2⟩ := rowS_at R2.out hb6 (j * 3 + 2) (by rw [HLM.out _ (by omega)]; omega)
      have R3 := Lib.hid (row_mark R2.out hb6 (by rw [HL.out]; omega))
      have G3 := Lib.hid (grown_mark G2.out hb6 (j * 3 + 2) (.string (markV (k0 + (j * 3 + 2)))))
      clear hb6 R2 G2
      generalize markV (k0 + (j * 3 + 2)) = m2 at *
      go_wp2_with fail
      exact ⟨⟨j + 1, by omega, by go_num, by congr 1; omega, by rw [show (j + 1) * 3 = j * 3 + 2 + 1 by omega]; exact ⟨R3.out, G3.out⟩⟩, by simp [intOf]; omega⟩
    · have hjn : j = n := by omega
      subst hjn
      go_wp2_with fail
      go_ret
      exact ⟨rfl, hr.out⟩
theorem three_later {w0 w w' : World} {g o : Nat} {x y z : Value} (h : w.cell? ⟨g, o, none⟩ = some x ∧ w.cell? ⟨g, o + 1, none⟩ = some y ∧ w.cell? ⟨g, o + 2, none⟩ = some z ∧ Below w0.heap.size w0 w) (hb : Below w.heap.size w w') :
    w'.cell? ⟨g, o, none⟩ = some x ∧ w'.cell? ⟨g, o + 1, none⟩ = some y ∧ w'.cell? ⟨g, o + 2, none⟩ = some z ∧ Below w0.heap.size w0 w' := by
  obtain ⟨h0, h1, h2, h3⟩ := h
  refine ⟨?_, ?_, ?_, h3.trans (hb.mono h3.size)⟩
  · rw [hb.cell (p := ⟨g, o, none⟩) (World.block_lt_of_cell? w _ h0)]; exact h0
  · rw [hb.cell (p := ⟨g, o + 1, none⟩) (World.block_lt_of_cell? w _ h1)]; exact h1
  · rw [hb.cell (p := ⟨g, o + 2, none⟩) (World.block_lt_of_cell? w _ h2)]; exact h2

set_option maxHeartbeats 4000000 in
set_option maxRecDepth 100000 in
theorem heldA_any (a : Option Addr) (n c : Nat) (B k0 : Nat) (ss : List ByteArray) (w : World) (hn : n ≤ 1048576) (hk0 : 1 ≤ k0) (hkb : k0 ≤ 1000) (hl : ss.length = n * 3) (ha : w.ownsRow B 35 3 (.slice a n c) n ((marksTo k0 (n * 3) ss).map Value.string)) :
    Calls Tryd.prog 10 #[.slice a n c, .int .i64 k0] w fun e w' => e = .returned (.int .i64 (k0 + n * 3 : Nat)) ∧ Below w.heap.size w w' := by
  have HL := Lib.hid (marksTo_len k0 (n * 3) ss (by omega))
  have HN := Lib.hid hl
  have HA := Lib.hid ha
  clear ha hl
  go_enter Tryd.func10, Tryd.ntmps10
  go_wp2_with fail
  go_loopw [1, 5] (fun k i wr => ∃ j : Nat, j ≤ n ∧ i = .int .i64 j ∧ k = .int .i64 (k0 + j * 3 : Nat) ∧ Hid (Below w.heap.size w wr)) (fun _ i _ => n - (intOf i).toNat)
  case atStart => exact ⟨0, Nat.zero_le _, by go_num, by go_num, Below.refl _ _⟩
  case round =>
    obtain ⟨j, hj, rfl, rfl, hb⟩ := hrel
    by_cases hlt : j < n
    · obtain ⟨g, s0, rfl, e0, c0, _⟩ := rowS_get HA.out (j * 3) (by rw [HL.out, HN.out]; omega)
      obtain ⟨g1, s1, h1, e1, c1, _⟩ := rowS_get HA.out (j * 3 + 1) (by rw [HL.out, HN.out]; omega)
      obtain ⟨g2, s2, h2, e2, c2, _⟩ := rowS_get HA.out (j * 3 + 2) (by rw [HL.out, HN.out]; omega)
      injection h1 with h1; injection h1 with h1; subst h1
      injection h2 with h2; injection h2 with h2; subst h2
      rw [marksTo_get _ _ _ _ (by omega)] at e0 e1 e2
      injection e0 with e0; injection e1 with e1; injection e2 with e2
      subst e0; subst e1; subst e2
      have M0 := Lib.hid (mark_int (k0 + j * 3) (by omega) (by omega))
      have M1 := Lib.hid (mark_int (k0 + (j * 3 + 1)) (by omega) (by omega))
      have M2 := Lib.hid (mark_int (k0 + (j * 3 + 2)) (by omega) (by omega))
      generalize markV (k0 + j * 3) = m0 at *
      generalize markV (k0 + (j * 3 + 1)) = m1 at *
      generalize markV (k0 + (j * 3 + 2)) = m2 at *
      have C1 := Lib.hid (three_later ⟨c0, c1, c2, Below.refl w.heap.size w⟩ hb.out)
      clear c0 c1 c2
      obtain ⟨c0, c1, c2, hbw⟩ := C1.out
      go_wp2_with fail
      go_region_held3 (fun w' => w'.cell? ⟨g, j * 3, none⟩ = some (.string m0) ∧ w'.cell? ⟨g, j * 3 + 1, none⟩ = some (.string m1) ∧ w'.cell? ⟨g, j * 3 + 2, none⟩ = some (.string m2) ∧ Below w.heap.size w w')
        ((first | assumption | exact ⟨c0, c1, c2, hbw.drew⟩ | (apply three_later; assumption; assumption)))
        ((first | (go_at_call 18; refine (M0.out _ (by omega) _).mono ?_; rintro e w5 ⟨rfl, hbw5⟩)))
      go_wp2_with fail
      clear c0 c1 c2 hbw C1 hbw5
      rename w5.cell? ⟨g, j * 3, none⟩ = some (.string m0) ∧ w5.cell? ⟨g, j * 3 + 1, none⟩ = some (.string m1) ∧ w5.cell? ⟨g, j * 3 + 2, none⟩ = some (.string m2) ∧ Below w.heap.size w w5 => hOld
      have C1 := Lib.hid hOld
      clear hOld
      obtain ⟨c0, c1, c2, hbw⟩ := C1.out
      go_region_held3 (fun w' => w'.cell? ⟨g, j * 3, none⟩ = some (.string m0) ∧ w'.cell? ⟨g, j * 3 + 1, none⟩ = some (.string m1) ∧ w'.cell? ⟨g, j * 3 + 2, none⟩ = some (.string m2) ∧ Below w.heap.size w w')
        ((first | assumption | exact ⟨c0, c1, c2, hbw.drew⟩ | (apply three_later; assumption; assumption)))
        ((first | (go_at_call 18; refine (M1.out _ (by omega) _).mono ?_; rintro e w6 ⟨rfl, hbw6⟩)))
      go_wp2_with fail
      clear c0 c1 c2 hbw C1 hbw6
      rename w6.cell? ⟨g, j * 3, none⟩ = some (.string m0) ∧ w6.cell? ⟨g, j * 3 + 1, none⟩ = some (.string m1) ∧ w6.cell? ⟨g, j * 3 + 2, none⟩ = some (.string m2) ∧ Below w.heap.size w w6 => hOld
      have C1 := Lib.hid hOld
      clear hOld
      obtain ⟨c0, c1, c2, hbw⟩ := C1.out
      go_region_held3 (fun w' => w'.cell? ⟨g, j * 3, none⟩ = some (.string m0) ∧ w'.cell? ⟨g, j * 3 + 1, none⟩ = some (.string m1) ∧ w'.cell? ⟨g, j * 3 + 2, none⟩ = some (.string m2) ∧ Below w.heap.size w w')
        ((first | assumption | exact ⟨c0, c1, c2, hbw.drew⟩ | (apply three_later; assumption; assumption)))
        ((first | (go_at_call 18; refine (M2.out _ (by omega) _).mono ?_; rintro e w7 ⟨rfl, hbw7⟩)))
      go_wp2_with fail
      clear c0 c1 c2 hbw C1 hbw7
      rename w7.cell? ⟨g, j * 3, none⟩ = some (.string m0) ∧ w7.cell? ⟨g, j * 3 + 1, none⟩ = some (.string m1) ∧ w7.cell? ⟨g, j * 3 + 2, none⟩ = some (.string m2) ∧ Below w.heap.size w w7 => hOld
      have C1 := Lib.hid hOld
      clear hOld
      obtain ⟨c0, c1, c2, hbw⟩ := C1.out
      exact ⟨⟨j + 1, by omega, by go_num, by congr 1; omega, hbw⟩, by simp [intOf]; omega⟩
    · have hjn : j = n := by omega
      subst hjn
      go_wp2_with fail
      go_ret
      exact ⟨rfl, hb.out⟩
end Go.Proofs.YtcahnffgpmanpaaDoor
