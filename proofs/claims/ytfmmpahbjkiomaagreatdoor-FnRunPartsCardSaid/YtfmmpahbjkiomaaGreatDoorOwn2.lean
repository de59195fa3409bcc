/- callsOwn and readProgram: the program of a text, or none, as its plain reading tells. Condition: a text of at most 2^30 bytes, and the library's own number can be read. -/
import Derived.Test.YtfmmpahbjkiomaaGreatDoorCalls
namespace Go.Proofs.YtfmmpahbjkiomaaGreatDoor
open Go.RowKit Gram

theorem prog_body {w : World} {B : Nat} {S : Nat → Prop} {qs : List Qr} {v : Value} (h : IsProg w B S qs v) (k : Nat) (hk : k < qs.length) : IsBody w S qs[k].1.2 qs[k].2 := h.body _ (List.getElem_mem hk)

def ownQ (qs : List Qr) : Bool := qs.all fun q => (callsIn q.1.2).all fun c => (namesQ qs).contains c
theorem own_less {a b : List UInt8} (ha : lets a) (hb : lets b) : ((lessOf (setOf a) (setOf b) : Int) != 0) = !(a.all fun c => b.contains c) := by
  have h := lessOf_zero a b ha hb
  cases hc : a.all fun c => b.contains c with
  | true =>
    have : lessOf (setOf a) (setOf b) = 0 := h.2 (by simpa using hc)
    rw [this]; rfl
  | false =>
    have : lessOf (setOf a) (setOf b) ≠ 0 := by
      intro h0
      have := h.1 h0
      have h2 : (a.all fun c => b.contains c) = true := by simpa using this
      rw [hc] at h2; cases h2
    simp only [Bool.not_false, bne_iff_ne, ne_eq]
    omega

set_option maxHeartbeats 1000000 in
theorem own_any {w : World} {B : Nat} {S : Nat → Prop} {qs : List Qr} {v : Value} (h : IsProg w B S qs v) (hg : ∀ q ∈ qs, Good q.1) (hn : qs.length ≤ 1048576) :
    Calls Tryz.prog 67 #[v] w fun e w' => e = .returned (.bool (ownQ qs)) ∧ Below w.heap.size w w' := by
  obtain ⟨a, c, rfl⟩ := h.form
  have H := Lib.hid h
  have HG := Lib.hid hg
  have HN := Lib.hid (names_set h hg hn)
  generalize hln : qs.length = ln at *
  have HL := Lib.hid hln
  clear h hg hln
  go_enter Tryz.func67, Tryz.ntmps67
  go_wp2_with fail
  refine HN.out.mono ?_
  rintro e w1 ⟨rfl, hb1⟩
  have HB1 := Lib.hid hb1
  clear hb1
  go_wp2_with fail
  go_loopw [10] (fun i wr => ∃ k : Nat, k ≤ ln ∧ i = .int .i64 k ∧ Hid ((qs.take k).all (fun q => (callsIn q.1.2).all fun c => (namesQ qs).contains c) = true) ∧ Hid (Below w.heap.size w wr)) (fun i _ => ln - (intOf i).toNat)
  case atStart => exact ⟨0, Nat.zero_le _, by go_num, by show _ = _; simp, HB1.out⟩
  case round =>
    obtain ⟨k, hk, rfl, hA, hb⟩ := hrel
    by_cases hlt : k < ln
    · have hkq : k < qs.length := by rw [HL.out]; exact hlt
      obtain ⟨g, rfl, _, c0, c1⟩ := (H.out).get k hkq
      have hgl : g < w.heap.size := World.block_lt_of_cell? w _ c0
      have d0 : wr.cell? ⟨g, k * 2, none⟩ = some (.int .u8 qs[k].1.1.toNat) := by rw [hb.out.cell (p := ⟨g, k * 2, none⟩) hgl]; exact c0
      have d1 : wr.cell? ⟨g, k * 2 + 1, none⟩ = some qs[k].2 := by rw [hb.out.cell (p := ⟨g, k * 2 + 1, none⟩) hgl]; exact c1
      have hq := HG.out qs[k] (List.getElem_mem hkq)
      have hbody := prog_body H.out k hkq
      obtain ⟨ba, bn, bc, hbv⟩ := hbody.form
      have hC : ∀ w2, Below w.heap.size w w2 → _ := fun w2 hb2 => calls_any (w := w2) (S := S) (p := qs[k].1) (hbody.kept (w' := w2) (fun j hj => hb2.block j (H.out.lt j hj)) (fun _ h => h)) (fun j hj => Nat.lt_of_lt_of_le (H.out.lt j hj) hb2.size) hq
      rw [hbv] at d1 hC
      have HC := Lib.hid hC
      have e1 := less32 (setOf (callsIn qs[k].1.2)) (setOf (namesQ qs))
      have e2 := own_less (callsIn_lets _ hq.1) (namesQ_lets (qs := qs) HG.out)
      have HA2 := Lib.hid (by rw [List.take_succ_eq_append_getElem hkq, List.all_append, hA.out]; simp : (qs.take (k + 1)).all (fun q => (callsIn q.1.2).all fun c => (namesQ qs).contains c) = ((callsIn qs[k].1.2).all fun c => (namesQ qs).contains c))
      have HNo := Lib.hid (fun (h0 : ((callsIn qs[k].1.2).all fun c => (namesQ qs).contains c) = false) => by
        rw [ownQ, List.all_eq_false]
        exact ⟨qs[k], List.getElem_mem hkq, by rw [h0]; decide⟩ : _ → ownQ qs = false)
      clear hC c0 c1 hgl hq hbv hbody hA
      generalize ((callsIn qs[k].1.2).all fun c => (namesQ qs).contains c) = bb at *
      generalize lessOf (setOf (callsIn qs[k].1.2)) (setOf (namesQ qs)) = le at *
      cases bb
      all_goals
        simp only [Bool.not_true, Bool.not_false] at e2
        go_wp2_with fail
        refine (HC.out _ (hb.out.alloc hb.out.size _)).mono ?_
        rintro e w2 ⟨rfl, hb2⟩
        have HB2 := Lib.hid (((hb.out.alloc hb.out.size _)).trans (hb2.mono (Nat.le_trans hb.out.size (by rw [alloc_size']; omega))))
        clear hb2
        go_wp2_with fail
      · go_ret
        exact ⟨ret_bool (HNo.out (by simp)).symm, HB2.out⟩
      · go_roundw
        case rel => exact ⟨k + 1, by omega, by go_num, HA2.out, HB2.out⟩
        case measure => simp [intOf]; omega
    · have hall : qs.take k = qs := List.take_of_length_le (by rw [HL.out]; omega)
      rw [hall] at hA
      go_wp2_with fail
      go_ret
      exact ⟨ret_bool (show true = ownQ qs from hA.out.symm), hb.out⟩
end Go.Proofs.YtfmmpahbjkiomaaGreatDoor
