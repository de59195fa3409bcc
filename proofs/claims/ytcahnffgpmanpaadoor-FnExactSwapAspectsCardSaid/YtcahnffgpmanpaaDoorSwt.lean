/- SwapAspects of the program and of the model at every list and index, as the plain swZ says. Conditions: at most 2^20 aspects and bytes; the errors lie where start-up laid them. -/
import Derived.Test.YtcahnffgpmanpaaDoorSpt
namespace Go.Proofs.YtcahnffgpmanpaaDoor
open Go.RowKit Gram

theorem row_none (w : World) (B : Nat) (e : TypeId) (sz : Nat) : w.ownsRow B e sz (.slice none 0 0) 0 [] := ⟨by simp, .inl ⟨rfl, rfl⟩⟩

set_option maxHeartbeats 1000000 in
set_option maxRecDepth 100000 in
theorem impl_sw (w : World) (B g n c : Nat) (zs : List As) (i : Int) (hR : Arow w B g n c zs) (hl : zs.length = n) (hn : n + asT zs ≤ 1048576) (ek ec eb el ep : Addr) (he : Errs w ek ec eb el ep) :
    Calls Tryd.prog 7 #[.slice (some ⟨g, 0, none⟩) n c, .int .i64 i] w (SwTo zs i w) := by
  have hA : Asps w (some ⟨g, 0, none⟩) n zs := asps_of_row hR
  cases hs : swOk zs i with
  | true =>
    obtain ⟨hv, xs, ys, p, q, rfl, hz, hw, h5⟩ := swOk_cut hs
    refine (impl_sw_yes w B g n c xs.length zs xs ys p q hz hR hl rfl (by omega) (fun w' hb => by have := impls_any w' _ n c zs (hA.later hb) hn ek ec eb el ep (he.later hb); rw [hv] at this; exact this)).mono ?_
    rintro e w' ⟨g', c', rfl, h1, h2⟩
    exact swTo_some hs hw (by rw [← hl, hz]; simp) h1 h2
  | false =>
    have HS := Lib.hid hs
    have HV := Lib.hid (impls_any w _ n c zs hA hn ek ec eb el ep he)
    have HH := Lib.hid (hasNext_any (some ⟨g, 0, none⟩) n c i (by omega))
    cases hv : aspsP zs with
    | false =>
      rw [hv] at HV
      clear hv hs hR hA he HH hl
      go_enter Tryd.func7, Tryd.ntmps7
      go_wp2_with fail
      refine HV.out.mono ?_
      rintro e w1 ⟨rfl, hb⟩
      go_wp2_with fail
      go_ret2
      exact swTo_none HS.out (row_none _ _ _ _) hb
    | true =>
      rw [hv] at HV
      have hh : (decide (0 ≤ i) && decide (i < (n : Int) - 1)) = false := by
        unfold swOk at hs
        rw [hv, hl] at hs
        exact hs
      rw [hh] at HH
      clear hv hs hR hA he hl hh
      go_enter Tryd.func7, Tryd.ntmps7
      go_wp2_with fail
      refine HV.out.mono ?_
      rintro e w1 ⟨rfl, hb⟩
      have HB := Lib.hid hb
      clear hb
      go_wp2_with fail
      refine (HH.out _).mono ?_
      rintro e _ ⟨rfl, rfl⟩
      go_wp2_with fail
      go_ret2
      exact swTo_none HS.out (row_none _ _ _ _) HB.out

set_option maxHeartbeats 1000000 in
set_option maxRecDepth 100000 in
theorem spec_sw (w : World) (B g n c : Nat) (zs : List As) (i : Int) (hR : Arow w B g n c zs) (hl : zs.length = n) (hn : n + asT zs ≤ 1048576) :
    Calls Tryd.prog 5 #[.slice (some ⟨g, 0, none⟩) n c, .int .i64 i] w (SwTo zs i w) := by
  have hA : Asps w (some ⟨g, 0, none⟩) n zs := asps_of_row hR
  have HP := Lib.hid (fun w' (hb : Below w.heap.size w w') => pair_any (some ⟨g, 0, none⟩) n c i (by omega) w' (aspsP zs) (fun w'' hb2 => specs_any w'' _ n c zs ((hA.later hb).later hb2) hn))
  rw [show (aspsP zs && (decide (0 ≤ i) && decide (i < (n : Int) - 1))) = swOk zs i by unfold swOk; rw [hl]] at HP
  cases hs : swOk zs i with
  | true =>
    rw [hs] at HP
    obtain ⟨hv, xs, ys, p, q, rfl, hz, hw, h5⟩ := swOk_cut hs
    refine (spec_sw_yes w B g n c xs.length zs xs ys p q hz hR hl rfl (by omega) HP.out).mono ?_
    rintro e w' ⟨g', c', rfl, h1, h2⟩
    exact swTo_some hs hw (by rw [← hl, hz]; simp) h1 h2
  | false =>
    rw [hs] at HP
    have HS := Lib.hid hs
    clear hs hR hA hl
    go_enter Tryd.func5, Tryd.ntmps5
    go_wp2_with fail
    refine (HP.out _ (Below.refl _ _)).mono ?_
    rintro e w1 ⟨rfl, hb⟩
    go_wp2_with fail
    go_ret2
    exact swTo_none HS.out (arow_e (heap_alloc_new w1 _) hb.size) (hb.alloc hb.size _)
end Go.Proofs.YtcahnffgpmanpaaDoor
