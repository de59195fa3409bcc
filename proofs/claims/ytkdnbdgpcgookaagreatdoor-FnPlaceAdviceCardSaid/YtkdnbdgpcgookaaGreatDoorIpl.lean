/- PlaceAdvice of the program. Conditions: texts and aspects of at most 2^20 bytes; the errors lie where start-up laid them. -/
import Derived.Test.YtkdnbdgpcgookaaGreatDoorPlq
namespace Go.Proofs.YtkdnbdgpcgookaaGreatDoor
open Go.RowKit Go.Shelf Gram

set_option maxHeartbeats 4000000 in
set_option maxRecDepth 100000 in
theorem ipl_any (w : World) (s : ByteArray) (a : Option Addr) (n c : Nat) (zs : List As) (hA : Asps w a n zs) (hn : n + asT zs ≤ 1048576) (hs : s.size ≤ 1048576) (ek ec eb el ep : Addr) (he : Errs w ek ec eb el ep) :
    Calls Tryz.prog 18 #[.string s, .slice a n c] w fun e w' => e = .returned (plV s zs) ∧ Below w.heap.size w w' := by
  have HD := Lib.hid (rde_any s w (by omega))
  have HR := Lib.hid (fun w' (hb : Below w.heap.size w w') => rin_any w' a n c zs (hA.later hb) hn ek ec eb el ep (he.later hb))
  clear hA hn he
  go_enter Tryz.func18, Tryz.ntmps18
  go_wp2_with fail
  refine HD.out.mono ?_
  rintro e w1 ⟨hor, hb1⟩
  have HB1 := Lib.hid hb1
  clear hb1
  rcases hor with ⟨hd, v, rfl⟩ | ⟨hd, x, v, hbo, rfl, hst⟩
  · have HX := Lib.hid (show plV s zs = plN by unfold plV; rw [hd]; rfl)
    clear hd
    go_wp2_with fail
    refine (HR.out _ HB1.out).mono ?_
    rintro e w2 ⟨⟨g, cc, vals, rfl, _⟩, hb2⟩
    have HB2 := Lib.hid (HB1.out.trans (hb2.mono HB1.out.size))
    clear hb2
    go_wp2_with fail
    go_ret2
    exact ⟨by rw [HX.out]; rfl, HB2.out⟩
  · cases hok : allOk zs with
    | false =>
      have HX := Lib.hid (show plV s zs = plN by unfold plV; rw [hd, hok]; rfl)
      clear hd hst hbo
      go_wp2_with fail
      refine (HR.out _ HB1.out).mono ?_
      rintro e w2 ⟨⟨g, cc, vals, rfl, _⟩, hb2⟩
      have HB2 := Lib.hid (HB1.out.trans (hb2.mono HB1.out.size))
      rw [hok]
      clear hb2 hok
      go_wp2_with fail
      go_ret2
      exact ⟨by rw [HX.out]; rfl, HB2.out⟩
    | true =>
      have HX := Lib.hid (plV_plS s zs x hbo hd hok)
      have HBo := Lib.hid (allZ_bodies zs hok)
      have HL5 := Lib.hid (allZ_len zs)
      obtain ⟨hs4, htx, hwx, _⟩ := bodyOf_some hbo
      have hx4 : (txts [x]).length ≤ 400 := by rw [← htx]; simpa using hs4
      have HX4 := Lib.hid hx4
      obtain ⟨ty, pv, rfl⟩ := (hst w (fun _ => False)).iface
      have HSt := Lib.hid hst
      have HW := Lib.hid hwx
      clear hd hst hbo htx hwx hs4 hx4
      go_wp2_with fail
      refine (HR.out _ HB1.out).mono ?_
      rintro e w2 ⟨⟨g, cc, vals, rfl, hinl⟩, hb2⟩
      have HB2 := Lib.hid (HB1.out.trans (hb2.mono HB1.out.size))
      rw [hok]
      have hlb := bsOf_len (allZ zs)
      have hl5 : (bsOf (allZ zs)).length ≤ 1000 := by have := HL5.out; omega
      rw [← hlb] at hinl ⊢
      generalize bsOf (allZ zs) = bs at *
      have HP := Lib.hid (callsIn_wide.1 (plz_in w2 x ty pv HSt.out ⟨HX4.out, HW.out⟩ _ g cc vals bs hinl HBo.out hl5))
      have HLe := Lib.hid (fun o (h : plS bs [x] = some o) => plS_le bs [x] o HX4.out h)
      unfold PlTo at HP
      clear hb2 hinl hlb hl5 HBo HSt hok HR HL5
      go_wp2_with fail
      refine HP.out.mono ?_
      rintro e w3 ⟨hor, hb3⟩
      have HB3 := Lib.hid (HB2.out.trans (hb3.mono HB2.out.size))
      have hx2 := HX.out
      clear hb3 HP HX
      cases hps : plS bs [x] with
      | none =>
        rw [hps] at hor hx2
        have HX2 := Lib.hid hx2
        subst hor
        clear hps hx2
        go_wp2_with fail
        refine (body_any'' (w := w3) (S := fun _ => False) (xs := []) (v := .slice none 0 0) (by simp [txts]) (fun _ h => h.elim) ⟨[], ⟨⟨rfl, .inl ⟨rfl, rfl⟩⟩, fun g hg => by cases hg⟩, by simp [IsStms]⟩).mono ?_
        rintro e w4 ⟨rfl, hb4⟩
        have HB4 := Lib.hid (HB3.out.trans (hb4.mono HB3.out.size))
        unfold strV
        clear hb4
        go_wp2_with fail
        go_ret2
        exact ⟨by rw [HX2.out]; rfl, HB4.out⟩
      | some o =>
        rw [hps] at hor hx2
        have HX2 := Lib.hid hx2
        have hol := HLe.out o hps
        obtain ⟨v, S, rfl, hbd, hS⟩ := hor
        clear hps hx2
        obtain ⟨vs, hr, hst2⟩ := hbd
        obtain ⟨la, ln, lc, rfl⟩ := slice_form hr.1
        have HBt := Lib.hid (body_any'' (w := w3) (S := S) (xs := o) (v := .slice la ln lc) (by omega) hS ⟨vs, hr, hst2⟩)
        clear hr hst2 hS
        go_wp2_with fail
        refine HBt.out.mono ?_
        rintro e w4 ⟨rfl, hb4⟩
        have HB4 := Lib.hid (HB3.out.trans (hb4.mono HB3.out.size))
        unfold strV
        clear hb4
        go_wp2_with fail
        go_ret2
        exact ⟨by rw [HX2.out]; rfl, HB4.out⟩
end Go.Proofs.YtkdnbdgpcgookaaGreatDoor
