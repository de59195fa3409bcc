/- Lists of aspects: comparison with itself (the laws), AspectsValid of the model and of the program. Conditions as in Asps. -/
import Derived.Test.YtcahnffgpmanpaaDoorAsps
import Derived.Test.YtcahnffgpmanpaaDoorEqa
namespace Go.Proofs.YtcahnffgpmanpaaDoor
open Go.RowKit Gram

theorem six_later {w0 w w' : World} {g o g' o' : Nat} {x y z x' y' z' : Value} (h : w.cell? ⟨g, o, none⟩ = some x ∧ w.cell? ⟨g, o + 1, none⟩ = some y ∧ w.cell? ⟨g, o + 2, none⟩ = some z ∧
    w.cell? ⟨g', o', none⟩ = some x' ∧ w.cell? ⟨g', o' + 1, none⟩ = some y' ∧ w.cell? ⟨g', o' + 2, none⟩ = some z' ∧ Below w0.heap.size w0 w) (hb : Below w.heap.size w w') :
    w'.cell? ⟨g, o, none⟩ = some x ∧ w'.cell? ⟨g, o + 1, none⟩ = some y ∧ w'.cell? ⟨g, o + 2, none⟩ = some z ∧
    w'.cell? ⟨g', o', none⟩ = some x' ∧ w'.cell? ⟨g', o' + 1, none⟩ = some y' ∧ w'.cell? ⟨g', o' + 2, none⟩ = some z' ∧ Below w0.heap.size w0 w' := by
  obtain ⟨h0, h1, h2, h3, h4, h5, h6⟩ := h
  refine ⟨?_, ?_, ?_, ?_, ?_, ?_, h6.trans (hb.mono h6.size)⟩
  · rw [hb.cell (p := ⟨g, o, none⟩) (World.block_lt_of_cell? w _ h0)]; exact h0
  · rw [hb.cell (p := ⟨g, o + 1, none⟩) (World.block_lt_of_cell? w _ h1)]; exact h1
  · rw [hb.cell (p := ⟨g, o + 2, none⟩) (World.block_lt_of_cell? w _ h2)]; exact h2
  · rw [hb.cell (p := ⟨g', o', none⟩) (World.block_lt_of_cell? w _ h3)]; exact h3
  · rw [hb.cell (p := ⟨g', o' + 1, none⟩) (World.block_lt_of_cell? w _ h4)]; exact h4
  · rw [hb.cell (p := ⟨g', o' + 2, none⟩) (World.block_lt_of_cell? w _ h5)]; exact h5

set_option maxHeartbeats 1000000 in
set_option maxRecDepth 100000 in
theorem eqs_any (w : World) (a b : Option Addr) (n c d : Nat) (zs : List As) (hA : Asps w a n zs) (hB : Asps w b n zs) (hn : n ≤ 1048576) :
    Calls Tryd.prog 8 #[.slice a n c, .slice b n d] w fun e w' => e = .returned (.bool true) ∧ Below w.heap.size w w' := by
  have HA := Lib.hid hA
  have HB := Lib.hid hB
  clear hA hB
  go_enter Tryd.func8, Tryd.ntmps8
  go_wp2_with fail
  go_loopw [5] (fun i wr => ∃ k : Nat, k ≤ n ∧ i = .int .i64 k ∧ Hid (Below w.heap.size w wr)) (fun i _ => n - (intOf i).toNat)
  case atStart => exact ⟨0, Nat.zero_le _, by go_num, Below.refl _ _⟩
  case round =>
    obtain ⟨k, hk, rfl, hW⟩ := hrel
    by_cases hlt : k < n
    · have hz : k < zs.length := by rw [HA.out.len]; exact hlt
      obtain ⟨g, off, rfl, c0, c1, c2⟩ := (HA.out.later hW.out).at_ k hz
      obtain ⟨g', off', rfl, d0, d1, d2⟩ := (HB.out.later hW.out).at_ k hz
      have HE := Lib.hid (fun w => eqasp_same zs[k].1 zs[k].2.1 zs[k].2.2 w)
      unfold aspV at HE
      generalize zs[k] = p at *
      obtain ⟨x, y, z⟩ := p
      go_wp2_with fail
      go_region_held3 (fun w' => w'.cell? ⟨g, off + k * 3, none⟩ = some (.string x) ∧ w'.cell? ⟨g, off + k * 3 + 1, none⟩ = some (.string y) ∧ w'.cell? ⟨g, off + k * 3 + 2, none⟩ = some (.string z) ∧
          w'.cell? ⟨g', off' + k * 3, none⟩ = some (.string x) ∧ w'.cell? ⟨g', off' + k * 3 + 1, none⟩ = some (.string y) ∧ w'.cell? ⟨g', off' + k * 3 + 2, none⟩ = some (.string z) ∧ Below w.heap.size w w')
        ((first | assumption | exact ⟨c0, c1, c2, d0, d1, d2, hW.out.drew⟩ | (apply six_later; assumption; assumption)))
        ((first | (go_at_call 17; refine (HE.out _).mono ?_; rintro e w5 ⟨rfl, hb5⟩)))
      all_goals
        have HB5 := Lib.hid (hW.out.drew.trans (hb5.mono hW.out.drew.size))
        go_wp2_with fail
        exact ⟨⟨k + 1, by omega, by go_num, HB5.out⟩, by simp [intOf]; omega⟩
    · go_wp2_with fail
      go_ret
      exact ⟨rfl, hW.out⟩

def aspsP (zs : List As) : Bool := zs.all asOk && decide (zs.length ≤ 5)

set_option maxHeartbeats 1000000 in
set_option maxRecDepth 100000 in
theorem specs_any (w : World) (a : Option Addr) (n c : Nat) (zs : List As) (hA : Asps w a n zs) (hn : n + asT zs ≤ 1048576) :
    Calls Tryd.prog 19 #[.slice a n c] w fun e w' => e = .returned (.bool (aspsP zs)) ∧ Below w.heap.size w w' := by
  have HA := Lib.hid hA
  have HN := Lib.hid hn
  have hn1 : n ≤ 1048576 := by omega
  clear hA hn
  go_enter Tryd.func19, Tryd.ntmps19
  go_wp2_with fail
  go_loopw [7] (fun i wr => ∃ k : Nat, k ≤ n ∧ i = .int .i64 k ∧ Hid ((zs.take k).all asOk = true) ∧ Hid (Below w.heap.size w wr)) (fun i _ => n - (intOf i).toNat)
  case atStart => exact ⟨0, Nat.zero_le _, by go_num, by show _ = _; simp, Below.refl _ _⟩
  case round =>
    obtain ⟨k, hk, rfl, hO, hW⟩ := hrel
    by_cases hlt : k < n
    · have hz : k < zs.length := by rw [HA.out.len]; exact hlt
      obtain ⟨g, off, rfl, c0, c1, c2⟩ := (HA.out.later hW.out).at_ k hz
      have HE := Lib.hid (fun w => spec_asp zs[k].1 zs[k].2.1 zs[k].2.2 w (by have h1 := asT_le zs k hz; have h2 := HN.out; unfold asZ at h1; omega) (by have h1 := asT_le zs k hz; have h2 := HN.out; unfold asZ at h1; omega))
      have HT := Lib.hid (asOk_take zs k hz)
      have HF := Lib.hid (asOk_not zs k hz)
      cases hb : asOk zs[k] with
      | true =>
        have HO := Lib.hid hb
        rw [hb] at HT HF
        unfold asOk at hb
        rw [hb] at HE
        clear hb HF
        generalize zs[k] = p at *
        obtain ⟨x, y, z⟩ := p
        have HB0 := Lib.hid (hW.out.alloc hW.out.size (Obj.cells #[.string x, .string y, .string z] 35))
        go_wp2_with fail
        refine (HE.out _).mono ?_
        rintro e w5 ⟨rfl, hb5⟩
        have HB5 := Lib.hid (HB0.out.trans (hb5.mono HB0.out.size))
        clear hb5
        go_wp2_with fail
        exact ⟨⟨k + 1, by omega, by go_num, by show _ = _; rw [HT.out, hO.out]; rfl, HB5.out⟩, by simp [intOf]; omega⟩
      | false =>
        have HP := Lib.hid (show aspsP zs = false by unfold aspsP; rw [HF.out hb]; rfl)
        unfold asOk at hb
        rw [hb] at HE
        clear hb HT HF
        generalize zs[k] = p at *
        obtain ⟨x, y, z⟩ := p
        have HB0 := Lib.hid (hW.out.alloc hW.out.size (Obj.cells #[.string x, .string y, .string z] 35))
        go_wp2_with fail
        refine (HE.out _).mono ?_
        rintro e w5 ⟨rfl, hb5⟩
        have HB5 := Lib.hid (HB0.out.trans (hb5.mono HB0.out.size))
        clear hb5
        go_wp2_with fail
        go_ret
        exact ⟨ret_bool HP.out.symm, HB5.out⟩
    · have HO := Lib.hid (show aspsP zs = decide (n ≤ 5) by
        have h2 : zs.take k = zs := List.take_of_length_le (by rw [HA.out.len]; omega)
        have h1 := hO.out
        rw [h2] at h1
        unfold aspsP; rw [h1, HA.out.len]; rfl)
      go_wp2_with fail
      go_ret
      exact ⟨by rw [HO.out]; simp; try omega, hW.out⟩

set_option maxHeartbeats 1000000 in
set_option maxRecDepth 100000 in
theorem impls_any (w : World) (a : Option Addr) (n c : Nat) (zs : List As) (hA : Asps w a n zs) (hn : n + asT zs ≤ 1048576) (ek ec eb el ep : Addr) (he : Errs w ek ec eb el ep) :
    Calls Tryd.prog 14 #[.slice a n c] w fun e w' => e = .returned (.bool (aspsP zs)) ∧ Below w.heap.size w w' := by
  have HA := Lib.hid hA
  have HN := Lib.hid hn
  have HR := Lib.hid he
  have hn1 : n ≤ 1048576 := by omega
  clear hA hn he
  by_cases h5 : n ≤ 5
  · go_enter Tryd.func14, Tryd.ntmps14
    go_wp2_with fail
    go_loopw [10] (fun i wr => ∃ k : Nat, k ≤ n ∧ i = .int .i64 k ∧ Hid ((zs.take k).all asOk = true) ∧ Hid (Below w.heap.size w wr)) (fun i _ => n - (intOf i).toNat)
    case atStart => exact ⟨0, Nat.zero_le _, by go_num, by show _ = _; simp, Below.refl _ _⟩
    case round =>
      obtain ⟨k, hk, rfl, hO, hW⟩ := hrel
      by_cases hlt : k < n
      · have hz : k < zs.length := by rw [HA.out.len]; exact hlt
        obtain ⟨g, off, rfl, c0, c1, c2⟩ := (HA.out.later hW.out).at_ k hz
        have HE := Lib.hid (fun w' (hb : Below w.heap.size w w') => impl_asp zs[k].1 zs[k].2.1 zs[k].2.2 w' ek ec eb el ep (HR.out.later hb) (by have h1 := asT_le zs k hz; have h2 := HN.out; unfold asZ at h1; omega) (by have h1 := asT_le zs k hz; have h2 := HN.out; unfold asZ at h1; omega))
        unfold aspV at HE
        have HT := Lib.hid (asOk_take zs k hz)
        have HF := Lib.hid (asOk_not zs k hz)
        cases hb : asOk zs[k] with
        | true =>
          have HO := Lib.hid hb
          rw [hb] at HT HF
          unfold asOk at hb
          rw [hb] at HE
          clear hb HF
          generalize zs[k] = p at *
          obtain ⟨x, y, z⟩ := p
          have HB0 := Lib.hid (hW.out.alloc hW.out.size (Obj.cells #[.string x, .string y, .string z] 35))
          go_wp2_with fail
          refine (HE.out _ HB0.out).mono ?_
          rintro e w5 ⟨rfl, hb5⟩
          have HB5 := Lib.hid (HB0.out.trans (hb5.mono HB0.out.size))
          clear hb5
          go_wp2_with fail
          exact ⟨⟨k + 1, by omega, by go_num, by show _ = _; rw [HT.out, hO.out]; rfl, HB5.out⟩, by simp [intOf]; omega⟩
        | false =>
          have HP := Lib.hid (show aspsP zs = false by unfold aspsP; rw [HF.out hb]; rfl)
          unfold asOk at hb
          rw [hb] at HE
          clear hb HT HF
          generalize zs[k] = p at *
          obtain ⟨x, y, z⟩ := p
          have HB0 := Lib.hid (hW.out.alloc hW.out.size (Obj.cells #[.string x, .string y, .string z] 35))
          go_wp2_with fail
          refine (HE.out _ HB0.out).mono ?_
          rintro e w5 ⟨rfl, hb5⟩
          have HB5 := Lib.hid (HB0.out.trans (hb5.mono HB0.out.size))
          clear hb5
          go_wp2_with fail
          go_ret
          exact ⟨ret_bool HP.out.symm, HB5.out⟩
      · have HO := Lib.hid (show aspsP zs = true by
          have h2 : zs.take k = zs := List.take_of_length_le (by rw [HA.out.len]; omega)
          have h1 := hO.out
          rw [h2] at h1
          unfold aspsP; rw [h1, HA.out.len]; simpa using h5)
        go_wp2_with fail
        go_ret
        exact ⟨ret_bool HO.out.symm, hW.out⟩
  · have HO := Lib.hid (show aspsP zs = false by unfold aspsP; rw [HA.out.len]; simp; intro _; omega)
    go_enter Tryd.func14, Tryd.ntmps14
    go_wp2_with fail
    go_ret
    exact ⟨ret_bool HO.out.symm, Below.refl _ _⟩
end Go.Proofs.YtcahnffgpmanpaaDoor
