/- AreQuiet, of the program and of the model, as a plain function of a list of aspects says. Conditions: at most 2^20 aspects and bytes; the errors lie where start-up laid them. -/
import Derived.Test.YtcahnffgpmanpaaGreatDoorObs
namespace Go.Proofs.YtcahnffgpmanpaaGreatDoor
open Go.RowKit Gram

theorem prt_asks (p : As) (w : World) (ek ec eb el ep : Addr) (h : Errs w ek ec eb el ep) (hc : p.2.1.size ≤ 1073741824) (hb : p.2.2.size ≤ 1073741824) : Asks 22 prtOk w p :=
  fun w' hw => impl_prt p.1 p.2.1 p.2.2 w' ek ec eb el ep (h.later hw) hc hb

set_option maxHeartbeats 1000000 in
set_option maxRecDepth 100000 in
theorem impl_qui (w : World) (a : Option Addr) (n c : Nat) (zs : List As) (hA : Asps w a n zs) (hn : n + asT zs ≤ 1048576) (ek ec eb el ep : Addr) (he : Errs w ek ec eb el ep) :
    Calls Tryz.prog 11 #[.slice a n c] w fun e w' => e = .returned (.bool (quietP zs)) ∧ Below w.heap.size w w' := by
  have HV := Lib.hid (impl_obs w a n c zs hA hn ek ec eb el ep he)
  have HC := Lib.hid (fun w' (hw : Below w.heap.size w w') => containsFunc_any 22 enters_prt prtOk w' a n c zs (hA.later hw) (by omega)
    (fun k hk => prt_asks zs[k] w' ek ec eb el ep (he.later hw) (by have h1 := asT_le zs k hk; unfold asZ at h1; omega) (by have h1 := asT_le zs k hk; unfold asZ at h1; omega)))
  unfold quietP
  clear hA hn he
  generalize zs.any prtOk = t at *
  cases hv : obsP zs with
  | false =>
    rw [hv] at HV
    clear hv HC
    go_enter Tryz.func11, Tryz.ntmps11
    go_wp2_with fail
    refine HV.out.mono ?_
    rintro e w1 ⟨rfl, hb⟩
    go_wp2_with fail
    go_ret
    exact ⟨rfl, hb⟩
  | true =>
    rw [hv] at HV
    clear hv
    go_enter Tryz.func11, Tryz.ntmps11
    go_wp2_with fail
    refine HV.out.mono ?_
    rintro e w1 ⟨rfl, hb⟩
    have HB := Lib.hid hb
    clear hb
    go_wp2_with fail
    refine (HC.out _ HB.out).mono ?_
    rintro e w2 ⟨rfl, hb2⟩
    have HB2 := Lib.hid (HB.out.trans (hb2.mono HB.out.size))
    clear hb2
    go_wp2_with fail
    go_ret
    exact ⟨ret_bool (by simp), HB2.out⟩

set_option maxHeartbeats 1000000 in
set_option maxRecDepth 100000 in
theorem spec_qui (w : World) (a : Option Addr) (n c : Nat) (zs : List As) (hA : Asps w a n zs) (hn : n + asT zs ≤ 1048576) :
    Calls Tryz.prog 10 #[.slice a n c] w fun e w' => e = .returned (.bool (quietP zs)) ∧ Below w.heap.size w w' := by
  have HV := Lib.hid (fun w' (hw : Below w.heap.size w w') => spec_obs w' a n c zs (hA.later hw) hn)
  have HA := Lib.hid hA
  have HN := Lib.hid hn
  have hn1 : n ≤ 1048576 := by omega
  clear hA hn
  go_enter Tryz.func10, Tryz.ntmps10
  go_wp2_with fail
  go_loopw [7] (fun i wr => ∃ k : Nat, k ≤ n ∧ i = .int .i64 k ∧ Hid ((zs.take k).any prtOk = false) ∧ Hid (Below w.heap.size w wr)) (fun i _ => n - (intOf i).toNat)
  case atStart => exact ⟨0, Nat.zero_le _, by go_num, by show _ = _; simp, Below.refl _ _⟩
  case round =>
    obtain ⟨k, hk, rfl, hO, hW⟩ := hrel
    by_cases hlt : k < n
    · have hz : k < zs.length := by rw [HA.out.len]; exact hlt
      obtain ⟨g, off, rfl, c0, c1, c2⟩ := (HA.out.later hW.out).at_ k hz
      have HE := Lib.hid (fun w => spec_prt zs[k].1 zs[k].2.1 zs[k].2.2 w (by have h1 := asT_le zs k hz; have h2 := HN.out; unfold asZ at h1; omega) (by have h1 := asT_le zs k hz; have h2 := HN.out; unfold asZ at h1; omega))
      have HT := Lib.hid (any_take (P := prtOk) zs k hz)
      have HF := Lib.hid (any_yes (P := prtOk) zs k hz)
      unfold aspV at HE
      cases hb : prtOk zs[k] with
      | false =>
        rw [hb] at HT
        unfold prtOk at hb
        rw [hb] at HE
        clear hb HF
        generalize zs[k] = p at *
        obtain ⟨x, y, z⟩ := p
        have HB0 := Lib.hid (hW.out.alloc hW.out.size (Obj.cells #[.string x, .string y, .string z] 32))
        go_wp2_with fail
        refine (HE.out _).mono ?_
        rintro e w5 ⟨rfl, hb5⟩
        have HB5 := Lib.hid (HB0.out.trans (hb5.mono HB0.out.size))
        clear hb5
        go_wp2_with fail
        exact ⟨⟨k + 1, by omega, by go_num, by show _ = _; rw [HT.out, hO.out]; rfl, HB5.out⟩, by simp [intOf]; omega⟩
      | true =>
        have HP := Lib.hid (show quietP zs = false by unfold quietP; rw [HF.out hb]; simp)
        unfold prtOk at hb
        rw [hb] at HE
        clear hb HF HT
        generalize zs[k] = p at *
        obtain ⟨x, y, z⟩ := p
        have HB0 := Lib.hid (hW.out.alloc hW.out.size (Obj.cells #[.string x, .string y, .string z] 32))
        go_wp2_with fail
        refine (HE.out _).mono ?_
        rintro e w5 ⟨rfl, hb5⟩
        have HB5 := Lib.hid (HB0.out.trans (hb5.mono HB0.out.size))
        clear hb5
        go_wp2_with fail
        go_ret
        exact ⟨ret_bool HP.out.symm, HB5.out⟩
    · have HO := Lib.hid (show quietP zs = obsP zs by
        have h2 : zs.take k = zs := List.take_of_length_le (by rw [HA.out.len]; omega)
        have h1 := hO.out
        rw [h2] at h1
        unfold quietP; rw [h1]; simp)
      generalize obsP zs = t at *
      go_wp2_with fail
      refine (HV.out _ hW.out).mono ?_
      rintro e w5 ⟨rfl, hb5⟩
      have HB5 := Lib.hid (hW.out.trans (hb5.mono hW.out.size))
      clear hb5
      go_wp2_with fail
      go_ret
      exact ⟨ret_bool HO.out.symm, HB5.out⟩
end Go.Proofs.YtcahnffgpmanpaaGreatDoor
