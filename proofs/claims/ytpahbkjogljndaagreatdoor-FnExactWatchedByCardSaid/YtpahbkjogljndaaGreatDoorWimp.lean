/- watchedBy and WatchedBy of the program, as the plain watR says. Conditions as in Asps. -/
import Derived.Test.YtpahbkjogljndaaGreatDoorWat
namespace Go.Proofs.YtpahbkjogljndaaGreatDoor
open Go.RowKit Gram

theorem asOk_cut {p : As} (h : asOk p = true) : ∃ x, cutOf p.2.1 = some x := by
  unfold asOk at h
  obtain ⟨q, hq⟩ := Option.isSome_iff_exists.1 h
  obtain ⟨n, xs⟩ := q
  exact Option.isSome_iff_exists.1 (aspOf_some hq).2.1

theorem watA_some {p : As} {x : Ct} (h : cutOf p.2.1 = some x) : watA p = behind [70] x := by unfold watA; rw [h]

set_option maxHeartbeats 1000000 in
set_option maxRecDepth 100000 in
theorem watched_by (w : World) (a : Option Addr) (n c : Nat) (zs : List As) (hA : Asps w a n zs) (hn : n + asT zs ≤ 1048576) (hok : zs.all asOk = true) :
    Calls Tryz.prog 32 #[.slice a n c] w fun e w' => e = .returned (.int .u32 (setOf (watL zs))) ∧ Below w.heap.size w w' := by
  have HA := Lib.hid hA
  have HN := Lib.hid hn
  have HK := Lib.hid (List.all_eq_true.1 hok)
  have hn1 : n ≤ 1048576 := by omega
  clear hA hn hok
  go_enter Tryz.func32, Tryz.ntmps32
  go_wp2_with fail
  go_loopw [3, 10] (fun s i wr => ∃ k m : Nat, k ≤ n ∧ i = .int .i64 k ∧ s = .int .u32 m ∧ m < 67108864 ∧ Hid (m = setOf (watL (zs.take k))) ∧ Hid (Below w.heap.size w wr)) (fun _ i _ => n - (intOf i).toNat)
  case atStart => exact ⟨0, 0, Nat.zero_le _, by go_num, by go_num, by omega, by show _ = _; simp [watL]; rfl, Below.refl _ _⟩
  case round =>
    obtain ⟨k, m, hk, rfl, rfl, hm, hM, hW⟩ := hrel
    by_cases hlt : k < n
    · have hz : k < zs.length := by rw [HA.out.len]; exact hlt
      obtain ⟨g, off, rfl, c0, c1, c2⟩ := (HA.out.later hW.out).at_ k hz
      obtain ⟨x, hx⟩ := asOk_cut (HK.out _ (List.getElem_mem hz))
      obtain ⟨z1, z2, z3, _⟩ := cutOf_some hx
      have HR := Lib.hid (fun w' => read_cut zs[k].2.1 w' (by omega))
      have HB := Lib.hid (names_behind x ⟨#[70]⟩ z3)
      have HT := Lib.hid (watL_take zs k hz)
      rw [watA_some hx] at HT
      have HO := Lib.hid (setOf_or (watL (zs.take k)) (behind [70] x))
      rw [← HT.out, ← hM.out] at HO
      have hb := setOf_lt _ (behind_lets [70] x z3)
      have hm2 : m ||| setOf (behind [70] x) < 67108864 := Nat.or_lt_two_pow (n := 26) hm hb
      have HC := Lib.hid hx
      have HL := Lib.hid (fun w' => HB.out w')
      change Hid (∀ w, Calls _ _ _ _ fun e w' => e = .returned (.int .u32 ((setOf (behind [70] x) : Nat) : Int)) ∧ _) at HL
      clear HB HT hx z1 z2 z3
      generalize zs[k] = p at *
      obtain ⟨p1, p2, p3⟩ := p
      simp only at HR HC c0 c1 c2
      have e1 := or32 m (setOf (behind [70] x)) (by omega) (by omega)
      generalize setOf (behind [70] x) = m' at *
      unfold Ct.val at HL
      have HB0 := Lib.hid (hW.out.alloc hW.out.size (Obj.cells #[.string p1, .string p2, .string p3] 34))
      go_wp2_with fail
      refine (HR.out _).mono ?_
      rintro e w5 ⟨h5, hb5⟩
      rw [HC.out] at h5
      unfold Ct.val at h5
      subst h5
      generalize x.arg = ax at *
      have HB5 := Lib.hid (HB0.out.trans (hb5.mono HB0.out.size))
      clear hb5
      go_wp2_with fail
      refine (HL.out _).mono ?_
      rintro e w6 ⟨rfl, hb6⟩
      have HB6 := Lib.hid (HB5.out.trans (hb6.mono HB5.out.size))
      clear hb6
      go_wp2_with fail
      exact ⟨⟨k + 1, m ||| m', by omega, by go_num, rfl, hm2, HO.out, HB6.out⟩, by simp [intOf]; omega⟩
    · have HE := Lib.hid (show m = setOf (watL zs) by
        have h2 : zs.take k = zs := List.take_of_length_le (by rw [HA.out.len]; omega)
        have h1 := hM.out
        rw [h2] at h1; exact h1)
      go_wp2_with fail
      go_ret
      exact ⟨by rw [← HE.out]; rfl, hW.out⟩

set_option maxHeartbeats 1000000 in
set_option maxRecDepth 100000 in
theorem impl_wat (w : World) (a : Option Addr) (n c : Nat) (zs : List As) (hA : Asps w a n zs) (hn : n + asT zs ≤ 1048576) (ek ec eb el ep : Addr) (he : Errs w ek ec eb el ep) :
    Calls Tryz.prog 19 #[.slice a n c] w fun e w' => e = .returned (.string (watR zs)) ∧ Below w.heap.size w w' := by
  have HV := Lib.hid (impls_any w a n c zs hA hn ek ec eb el ep he)
  cases hp : aspsP zs with
  | false =>
    have HT := Lib.hid (show watR zs = ⟨#[]⟩ by unfold watR; rw [hp]; rfl)
    rw [hp] at HV
    clear hp
    go_enter Tryz.func19, Tryz.ntmps19
    go_wp2_with fail
    refine HV.out.mono ?_
    rintro e w1 ⟨rfl, hb⟩
    have HB := Lib.hid hb
    clear hb
    go_wp2_with fail
    go_ret
    exact ⟨by rw [HT.out]; rfl, HB.out⟩
  | true =>
    have hok : zs.all asOk = true := by unfold aspsP at hp; rw [Bool.and_eq_true] at hp; exact hp.1
    have HT := Lib.hid (show watR zs = txtOf (setText (watL zs)) by unfold watR; rw [hp]; rfl)
    have HW := Lib.hid (fun w' (hb : Below w.heap.size w w') => watched_by w' a n c zs (hA.later hb) hn hok)
    have HX := Lib.hid (text_set (watL zs) (watL_lets zs))
    change Hid (∀ w, Calls _ _ _ _ fun e w' => e = .returned (.string (txtOf (setText (watL zs)))) ∧ _) at HX
    rw [← HT.out] at HX
    rw [hp] at HV
    clear hp hA hn hok he HT
    generalize setOf (watL zs) = m at *
    generalize watR zs = t at *
    go_enter Tryz.func19, Tryz.ntmps19
    go_wp2_with fail
    refine HV.out.mono ?_
    rintro e w1 ⟨rfl, hb⟩
    have HB := Lib.hid hb
    clear hb
    go_wp2_with fail
    refine (HW.out _ HB.out).mono ?_
    rintro e w2 ⟨rfl, hb⟩
    have HB2 := Lib.hid (HB.out.trans (hb.mono HB.out.size))
    clear hb
    go_wp2_with fail
    refine (HX.out _).mono ?_
    rintro e w3 ⟨rfl, hb⟩
    have HB3 := Lib.hid (HB2.out.trans (hb.mono HB2.out.size))
    clear hb
    go_wp2_with fail
    go_ret
    exact ⟨rfl, HB3.out⟩
end Go.Proofs.YtpahbkjogljndaaGreatDoor
