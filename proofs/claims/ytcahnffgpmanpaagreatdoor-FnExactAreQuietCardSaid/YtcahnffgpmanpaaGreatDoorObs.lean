/- AreObservers and AreQuiet, of the program and of the model, as plain functions of a list of aspects say. Conditions: at most 2^20 aspects and bytes; the errors lie where start-up laid them. -/
import Derived.Test.YtcahnffgpmanpaaGreatDoorCls
import Derived.Test.YtcahnffgpmanpaaGreatDoorAsps2
import Derived.Shelf.Abstract
namespace Go.Proofs.YtcahnffgpmanpaaGreatDoor
open Go.RowKit Gram

def obsOk (p : As) : Bool := (clsOf p.1 p.2.1 p.2.2).toList == [111, 98, 115, 101, 114, 118, 101, 114]
def prtOk (p : As) : Bool := deedIs Dd.prt p.1 p.2.1 p.2.2
def obsP (zs : List As) : Bool := aspsP zs && zs.all obsOk
def quietP (zs : List As) : Bool := obsP zs && !zs.any prtOk

theorem all_take {P : As → Bool} (zs : List As) (k : Nat) (h : k < zs.length) : (zs.take (k + 1)).all P = ((zs.take k).all P && P zs[k]) := by
  rw [List.take_succ_eq_append_getElem h, List.all_append]; simp
theorem all_not {P : As → Bool} (zs : List As) (k : Nat) (h : k < zs.length) (hn : P zs[k] = false) : zs.all P = false := by
  rw [List.all_eq_false]; exact ⟨zs[k], List.getElem_mem h, by rw [hn]; decide⟩
theorem any_take {P : As → Bool} (zs : List As) (k : Nat) (h : k < zs.length) : (zs.take (k + 1)).any P = ((zs.take k).any P || P zs[k]) := by
  rw [List.take_succ_eq_append_getElem h, List.any_append]; simp
theorem any_yes {P : As → Bool} (zs : List As) (k : Nat) (h : k < zs.length) (hn : P zs[k] = true) : zs.any P = true := by
  rw [List.any_eq_true]; exact ⟨zs[k], List.getElem_mem h, hn⟩

/-- what a predicate of aspects answers -/
def Asks (f : FuncId) (P : As → Bool) (w : World) (p : As) : Prop := ∀ w', Below w.heap.size w w' → Calls Tryz.prog f #[asV p] w' fun e w'' => e = .returned (.bool (P p)) ∧ Below w'.heap.size w' w''

set_option maxHeartbeats 1000000 in
set_option maxRecDepth 100000 in
theorem indexFunc_any (f : FuncId) (hE : ∀ (args : Array Value) (w : World), (callFunc f args).run Tryz.prog w = .ok (.enter f args) w) (P : As → Bool) (w : World) (a : Option Addr) (n c : Nat) (zs : List As) (hA : Asps w a n zs) (hn : n ≤ 1048576)
    (hP : ∀ k (h : k < zs.length), Asks f P w zs[k]) :
    Calls Tryz.prog 27 #[.slice a n c, .func (.func f) #[] #[]] w fun e w' => (∃ r : Int, e = .returned (.int .i64 r) ∧ -1 ≤ r ∧ r ≤ 1048576 ∧ decide (0 ≤ r) = zs.any P) ∧ Below w.heap.size w w' := by
  have HA := Lib.hid hA
  have HP := Lib.hid hP
  clear hA hP
  go_enter Tryz.func27, Tryz.ntmps27
  go_wp2_with fail
  go_loopw [5, 8] (fun _ i wr => ∃ k : Nat, k ≤ n ∧ i = .int .i64 k ∧ Hid ((zs.take k).any P = false) ∧ Hid (Below w.heap.size w wr)) (fun _ i _ => n - (intOf i).toNat)
  case atStart => exact ⟨0, Nat.zero_le _, by go_num, by show _ = _; simp, Below.refl _ _⟩
  case round =>
    obtain ⟨k, hk, rfl, hO, hW⟩ := hrel
    by_cases hlt : k < n
    · have hz : k < zs.length := by rw [HA.out.len]; exact hlt
      obtain ⟨g, off, rfl, c0, c1, c2⟩ := (HA.out.later hW.out).at_ k hz
      have HQ := Lib.hid (HP.out k hz)
      have HT := Lib.hid (any_take (P := P) zs k hz)
      have HF := Lib.hid (any_yes (P := P) zs k hz)
      unfold Asks asV aspV at HQ
      cases hb : P zs[k] with
      | true =>
        have HR := Lib.hid (HF.out hb)
        rw [hb] at HQ
        clear hb HT HF
        generalize zs[k] = p at *
        obtain ⟨x, y, z⟩ := p
        go_wp2_with fail
        refine (HQ.out _ hW.out).mono ?_
        rintro e w5 ⟨rfl, hb5⟩
        have HB5 := Lib.hid (hW.out.trans (hb5.mono hW.out.size))
        clear hb5
        go_wp2_with fail
        go_ret
        exact ⟨⟨k, rfl, by omega, by omega, by rw [HR.out]; simp⟩, HB5.out⟩
      | false =>
        rw [hb] at HQ HT
        clear hb HF
        generalize zs[k] = p at *
        obtain ⟨x, y, z⟩ := p
        go_wp2_with fail
        refine (HQ.out _ hW.out).mono ?_
        rintro e w5 ⟨rfl, hb5⟩
        have HB5 := Lib.hid (hW.out.trans (hb5.mono hW.out.size))
        clear hb5
        go_wp2_with fail
        go_roundw
        case rel => exact ⟨k + 1, by omega, by go_num, by show _ = _; rw [HT.out, hO.out]; rfl, HB5.out⟩
        case measure => simp [intOf]; omega
    · have HO := Lib.hid (show zs.any P = false by
        have h2 : zs.take k = zs := List.take_of_length_le (by rw [HA.out.len]; omega)
        have h1 := hO.out
        rw [h2] at h1
        exact h1)
      go_wp2_with fail
      go_ret
      exact ⟨⟨-1, rfl, by omega, by omega, by rw [HO.out]; rfl⟩, hW.out⟩

set_option maxHeartbeats 1000000 in
theorem containsFunc_any (f : FuncId) (hE : ∀ (args : Array Value) (w : World), (callFunc f args).run Tryz.prog w = .ok (.enter f args) w) (P : As → Bool) (w : World) (a : Option Addr) (n c : Nat) (zs : List As) (hA : Asps w a n zs) (hn : n ≤ 1048576)
    (hP : ∀ k (h : k < zs.length), Asks f P w zs[k]) :
    Calls Tryz.prog 17 #[.slice a n c, .func (.func f) #[] #[]] w fun e w' => e = .returned (.bool (zs.any P)) ∧ Below w.heap.size w w' := by
  have HI := Lib.hid (indexFunc_any f hE P w a n c zs hA hn hP)
  clear hA hP hE
  go_enter Tryz.func17, Tryz.ntmps17
  go_wp2_with fail
  refine HI.out.mono ?_
  rintro e w1 ⟨⟨r, rfl, h1, h2, h3⟩, hb⟩
  have H3 := Lib.hid h3
  clear h3
  go_wp2_with fail
  go_ret
  exact ⟨ret_bool H3.out, hb⟩

theorem enters_obs (args : Array Value) (w : World) : (callFunc 18 args).run Tryz.prog w = .ok (.enter 18 args) w :=
  enters_of Tryz.func18 (by kernel_rfl) rfl args w
theorem enters_prt (args : Array Value) (w : World) : (callFunc 22 args).run Tryz.prog w = .ok (.enter 22 args) w :=
  enters_of Tryz.func22 (by kernel_rfl) rfl args w

set_option maxHeartbeats 1000000 in
theorem notObs_any (p : As) (w : World) (ek ec eb el ep : Addr) (h : Errs w ek ec eb el ep) (hc : p.2.1.size ≤ 1073741824) (hb : p.2.2.size ≤ 1073741824) : Asks 18 (fun p => !obsOk p) w p := by
  intro w' hw
  have HC := Lib.hid (fun w'' (hw2 : Below w'.heap.size w' w'') => impl_cls p.1 p.2.1 p.2.2 w'' ek ec eb el ep ((h.later hw).later hw2) hc hb)
  obtain ⟨x, y, z⟩ := p
  unfold asV aspV obsOk at *
  dsimp only at *
  clear h hc hb hw
  generalize clsOf x y z = q at *
  go_enter Tryz.func18, Tryz.ntmps18
  go_wp2_with fail
  refine (HC.out _ ((Below.refl _ w').alloc (Nat.le_refl _) _)).mono ?_
  rintro e w1 ⟨rfl, hb1⟩
  have HB := Lib.hid (((Below.refl _ w').alloc (Nat.le_refl _) _).trans (hb1.mono (by simp)))
  clear hb1
  go_wp2_with fail
  go_ret
  exact ⟨rfl, HB.out⟩

theorem notObs_all (zs : List As) : zs.any (fun p => !obsOk p) = !zs.all obsOk := by
  induction zs with
  | nil => rfl
  | cons x l ih => simp [ih]

set_option maxHeartbeats 1000000 in
set_option maxRecDepth 100000 in
theorem impl_obs (w : World) (a : Option Addr) (n c : Nat) (zs : List As) (hA : Asps w a n zs) (hn : n + asT zs ≤ 1048576) (ek ec eb el ep : Addr) (he : Errs w ek ec eb el ep) :
    Calls Tryz.prog 8 #[.slice a n c] w fun e w' => e = .returned (.bool (obsP zs)) ∧ Below w.heap.size w w' := by
  have HV := Lib.hid (impls_any w a n c zs hA hn ek ec eb el ep he)
  have HC := Lib.hid (fun w' (hw : Below w.heap.size w w') => containsFunc_any 18 enters_obs (fun p => !obsOk p) w' a n c zs (hA.later hw) (by omega)
    (fun k hk => notObs_any zs[k] w' ek ec eb el ep (he.later hw) (by have h1 := asT_le zs k hk; unfold asZ at h1; omega) (by have h1 := asT_le zs k hk; unfold asZ at h1; omega)))
  simp only [notObs_all] at HC
  unfold obsP
  clear hA hn he
  generalize zs.all obsOk = t at *
  cases hv : aspsP zs with
  | false =>
    rw [hv] at HV
    clear hv HC
    go_enter Tryz.func8, Tryz.ntmps8
    go_wp2_with fail
    refine HV.out.mono ?_
    rintro e w1 ⟨rfl, hb⟩
    go_wp2_with fail
    go_ret
    exact ⟨rfl, hb⟩
  | true =>
    rw [hv] at HV
    clear hv
    go_enter Tryz.func8, Tryz.ntmps8
    go_wp2_with fail
    refine HV.out.mono ?_
    rintro e w1 ⟨rfl, hb⟩
    have HB := Lib.hid hb
    clear hb
    go_wp2_with fail
    refine (HC.out _ HB.out).mono ?_
    rintro e w2 ⟨rfl, hb2⟩
    have HB2 := Lib.hid (HB.out.trans (hb2.mono HB.out.size))
    clear hb2
    go_wp2_with fail
    go_ret
    exact ⟨ret_bool (by simp), HB2.out⟩

set_option maxHeartbeats 1000000 in
set_option maxRecDepth 100000 in
theorem spec_obs (w : World) (a : Option Addr) (n c : Nat) (zs : List As) (hA : Asps w a n zs) (hn : n + asT zs ≤ 1048576) :
    Calls Tryz.prog 6 #[.slice a n c] w fun e w' => e = .returned (.bool (obsP zs)) ∧ Below w.heap.size w w' := by
  have HV := Lib.hid (fun w' (hw : Below w.heap.size w w') => specs_any w' a n c zs (hA.later hw) hn)
  have HA := Lib.hid hA
  have HN := Lib.hid hn
  have hn1 : n ≤ 1048576 := by omega
  clear hA hn
  go_enter Tryz.func6, Tryz.ntmps6
  go_wp2_with fail
  go_loopw [7] (fun i wr => ∃ k : Nat, k ≤ n ∧ i = .int .i64 k ∧ Hid ((zs.take k).all obsOk = true) ∧ Hid (Below w.heap.size w wr)) (fun i _ => n - (intOf i).toNat)
  case atStart => exact ⟨0, Nat.zero_le _, by go_num, by show _ = _; simp, Below.refl _ _⟩
  case round =>
    obtain ⟨k, hk, rfl, hO, hW⟩ := hrel
    by_cases hlt : k < n
    · have hz : k < zs.length := by rw [HA.out.len]; exact hlt
      obtain ⟨g, off, rfl, c0, c1, c2⟩ := (HA.out.later hW.out).at_ k hz
      have HE := Lib.hid (fun w => spec_cls zs[k].1 zs[k].2.1 zs[k].2.2 w (by have h1 := asT_le zs k hz; have h2 := HN.out; unfold asZ at h1; omega) (by have h1 := asT_le zs k hz; have h2 := HN.out; unfold asZ at h1; omega))
      have HT := Lib.hid (all_take (P := obsOk) zs k hz)
      have HF := Lib.hid (all_not (P := obsOk) zs k hz)
      unfold aspV at HE
      cases hb : obsOk zs[k] with
      | true =>
        rw [hb] at HT
        unfold obsOk at hb
        clear HF
        generalize clsOf zs[k].1 zs[k].2.1 zs[k].2.2 = q at *
        generalize zs[k] = p at *
        obtain ⟨x, y, z⟩ := p
        have HB0 := Lib.hid (hW.out.alloc hW.out.size (Obj.cells #[.string x, .string y, .string z] 32))
        go_wp2_with fail
        refine (HE.out _).mono ?_
        rintro e w5 ⟨rfl, hb5⟩
        have HB5 := Lib.hid (HB0.out.trans (hb5.mono HB0.out.size))
        clear hb5
        go_wp2_with fail
        exact ⟨⟨k + 1, by omega, by go_num, by show _ = _; rw [HT.out, hO.out]; rfl, HB5.out⟩, by simp [intOf]; omega⟩
      | false =>
        have HP := Lib.hid (show obsP zs = false by unfold obsP; rw [HF.out hb]; simp)
        unfold obsOk at hb
        clear HF HT
        generalize clsOf zs[k].1 zs[k].2.1 zs[k].2.2 = q at *
        generalize zs[k] = p at *
        obtain ⟨x, y, z⟩ := p
        have HB0 := Lib.hid (hW.out.alloc hW.out.size (Obj.cells #[.string x, .string y, .string z] 32))
        go_wp2_with fail
        refine (HE.out _).mono ?_
        rintro e w5 ⟨rfl, hb5⟩
        have HB5 := Lib.hid (HB0.out.trans (hb5.mono HB0.out.size))
        clear hb5
        go_wp2_with fail
        go_ret
        exact ⟨ret_bool HP.out.symm, HB5.out⟩
    · have HO := Lib.hid (show obsP zs = aspsP zs by
        have h2 : zs.take k = zs := List.take_of_length_le (by rw [HA.out.len]; omega)
        have h1 := hO.out
        rw [h2] at h1
        unfold obsP; rw [h1]; simp)
      generalize aspsP zs = t at *
      go_wp2_with fail
      refine (HV.out _ hW.out).mono ?_
      rintro e w5 ⟨rfl, hb5⟩
      have HB5 := Lib.hid (hW.out.trans (hb5.mono hW.out.size))
      clear hb5
      go_wp2_with fail
      go_ret
      exact ⟨ret_bool HO.out.symm, HB5.out⟩
end Go.Proofs.YtcahnffgpmanpaaGreatDoor
