/- The law FnAspectText answers true at every bytes. Conditions: the errors lie where start-up laid them; the library's own number can be read. -/
import Derived.Test.YtkdnbdgpcgookaaGreatDoorAtx
import Derived.Test.YtkdnbdgpcgookaaGreatDoorDpa
import Derived.Test.YtkdnbdgpcgookaaGreatDoorLx
import Derived.Test.YtkdnbdgpcgookaaGreatDoorZx
import Derived.Deep.RegionHeld3
import Derived.Deep.RegionWith
namespace Go.Proofs.YtkdnbdgpcgookaaGreatDoor
open Go.RowKit Gram

/-- an aspect in a block of its own, and what was there -/
theorem at_later {w w2 w3 : World} {A : Nat} {x y z : Value} (h : w2.cell? ⟨A, 0, none⟩ = some x ∧ w2.cell? ⟨A, 1, none⟩ = some y ∧ w2.cell? ⟨A, 2, none⟩ = some z ∧ Below w.heap.size w w2) (hb : Below w2.heap.size w2 w3) :
    w3.cell? ⟨A, 0, none⟩ = some x ∧ w3.cell? ⟨A, 1, none⟩ = some y ∧ w3.cell? ⟨A, 2, none⟩ = some z ∧ Below w.heap.size w w3 :=
  ⟨cell_later hb h.1, cell_later hb h.2.1, cell_later hb h.2.2.1, h.2.2.2.trans (hb.mono h.2.2.2.size)⟩
theorem at_below {w w2 : World} {A : Nat} {x y z : Value} (h : w2.cell? ⟨A, 0, none⟩ = some x ∧ w2.cell? ⟨A, 1, none⟩ = some y ∧ w2.cell? ⟨A, 2, none⟩ = some z ∧ Below w.heap.size w w2) : Below w.heap.size w w2 := h.2.2.2
theorem at_drew {w w2 : World} {A : Nat} {x y z : Value} (h : w2.cell? ⟨A, 0, none⟩ = some x ∧ w2.cell? ⟨A, 1, none⟩ = some y ∧ w2.cell? ⟨A, 2, none⟩ = some z ∧ Below w.heap.size w w2) :
    w2.drew.cell? ⟨A, 0, none⟩ = some x ∧ w2.drew.cell? ⟨A, 1, none⟩ = some y ∧ w2.drew.cell? ⟨A, 2, none⟩ = some z ∧ Below w.heap.size w w2.drew := ⟨h.1, h.2.1, h.2.2.1, h.2.2.2.drew⟩
theorem at_start {w w2 : World} {A : Nat} {x y z : Value} (h : Cell3 w2 A x y z) (hb : Below w.heap.size w w2) :
    w2.drew.cell? ⟨A, 0, none⟩ = some x ∧ w2.drew.cell? ⟨A, 1, none⟩ = some y ∧ w2.drew.cell? ⟨A, 2, none⟩ = some z ∧ Below w.heap.size w w2.drew := by
  obtain ⟨h0, h1, h2, _⟩ := h.read
  exact ⟨h0, h1, h2, hb.drew⟩

/-- what a text tells, as three texts and whether they are an aspect -/
theorem par_val (t : ByteArray) : ∃ (K C B : ByteArray) (fl : Bool), parV (parA t) = .tuple #[.agg #[.string K, .string C, .string B], .bool fl] ∧ (fl = true → fmtA K C B = t ∧ K.size ≤ t.size ∧ C.size ≤ t.size ∧ B.size ≤ t.size) := by
  cases h : parA t with
  | none => exact ⟨⟨#[]⟩, ⟨#[]⟩, ⟨#[]⟩, false, rfl, fun h => by cases h⟩
  | some q =>
    obtain ⟨k, c, b⟩ := q
    obtain ⟨h1, h2⟩ := fmt_par h
    have h3 := fmtA_size h1
    rw [h2] at h3
    exact ⟨k, c, b, true, rfl, fun _ => ⟨h2, by omega, by omega, by omega⟩⟩

set_option maxHeartbeats 8000000 in
set_option maxRecDepth 100000 in
theorem at_fits (w : World) (a b : Option Addr) (n c m d : Nat) (h : BytesAt w a n) (hn : n ≤ c) (hc : c ≤ 9223372036854775807) (hnil : a = none → n = 0) (h' : BytesAt w b m) (hm : m ≤ d) (hd : d ≤ 9223372036854775807) (hnil' : b = none → m = 0) (hb : n ≤ 1048576) (hb' : m ≤ 1048576) (ek ec eb el ep : Addr) (he : Errs w ek ec eb el ep) (hmx : MaxCell w) :
    Calls Tryz.prog 3 #[.slice a n c, .slice b m d] w fun e w' => e = .returned (.bool true) ∧ Below w.heap.size w w' := by
  have HD := Lib.hid (dfo_any w a n c h hn hc hnil)
  have HE := Lib.hid he
  have HM := Lib.hid hmx
  have HDP := Lib.hid (fun w' (hw : Below w.heap.size w w') => dpa_any w' b m d (h'.later hw) hm hd hnil')
  have HDV := Lib.hid (fun w' (hw : Below w.heap.size w w') => dav_any w' b m d (h'.later hw) hm hd hnil')
  clear h hnil h' hnil' he hmx
  go_enter Tryz.func3, Tryz.ntmps3
  go_wp2_with fail
  refine HD.out.mono ?_
  rintro e w1 ⟨⟨k, cc, x, rfl, hk, hcc, hx⟩, hb1⟩
  have HB1 := Lib.hid (hb1.alloc hb1.size (Obj.cells #[.string k, .string cc, .string x] 24))
  have R1 := Lib.hid (Cell3.new w1 (.string k) (.string cc) (.string x))
  clear hb1 HD
  have HF := Lib.hid (fun w' (hb : Below w.heap.size w w') => impl_fmt k cc x w' ek ec eb el ep (HE.out.later hb) (by omega) (by omega) (by omega))
  have HV := Lib.hid (fun w' (hb : Below w.heap.size w w') => impl_asp k cc x w' ek ec eb el ep (HE.out.later hb) (by omega) (by omega))
  have SF := Lib.hid (fun w => spec_fmt k cc x w (by omega) (by omega) (by omega))
  have SV := Lib.hid (fun w => spec_asp k cc x w (by omega) (by omega))
  have S0 := Lib.hid (@fmtA_none k cc x)
  have S1 := Lib.hid (@fmtA_some k cc x)
  have SP := Lib.hid (@par_fmt k cc x)
  have SZ := Lib.hid (@fmtA_size k cc x)
  have HP := Lib.hid (fun (t : ByteArray) (ht : t.size ≤ 1000) w' (hb : Below w.heap.size w w') => par_any t w' ek ec eb el ep (HE.out.later hb) (HM.out.later hb) (by omega))
  have QP := Lib.hid (fun (t : ByteArray) (ht : t.size ≤ 1000) w' => spec_par t w' (by omega) (fun u hu => by have h1 := cuts_le _ u hu; have h2 : t.data.toList.length = t.size := (by simp); omega))
  unfold aspV at *
  go_wp2_with fail
  generalize hw2 : w1.alloc (Obj.cells #[.string k, .string cc, .string x] 24) = w2 at *
  clear hw2
  obtain ⟨q0, q1, q2, f0, f1, f2⟩ := R1.out.read
  generalize fmtA k cc x = s at *
  generalize hv : (aspOf k cc x).isSome = v at *
  clear hv
  cases v
  case' false =>
    have e0 := S0.out rfl
    subst e0
    clear S0 S1 SP SZ
    refine (HF.out _ HB1.out).mono ?_
    rintro e w3 ⟨rfl, hb3⟩
    have R3 := Lib.hid (R1.out.later hb3)
    have HB3 := Lib.hid (HB1.out.trans (hb3.mono HB1.out.size))
    clear hb3 q0 q1 q2 f0 f1 f2
    obtain ⟨q0, q1, q2, f0, f1, f2⟩ := R3.out.read
    go_wp2_with fail
    go_region_held3 (fun w' => w'.cell? ⟨w1.heap.size, 0, none⟩ = some (.string k) ∧ w'.cell? ⟨w1.heap.size, 1, none⟩ = some (.string cc) ∧ w'.cell? ⟨w1.heap.size, 2, none⟩ = some (.string x) ∧ Below w.heap.size w w')
        ((first | assumption | exact at_start R3.out HB3.out | (apply at_later; assumption; assumption)))
        ((first
        | (go_at_call 9; refine (HV.out _ (at_below (by assumption))).mono ?_; rintro e w' ⟨rfl, hb⟩)
        | (go_at_call 10; refine (SV.out _).mono ?_; rintro e w' ⟨rfl, hb⟩)
        | (go_at_call 8; refine (SF.out _).mono ?_; rintro e w' ⟨rfl, hb⟩)))
    all_goals go_wp2_with fail
    all_goals refine (HDP.out _ (at_below (by assumption))).mono ?_
    all_goals rintro e w5 ⟨⟨t, rfl, ht⟩, hb5⟩
    all_goals have HB5 := Lib.hid (at_below (at_later (by assumption) hb5))
  case' true =>
    have e0 := S1.out rfl
    have e1 := SP.out rfl
    have e2 := SZ.out rfl
    clear S0 S1 SP SZ
    have HPs := Lib.hid (HP.out s (by omega))
    rw [e1] at HPs
    clear e1 e2
    unfold parV aspV at HPs
    refine (HF.out _ HB1.out).mono ?_
    rintro e w3 ⟨rfl, hb3⟩
    have R3 := Lib.hid (R1.out.later hb3)
    have HB3 := Lib.hid (HB1.out.trans (hb3.mono HB1.out.size))
    clear hb3 q0 q1 q2 f0 f1 f2
    obtain ⟨q0, q1, q2, f0, f1, f2⟩ := R3.out.read
    go_wp2_with fail
    go_region_held3 (fun w' => w'.cell? ⟨w1.heap.size, 0, none⟩ = some (.string k) ∧ w'.cell? ⟨w1.heap.size, 1, none⟩ = some (.string cc) ∧ w'.cell? ⟨w1.heap.size, 2, none⟩ = some (.string x) ∧ Below w.heap.size w w')
        ((first | assumption | exact at_start R3.out HB3.out | (apply at_later; assumption; assumption)))
        ((first
        | (go_at_call 9; refine (HV.out _ (at_below (by assumption))).mono ?_; rintro e w' ⟨rfl, hb⟩)
        | (go_at_call 10; refine (SV.out _).mono ?_; rintro e w' ⟨rfl, hb⟩)
        | (go_at_call 8; refine (SF.out _).mono ?_; rintro e w' ⟨rfl, hb⟩)))
    all_goals go_wp2_with fail
    all_goals refine (HPs.out _ (at_below (by assumption))).mono ?_
    all_goals rintro e w4 ⟨rfl, hb4⟩
    all_goals have S4 := Lib.hid (at_later (by assumption) hb4)
    all_goals clear hb4
    all_goals have S6 := Lib.hid (at_later S4.out ((Below.refl _ w4).alloc (Nat.le_refl _) (Obj.cells #[.string k, .string cc, .string x] 24)))
    all_goals have T6 := Lib.hid (Cell3.new w4 (.string k) (.string cc) (.string x))
    all_goals clear S4
    all_goals obtain ⟨p0, p1, p2, _⟩ := S6.out
    all_goals obtain ⟨t0, t1, t2, g0, g1, g2⟩ := T6.out.read
    all_goals go_wp2_with fail
    all_goals refine (HDP.out _ (at_below S6.out)).mono ?_
    all_goals rintro e w5 ⟨⟨t, rfl, ht⟩, hb5⟩
    all_goals have HB5 := Lib.hid (at_below (at_later S6.out hb5))
    all_goals clear p0 p1 p2 t0 t1 t2 g0 g1 g2 S6 T6
  all_goals clear hb5 HDP HF HV SF SV R1 R3 q0 q1 q2 f0 f1 f2
  all_goals have HPt := Lib.hid (HP.out t ht)
  all_goals have QPt := Lib.hid (QP.out t ht)
  all_goals have HX := par_val t
  all_goals clear HP QP
  all_goals obtain ⟨K, C, B, fl, heq, hfl⟩ := HX
  all_goals rw [heq] at HPt QPt
  all_goals
    clear heq
    have HX := Lib.hid hfl
    clear hfl
    have Q0 := Lib.hid (fun w => Cell3.new w (.string K) (.string C) (.string B))
    go_wp2_with fail
    refine (HPt.out _ HB5.out).mono ?_
    rintro e w6 ⟨rfl, hb6⟩
    have HB6 := Lib.hid ((HB5.out.trans (hb6.mono HB5.out.size)).alloc (HB5.out.trans (hb6.mono HB5.out.size)).size (Obj.cells #[.string K, .string C, .string B] 24))
    have R6 := Lib.hid (Q0.out w6)
    clear hb6 HB5 HPt
    go_wp2_with fail
    generalize hw7 : w6.alloc (Obj.cells #[.string K, .string C, .string B] 24) = w7 at *
    clear hw7
    refine (QPt.out _).mono ?_
    rintro e w8 ⟨rfl, hb8⟩
    have HB8 := Lib.hid ((HB6.out.trans (hb8.mono HB6.out.size)).alloc (HB6.out.trans (hb8.mono HB6.out.size)).size (Obj.cells #[.string K, .string C, .string B] 24))
    have R8 := Lib.hid (Q0.out w8)
    have G8 := Lib.hid ((R6.out.later hb8).later ((Below.refl _ w8).alloc (Nat.le_refl _) (Obj.cells #[.string K, .string C, .string B] 24)))
    clear hb8 HB6 QPt R6 Q0
    go_wp2_with fail
    generalize hw9 : w8.alloc (Obj.cells #[.string K, .string C, .string B] 24) = w9 at *
    clear hw9
    refine (HDV.out _ HB8.out).mono ?_
    rintro e w10 ⟨⟨g, lc, zs, rfl, hrow, hl, hsm⟩, hb10⟩
    have HB10 := Lib.hid (HB8.out.trans (hb10.mono HB8.out.size))
    have R10 := Lib.hid (R8.out.later hb10)
    have G10 := Lib.hid (G8.out.later hb10)
    have HA := Lib.hid (show Asps w10 (some ⟨g, 0, none⟩) zs.length zs from asps_of_row hrow)
    have hz := hsm.total
    clear hb10 HB8 R8 G8 hrow hsm HDV
    have VI := Lib.hid (fun w' (h1 : Below w.heap.size w w') (h2 : Below w10.heap.size w10 w') => impls_any w' (some ⟨g, 0, none⟩) zs.length lc zs (HA.out.later h2) (by omega) ek ec eb el ep (HE.out.later h1))
    have VS := Lib.hid (fun w' (h2 : Below w10.heap.size w10 w') => specs_any w' (some ⟨g, 0, none⟩) zs.length lc zs (HA.out.later h2) (by omega))
    obtain ⟨q0, q1, q2, f0, f1, f2⟩ := R10.out.read
    obtain ⟨p0, p1, p2, g0, g1, g2⟩ := G10.out.read
    generalize aspsP zs = y at *
    cases fl with
    | false =>
      clear HX
      go_wp2_with fail
      refine (VI.out _ HB10.out (Below.refl _ _)).mono ?_
      rintro e w11 ⟨rfl, hb11⟩
      have HB11 := Lib.hid hb11
      clear hb11
      go_wp2_with fail
      refine (VS.out _ HB11.out).mono ?_
      rintro e w12 ⟨rfl, hb12⟩
      have HB12 := Lib.hid (HB10.out.trans ((HB11.out.trans (hb12.mono HB11.out.size)).mono HB10.out.size))
      clear hb12
      have hy : (y == y) = true := by cases y <;> rfl
      go_wp2_with fail
      go_ret
      exact ⟨rfl, HB12.out⟩
    | true =>
      obtain ⟨hft, h1, h2, h3⟩ := HX.out rfl
      have FM := Lib.hid (fun w' (hb : Below w.heap.size w w') => impl_fmt K C B w' ek ec eb el ep (HE.out.later hb) (by omega) (by omega) (by omega))
      rw [hft] at FM
      unfold aspV at FM
      clear HX hft h1 h2 h3
      go_wp2_with fail
      refine (FM.out _ HB10.out).mono ?_
      rintro e w11 ⟨rfl, hb11⟩
      have HB11 := Lib.hid hb11
      clear hb11
      have ht : (t.toList == t.toList) = true := beq_self_eq_true _
      go_wp2_with fail
      refine (VI.out _ (HB10.out.trans (HB11.out.mono HB10.out.size)) HB11.out).mono ?_
      rintro e w12 ⟨rfl, hb12⟩
      have HB12 := Lib.hid (HB11.out.trans (hb12.mono HB11.out.size))
      clear hb12 HB11
      go_wp2_with fail
      refine (VS.out _ HB12.out).mono ?_
      rintro e w13 ⟨rfl, hb13⟩
      have HB13 := Lib.hid (HB10.out.trans ((HB12.out.trans (hb13.mono HB12.out.size)).mono HB10.out.size))
      clear hb13
      have hy : (y == y) = true := by cases y <;> rfl
      go_wp2_with fail
      go_ret
      exact ⟨rfl, HB13.out⟩

set_option maxHeartbeats 1000000 in
set_option maxRecDepth 100000 in
theorem at_over (w : World) (a b : Option Addr) (n c m d : Nat) (hn : n ≤ 9223372036854775807) (hm : m ≤ 9223372036854775807) (hb : 1048576 < n ∨ 1048576 < m) :
    Calls Tryz.prog 3 #[.slice a n c, .slice b m d] w fun e w' => e = .returned (.bool true) ∧ Below w.heap.size w w' := by
  by_cases h1 : 1048576 < n
  · clear hb
    go_enter Tryz.func3, Tryz.ntmps3
    go_wp2_with fail
    go_ret
    exact ⟨rfl, Below.refl _ _⟩
  · have h2 : 1048576 < m := by omega
    clear hb
    go_enter Tryz.func3, Tryz.ntmps3
    go_wp2_with fail
    go_ret
    exact ⟨rfl, Below.refl _ _⟩
theorem at_any (w : World) (a b : Option Addr) (n c m d : Nat) (h : BytesAt w a n) (hn : n ≤ c) (hc : c ≤ 9223372036854775807) (hnil : a = none → n = 0) (h' : BytesAt w b m) (hm : m ≤ d) (hd : d ≤ 9223372036854775807) (hnil' : b = none → m = 0) (ek ec eb el ep : Addr) (he : Errs w ek ec eb el ep) (hmx : MaxCell w) :
    Calls Tryz.prog 3 #[.slice a n c, .slice b m d] w fun e w' => e = .returned (.bool true) ∧ Below w.heap.size w w' := by
  by_cases hb : n ≤ 1048576 ∧ m ≤ 1048576
  · exact at_fits w a b n c m d h hn hc hnil h' hm hd hnil' hb.1 hb.2 ek ec eb el ep he hmx
  · exact at_over w a b n c m d (by omega) (by omega) (by omega)
end Go.Proofs.YtkdnbdgpcgookaaGreatDoor
