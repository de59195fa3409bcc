/- The law FnProceeds answers true at every bytes. Condition: the errors lie where start-up laid them. -/
import Derived.Test.YtecifbncfglckaaDoorL4o
import Derived.Test.YtecifbncfglckaaDoorPrm
import Derived.Test.YtecifbncfglckaaDoorSpof
namespace Go.Proofs.YtecifbncfglckaaDoor
open Go.RowKit Gram

set_option maxHeartbeats 1000000 in
theorem wvin_any (s : ByteArray) (c : UInt8) (hs : s.size ≤ 1099511627776) (w : World) :
    Calls Tryd.prog 9 #[.string s, .int .u8 c.toNat] w fun e w' => e = .returned (.bool (s.data.toList.contains c)) ∧ w = w' := by
  obtain ⟨r, hr⟩ : ∃ r, r = s.data.toList.contains c := ⟨_, rfl⟩
  rw [← hr]
  have HR := Lib.hid hr
  clear hr
  go_enter Tryd.func9, Tryd.ntmps9
  go_wp2
  go_loop [8] (fun i => ∃ k : Nat, k ≤ s.size ∧ i = .int .i64 k ∧ Hid (∀ j (hj : j < s.data.toList.length), j < k → s.data.toList[j] ≠ c)) (fun i => s.size - (intOf i).toNat)
  case atStart => exact ⟨0, Nat.zero_le _, rfl, fun j _ h => absurd h (Nat.not_lt_zero _)⟩
  case round =>
    obtain ⟨k, hk, rfl, hno⟩ := hrel
    by_cases hlt : k < s.size
    · have hbq := Lib.hid (toNat_beq s[k] c)
      go_wp2
      · go_ret
        have he : ((s[k].toNat : Int) == (c.toNat : Int)) = true := by assumption
        rw [hbq.out] at he
        have e1 : s.data[k]'hlt = c := beq_iff_eq.1 he
        exact ⟨ret_bool (by rw [HR.out]; exact (List.contains_iff_mem.2 (List.mem_iff_getElem.2 ⟨k, by simpa using hlt, by simpa using e1⟩)).symm), rfl⟩
      · have he : ((s[k].toNat : Int) == (c.toNat : Int)) = false := by assumption
        have he' := Lib.hid he
        clear he
        go_round
        case rel =>
          refine ⟨k + 1, by omega, by go_num, fun j hj hlj => ?_⟩
          by_cases h9 : j = k
          · subst h9
            have := he'.out
            rw [hbq.out] at this
            have e1 : s.data[j]'hlt ≠ c := beq_eq_false_iff_ne.1 this
            simpa using e1
          · exact hno.out j hj (by omega)
        case measure => simp [intOf]; omega
    · go_wp2
      go_ret
      exact ⟨ret_bool (by
        rw [HR.out]; symm; rw [Bool.eq_false_iff]; intro hc
        obtain ⟨j, hj, e⟩ := List.mem_iff_getElem.1 (List.contains_iff_mem.1 hc)
        exact hno.out j hj (by simp at hj; omega) e), rfl⟩

set_option maxHeartbeats 2000000 in
set_option maxRecDepth 100000 in
theorem pr_fits (w : World) (a : Option Addr) (n c : Nat) (h : BytesAt w a n) (hn : n ≤ c) (hc : c ≤ 9223372036854775807) (hnil : a = none → n = 0) (hb : n ≤ 1048576) (ek ec eb el ep : Addr) (he : Errs w ek ec eb el ep) :
    Calls Tryd.prog 3 #[.slice a n c] w fun e w' => e = .returned (.bool true) ∧ Below w.heap.size w w' := by
  have HD := Lib.hid (dpo_any w a n c h hn hc hnil)
  have HE := Lib.hid he
  clear h hnil he
  go_enter Tryd.func3, Tryd.ntmps3
  go_wp2_with fail
  refine HD.out.mono ?_
  rintro e w1 ⟨⟨k, cc, b, rfl, hk, hcc, hbs⟩, hb1⟩
  have HB1 := Lib.hid (hb1.alloc hb1.size (Obj.cells #[.string k, .string cc, .string b] 24))
  have R1 := Lib.hid (Cell3.new w1 (.string k) (.string cc) (.string b))
  clear hb1 HD
  unfold aspV at *
  go_wp2_with fail
  have HI := Lib.hid (fun w' (hb : Below w.heap.size w w') => impl_pof k cc b w' ek ec eb el ep (HE.out.later hb) (by omega) (by omega))
  have HS := Lib.hid (fun w => spec_pof k cc b w (by omega) (by omega))
  have HV := Lib.hid (fun w' (hb : Below w.heap.size w w') => impl_asp k cc b w' ek ec eb el ep (HE.out.later hb) (by omega) (by omega))
  have oK : (⟨#[75]⟩ : ByteArray).size = 1 := rfl
  have HI2 := Lib.hid (fun w' (hb : Below w.heap.size w w') => impl_pof k cc (b ++ ⟨#[75]⟩) w' ek ec eb el ep (HE.out.later hb) (by omega) (by rw [ByteArray.size_append]; omega))
  have HV2 := Lib.hid (fun w' (hb : Below w.heap.size w w') => impl_asp k cc (b ++ ⟨#[75]⟩) w' ek ec eb el ep (HE.out.later hb) (by omega) (by rw [ByteArray.size_append]; omega))
  have HW := Lib.hid (fun w => show Calls Tryd.prog 9 #[.string b, .int .u8 63] w fun e w' => e = .returned (.bool (b.data.toList.contains 63)) ∧ w = w' from wvin_any b 63 (by omega) w)
  unfold pairV aspV at *
  have X1 := Lib.hid (fun xs h => @pof_around k cc b xs h)
  have X2 := Lib.hid (fun n xs h => @pof_once k cc b n xs h)
  have X3 := Lib.hid (fun xs h => @pof_more k cc b xs h)
  have X0 := Lib.hid (fun (h : aspOf k cc b = none) => show pof k cc b = (-1, -1) by simp [pof, h])
  generalize pof k cc b = lh at *
  obtain ⟨lo, hi⟩ := lh
  generalize hw2 : w1.alloc (Obj.cells #[.string k, .string cc, .string b] 24) = w2 at *
  clear hw2
  obtain ⟨q0, q1, q2, f0, f1, f2⟩ := R1.out.read
  refine (HI.out _ HB1.out).mono ?_
  rintro e w3 ⟨rfl, hb3⟩
  have R3 := Lib.hid (R1.out.later hb3)
  have HB3 := Lib.hid (HB1.out.trans (hb3.mono HB1.out.size))
  clear hb3 q0 q1 q2 f0 f1 f2
  obtain ⟨q0, q1, q2, f0, f1, f2⟩ := R3.out.read
  go_wp2_with fail
  refine (HS.out _).mono ?_
  rintro e w4 ⟨rfl, hb4⟩
  have R4 := Lib.hid (R3.out.later hb4)
  have HB4 := Lib.hid (HB3.out.trans (hb4.mono HB3.out.size))
  clear hb4 q0 q1 q2 f0 f1 f2
  obtain ⟨q0, q1, q2, f0, f1, f2⟩ := R4.out.read
  cases ho : aspOf k cc b with
  | none =>
    have e0 := X0.out ho
    injection e0 with e0 e1
    subst e0; subst e1
    rw [ho] at HV
    clear X0 X1 X2 X3 ho
    go_wp2_with fail
    refine (HV.out _ HB4.out).mono ?_
    rintro e w5 ⟨rfl, hb5⟩
    have HB5 := Lib.hid (HB4.out.trans (hb5.mono HB4.out.size))
    clear hb5
    go_wp2_with fail
    go_ret
    exact ⟨rfl, HB5.out⟩
  | some p =>
    obtain ⟨m, xs⟩ := p
    by_cases hm : m = 2
    · subst hm
      obtain ⟨g1, g2, g3, g4, g5, g6⟩ := X1.out _ ho
      have X4 := Lib.hid (X3.out _ ho)
      clear X0 X1 X2 X3 ho
      unfold isAround at g1
      go_wp2_with fail
      go_loopw [8, 60] (fun sg i wr => ∃ j s : Nat, j ≤ b.size ∧ sg = .int .i64 s ∧ i = .int .i64 j ∧ s ≤ j ∧ Hid (s = cK (b.data.toList.take j)) ∧ w4 = wr) (fun _ i _ => b.size - (intOf i).toNat)
      case atStart => exact ⟨0, 0, Nat.zero_le _, by go_num, by go_num, Nat.le_refl _, by constructor, rfl⟩
      case round =>
        obtain ⟨j, s, hj, rfl, rfl, hsj, hS, rfl⟩ := hrel
        by_cases hlt : j < b.size
        · have HX := Lib.hid (cK_take b.data.toList j (by simpa using hlt))
          have HQ := Lib.hid (toNat_beq (b[j]'hlt) 75)
          cases hx : (((b[j]'hlt).toNat : Int) == 75) with
          | true =>
            have HY := Lib.hid (show s + 1 = cK (b.data.toList.take (j + 1)) by
              have e : (b.data.toList[j]'(by simpa using hlt) == 75) = true := by
                have h9 := HQ.out.symm.trans hx
                have h8 : (b[j]'hlt) = 75 := by simpa using h9
                simpa using (show b.data[j]'hlt = 75 from h8)
              rw [HX.out, if_pos e, hS.out])
            clear HX HQ
            go_wp2_with fail
            exact ⟨⟨j + 1, s + 1, by omega, by go_num, by go_num, by omega, HY.out, by trivial⟩, by simp [intOf]; omega⟩
          | false =>
            have HY := Lib.hid (show s = cK (b.data.toList.take (j + 1)) by
              have e : ¬ (b.data.toList[j]'(by simpa using hlt) == 75) = true := by
                have h9 := HQ.out.symm.trans hx
                have h8 : ¬ (b[j]'hlt) = 75 := by simpa using h9
                simpa using (show ¬ b.data[j]'hlt = 75 from h8)
              rw [HX.out, if_neg e, hS.out]; rfl)
            clear HX HQ
            go_wp2_with fail
            exact ⟨⟨j + 1, s, by omega, by go_num, by go_num, by omega, HY.out, by trivial⟩, by simp [intOf]; omega⟩
        · have hsK : s = cK b.data.toList := by
            have h1 := hS.out
            rw [List.take_of_length_le (by simp; omega)] at h1
            exact h1
          have e1 := str_sum b ⟨#[75]⟩ (by omega)
          rw [← hsK] at g4 g5 g6
          have GS := Lib.hid hsK
          have G6 := Lib.hid g6
          clear hsK g6 hS
          have HB5 := Lib.hid (HB4.out.alloc HB4.out.size (Obj.cells #[.string k, .string cc, .string (b ++ ⟨#[75]⟩)] 24))
          have R5 := Lib.hid (Cell3.new w4 (.string k) (.string cc) (.string (b ++ ⟨#[75]⟩)))
          have R45 := Lib.hid (R4.out.later ((Below.refl _ w4).alloc (Nat.le_refl _) (Obj.cells #[.string k, .string cc, .string (b ++ ⟨#[75]⟩)] 24)))
          generalize pof k cc (b ++ ⟨#[75]⟩) = cd at *
          obtain ⟨lc, ld⟩ := cd
          go_wp2_with fail
          generalize w4.alloc (Obj.cells #[.string k, .string cc, .string (b ++ ⟨#[75]⟩)] 24) = w5 at *
          refine (HI2.out _ HB5.out).mono ?_
          rintro e w6 ⟨rfl, hb6⟩
          have HB6 := Lib.hid (HB5.out.trans (hb6.mono HB5.out.size))
          have R6 := Lib.hid (R5.out.later hb6)
          have R46 := Lib.hid (R45.out.later hb6)
          clear hb6 q0 q1 q2 f0 f1 f2
          obtain ⟨p0, p1, p2, _, _, _⟩ := R6.out.read
          obtain ⟨q0, q1, q2, f0, f1, f2⟩ := R46.out.read
          have hi0 : 0 ≤ hi := by omega
          have hls : lo ≤ (s : Int) := by omega
          have hs60 : (s : Int) ≤ 60 := by omega
          go_wp2_with fail
          refine (HW.out _).mono ?_
          rintro e w7 ⟨rfl, rfl⟩
          cases hc63 : b.data.toList.contains 63 with
          | true =>
            clear G6
            go_wp2_with fail
            refine (HV2.out _ HB6.out).mono ?_
            rintro e w8 ⟨rfl, hb8⟩
            have HB8 := Lib.hid (HB6.out.trans (hb8.mono HB6.out.size))
            clear hb8
            cases hv : (aspOf k cc (b ++ ⟨#[75]⟩)).isSome with
            | true =>
              have e9 := X4.out hv
              injection e9 with e9 e10
              subst e9; subst e10
              clear X4
              go_wp2_with fail
              go_ret
              exact ⟨rfl, HB8.out⟩
            | false =>
              clear X4
              go_wp2_with fail
              go_ret
              exact ⟨rfl, HB8.out⟩
          | false =>
            obtain ⟨e7, e8⟩ := G6.out hc63
            subst e7; subst e8
            clear G6
            go_wp2_with fail
            refine (HV2.out _ HB6.out).mono ?_
            rintro e w8 ⟨rfl, hb8⟩
            have HB8 := Lib.hid (HB6.out.trans (hb8.mono HB6.out.size))
            clear hb8
            cases hv : (aspOf k cc (b ++ ⟨#[75]⟩)).isSome with
            | true =>
              have e9 := X4.out hv
              injection e9 with e9 e10
              subst e9; subst e10
              clear X4
              go_wp2_with fail
              go_ret
              exact ⟨rfl, HB8.out⟩
            | false =>
              clear X4
              go_wp2_with fail
              go_ret
              exact ⟨rfl, HB8.out⟩
    · obtain ⟨g1, g2, g3⟩ := X2.out _ _ ho hm
      injection g2 with e0 e1
      subst e0; subst e1
      have G3 := Lib.hid g3
      clear X0 X1 X2 X3 ho g3
      unfold isAround at g1
      go_wp2_with fail
      go_loopw [8, 60] (fun sg i wr => ∃ j s : Nat, j ≤ b.size ∧ sg = .int .i64 s ∧ i = .int .i64 j ∧ s ≤ j ∧ Hid (s = cK (b.data.toList.take j)) ∧ w4 = wr) (fun _ i _ => b.size - (intOf i).toNat)
      case atStart => exact ⟨0, 0, Nat.zero_le _, by go_num, by go_num, Nat.le_refl _, by constructor, rfl⟩
      case round =>
        obtain ⟨j, s, hj, rfl, rfl, hsj, hS, rfl⟩ := hrel
        by_cases hlt : j < b.size
        · have HX := Lib.hid (cK_take b.data.toList j (by simpa using hlt))
          have HQ := Lib.hid (toNat_beq (b[j]'hlt) 75)
          cases hx : (((b[j]'hlt).toNat : Int) == 75) with
          | true =>
            have HY := Lib.hid (show s + 1 = cK (b.data.toList.take (j + 1)) by
              have e : (b.data.toList[j]'(by simpa using hlt) == 75) = true := by
                have h9 := HQ.out.symm.trans hx
                have h8 : (b[j]'hlt) = 75 := by simpa using h9
                simpa using (show b.data[j]'hlt = 75 from h8)
              rw [HX.out, if_pos e, hS.out])
            clear HX HQ
            go_wp2_with fail
            exact ⟨⟨j + 1, s + 1, by omega, by go_num, by go_num, by omega, HY.out, by trivial⟩, by simp [intOf]; omega⟩
          | false =>
            have HY := Lib.hid (show s = cK (b.data.toList.take (j + 1)) by
              have e : ¬ (b.data.toList[j]'(by simpa using hlt) == 75) = true := by
                have h9 := HQ.out.symm.trans hx
                have h8 : ¬ (b[j]'hlt) = 75 := by simpa using h9
                simpa using (show ¬ b.data[j]'hlt = 75 from h8)
              rw [HX.out, if_neg e, hS.out]; rfl)
            clear HX HQ
            go_wp2_with fail
            exact ⟨⟨j + 1, s, by omega, by go_num, by go_num, by omega, HY.out, by trivial⟩, by simp [intOf]; omega⟩
        · have hsK : s = cK b.data.toList := by
            have h1 := hS.out
            rw [List.take_of_length_le (by simp; omega)] at h1
            exact h1
          rw [G3.out] at hsK
          subst hsK
          go_wp2_with fail
          go_ret
          exact ⟨rfl, HB4.out⟩

set_option maxHeartbeats 1000000 in
set_option maxRecDepth 100000 in
theorem pr_over (w : World) (a : Option Addr) (n c : Nat) (hb : 1048576 < n) :
    Calls Tryd.prog 3 #[.slice a n c] w fun e w' => e = .returned (.bool true) ∧ Below w.heap.size w w' := by
  go_enter Tryd.func3, Tryd.ntmps3
  go_wp2_with fail
  go_ret
  exact ⟨rfl, Below.refl _ _⟩
theorem pr_any (w : World) (a : Option Addr) (n c : Nat) (h : BytesAt w a n) (hn : n ≤ c) (hc : c ≤ 9223372036854775807) (hnil : a = none → n = 0) (ek ec eb el ep : Addr) (he : Errs w ek ec eb el ep) :
    Calls Tryd.prog 3 #[.slice a n c] w fun e w' => e = .returned (.bool true) ∧ Below w.heap.size w w' := by
  by_cases hb : n ≤ 1048576
  · exact pr_fits w a n c h hn hc hnil hb ek ec eb el ep he
  · exact pr_over w a n c (by omega)
end Go.Proofs.YtecifbncfglckaaDoor
