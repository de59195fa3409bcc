/- The law FnPlaceAdvice answers true whatever bytes it is given. Condition: the errors lie where start-up laid them. -/
import Derived.Test.YtkdnbdgpcgookaaGreatDoorPlt
import Derived.Test.YtkdnbdgpcgookaaGreatDoorLx
import Derived.Test.YtkdnbdgpcgookaaGreatDoorIpl
import Derived.Test.YtkdnbdgpcgookaaGreatDoorPll
import Derived.Test.YtkdnbdgpcgookaaGreatDoorFz
import Derived.Test.YtkdnbdgpcgookaaGreatDoorImpl
namespace Go.Proofs.YtkdnbdgpcgookaaGreatDoor
open Go.RowKit Gram

theorem stms_fine {s : ByteArray} {w w' : World} {e : Ending} {xs : List Stm} (h : StmsTo s w e w') (hb : bodyOf s = some xs) : ∃ a c, e = .returned (.tuple #[.slice a xs.length c, .bool true]) ∧ Below w.heap.size w w' := by
  obtain ⟨v, b, ys, rfl, hd, ho, hbw⟩ := h
  rcases hd.out with ⟨_, h2, _⟩ | ⟨h1, h2⟩
  · rw [hb] at h2; cases h2
  · rw [hb] at h2
    injection h2 with h2
    subst h2
    subst h1
    obtain ⟨a, n, c, rfl⟩ := slice_form ho
    have hn : n = xs.length := by
      rcases ho.2 with ⟨h1, h2⟩ | ⟨g, cap, cur, h1, _⟩
      · injection h1 with _ h3; omega
      · injection h1 with _ h3
    subst hn
    exact ⟨a, c, rfl, hbw⟩
theorem plf_no {s : ByteArray} {zs : List As} {t : ByteArray} (h : plV s zs = .tuple #[.string t, .bool false]) : t = ⟨#[]⟩ := by
  unfold plV plN at h
  split at h
  · split at h
    · split at h
      · simp at h
      · simp at h; exact h.symm
    · simp at h; exact h.symm
  · simp at h; exact h.symm
theorem pstr_add (x y : ByteArray) (h : x.size + y.size ≤ 9223372036854775807) (w : World) : (Op.stringOp .add x y).run Tryz.prog w = .ok (.string (x ++ y)) w := run_string_add_sum w x y h
/-- all but the first one -/
theorem asps_tail {w : World} {B g n c : Nat} {z : As} {zs : List As} (h : Arow w B g n c (z :: zs)) : Asps w (some ⟨g, if c = 1 then 0 else 1 * 3, none⟩) (n - 1) zs := by
  have hl : (z :: zs).length = n := (asps_of_row h).len
  have hr := h.room
  simp only [List.length_cons] at hl
  refine ⟨by omega, fun i hi => ⟨g, _, rfl, ?_⟩⟩
  obtain ⟨c0, c1, c2⟩ := h.cells (i + 1) (by simp; omega)
  rw [if_neg (by omega)]
  simp only [List.getElem_cons_succ] at c0 c1 c2
  rw [show 1 * 3 + i * 3 = (i + 1) * 3 by omega]
  exact ⟨c0, c1, c2⟩
theorem putK_next (B : ByteArray) (o : List UInt8) (k : Nat) (h : k < B.size) : putK (B.data.toList.take (k + 1)) o = putK (B.data.toList.take k) o ++ (if B[k] = 75 then o else [B[k]]) := by
  have hk : k < B.data.toList.length := by simpa using h
  have hb : B[k] = B.data.toList[k] := rfl
  rw [List.take_succ_eq_append_getElem hk, putK_append, hb]
  congr 1
  by_cases h7 : B.data.toList[k] = 75
  · rw [if_pos h7, h7]; simp [putK]
  · rw [if_neg h7, putK_one _ _ h7]
theorem ext_one (B : ByteArray) (k : Nat) (h : k < B.size) : (B.extract k (k + 1)).data.toList = [B[k]] := by
  have hk : k < B.data.toList.length := by simpa using h
  have hb : B[k] = B.data.toList[k] := rfl
  rw [hb]
  simp [List.extract_eq_take_drop]
  rw [List.take_one, List.head?_drop]
  simp [h]

set_option maxHeartbeats 400000 in
set_option maxRecDepth 100000 in
theorem plf_long (w : World) (a : Option Addr) (n c : Nat) (hl : 1048576 < n) (hnc : n ≤ c) (hc : c ≤ 9223372036854775807) :
    Calls Tryz.prog 4 #[.slice a n c] w fun e w' => e = .returned (.bool true) ∧ Below w.heap.size w w' := by
  go_enter Tryz.func4, Tryz.ntmps4
  go_wp2_with fail
  go_ret
  exact ⟨rfl, Below.refl _ _⟩

set_option maxHeartbeats 8000000 in
set_option maxRecDepth 100000 in
theorem plf_short (w : World) (a : Option Addr) (n0 c0 : Nat) (h : BytesAt w a n0) (hn : n0 ≤ 1048576) (hnc : n0 ≤ c0) (hc : c0 ≤ 9223372036854775807) (hnil : a = none → n0 = 0) (ek ec eb el ep : Addr) (he : Errs w ek ec eb el ep) :
    Calls Tryz.prog 4 #[.slice a n0 c0] w fun e w' => e = .returned (.bool true) ∧ Below w.heap.size w w' := by
  have HD := Lib.hid (dpl_any w a n0 c0 h hnc hc hnil)
  have HE := Lib.hid he
  clear h hnil he
  go_enter Tryz.func4, Tryz.ntmps4
  go_wp2_with fail
  refine HD.out.mono ?_
  rintro e w1 ⟨⟨s, g, cc, zs, rfl, hs, hown, hzl, hsm⟩, hb1⟩
  have HB1 := Lib.hid hb1
  have hsz := hb1.size
  have hT : zs.length + asT zs ≤ 1048576 := by have := hsm.total; omega
  have HAR := Lib.hid hown
  have HSM := Lib.hid hsm
  have HI := Lib.hid (fun w' (hb : Below w1.heap.size w1 w') => ipl_any w' s (some ⟨g, 0, none⟩) zs.length cc zs ((asps_of_row hown).later hb) hT (by omega) ek ec eb el ep (HE.out.later (HB1.out.trans (hb.mono hsz))))
  have HS := Lib.hid (fun w' (hb : Below w1.heap.size w1 w') => spl_any w' s (some ⟨g, 0, none⟩) zs.length cc zs ((asps_of_row hown).later hb) hT (by omega))
  obtain ⟨t, b, hp⟩ := plV_form s zs
  have HPL := Lib.hid (fun (hbb : b = true) => pl_says (by rw [hp, hbb]))
  have HPN := Lib.hid (fun (hbb : b = false) => plf_no (by rw [hp, hbb]))
  rw [hp] at HI HS
  have HTT := Lib.hid hT
  clear hp hb1 hown hsm HD hT
  go_wp2_with fail
  refine (HI.out _ (Below.refl _ _)).mono ?_
  rintro e w2 ⟨rfl, hb2⟩
  have B2 := Lib.hid hb2
  clear hb2
  go_wp2_with fail
  refine (HS.out _ B2.out).mono ?_
  rintro e w3 ⟨rfl, hb3⟩
  have B3 := Lib.hid (B2.out.trans (hb3.mono B2.out.size))
  clear hb3 HS HI
  have tt : (t.toList == t.toList) = true := by simp
  have tn : (t.toList != t.toList) = false := by simp
  cases b with
  | false =>
    have ht := HPN.out rfl
    subst ht
    clear HPN HPL
    go_wp2_with fail
    go_ret
    exact ⟨rfl, HB1.out.trans (B3.out.mono hsz)⟩
  | true =>
    have HP := Lib.hid (HPL.out rfl)
    clear HPN HPL
    have hpos := HP.out.pos
    have hsm4 := HP.out.small
    have hfew := HP.out.few
    have hfit := HP.out.fit
    obtain ⟨o, hbo, hol⟩ := HP.out.body
    have HST := Lib.hid ((impl_statements t w3 (by omega)).mono (fun e w' hh => stms_fine hh hbo))
    clear hbo
    generalize o.length = ol at *
    go_wp2_with fail
    refine HST.out.mono ?_
    rintro e w4 ⟨ap, cp, rfl, hb4⟩
    have B4 := Lib.hid (B3.out.trans (hb4.mono B3.out.size))
    clear hb4 HST
    have hi0 : (0 : Int) < (s.size : Int) := by omega
    go_wp2_with fail
    go_loopw [11, 76] (fun m i wr => ∃ k q : Nat, k ≤ t.size ∧ q ≤ k ∧ i = .int .i64 k ∧ m = .int .i64 q ∧ Hid (Below w1.heap.size w1 wr)) (fun _ i _ => t.size - (intOf i).toNat)
    case atStart => exact ⟨0, 0, Nat.zero_le _, Nat.le_refl _, by go_num, by go_num, B4.out⟩
    case round =>
      obtain ⟨k, q, hk, hq, rfl, rfl, hW⟩ := hrel
      by_cases hlt : k < t.size
      · have hki : (k : Int) < (t.size : Int) := by omega
        go_wp2_with fail
        go_quiet (fail)
        go_wp2_with fail
        all_goals first
          | exact ⟨⟨k + 1, q + 1, by omega, by omega, by go_num, by go_num, hW.out.trans ⟨rfl, rfl, rfl, Nat.le_refl _, fun _ _ => rfl⟩⟩, by simp [intOf]; omega⟩
          | exact ⟨⟨k + 1, q, by omega, by omega, by go_num, by go_num, hW.out.trans ⟨rfl, rfl, rfl, Nat.le_refl _, fun _ _ => rfl⟩⟩, by simp [intOf]; omega⟩
      · have hkn : k = t.size := by omega
        subst hkn
        obtain ⟨w5, h5⟩ : ∃ x, x = wr := ⟨_, rfl⟩
        subst h5
        have B5 := Lib.hid hW.out
        have HV := Lib.hid HP.out.valid
        clear hW B4
        go_wp2_with fail
        go_loopw [12, 14, 90] (fun sg pb i wr => ∃ (k sn : Nat) (pq : Bool), k ≤ zs.length ∧ i = .int .i64 k ∧ sg = .int .i64 sn ∧ pb = .bool pq ∧ 1 ≤ sn ∧ sn ≤ 1000000000000000 ∧ Hid (sn ≤ 1000 ^ k) ∧ Hid (Below w1.heap.size w1 wr)) (fun _ _ i _ => zs.length - (intOf i).toNat)
        case atStart => exact ⟨0, 1, false, Nat.zero_le _, by go_num, by go_num, rfl, Nat.le_refl _, by omega, Nat.le_refl _, B5.out⟩
        case round =>
          obtain ⟨k, sn, pq, hk, rfl, rfl, rfl, hs1, hs2, hpw, hW⟩ := hrel
          by_cases hlt : k < zs.length
          · have hal := HAR.out.lt
            obtain ⟨c0, c1, c2⟩ := (HAR.out.keep (w' := wr) (hW.out.block g hal.2)).cells k hlt
            obtain ⟨sx, sy, sz⟩ := HSM.out zs[k] (List.getElem_mem hlt)
            obtain ⟨hv0, hv1⟩ := HV.out k hlt
            obtain ⟨x, y, z, hxyz⟩ : ∃ x y z, zs[k] = (x, y, z) := ⟨_, _, _, rfl⟩
            rw [hxyz] at c0 c1 c2 sx sy sz hv0 hv1
            simp only at c0 c1 c2 sx sy sz hv0 hv1
            clear hxyz
            have hwz := hW.out.size
            have N5 := Lib.hid (Cell3.new wr (.string x) (.string y) (.string z))
            have B6 := Lib.hid (hW.out.alloc hwz (.cells #[.string x, .string y, .string z] 24))
            obtain ⟨W5, hW5⟩ : ∃ W5, wr.alloc (.cells #[.string x, .string y, .string z] 24) = W5 := ⟨_, rfl⟩
            rw [hW5] at N5 B6
            obtain ⟨d0, d1, d2, e0, e1, e2⟩ := N5.out.read
            have hPO := impl_pof x y z W5 ek ec eb el ep (HE.out.later (HB1.out.trans (B6.out.mono hsz))) (by omega) (by omega)
            unfold pairV aspV at hPO
            generalize (pof x y z).1 = lo at *
            generalize hhi : (pof x y z).2 = hi at *
            clear hhi
            obtain ⟨hn, rfl⟩ := Int.eq_ofNat_of_zero_le hv0
            have HPO := Lib.hid hPO
            have HPR := Lib.hid (fun w' (hb : Below W5.heap.size W5 w') => impl_prt x y z w' ek ec eb el ep (HE.out.later (HB1.out.trans ((B6.out.trans (hb.mono B6.out.size)).mono hsz))) (by omega) (by omega))
            unfold aspV at HPR
            generalize deedIs Dd.prt x y z = pr at *
            have hmb : sn * max hn 1 ≤ 1000 ^ (k + 1) := by
              rw [Nat.pow_succ]
              exact Nat.mul_le_mul hpw.out (by omega)
            have hk5 : k + 1 ≤ 5 := by omega
            have hmc : sn * max hn 1 ≤ 1000000000000000 := Nat.le_trans hmb (by
              have : (1000 : Nat) ^ (k + 1) ≤ 1000 ^ 5 := Nat.pow_le_pow_right (by omega) hk5
              omega)
            have hmp : 1 ≤ sn * max hn 1 := Nat.mul_pos hs1 (by omega)
            have ewr : IntKind.i64.wrap ((sn : Int) * max (hn : Int) 1) = ((sn * max hn 1 : Nat) : Int) := by
              have e9 : (sn : Int) * max (hn : Int) 1 = ((sn * max hn 1 : Nat) : Int) := by
                rw [Int.natCast_mul]
                congr 1
                omega
              rw [e9, IntKind.wrap_i64]; omega
            have HMB := Lib.hid (⟨hmb, hmc, hmp⟩ : _ ∧ _ ∧ _)
            generalize sn * max hn 1 = sm at *
            clear hPO hmb hmc hmp hpw HV
            go_wp2_with fail
            refine HPO.out.mono ?_
            rintro e w6 ⟨rfl, hb6⟩
            have N6 := Lib.hid (N5.out.later hb6)
            have B7 := Lib.hid (B6.out.trans (hb6.mono B6.out.size))
            have HPR6 := Lib.hid (HPR.out _ hb6)
            clear hb6 HPR HPO d0 d1 d2 e0 e1 e2
            obtain ⟨d0, d1, d2, e0, e1, e2⟩ := N6.out.read
            cases pq with
            | true =>
              go_wp2_with fail
              exact ⟨⟨k + 1, sm, true, by omega, by go_num, by go_num, rfl, HMB.out.2.2, HMB.out.2.1, HMB.out.1, B7.out⟩, by simp [intOf]; omega⟩
            | false =>
              go_wp2_with fail
              refine HPR6.out.mono ?_
              rintro e w7 ⟨rfl, hb7⟩
              have B8 := Lib.hid (B7.out.trans (hb7.mono B7.out.size))
              clear hb7
              go_wp2_with fail
              exact ⟨⟨k + 1, sm, pr, by omega, by go_num, by go_num, rfl, HMB.out.2.2, HMB.out.2.1, HMB.out.1, B8.out⟩, by simp [intOf]; omega⟩
          · have hkn : k = zs.length := by omega
            subst hkn
            obtain ⟨w6, h6⟩ : ∃ x, x = wr := ⟨_, rfl⟩
            subst h6
            have B6 := Lib.hid hW.out
            clear hW B5 HV hpw
            by_cases hz : zs.length = 0
            · have hz0 : zs = [] := List.length_eq_zero_iff.1 hz
              have hts : t = s := HP.out.none_ hz0
              subst hts
              have hsd : decide (0 < sn) = true := by rw [decide_eq_true_eq]; omega
              have HSD := Lib.hid hsd
              go_wp2_with fail
              all_goals
                go_ret
                exact ⟨by first | rfl | rw [HSD.out]; rfl, HB1.out.trans (B6.out.mono hsz)⟩
            · obtain ⟨z, zs', hzz⟩ : ∃ z zs', zs = z :: zs' := by
                cases zs with
                | nil => exact absurd rfl hz
                | cons z zs' => exact ⟨z, zs', rfl⟩
              obtain ⟨inn, K, C, Bd, hpv', har, hBz, hiz, htk⟩ := HP.out.step z zs' hzz
              have hAR' : Arow w1 w.heap.size g zs.length cc (z :: zs') := by have h9 := HAR.out; rw [hzz] at h9 ⊢; exact h9
              have hTT' : zs.length - 1 + asT zs' ≤ 1048576 := by have h9 := HTT.out; have h8 := asT_tail z zs'; rw [← hzz] at h8; omega
              have hI2 := fun w' (hb : Below w1.heap.size w1 w') => ipl_any w' s (some ⟨g, if cc = 1 then 0 else 1 * 3, none⟩) (zs.length - 1) (cc - 1) zs' ((asps_tail hAR').later hb) hTT' (by omega) ek ec eb el ep (HE.out.later (HB1.out.trans (hb.mono hsz)))
              rw [hpv'] at hI2
              obtain ⟨sx, sy, sz⟩ := HSM.out z (by rw [hzz]; exact List.mem_cons_self ..)
              have hAO := fun w' (hb : Below w1.heap.size w1 w') => impl_ard z.1 z.2.1 z.2.2 w' ek ec eb el ep (HE.out.later (HB1.out.trans (hb.mono hsz))) (by omega) (by omega)
              rw [har] at hAO
              unfold aspV at hAO
              have hal := hAR'.lt
              have HCS := Lib.hid (fun w' (hb : Below w1.heap.size w1 w') => (hAR'.keep (w' := w') (hb.block g hal.2)).cells 0 (by simp))
              have hsl := aslice_low g zs.length cc 1 1 rfl (by omega)
              generalize (if cc = 1 then 0 else 1 * 3) = off1 at *
              have HI2 := Lib.hid hI2
              have HAO := Lib.hid hAO
              have HTK := Lib.hid htk
              have hsd : decide (0 < sn) = true := by rw [decide_eq_true_eq]; omega
              have HSD := Lib.hid hsd
              have hz1 : 0 < zs.length := by omega
              have hz2 : (0 : Int) < (zs.length : Int) := by omega
              have hz3 : (1 : Int) ≤ (zs.length : Int) := by omega
              simp only [List.getElem_cons_zero, Nat.zero_mul, Nat.zero_add] at HCS
              generalize z.1 = zx at *
              generalize z.2.1 = zy at *
              generalize z.2.2 = zz at *
              clear hI2 hAO htk hpv' har hAR' hTT' hzz hz
              go_wp2_with fail
              refine (HI2.out _ B6.out).mono ?_
              rintro e w7 ⟨rfl, hb7⟩
              have B7 := Lib.hid (B6.out.trans (hb7.mono B6.out.size))
              obtain ⟨c0, c1, c2⟩ := HCS.out _ B7.out
              clear hb7 HI2
              go_wp2_with fail
              refine (HAO.out _ B7.out).mono ?_
              rintro e w8 ⟨rfl, hb8⟩
              have B8 := Lib.hid (B7.out.trans (hb8.mono B7.out.size))
              have N9 := Lib.hid (Cell3.new w8 (.string K) (.string C) (.string Bd))
              have B9 := Lib.hid (B8.out.alloc B8.out.size (.cells #[.string K, .string C, .string Bd] 24))
              obtain ⟨W9, hW9⟩ : ∃ W9, w8.alloc (.cells #[.string K, .string C, .string Bd] 24) = W9 := ⟨_, rfl⟩
              rw [hW9] at N9 B9
              obtain ⟨d0, d1, d2, e0, e1, e2⟩ := N9.out.read
              clear hb8 HAO c0 c1 c2
              go_wp2_with fail
              go_loopw [23, 129] (fun m i wr => ∃ (k : Nat) (mk : ByteArray), k ≤ Bd.size ∧ i = .int .i64 k ∧ m = .string mk ∧ mk.size ≤ 400 * k ∧ Hid (mk.data.toList = putK (Bd.data.toList.take k) inn.data.toList) ∧ wr = W9) (fun _ i _ => Bd.size - (intOf i).toNat)
              case atStart => exact ⟨0, ⟨#[]⟩, Nat.zero_le _, by go_num, rfl, Nat.zero_le _, Lib.hid (by simp [putK]), rfl⟩
              case round =>
                obtain ⟨k, mk, hk, rfl, rfl, hmz, hmk, rfl⟩ := hrel
                by_cases hlt : k < Bd.size
                · have hki : (k : Int) < (Bd.size : Int) := by omega
                  have hk1 : (k : Int) + 1 ≤ (Bd.size : Int) := by omega
                  have hN := putK_next Bd inn.data.toList k hlt
                  by_cases h7 : Bd[k] = 75
                  · rw [if_pos h7] at hN
                    have HN := Lib.hid hN
                    have hq : ((Bd[k].toNat : Int) == 75) = true := by rw [h7]; rfl
                    have e1 := pstr_add mk inn (by omega)
                    have HZ := Lib.hid (show (mk ++ inn).size = mk.size + inn.size from ByteArray.size_append)
                    clear hN h7
                    go_wp2_with fail
                    exact ⟨⟨k + 1, _, by omega, by go_num, rfl, by have := HZ.out; omega, Lib.hid (by rw [HN.out, ← hmk.out]; simp), by first | rfl | trivial⟩, by simp [intOf]; omega⟩
                  · rw [if_neg h7] at hN
                    have hx1 := ext_one Bd k hlt
                    have hxz : (Bd.extract k (k + 1)).size = 1 := by rw [← ByteArray.size_data, ← Array.length_toList, hx1]; rfl
                    have HN := Lib.hid hN
                    have HX1 := Lib.hid hx1
                    have hq : ((Bd[k].toNat : Int) == 75) = false := by
                      rw [show ((Bd[k].toNat : Int) == 75) = (Bd[k] == 75) from toNat_beq Bd[k] 75]
                      rw [beq_eq_false_iff_ne]; exact h7
                    have e1 := pstr_add mk (Bd.extract k (k + 1)) (by omega)
                    have HZ := Lib.hid (show (mk ++ Bd.extract k (k + 1)).size = mk.size + (Bd.extract k (k + 1)).size from ByteArray.size_append)
                    have HXZ := Lib.hid hxz
                    clear hN h7 hx1 hxz
                    go_wp2_with fail
                    exact ⟨⟨k + 1, _, by omega, by go_num, rfl, by have := HZ.out; have := HXZ.out; omega, Lib.hid (by rw [HN.out, ← hmk.out, ← HX1.out]; simp), by first | rfl | trivial⟩, by simp [intOf]; omega⟩
                · have hkn : k = Bd.size := by omega
                  subst hkn
                  have hmt : mk = t := by
                    apply ByteArray.ext; apply Array.ext'
                    have h9 := hmk.out
                    rw [List.take_of_length_le (by simp)] at h9
                    exact h9.trans HTK.out.symm
                  subst hmt
                  clear hmk
                  go_wp2_with fail
                  all_goals
                    go_ret
                    exact ⟨by first | rfl | rw [HSD.out]; rfl, HB1.out.trans (B9.out.mono hsz)⟩

theorem plf_any (w : World) (a : Option Addr) (n0 c0 : Nat) (h : BytesAt w a n0) (hnc : n0 ≤ c0) (hc : c0 ≤ 9223372036854775807) (hnil : a = none → n0 = 0) (ek ec eb el ep : Addr) (he : Errs w ek ec eb el ep) :
    Calls Tryz.prog 4 #[.slice a n0 c0] w fun e w' => e = .returned (.bool true) ∧ Below w.heap.size w w' := by
  by_cases hl : n0 ≤ 1048576
  · exact plf_short w a n0 c0 h hl hnc hc hnil ek ec eb el ep he
  · exact plf_long w a n0 c0 (by omega) hnc hc
end Go.Proofs.YtkdnbdgpcgookaaGreatDoor
