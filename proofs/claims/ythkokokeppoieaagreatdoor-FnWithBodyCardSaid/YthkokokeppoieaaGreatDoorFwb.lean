/- The law FnWithBody answers true whatever bytes it is given. Condition: the library's own number can be read. -/
import Derived.Test.YthkokokeppoieaaGreatDoorFwp
import Derived.Test.YthkokokeppoieaaGreatDoorJx
import Derived.Test.YthkokokeppoieaaGreatDoorSx
import Derived.Test.YthkokokeppoieaaGreatDoorTx
import Derived.Test.YthkokokeppoieaaGreatDoorVx
import Derived.Test.YthkokokeppoieaaGreatDoorWx
namespace Go.Proofs.YthkokokeppoieaaGreatDoor
open Go.RowKit Gram

theorem one_lett (S : List UInt8) (k : Nat) (hk : k < S.length) : (txtOf S).extract k (k + 1) = txtOf [S[k]] := by
  apply ByteArray.ext
  apply Array.ext'
  simp [txtOf, List.extract_eq_take_drop]
  rw [List.take_one, List.head?_drop, List.getElem?_eq_getElem hk]; rfl
theorem valid_size {s : ByteArray} (h : (progOf s).isSome = true) : s.size ≤ 400 := by
  obtain ⟨ps, h⟩ := Option.isSome_iff_exists.1 h
  exact (prog_facts h).2.2.1
def BodyTo (s nm A : ByteArray) (b : Bool) : Prop := ∀ (w : World), MaxCell w → Calls Tryz.prog 8 #[.string s, .string nm] w fun e w' => e = .returned (.tuple #[.string A, .bool b]) ∧ Below w.heap.size w w'
theorem bodyTo (s nm : ByteArray) (hs : s.size ≤ 1073741824) : BodyTo s nm (bodyT (lookP s nm)) (lookP s nm).isSome := fun w hm => impl_body s nm w hs hm
theorem lookW_good {s nm : ByteArray} : ∀ p, lookP s nm = some p → Good p := by
  intro p h
  unfold lookP at h
  split at h
  · rename_i ps c hp _
    exact (prog_facts hp).2.1 p (List.mem_of_find?_eq_some h)
  · cases h
theorem bodyT_size (s nm : ByteArray) : (bodyT (lookP s nm)).size ≤ 400 := by
  cases h : lookP s nm with
  | none => exact Nat.zero_le _
  | some p => exact (lookW_good p h).2.2.1

set_option maxHeartbeats 8000000 in
set_option maxRecDepth 100000 in
theorem fwb_any (w : World) (a : Option Addr) (n c : Nat) (h : BytesAt w a n) (hn : n ≤ c) (hc : c ≤ 9223372036854775807) (hnil : a = none → n = 0) (hm : MaxCell w) :
    Calls Tryz.prog 3 #[.slice a n c] w fun e w' => e = .returned (.bool true) ∧ Below w.heap.size w w' := by
  have HD := Lib.hid (drawWith_any w a n c h hn hc hnil)
  have HM := Lib.hid hm
  clear h hnil hm
  by_cases hbig : 1048576 < n
  · go_enter Tryz.func3, Tryz.ntmps3
    go_wp2_with fail
    go_ret
    exact ⟨rfl, Below.refl _ _⟩
  · go_enter Tryz.func3, Tryz.ntmps3
    go_wp2_with fail
    refine HD.out.mono ?_
    rintro e w1 ⟨⟨s, nm, bt, rfl, hs, ht, hb⟩, hb1⟩
    have HB1 := Lib.hid hb1
    clear hb1
    obtain ⟨T, b, hV⟩ := withV_form s nm bt
    cases b
    case false =>
      have HWI := Lib.hid (fun w hm => impl_with s nm bt w (by omega) (by omega) hm)
      have HWS := Lib.hid (fun w => spec_with s nm bt w (by omega) (by omega))
      rw [hV] at HWI HWS
      clear hV
      go_wp2_with fail
      refine (HWI.out _ (HM.out.later HB1.out)).mono ?_
      rintro e w2 ⟨rfl, b2⟩
      have HB2 := Lib.hid (HB1.out.trans (b2.mono HB1.out.size))
      clear b2
      go_wp2_with fail
      refine (HWS.out _).mono ?_
      rintro e w3 ⟨rfl, b3⟩
      have HB3 := Lib.hid (HB2.out.trans (b3.mono HB2.out.size))
      clear b3
      go_wp2_with fail
      go_ret
      exact ⟨rfl, HB3.out⟩
    case true =>
      have HWI := Lib.hid (fun w hm => impl_with s nm bt w (by omega) (by omega) hm)
      have HWS := Lib.hid (fun w => spec_with s nm bt w (by omega) (by omega))
      rw [hV] at HWI HWS
      obtain ⟨ps, hF⟩ := with_facts hV
      have hps := hF.prog
      have hTs := valid_size hF.valid
      have HBT : Hid (BodyTo T nm bt true) := by
        obtain ⟨pn, hpn, hbt⟩ := hF.got
        have h := bodyTo T nm (by omega)
        rw [hpn] at h
        rw [← hbt]
        exact h
      have HBO := Lib.hid (bodyTo s nm (by omega))
      have HBS := Lib.hid (fun w => spec_body s nm w (by omega))
      have HBW : Hid ((lookP s nm).isSome = true → ∀ w, MaxCell w → Calls Tryz.prog 6 #[.string T, .string nm, .string (bodyT (lookP s nm))] w fun e w' => e = .returned (.tuple #[.string s, .bool true]) ∧ Below w.heap.size w w') := by
        show _ → _
        intro hi w hm
        obtain ⟨p, hp⟩ := Option.isSome_iff_exists.1 hi
        have h := impl_with T nm (bodyT (lookP s nm)) w (by omega) (by have := bodyT_size s nm; omega) hm
        rw [hp] at h ⊢
        rw [show withV T nm (bodyT (some p)) = _ from hF.back p hp] at h
        exact h
      have HPS := Lib.hid (fun w hm => impl_procs s w (by omega) hm)
      rw [show procsP s = txtOf (namesOf ps) by rw [procsP, hps]] at HPS
      have HPV := Lib.hid (fun w hm => impl_valid T w (by omega) hm)
      rw [hF.valid] at HPV
      have HL : Hid (∀ k, k < (namesOf ps).length → ∃ u A B p q, (txtOf (namesOf ps)).extract k (k + 1) = u ∧ BodyTo s u A p ∧ BodyTo T u B q ∧ (u = nm ∨ A = B)) := by
        show ∀ _, _
        intro k hk
        refine ⟨_, _, _, _, _, one_lett _ k hk, bodyTo s _ (by omega), bodyTo T _ (by omega), ?_⟩
        by_cases he : txtOf [(namesOf ps)[k]] = nm
        · exact .inl he
        · exact .inr (hF.others _ (List.getElem_mem hk) he)
      have hsz : (txtOf (namesOf ps)).size = (namesOf ps).length := txtOf_size _
      have hml : (namesOf ps).length ≤ 401 := by simpa [namesOf] using (prog_facts hps).1
      have hos := bodyT_size s nm
      generalize txtOf (namesOf ps) = S at *
      generalize (namesOf ps).length = m at *
      generalize (lookP s nm).isSome = was at *
      generalize bodyT (lookP s nm) = old at *
      subst hsz
      clear hV hF hps
      unfold BodyTo at *
      go_wp2_with fail
      refine (HWI.out _ (HM.out.later HB1.out)).mono ?_
      rintro e w2 ⟨rfl, b2⟩
      have HB2 := Lib.hid (HB1.out.trans (b2.mono HB1.out.size))
      clear b2
      go_wp2_with fail
      refine (HWS.out _).mono ?_
      rintro e w3 ⟨rfl, b3⟩
      have HB3 := Lib.hid (HB2.out.trans (b3.mono HB2.out.size))
      clear b3
      go_wp2_with fail
      refine (HBT.out _ (HM.out.later HB3.out)).mono ?_
      rintro e w4 ⟨rfl, b4⟩
      have HB4 := Lib.hid (HB3.out.trans (b4.mono HB3.out.size))
      clear b4
      go_wp2_with fail
      refine (HBO.out _ (HM.out.later HB4.out)).mono ?_
      rintro e w5 ⟨rfl, b5⟩
      have HB5 := Lib.hid (HB4.out.trans (b5.mono HB4.out.size))
      clear b5
      go_wp2_with fail
      refine (HBS.out _).mono ?_
      rintro e w6 ⟨rfl, b6⟩
      have HB6 := Lib.hid (HB5.out.trans (b6.mono HB5.out.size))
      clear b6
      rcases Bool.eq_false_or_eq_true was with hw | hw
      case' inl =>
        subst hw
        have HBW2 := Lib.hid (HBW.out rfl)
        go_wp2_with fail
        refine (HBW2.out _ (HM.out.later HB6.out)).mono ?_
        rintro e w7 ⟨rfl, b7⟩
        have HB7 := Lib.hid (HB6.out.trans (b7.mono HB6.out.size))
        clear b7 HBW2
        go_wp2_with fail
      case' inr =>
        subst hw
        obtain ⟨w7, hw7⟩ : ∃ x, x = w6 := ⟨_, rfl⟩
        have HB7 := HB6
        rw [← hw7] at HB7
        go_wp2_with fail
        rw [← hw7]
        clear hw7
      all_goals
        clear HBW
        refine (HPS.out _ (HM.out.later HB7.out)).mono ?_
        rintro e w8 ⟨rfl, b8⟩
        have HB8 := Lib.hid (HB7.out.trans (b8.mono HB7.out.size))
        clear b8
        go_wp2_with fail
        go_loopw [97] (fun i wr => ∃ k : Nat, k ≤ S.size ∧ i = .int .i64 k ∧ Hid (Below w.heap.size w wr)) (fun i _ => S.size - (intOf i).toNat)
        case atStart => exact ⟨0, Nat.zero_le _, by go_num, HB8.out⟩
        case round =>
          obtain ⟨k, hk, rfl, hbr⟩ := hrel
          by_cases hlt : k < S.size
          · obtain ⟨u, A, B, p, q, hx, hA, hB, hor⟩ := HL.out k hlt
            have HA := Lib.hid hA
            have HB := Lib.hid hB
            clear hA hB
            go_wp2_with fail
            refine (HA.out _ (HM.out.later hbr.out)).mono ?_
            rintro e w9 ⟨rfl, b9⟩
            have HB9 := Lib.hid (hbr.out.trans (b9.mono hbr.out.size))
            clear b9
            go_wp2_with fail
            refine (HB.out _ (HM.out.later HB9.out)).mono ?_
            rintro e w10 ⟨rfl, b10⟩
            have HB10 := Lib.hid (HB9.out.trans (b10.mono HB9.out.size))
            clear b10
            rcases hor with rfl | rfl
            all_goals
              go_wp2_with fail
              all_goals
                go_roundw
                case rel => exact ⟨k + 1, by omega, by go_num, HB10.out⟩
                case measure => simp [intOf]; omega
          · go_wp2_with fail
            refine (HPV.out _ (HM.out.later hbr.out)).mono ?_
            rintro e w9 ⟨rfl, b9⟩
            have HB9 := Lib.hid (hbr.out.trans (b9.mono hbr.out.size))
            clear b9
            go_wp2_with fail
            go_ret
            exact ⟨rfl, HB9.out⟩
end Go.Proofs.YthkokokeppoieaaGreatDoor
