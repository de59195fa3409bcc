/- The law FnRenamedRun answers true, whatever bytes it is given. Condition: the library's own number can be read. -/
import Derived.Test.YtfmmpahbjkiomaaGreatDoorJx
import Derived.Test.YtfmmpahbjkiomaaGreatDoorSx
import Derived.Test.YtfmmpahbjkiomaaGreatDoorYx
import Derived.Test.YtfmmpahbjkiomaaGreatDoorUx
namespace Go.Proofs.YtfmmpahbjkiomaaGreatDoor
open Go.RowKit Gram

theorem nm_oneT {nm : ByteArray} {a : UInt8} (h : nm.data.toList = [a]) : nm = txtOf [a] := nm_one h
theorem rnT_len {s : ByteArray} {ps : List Pr} {a b : UInt8} (R : RnF s ps a b) : (rnT ps a b).size ≤ 400 := (prog_facts R.prog).2.2.1
/-- a procedure's run has the same outcome under its new name -/
theorem ren_out {s : ByteArray} {ps : List Pr} (hp : progOf s = some ps) {a b : UInt8} (R : RnF s ps a b) {c : UInt8} (hc : c ∈ namesOf ps) (v : Int) :
    outP (runP (rnT ps a b) (txtOf [renN a b c]) v) = outP (runP s (txtOf [c]) v) ∧ (runP (rnT ps a b) (txtOf [renN a b c]) v).isSome = (runP s (txtOf [c]) v).isSome := by
  obtain ⟨p, hm, rfl⟩ := List.mem_map.1 hc
  have hl := lookW_at hp p hm
  have hl2 := look_ren hp R p hm
  have hpr : progOf (rnT ps a b) = some (sortP (ps.map (renP a b))) := R.prog
  unfold runP
  rw [hp, hl, hpr, hl2]
  dsimp only
  split
  · obtain ⟨h1, h2, h3, h4⟩ := run_ren_out hp R v hc
    refine ⟨?_, rfl⟩
    show (_, _, _, _) = ((_, _, _, _) : Int × List Int × ByteArray × Int)
    have e1 : (renP a b p).1 = renN a b p.1 := rfl
    rw [e1]
    refine Prod.ext h1 (Prod.ext h2 (Prod.ext ?_ ?_))
    · show txtOf (Fin.word _) = txtOf (Fin.word _)
      exact congrArg (fun x => txtOf (Fin.word x)) h4
    · exact congrArg Int.ofNat h3
  · exact ⟨rfl, rfl⟩
theorem run_is {s : ByteArray} {ps : List Pr} (hp : progOf s = some ps) {c : UInt8} (hc : c ∈ namesOf ps) {v : Int} (h1 : -9999 ≤ v) (h2 : v ≤ 9999) : (runP s (txtOf [c]) v).isSome = true := by
  obtain ⟨p, hm, rfl⟩ := List.mem_map.1 hc
  have hl := lookW_at hp p hm
  unfold runP
  rw [hp, hl]
  dsimp only
  rw [if_pos ⟨h1, h2⟩]
  rfl
theorem run_name {s : ByteArray} {ps : List Pr} (hp : progOf s = some ps) {c : UInt8} {v : Int} (h : (runP s (txtOf [c]) v).isSome = true) : c ∈ namesOf ps := by
  unfold runP at h
  rw [hp] at h
  cases hl : lookP s (txtOf [c]) with
  | none => rw [hl] at h; cases h
  | some p =>
    obtain ⟨hm, rfl⟩ := look_mem_name hp hl
    exact List.mem_map.2 ⟨p, hm, rfl⟩
theorem outP_small2 (s nm : ByteArray) (v : Int) : (outP (runP s nm v)).2.1.length ≤ 500 := by
  cases h : runP s nm v with
  | none => simp [outP]
  | some r => exact (runP_small h).1

set_option maxHeartbeats 4000000 in
set_option maxRecDepth 100000 in
theorem rrl_short (w : World) (a a2 : Option Addr) (n c m c2 : Nat) (hn : n ≤ 1048576) (hm2 : m ≤ 1048576) (hm : MaxCell w)
    (hd : Calls Tryz.prog 7 #[.slice a n c] w fun e w' => (∃ s t u : ByteArray, e = .returned (.tuple #[.string s, .string t, .string u]) ∧ s.size ≤ 2000 ∧ t.size ≤ 2 ∧ u.size ≤ 2) ∧ Below w.heap.size w w') :
    Calls Tryz.prog 6 #[.slice a n c, .slice a2 m c2] w fun e w' => e = .returned (.bool true) ∧ Below w.heap.size w w' := by
  have HD := Lib.hid hd
  have HM := Lib.hid hm
  clear hd hm
  go_enter Tryz.func6, Tryz.ntmps6
  go_wp2_with fail
  refine HD.out.mono ?_
  rintro e w1 ⟨⟨s, t, u, rfl, hz, ht, hu⟩, hb1⟩
  have B1 := Lib.hid hb1
  have M1 := Lib.hid (HM.out.later hb1)
  have hI := fun w hm => impl_ren s t u w (by omega) hm
  have hS := fun w => spec_ren s t u w (by omega)
  clear hb1
  by_cases hok : renOk s t u
  · obtain ⟨ps, x, y, hp, hnm, htn, hx, hy⟩ := hok
    have hly := (nameOf_some htn).2
    have R := ren_facts hp hx hly hy
    have hV : renV s t u = .tuple #[.string (rnT ps x y), .bool true] := by simp only [renV, hp, hnm, htn]; rw [if_pos ⟨hx, hy⟩]
    rw [hV] at hI
    have hk := rnT_len R
    have htx : t = txtOf [x] := nm_oneT (nameOf_some hnm).1
    have huy : u = txtOf [y] := nm_oneT (nameOf_some htn).1
    have hren : renN x y x = y := by rw [renN, if_pos rfl]
    have ho1 := ren_out hp R hx ((m % 7 : Nat) : Int)
    rw [hren, ← htx, ← huy] at ho1
    have hi1 := run_is hp hx (v := ((m % 7 : Nat) : Int)) (by omega) (by omega)
    rw [← htx] at hi1
    obtain ⟨fst, hfst⟩ : ∃ f : ByteArray, f = if t.toList == [97] then u else ⟨#[97]⟩ := ⟨_, rfl⟩
    have ho2 : (runP s (txtOf [97]) 2).isSome = true → outP (runP (rnT ps x y) fst 2) = outP (runP s (txtOf [97]) 2) ∧ (runP (rnT ps x y) fst 2).isSome = true := by
      intro h
      have hc := run_name hp h
      have hr := ren_out hp R hc 2
      rw [h] at hr
      have hf : fst = txtOf [renN x y 97] := by
        rw [hfst, htx]
        have e1 : (txtOf [x]).toList = [x] := by rw [ByteArray.toList_eq]; rfl
        rw [e1]
        by_cases h97 : x = 97
        · rw [h97, if_pos (by simp), renN, if_pos rfl, huy]
        · rw [if_neg (by simpa using h97), renN, if_neg (fun e => h97 e.symm)]; rfl
      rw [hf]; exact hr
    have HI1 := Lib.hid (fun w hm => impl_run s t ((m % 7 : Nat) : Int) w (by omega) hm)
    have HI2 := Lib.hid (fun w hm => impl_run (rnT ps x y) u ((m % 7 : Nat) : Int) w (by omega) hm)
    have HI3 := Lib.hid (fun w hm => impl_run s (txtOf [97]) 2 w (by omega) hm)
    have HI4 := Lib.hid (fun w hm => impl_run (rnT ps x y) fst 2 w (by omega) hm)
    have hsm1 := outP_small2 s t ((m % 7 : Nat) : Int)
    have hsm3 := outP_small2 s (txtOf [97]) 2
    have hsm4 := outP_small2 (rnT ps x y) fst 2
    unfold OutTo at HI1 HI2 HI3 HI4
    rw [ho1.1, ho1.2, hi1] at HI2
    rw [hi1] at HI1
    have HI := Lib.hid hI
    have hfs : fst = if t.toList == [97] then u else txtOf [97] := hfst
    generalize runP (rnT ps x y) fst 2 = r4 at *
    generalize hr3 : runP s (txtOf [97]) 2 = r3 at *
    have HI3 := Lib.hid (fun w hm => show Calls Tryz.prog 15 #[.string s, .string ⟨#[97]⟩, .int .i64 2] w _ from HI3.out w hm)
    generalize (outP (runP s t ((m % 7 : Nat) : Int))).1 = ov at *
    generalize (outP (runP s t ((m % 7 : Nat) : Int))).2.2.1 = oe at *
    generalize (outP (runP s t ((m % 7 : Nat) : Int))).2.2.2 = os at *
    generalize (outP (runP s t ((m % 7 : Nat) : Int))).2.1 = oz at *
    generalize rnT ps x y = k at *
    have hrem : Int.tmod (m : Int) 7 = ((m % 7 : Nat) : Int) := by rw [Int.tmod_eq_emod_of_nonneg (by omega)]; omega
    generalize m % 7 = q7 at *
    have HQ := Lib.hid (fun w a a' c c' B B' (h1 : w.ownsRow B 3 1 (.slice a oz.length c) oz.length (intVs oz)) (h2 : w.ownsRow B' 3 1 (.slice a' oz.length c') oz.length (intVs oz)) => wvOut_any w ov a a' oz.length c c' oz oe os (ints_of h1) (ints_of h2) (by omega))
    have HO2 := Lib.hid ho2
    generalize oz.length = n1 at *
    clear hI hS hp hnm htn hx hy R hV hly htx huy hren ho1 hi1 ho2 hfst hr3
    unfold oV at HI1 HI2 HI3 HI4 HQ
    go_wp2_with fail
    refine (HI.out _ M1.out).mono ?_
    rintro e w2 ⟨rfl, b2⟩
    have B2 := Lib.hid (B1.out.trans (b2.mono B1.out.size))
    have M2 := Lib.hid (M1.out.later b2)
    clear b2
    cases hb3 : r3.isSome with
    | true =>
      obtain ⟨e1, e2⟩ := HO2.out hb3
      rw [e1, e2] at HI4
      rw [hb3] at HI3
      clear HO2 e1 e2 hsm4 hb3
      generalize (outP r3).1 = ov3 at *
      generalize (outP r3).2.2.1 = oe3 at *
      generalize (outP r3).2.2.2 = os3 at *
      generalize (outP r3).2.1 = oz3 at *
      have HQ3 := Lib.hid (fun w a a' c c' B B' (h1 : w.ownsRow B 3 1 (.slice a oz3.length c) oz3.length (intVs oz3)) (h2 : w.ownsRow B' 3 1 (.slice a' oz3.length c') oz3.length (intVs oz3)) => wvOut_any w ov3 a a' oz3.length c c' oz3 oe3 os3 (ints_of h1) (ints_of h2) (by omega))
      generalize oz3.length = n3 at *
      unfold oV at HQ3
      go_wp2_with fail
      refine (HI1.out _ M2.out).mono ?_
      rintro e w3 ⟨⟨a1, c1, rfl, q1⟩, b3'⟩
      have Q1 := Lib.hid q1
      have B3 := Lib.hid (B2.out.trans (b3'.mono B2.out.size))
      have M3 := Lib.hid (M2.out.later b3')
      clear q1 b3'
      go_wp2_with fail
      have hx1 : Below w3.heap.size w3 (w3.alloc (Obj.cells #[.int .i64 ov, .slice a1 n1 c1, .string oe, .int .i64 os] 37)) := (Below.refl _ _).alloc (Nat.le_refl _) _
      have P1 := Lib.hid (⟨heap_alloc_new w3 _⟩ : OAt (w3.alloc (Obj.cells #[.int .i64 ov, .slice a1 n1 c1, .string oe, .int .i64 os] 37)) w3.heap.size ov (.slice a1 n1 c1) oe os)
      have QX1 := Lib.hid (row_up Q1.out hx1)
      have BX1 := Lib.hid (B3.out.trans (hx1.mono B3.out.size))
      have MX1 := Lib.hid (M3.out.later hx1)
      clear hx1 Q1
      refine (HI2.out _ MX1.out).mono ?_
      rintro e w4 ⟨⟨a2', c2', rfl, q2⟩, b4'⟩
      have P1b := Lib.hid (P1.out.later b4')
      have Q1b := Lib.hid (row_up QX1.out b4')
      have Q2 := Lib.hid q2
      have B4 := Lib.hid (BX1.out.trans (b4'.mono BX1.out.size))
      have M4 := Lib.hid (MX1.out.later b4')
      clear q2 b4' P1 QX1 BX1 MX1
      go_wp2_with fail
      have hx2 : Below w4.heap.size w4 (w4.alloc (Obj.cells #[.int .i64 ov, .slice a2' n1 c2', .string oe, .int .i64 os] 37)) := (Below.refl _ _).alloc (Nat.le_refl _) _
      have P2 := Lib.hid (⟨heap_alloc_new w4 _⟩ : OAt (w4.alloc (Obj.cells #[.int .i64 ov, .slice a2' n1 c2', .string oe, .int .i64 os] 37)) w4.heap.size ov (.slice a2' n1 c2') oe os)
      have P1c := Lib.hid (P1b.out.later hx2)
      have Q1c := Lib.hid (row_up Q1b.out hx2)
      have Q2b := Lib.hid (row_up Q2.out hx2)
      have BX2 := Lib.hid (B4.out.trans (hx2.mono B4.out.size))
      have MX2 := Lib.hid (M4.out.later hx2)
      clear hx2 P1b Q1b Q2
      refine (HI3.out _ MX2.out).mono ?_
      rintro e w5 ⟨⟨a3, c3, rfl, q3⟩, b5⟩
      have P1d := Lib.hid (P1c.out.later b5)
      have Q1d := Lib.hid (row_up Q1c.out b5)
      have P2b := Lib.hid (P2.out.later b5)
      have Q2c := Lib.hid (row_up Q2b.out b5)
      have Q3 := Lib.hid q3
      have B5 := Lib.hid (BX2.out.trans (b5.mono BX2.out.size))
      have M5 := Lib.hid (MX2.out.later b5)
      clear q3 b5 P1c Q1c P2 Q2b BX2 MX2
      have hx3 : Below w5.heap.size w5 (w5.alloc (Obj.cells #[.int .i64 ov3, .slice a3 n3 c3, .string oe3, .int .i64 os3] 37)) := (Below.refl _ _).alloc (Nat.le_refl _) _
      have P3 := Lib.hid (⟨heap_alloc_new w5 _⟩ : OAt (w5.alloc (Obj.cells #[.int .i64 ov3, .slice a3 n3 c3, .string oe3, .int .i64 os3] 37)) w5.heap.size ov3 (.slice a3 n3 c3) oe3 os3)
      have P1e := Lib.hid (P1d.out.later hx3)
      have Q1e := Lib.hid (row_up Q1d.out hx3)
      have P2c := Lib.hid (P2b.out.later hx3)
      have Q2d := Lib.hid (row_up Q2c.out hx3)
      have Q3b := Lib.hid (row_up Q3.out hx3)
      have BX3 := Lib.hid (B5.out.trans (hx3.mono B5.out.size))
      have MX3 := Lib.hid (M5.out.later hx3)
      clear hx3 P1d Q1d P2b Q2c Q3
      cases hta : (t.toList == [97])
      all_goals
        rw [hta] at hfs
        have HFS := Lib.hid hfs
        clear hfs
        go_wp2_with fail
        first | (rw [show u = fst from HFS.out.symm]; refine (HI4.out _ MX3.out).mono ?_) | (refine (show Calls Tryz.prog 15 #[.string k, .string ⟨#[97]⟩, .int .i64 2] _ _ from HFS.out ▸ HI4.out _ MX3.out).mono ?_)
        rintro e w6 ⟨⟨a4, c4, rfl, q4⟩, b6⟩
        have P1f := Lib.hid (P1e.out.later b6)
        have Q1f := Lib.hid (row_up Q1e.out b6)
        have P2d := Lib.hid (P2c.out.later b6)
        have Q2e := Lib.hid (row_up Q2d.out b6)
        have P3b := Lib.hid (P3.out.later b6)
        have Q3c := Lib.hid (row_up Q3b.out b6)
        have Q4 := Lib.hid q4
        have B6 := Lib.hid (BX3.out.trans (b6.mono BX3.out.size))
        clear q4 b6 P1e Q1e P2c Q2d P3 Q3b BX3 MX3
        have hx4 : Below w6.heap.size w6 (w6.alloc (Obj.cells #[.int .i64 ov3, .slice a4 n3 c4, .string oe3, .int .i64 os3] 37)) := (Below.refl _ _).alloc (Nat.le_refl _) _
        have P4 := Lib.hid (⟨heap_alloc_new w6 _⟩ : OAt (w6.alloc (Obj.cells #[.int .i64 ov3, .slice a4 n3 c4, .string oe3, .int .i64 os3] 37)) w6.heap.size ov3 (.slice a4 n3 c4) oe3 os3)
        have P1g := Lib.hid (P1f.out.later hx4)
        have Q1g := Lib.hid (row_up Q1f.out hx4)
        have P2e := Lib.hid (P2d.out.later hx4)
        have Q2f := Lib.hid (row_up Q2e.out hx4)
        have P3c := Lib.hid (P3b.out.later hx4)
        have Q3d := Lib.hid (row_up Q3c.out hx4)
        have Q4b := Lib.hid (row_up Q4.out hx4)
        have BX4 := Lib.hid (B6.out.trans (hx4.mono B6.out.size))
        clear hx4 P1f Q1f P2d Q2e P3b Q3c Q4
        obtain ⟨s10, s11, s12, s13, _⟩ := P1g.out.read
        obtain ⟨s20, s21, s22, s23, _⟩ := P2e.out.read
        obtain ⟨s30, s31, s32, s33, _⟩ := P3c.out.read
        obtain ⟨s40, s41, s42, s43, _⟩ := P4.out.read
        go_wp2_with fail
        refine (HQ.out _ _ _ _ _ _ _ Q1g.out Q2f.out).mono ?_
        rintro e w7 ⟨rfl, b7⟩
        have B7 := Lib.hid (BX4.out.trans (b7.mono BX4.out.size))
        have P3d := Lib.hid (P3c.out.later b7)
        have P4b := Lib.hid (P4.out.later b7)
        have Q3e := Lib.hid (row_up Q3d.out b7)
        have Q4c := Lib.hid (row_up Q4b.out b7)
        clear b7 s10 s11 s12 s13 s20 s21 s22 s23 s30 s31 s32 s33 s40 s41 s42 s43
        obtain ⟨s30, s31, s32, s33, _⟩ := P3d.out.read
        obtain ⟨s40, s41, s42, s43, _⟩ := P4b.out.read
        go_wp2_with fail
        refine (HQ3.out _ _ _ _ _ _ _ Q3e.out Q4c.out).mono ?_
        rintro e w8 ⟨rfl, b8⟩
        have B8 := Lib.hid (B7.out.trans (b8.mono B7.out.size))
        clear b8
        go_wp2_with fail
        go_ret
        exact ⟨rfl, B8.out⟩
    | false =>
      rw [hb3] at HI3
      clear HO2 hb3
      generalize (outP r3).1 = ov3 at *
      generalize (outP r3).2.2.1 = oe3 at *
      generalize (outP r3).2.2.2 = os3 at *
      generalize (outP r3).2.1 = oz3 at *
      generalize oz3.length = n3 at *
      generalize (outP r4).1 = ov4 at *
      generalize (outP r4).2.2.1 = oe4 at *
      generalize (outP r4).2.2.2 = os4 at *
      generalize (outP r4).2.1 = oz4 at *
      generalize oz4.length = n4 at *
      generalize r4.isSome = b4 at *
      go_wp2_with fail
      refine (HI1.out _ M2.out).mono ?_
      rintro e w3 ⟨⟨a1, c1, rfl, q1⟩, b3'⟩
      have Q1 := Lib.hid q1
      have B3 := Lib.hid (B2.out.trans (b3'.mono B2.out.size))
      have M3 := Lib.hid (M2.out.later b3')
      clear q1 b3'
      go_wp2_with fail
      have hx1 : Below w3.heap.size w3 (w3.alloc (Obj.cells #[.int .i64 ov, .slice a1 n1 c1, .string oe, .int .i64 os] 37)) := (Below.refl _ _).alloc (Nat.le_refl _) _
      have P1 := Lib.hid (⟨heap_alloc_new w3 _⟩ : OAt (w3.alloc (Obj.cells #[.int .i64 ov, .slice a1 n1 c1, .string oe, .int .i64 os] 37)) w3.heap.size ov (.slice a1 n1 c1) oe os)
      have QX1 := Lib.hid (row_up Q1.out hx1)
      have BX1 := Lib.hid (B3.out.trans (hx1.mono B3.out.size))
      have MX1 := Lib.hid (M3.out.later hx1)
      clear hx1 Q1
      refine (HI2.out _ MX1.out).mono ?_
      rintro e w4 ⟨⟨a2', c2', rfl, q2⟩, b4'⟩
      have P1b := Lib.hid (P1.out.later b4')
      have Q1b := Lib.hid (row_up QX1.out b4')
      have Q2 := Lib.hid q2
      have B4 := Lib.hid (BX1.out.trans (b4'.mono BX1.out.size))
      have M4 := Lib.hid (MX1.out.later b4')
      clear q2 b4' P1 QX1 BX1 MX1
      go_wp2_with fail
      have hx2 : Below w4.heap.size w4 (w4.alloc (Obj.cells #[.int .i64 ov, .slice a2' n1 c2', .string oe, .int .i64 os] 37)) := (Below.refl _ _).alloc (Nat.le_refl _) _
      have P2 := Lib.hid (⟨heap_alloc_new w4 _⟩ : OAt (w4.alloc (Obj.cells #[.int .i64 ov, .slice a2' n1 c2', .string oe, .int .i64 os] 37)) w4.heap.size ov (.slice a2' n1 c2') oe os)
      have P1c := Lib.hid (P1b.out.later hx2)
      have Q1c := Lib.hid (row_up Q1b.out hx2)
      have Q2b := Lib.hid (row_up Q2.out hx2)
      have BX2 := Lib.hid (B4.out.trans (hx2.mono B4.out.size))
      have MX2 := Lib.hid (M4.out.later hx2)
      clear hx2 P1b Q1b Q2
      refine (HI3.out _ MX2.out).mono ?_
      rintro e w5 ⟨⟨a3, c3, rfl, q3⟩, b5⟩
      have P1d := Lib.hid (P1c.out.later b5)
      have Q1d := Lib.hid (row_up Q1c.out b5)
      have P2b := Lib.hid (P2.out.later b5)
      have Q2c := Lib.hid (row_up Q2b.out b5)
      have Q3 := Lib.hid q3
      have B5 := Lib.hid (BX2.out.trans (b5.mono BX2.out.size))
      have M5 := Lib.hid (MX2.out.later b5)
      clear q3 b5 P1c Q1c P2 Q2b BX2 MX2
      have hx3 : Below w5.heap.size w5 (w5.alloc (Obj.cells #[.int .i64 ov3, .slice a3 n3 c3, .string oe3, .int .i64 os3] 37)) := (Below.refl _ _).alloc (Nat.le_refl _) _
      have P3 := Lib.hid (⟨heap_alloc_new w5 _⟩ : OAt (w5.alloc (Obj.cells #[.int .i64 ov3, .slice a3 n3 c3, .string oe3, .int .i64 os3] 37)) w5.heap.size ov3 (.slice a3 n3 c3) oe3 os3)
      have P1e := Lib.hid (P1d.out.later hx3)
      have Q1e := Lib.hid (row_up Q1d.out hx3)
      have P2c := Lib.hid (P2b.out.later hx3)
      have Q2d := Lib.hid (row_up Q2c.out hx3)
      have Q3b := Lib.hid (row_up Q3.out hx3)
      have BX3 := Lib.hid (B5.out.trans (hx3.mono B5.out.size))
      have MX3 := Lib.hid (M5.out.later hx3)
      clear hx3 P1d Q1d P2b Q2c Q3
      cases hta : (t.toList == [97])
      all_goals
        rw [hta] at hfs
        have HFS := Lib.hid hfs
        clear hfs
        go_wp2_with fail
        first | (rw [show u = fst from HFS.out.symm]; refine (HI4.out _ MX3.out).mono ?_) | (refine (show Calls Tryz.prog 15 #[.string k, .string ⟨#[97]⟩, .int .i64 2] _ _ from HFS.out ▸ HI4.out _ MX3.out).mono ?_)
        rintro e w6 ⟨⟨a4, c4, rfl, q4⟩, b6⟩
        have P1f := Lib.hid (P1e.out.later b6)
        have Q1f := Lib.hid (row_up Q1e.out b6)
        have P2d := Lib.hid (P2c.out.later b6)
        have Q2e := Lib.hid (row_up Q2d.out b6)
        have P3b := Lib.hid (P3.out.later b6)
        have Q3c := Lib.hid (row_up Q3b.out b6)
        have Q4 := Lib.hid q4
        have B6 := Lib.hid (BX3.out.trans (b6.mono BX3.out.size))
        clear q4 b6 P1e Q1e P2c Q2d P3 Q3b BX3 MX3
        have hx4 : Below w6.heap.size w6 (w6.alloc (Obj.cells #[.int .i64 ov4, .slice a4 n4 c4, .string oe4, .int .i64 os4] 37)) := (Below.refl _ _).alloc (Nat.le_refl _) _
        have P4 := Lib.hid (⟨heap_alloc_new w6 _⟩ : OAt (w6.alloc (Obj.cells #[.int .i64 ov4, .slice a4 n4 c4, .string oe4, .int .i64 os4] 37)) w6.heap.size ov4 (.slice a4 n4 c4) oe4 os4)
        have P1g := Lib.hid (P1f.out.later hx4)
        have Q1g := Lib.hid (row_up Q1f.out hx4)
        have P2e := Lib.hid (P2d.out.later hx4)
        have Q2f := Lib.hid (row_up Q2e.out hx4)
        have P3c := Lib.hid (P3b.out.later hx4)
        have Q3d := Lib.hid (row_up Q3c.out hx4)
        have Q4b := Lib.hid (row_up Q4.out hx4)
        have BX4 := Lib.hid (B6.out.trans (hx4.mono B6.out.size))
        clear hx4 P1f Q1f P2d Q2e P3b Q3c Q4
        obtain ⟨s10, s11, s12, s13, _⟩ := P1g.out.read
        obtain ⟨s20, s21, s22, s23, _⟩ := P2e.out.read
        go_wp2_with fail
        refine (HQ.out _ _ _ _ _ _ _ Q1g.out Q2f.out).mono ?_
        rintro e w7 ⟨rfl, b7⟩
        have B7 := Lib.hid (BX4.out.trans (b7.mono BX4.out.size))
        clear b7 s10 s11 s12 s13 s20 s21 s22 s23
        go_wp2_with fail
        go_ret
        exact ⟨rfl, B7.out⟩
  · have hV := renV_no hok
    rw [hV] at hI hS
    have HI := Lib.hid hI
    have HS := Lib.hid hS
    clear hI hS hok hV
    go_wp2_with fail
    refine (HI.out _ M1.out).mono ?_
    rintro e w2 ⟨rfl, b2⟩
    have B2 := Lib.hid (B1.out.trans (b2.mono B1.out.size))
    clear b2
    go_wp2_with fail
    refine (HS.out _).mono ?_
    rintro e w3 ⟨rfl, b3⟩
    have B3 := Lib.hid (B2.out.trans (b3.mono B2.out.size))
    clear b3
    go_wp2_with fail
    go_ret
    exact ⟨rfl, B3.out⟩

set_option maxHeartbeats 400000 in
theorem rrl_long1 (w : World) (a a2 : Option Addr) (n c m c2 : Nat) (hn : 1048576 < n) (hx : n ≤ 9223372036854775807) :
    Calls Tryz.prog 6 #[.slice a n c, .slice a2 m c2] w fun e w' => e = .returned (.bool true) ∧ Below w.heap.size w w' := by
  go_enter Tryz.func6, Tryz.ntmps6
  go_wp2_with fail
  go_ret
  exact ⟨rfl, Below.refl _ _⟩
set_option maxHeartbeats 400000 in
theorem rrl_long2 (w : World) (a a2 : Option Addr) (n c m c2 : Nat) (hn : n ≤ 1048576) (hm : 1048576 < m) (hx : m ≤ 9223372036854775807) :
    Calls Tryz.prog 6 #[.slice a n c, .slice a2 m c2] w fun e w' => e = .returned (.bool true) ∧ Below w.heap.size w w' := by
  go_enter Tryz.func6, Tryz.ntmps6
  go_wp2_with fail
  go_ret
  exact ⟨rfl, Below.refl _ _⟩
theorem law_rrun (w : World) (a a2 : Option Addr) (n c m c2 : Nat) (h : BytesAt w a n) (hn : n ≤ c) (hc : c ≤ 9223372036854775807) (hnil : a = none → n = 0) (hx2 : m ≤ 9223372036854775807) (hm : MaxCell w) :
    Calls Tryz.prog 6 #[.slice a n c, .slice a2 m c2] w fun e w' => e = .returned (.bool true) ∧ Below w.heap.size w w' := by
  by_cases hs : n ≤ 1048576
  · by_cases hs2 : m ≤ 1048576
    · exact rrl_short w a a2 n c m c2 hs hs2 hm (drawRename_any w a n c h hn hc hnil)
    · exact rrl_long2 w a a2 n c m c2 hs (by omega) hx2
  · exact rrl_long1 w a a2 n c m c2 (by omega) (by omega)
end Go.Proofs.YtfmmpahbjkiomaaGreatDoor
