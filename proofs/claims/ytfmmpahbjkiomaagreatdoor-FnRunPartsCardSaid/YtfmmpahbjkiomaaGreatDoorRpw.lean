/- The law FnRunParts answers true, whatever bytes it is given. Condition: the library's own number can be read. -/
import Derived.Test.YtfmmpahbjkiomaaGreatDoorWx
import Derived.Test.YtfmmpahbjkiomaaGreatDoorJx
import Derived.Test.YtfmmpahbjkiomaaGreatDoorUx
import Derived.Test.YtfmmpahbjkiomaaGreatDoorImpl
import Derived.Test.YtfmmpahbjkiomaaGreatDoorQx
namespace Go.Proofs.YtfmmpahbjkiomaaGreatDoor
open Go.RowKit Gram

theorem stms_some {s : ByteArray} {w w' : World} {e : Ending} {xs : List Stm} (h : StmsTo s w e w') (hb : bodyOf s = some xs) : ∃ a c, e = .returned (.tuple #[.slice a xs.length c, .bool true]) ∧
    w'.ownsRow w.heap.size 9 1 (.slice a xs.length c) xs.length (stmVs xs) ∧ Below w.heap.size w w' := by
  obtain ⟨v, b, ys, rfl, hd, ho, hbw⟩ := h
  rcases hd.out with ⟨_, h2, _⟩ | ⟨h1, h2⟩
  · rw [hb] at h2; cases h2
  · rw [hb] at h2
    injection h2 with h2
    subst h2
    subst h1
    obtain ⟨a, n, c, rfl⟩ := slice_form ho
    have hn : n = xs.length := by
      rcases ho.2 with ⟨h1, h2⟩ | ⟨g, cap, cur, h1, _⟩
      · injection h1 with _ h3; omega
      · injection h1 with _ h3
    subst hn
    exact ⟨a, c, rfl, ho, hbw⟩
theorem RT.small {s nm : ByteArray} {l : List UInt8} (h : RT s nm l) : (txtOf l).size ≤ 1099511627776 := by
  obtain ⟨re, _, rfl, _⟩ := h
  rw [txtOf_size, setText, upTo]
  refine Nat.le_trans (List.length_filter_le _ _) ?_
  simp
theorem run_prog {s nm : ByteArray} {v : Int} {r : Mst × Option Fin} (h : runP s nm v = some r) : ∃ ps p, progOf s = some ps ∧ lookP s nm = some p := by
  unfold runP at h
  cases hp : progOf s with
  | none => rw [hp] at h; cases h
  | some ps =>
    cases hl : lookP s nm with
    | none => rw [hp, hl] at h; cases h
    | some p => exact ⟨ps, p, rfl, rfl⟩
theorem end_word (f : Fin) : ((txtOf (Fin.word (some f))).toList == [100, 111, 110, 101]) = false := by
  rw [ByteArray.toList_eq]; cases f <;> rfl

set_option maxHeartbeats 8000000 in
set_option maxRecDepth 100000 in
theorem rpw_short (w : World) (a : Option Addr) (n c : Nat) (hs : n ≤ 1048576) (hm : MaxCell w)
    (hd : Calls Tryz.prog 14 #[.slice a n c] w fun e w' => (∃ (s t : ByteArray) (v : Int), e = .returned (.tuple #[.string s, .string t, .int .i64 v]) ∧ s.size ≤ 2000 ∧ t.size ≤ 2 ∧ -9223372036854775808 ≤ v ∧ v ≤ 9223372036854775807) ∧ Below w.heap.size w w') :
    Calls Tryz.prog 5 #[.slice a n c] w fun e w' => e = .returned (.bool true) ∧ Below w.heap.size w w' := by
  have HD := Lib.hid hd
  have HM := Lib.hid hm
  clear hd hm
  go_enter Tryz.func5, Tryz.ntmps5
  go_wp2_with fail
  refine HD.out.mono ?_
  rintro e w1 ⟨⟨s, nm, v, rfl, hz, ht, _, _⟩, hb1⟩
  have B1 := Lib.hid hb1
  have M1 := Lib.hid (HM.out.later hb1)
  have HI := Lib.hid (fun w hm => impl_run s nm v w (by omega) hm)
  have HS := Lib.hid (fun w => spec_run s nm v w (by omega))
  have hsm : (outP (runP s nm v)).2.1.length ≤ 500 := by
    cases h : runP s nm v with
    | none => simp [outP]
    | some r => exact (runP_small h).1
  unfold OutTo at HI HS
  unfold oV at HI HS
  clear hb1
  by_cases hdone : ∃ r, runP s nm v = some (r, none)
  · obtain ⟨r, hr⟩ := hdone
    obtain ⟨ps, p, hp, hl⟩ := run_prog hr
    obtain ⟨hnm, hlet⟩ := lookP_name hl
    have HRT := Lib.hid (fun l (h : RT s nm l) (hc : p.1 ∉ l) => parts_all hp hl hr h hc)
    rw [hr] at HI HS hsm
    have HBo := Lib.hid (fun w hm => impl_body s nm w (by omega) hm)
    rw [hl] at HBo
    have hgood := lookL_good hl
    have hbody := (bodyW_text hgood : bodyOf (txtOf (txts p.2)) = some p.2)
    have HSt := Lib.hid (fun w => (impl_statements (txtOf (txts p.2)) w (by rw [txtOf_size]; have := hgood.2.2.1; omega)).mono fun _ _ h => stms_some h hbody)
    have HGd := Lib.hid (show Good (p.1, p.2) from hgood)
    have hxl := txts_ge p.2
    have hx4 : p.2.length ≤ 400 := by have := hgood.2.2.1; omega
    have HRe := Lib.hid (fun w hm => impl_reach s nm w (by omega) hm)
    have HWi := Lib.hid (fun bt w hb hm => impl_with s nm bt w (by omega) hb hm)
    have HRn := Lib.hid (fun T k w (hT : ByteArray.size T ≤ 400) hm => impl_run T nm k w (by omega) hm)
    have nz : nm.size = 1 := by rw [hnm]; rfl
    have n0 : nm[0]'(by omega) = p.1 := by subst hnm; rfl
    have hbt : bodyT (some p) = txtOf (txts p.2) := rfl
    rw [hbt] at HBo
    obtain ⟨oe, hoe⟩ : ∃ e : ByteArray, e = txtOf (Fin.word none) := ⟨_, rfl⟩
    have e1 : (oe.toList == [100, 111, 110, 101]) = true := by rw [hoe, ByteArray.toList_eq]; rfl
    have HOE := Lib.hid hoe
    simp only [outP] at HI HS hsm
    rw [← hoe] at HI HS
    obtain ⟨ov, hov⟩ : ∃ x, x = r.val := ⟨_, rfl⟩
    obtain ⟨oz, hoz⟩ : ∃ x, x = r.out := ⟨_, rfl⟩
    obtain ⟨os, hos⟩ : ∃ x, x = r.steps := ⟨_, rfl⟩
    rw [← hov, ← hoz, ← hos] at HI HS
    rw [← hoz] at hsm
    have HV := Lib.hid (And.intro hov (And.intro hoz hos))
    clear hov hoz hos hoe hp hl hr hnm hgood hbody hxl hbt
    generalize hn1 : oz.length = n1 at *
    have HN1 := Lib.hid hn1
    clear hn1
    go_wp2_with fail
    refine (HI.out _ M1.out).mono ?_
    rintro e w2 ⟨⟨a1, c1, rfl, q1⟩, b2⟩
    have Q1 := Lib.hid q1
    have B2 := Lib.hid (B1.out.trans (b2.mono B1.out.size))
    have M2 := Lib.hid (M1.out.later b2)
    clear q1 b2
    go_wp2_with fail
    have hx1 : Below w2.heap.size w2 (w2.alloc (Obj.cells #[.int .i64 ov, .slice a1 n1 c1, .string oe, .int .i64 os] 37)) := (Below.refl _ _).alloc (Nat.le_refl _) _
    have P1 := Lib.hid (⟨heap_alloc_new w2 _⟩ : OAt (w2.alloc (Obj.cells #[.int .i64 ov, .slice a1 n1 c1, .string oe, .int .i64 os] 37)) w2.heap.size ov (.slice a1 n1 c1) oe os)
    have Q1b := Lib.hid (row_up Q1.out hx1)
    have BX := Lib.hid (B2.out.trans (hx1.mono B2.out.size))
    have MX := Lib.hid (M2.out.later hx1)
    clear hx1 Q1
    refine (HS.out _).mono ?_
    rintro e w3 ⟨⟨a2, c2, rfl, _⟩, b3⟩
    have P1b := Lib.hid (P1.out.later b3)
    have Q1c := Lib.hid (row_up Q1b.out b3)
    have B3 := Lib.hid (BX.out.trans (b3.mono BX.out.size))
    have M3 := Lib.hid (MX.out.later b3)
    clear b3 P1 Q1b BX MX
    have hx2 : Below w3.heap.size w3 (w3.alloc (Obj.cells #[.int .i64 ov, .slice a2 n1 c2, .string oe, .int .i64 os] 37)) := (Below.refl _ _).alloc (Nat.le_refl _) _
    have P1c := Lib.hid (P1b.out.later hx2)
    have Q1d := Lib.hid (row_up Q1c.out hx2)
    have BX2 := Lib.hid (B3.out.trans (hx2.mono B3.out.size))
    have MX2 := Lib.hid (M3.out.later hx2)
    clear hx2 P1b Q1c
    obtain ⟨s10, s11, s12, s13, _⟩ := P1c.out.read
    go_wp2_with fail
    refine (HBo.out _ MX2.out).mono ?_
    rintro e w4 ⟨rfl, b4⟩
    have P1d := Lib.hid (P1c.out.later b4)
    have Q1e := Lib.hid (row_up Q1d.out b4)
    have B4 := Lib.hid (BX2.out.trans (b4.mono BX2.out.size))
    have M4 := Lib.hid (MX2.out.later b4)
    clear b4 P1c Q1d BX2 MX2 s10 s11 s12 s13
    go_wp2_with fail
    refine (HSt.out _).mono ?_
    rintro e w5 ⟨la, lc, rfl, hlr, b5⟩
    have P1 := Lib.hid (P1d.out.later b5)
    have Q1 := Lib.hid (row_up Q1e.out b5)
    have B5 := Lib.hid (B4.out.trans (b5.mono B4.out.size))
    have M5 := Lib.hid (M4.out.later b5)
    have HLr := Lib.hid hlr
    clear b5 P1d Q1e hlr
    go_wp2_with fail
    rename_i K hK
    have HK := Lib.hid hK
    clear hK
    have M5d := Lib.hid (M5.out.later (show Below w5.heap.size w5 w5.drew from (Below.refl _ _).drew))
    have B5d := Lib.hid (show Below w5.heap.size w5 w5.drew from (Below.refl _ _).drew)
    refine (fun (hT : Hid (∀ (l : List UInt8) (bb : Bool) (w6 : World), RT s nm l → Hid (bb = l.contains p.1) → Hid (Below w5.heap.size w5 w6) → K ((?_ : List UInt8 → Bool → Act) l bb) w6)) => ?_) ?_
    rotate_left 1
    ·
      go_region_with ((first
        | (go_at_call 12
           refine (HRe.out _ M5d.out).mono ?_
           rintro e w6 ⟨⟨l, hl, rfl⟩, b6⟩
           have HLl := Lib.hid hl
           have B6 := Lib.hid (B5d.out.trans (b6.mono B5d.out.size))
           obtain ⟨bb, hbb⟩ : ∃ bb, bb = l.contains p.1 := ⟨_, rfl⟩
           have HBB := Lib.hid hbb
           have HWv := Lib.hid (fun w' => show Calls Tryz.prog 19 #[.string (txtOf l), .int .u8 p.1.toNat] w' fun e w'' => e = .returned (.bool bb) ∧ w' = w'' from by rw [hbb]; exact wvIn_any (txtOf l) p.1 hl.small w')
           clear hl b6 hbb)
        | (go_at_call 19
           refine (HWv.out _).mono ?_
           rintro e w7 ⟨rfl, rfl⟩)))
      all_goals exact hT.out l bb _ HLl.out HBB B6
    ·
      intro l bb w6 hl HBB HB6
      refine HK.out _ _ ?_
      have hrt := fun h => HRT.out l hl h
      have P6 := Lib.hid (P1.out.later HB6.out)
      have Q6 := Lib.hid (row_up Q1.out HB6.out)
      have BB6 := Lib.hid (B5.out.trans (HB6.out.mono B5.out.size))
      have M6 := Lib.hid (M5.out.later HB6.out)
      have HLr6 := Lib.hid (ownsRow_of (w' := w6) HLr.out (fun j hj => HB6.out.block j (HLr.out.lt j hj).2))
      clear HRT P1 Q1 HLr HK hl
      cases bb with
      | true =>
        clear hrt HBB
        go_wp2_with fail
        go_ret
        exact ⟨rfl, BB6.out⟩
      | false =>
        obtain ⟨St, z1, z2, z3, y1, y2, y3, hbd, hpt⟩ := hrt (fun h => by rw [← List.contains_iff_mem, ← HBB.out] at h; cases h)
        have HPt := Lib.hid hpt
        have HBd := Lib.hid hbd
        have HY := Lib.hid (And.intro y1 (And.intro y2 y3))
        have HZ := Lib.hid (And.intro z1 (And.intro z2 z3))
        clear hrt HBB hpt hbd z1 z2 z3 y1 y2 y3
        go_wp2_with fail
        have HO0 := Lib.hid (Irow.made w6 w6.heap.size (Nat.le_refl _))
        have HB0 := Lib.hid ((Below.refl w6.heap.size w6).alloc (Nat.le_refl _) (.cells #[] 3))
        generalize w6.alloc (.cells #[] 3) = w7 at HO0 HB0 ⊢
        go_loopw [14, 15, 16, 82] (fun at_ st out i wr => ∃ (k g cc : Nat), k ≤ p.2.length ∧ i = .int .i64 k ∧ at_ = .int .i64 (St k).val ∧ st = .int .i64 ((St k).steps : Int) ∧ out = .slice (some ⟨g, 0, none⟩) (St k).out.length cc ∧ Hid (Irow wr w6.heap.size g cc (St k).out) ∧ Hid (Below w6.heap.size w6 wr)) (fun _ _ _ i _ => p.2.length - (intOf i).toNat)
        case atStart =>
          refine ⟨0, w6.heap.size, 0, Nat.zero_le _, by go_num, by rw [HZ.out.1], by rw [HZ.out.2.2]; rfl, by rw [HZ.out.2.1]; rfl, ?_, HB0.out⟩
          show Irow _ _ _ _ _
          rw [HZ.out.2.1]; exact HO0.out
        case round =>
          obtain ⟨k, g, cc, hk, rfl, rfl, rfl, rfl, hO, hbr⟩ := hrel
          have hbk := HBd.out k hk
          by_cases hlt : k < p.2.length
          · have hbk1 := HBd.out (k + 1) hlt
            obtain ⟨T, r2, g1, g2, g3, g4, g5, g6⟩ := (HPt.out k hlt).part
            have hlr := ownsRow_of (w' := wr) HLr6.out (fun j hj => hbr.out.block j (HLr6.out.lt j hj).2)
            have hvk : (stmVs p.2)[k]? = some (.string (txtOf (txts [p.2[k]]))) := by
              rw [stmVs, List.getElem?_map, List.getElem?_eq_getElem hlt]
              show some (strV _) = _
              simp only [txts, List.append_nil]; rfl
            obtain ⟨gl, hgl, hc1⟩ : ∃ gl, la = some ⟨gl, 0, none⟩ ∧ wr.cell? ⟨gl, k, none⟩ = some (.string (txtOf (txts [p.2[k]]))) := by
              rcases hlr.2 with ⟨h1, h2⟩ | ⟨g', cap, cur, h1, _, _⟩
              · omega
              · have h4 := hlr
                injection h1 with h3 h5 h6
                subst h3; subst h6
                exact ⟨g', rfl, row_cell h4 k _ hvk⟩
            have hbs : (txtOf (txts [p.2[k]])).size ≤ 1073741824 := by
              have h1 := (one_body (c := p.1) HGd.out k hlt).2.2.1
              rw [txtOf_size]
              exact Nat.le_trans h1 (by omega)
            generalize txtOf (txts [p.2[k]]) = bt at *
            have HW1 := Lib.hid (fun w hm => HWi.out bt w hbs hm)
            rw [g1] at HW1
            have HR1 := Lib.hid (fun w hm => HRn.out T (St k).val w g2 hm)
            rw [g3] at HR1
            unfold OutTo oV at HR1
            simp only [outP] at HR1
            rw [← HOE.out] at HR1
            have Mr := Lib.hid (M6.out.later (hbr.out))
            have hwr : IntKind.i64.wrap (((St k).steps : Int) + (r2.steps : Int)) = ((St (k + 1)).steps : Int) := by rw [g6, IntWalk.i64_in _ (by omega)]; omega
            have hol : r2.out.length ≤ 500 := by
              have := congrArg List.length g5
              rw [List.length_append] at this
              omega
            have HG := Lib.hid (And.intro g4 (And.intro g5 g6))
            subst hgl
            clear hlr hvk g1 g2 g3 g4 g5 g6 hbs
            go_wp2_with fail
            refine (HW1.out _ Mr.out).mono ?_
            rintro e wa ⟨rfl, ba⟩
            have hOa := hO.out.keep (ba.block g hO.out.lt.2)
            have Oa := Lib.hid hOa
            have Ba := Lib.hid (hbr.out.trans (ba.mono hbr.out.size))
            have Ma := Lib.hid (Mr.out.later ba)
            clear ba hOa
            go_wp2_with fail
            refine (HR1.out _ Ma.out).mono ?_
            rintro e wb ⟨⟨a3, c3, rfl, q3⟩, bb3⟩
            have hx : Below wb.heap.size wb (wb.alloc (Obj.cells #[.int .i64 r2.val, .slice a3 r2.out.length c3, .string oe, .int .i64 r2.steps] 37)) := (Below.refl _ _).alloc (Nat.le_refl _) _
            have P3 := Lib.hid (⟨heap_alloc_new wb _⟩ : OAt (wb.alloc (Obj.cells #[.int .i64 r2.val, .slice a3 r2.out.length c3, .string oe, .int .i64 r2.steps] 37)) wb.heap.size r2.val (.slice a3 r2.out.length c3) oe r2.steps)
            have hOb := (Oa.out.keep (bb3.block g Oa.out.lt.2))
            have hOc := hOb.keep (w' := wb.alloc (Obj.cells #[.int .i64 r2.val, .slice a3 r2.out.length c3, .string oe, .int .i64 r2.steps] 37)) (Lib.alloc_old _ _ _ hOb.lt.2)
            have Bc := Lib.hid ((Ba.out.trans (bb3.mono Ba.out.size)).alloc (Ba.out.trans (bb3.mono Ba.out.size)).size (Obj.cells #[.int .i64 r2.val, .slice a3 r2.out.length c3, .string oe, .int .i64 r2.steps] 37))
            obtain ⟨g', c', wd, hrun, hIr, hgr, hat⟩ := more_ints _ w6.heap.size g cc (St k).out hOc a3 r2.out.length c3 r2.out (ints_of (row_up q3 hx)) (by omega) Bc.out.size
            have HRun := Lib.hid hrun
            have HIr := Lib.hid hIr
            have Bd := Lib.hid (Bc.out.grown hgr Bc.out.size (fun j hj => by injection hj with hj; subst hj; exact hOc.lt.1))
            clear hx hOb hOc hrun hIr hgr hat q3 bb3 Oa Ba Ma
            obtain ⟨s30, s31, s32, s33, _⟩ := P3.out.read
            go_wp2_with (at_builtin; refine Lib.wpList_append_run _ rfl _ _ _ _ rfl _ _ rfl rfl _ _ HRun.out ?_)
            go_roundw
            case rel =>
              refine ⟨k + 1, g', c', by omega, by go_num, by rw [← HG.out.1], rfl, by rw [HG.out.2.1, List.length_append], ?_, Bd.out⟩
              show Irow _ _ _ _ _
              rw [HG.out.2.1]; exact HIr.out
            case measure => simp [intOf]; omega
          · have hkl : k = p.2.length := by omega
            subst hkl
            have e2 : (St p.2.length).val = ov := by rw [HY.out.1, HV.out.1]
            have e3 : (St p.2.length).out = oz := by rw [HY.out.2.1, HV.out.2.1]
            have e4 : (St p.2.length).steps = os := by rw [HY.out.2.2, HV.out.2.2]
            have HOz := Lib.hid (show Irow wr w6.heap.size g cc oz from by rw [← e3]; exact hO.out)
            rw [e2, e3, e4, HN1.out]
            clear hO hbk e2 e3 e4 HY HZ HPt HBd
            have P7 := Lib.hid (P6.out.later hbr.out)
            have Q7 := Lib.hid (row_up Q6.out hbr.out)
            have B7 := Lib.hid (BB6.out.trans (hbr.out.mono BB6.out.size))
            obtain ⟨s10, s11, s12, s13, _⟩ := P7.out.read
            have hio := HOz.out.ints
            rw [HN1.out] at hio
            have HNm := Lib.hid (wvNum_any wr (some ⟨g, 0, none⟩) a1 n1 cc c1 oz hio (ints_of Q7.out) (by omega))
            clear hio
            go_wp2_with fail
            refine HNm.out.mono ?_
            rintro e w9 ⟨rfl, b9⟩
            have B9 := Lib.hid (B7.out.trans (b9.mono B7.out.size))
            clear b9
            go_wp2_with fail
            go_ret
            exact ⟨rfl, B9.out⟩
  · have hsome : ∀ r, runP s nm v = some r → ∃ f, r.2 = some f := fun r h => by
      obtain ⟨m, e⟩ := r
      cases e with
      | none => exact absurd ⟨m, h⟩ hdone
      | some f => exact ⟨f, rfl⟩
    have hend : (runP s nm v).isSome = true → ((outP (runP s nm v)).2.2.1.toList == [100, 111, 110, 101]) = false := by
      intro h
      obtain ⟨r, hr⟩ := Option.isSome_iff_exists.1 h
      obtain ⟨f, hf⟩ := hsome r hr
      rw [hr]
      show ((txtOf (Fin.word r.2)).toList == _) = false
      rw [hf]; exact end_word f
    clear hdone hsome
    generalize (outP (runP s nm v)).1 = ov at *
    generalize (outP (runP s nm v)).2.2.1 = oe at *
    generalize (outP (runP s nm v)).2.2.2 = os at *
    generalize (outP (runP s nm v)).2.1 = oz at *
    generalize oz.length = n1 at *
    generalize (runP s nm v).isSome = ok at *
    go_wp2_with fail
    refine (HI.out _ M1.out).mono ?_
    rintro e w2 ⟨⟨a1, c1, rfl, _⟩, b2⟩
    have B2 := Lib.hid (B1.out.trans (b2.mono B1.out.size))
    clear b2
    go_wp2_with fail
    have hx1 : Below w2.heap.size w2 (w2.alloc (Obj.cells #[.int .i64 ov, .slice a1 n1 c1, .string oe, .int .i64 os] 37)) := (Below.refl _ _).alloc (Nat.le_refl _) _
    have P1 := Lib.hid (⟨heap_alloc_new w2 _⟩ : OAt (w2.alloc (Obj.cells #[.int .i64 ov, .slice a1 n1 c1, .string oe, .int .i64 os] 37)) w2.heap.size ov (.slice a1 n1 c1) oe os)
    have BX := Lib.hid (B2.out.trans (hx1.mono B2.out.size))
    clear hx1
    refine (HS.out _).mono ?_
    rintro e w3 ⟨⟨a2, c2, rfl, _⟩, b3⟩
    have P1b := Lib.hid (P1.out.later b3)
    have B3 := Lib.hid (BX.out.trans (b3.mono BX.out.size))
    clear b3 P1
    have hx2 : Below w3.heap.size w3 (w3.alloc (Obj.cells #[.int .i64 ov, .slice a2 n1 c2, .string oe, .int .i64 os] 37)) := (Below.refl _ _).alloc (Nat.le_refl _) _
    have P1c := Lib.hid (P1b.out.later hx2)
    have B4 := Lib.hid (B3.out.trans (hx2.mono B3.out.size))
    clear hx2 P1b
    obtain ⟨s10, s11, s12, s13, _⟩ := P1c.out.read
    cases ok with
    | false =>
      go_wp2_with fail
      go_ret
      exact ⟨rfl, B4.out⟩
    | true =>
      have e1 := hend rfl
      go_wp2_with fail
      go_ret
      exact ⟨rfl, B4.out⟩

set_option maxHeartbeats 400000 in
theorem rpw_long (w : World) (a : Option Addr) (n c : Nat) (hn : 1048576 < n) (hx : n ≤ 9223372036854775807) :
    Calls Tryz.prog 5 #[.slice a n c] w fun e w' => e = .returned (.bool true) ∧ Below w.heap.size w w' := by
  go_enter Tryz.func5, Tryz.ntmps5
  go_wp2_with fail
  go_ret
  exact ⟨rfl, Below.refl _ _⟩
theorem law_parts (w : World) (a : Option Addr) (n c : Nat) (h : BytesAt w a n) (hn : n ≤ c) (hc : c ≤ 9223372036854775807) (hnil : a = none → n = 0) (hm : MaxCell w) :
    Calls Tryz.prog 5 #[.slice a n c] w fun e w' => e = .returned (.bool true) ∧ Below w.heap.size w w' := by
  by_cases hs : n ≤ 1048576
  · exact rpw_short w a n c hs hm (drawRun_any w a n c h hn hc hnil)
  · exact rpw_long w a n c (by omega) (by omega)
end Go.Proofs.YtfmmpahbjkiomaaGreatDoor
