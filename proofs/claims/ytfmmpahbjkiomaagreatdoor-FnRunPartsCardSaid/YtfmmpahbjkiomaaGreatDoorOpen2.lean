/- The model's l1Open: the procedures of a program, or none. Condition: a text of at most 2^30 bytes. -/
import Derived.Test.YtfmmpahbjkiomaaGreatDoorStof
import Derived.Test.YtfmmpahbjkiomaaGreatDoorNames
namespace Go.Proofs.YtfmmpahbjkiomaaGreatDoor
open Go.RowKit Gram

/-- a body as a program has it -/
def Good (p : Pr) : Prop := wfs p.2 = true ∧ nks p.2 = true ∧ (txts p.2).length ≤ 400 ∧ isLet p.1 = true
theorem procOf_good {l : List UInt8} {p : Pr} (h : procOf l = some p) : Good p := by
  match l, h with
  | n :: c :: r, h =>
    simp only [procOf] at h
    split at h
    case isTrue hc =>
      cases hb : bodyOf ⟨r.toArray⟩ with
      | none => rw [hb] at h; cases h
      | some b =>
        rw [hb] at h
        injection h with h
        subst h
        obtain ⟨h1, h2, h3, h4⟩ := bodyOf_some hb
        have h2' : r = txts b := h2
        exact ⟨h3, h4, by rw [← h2']; exact h1, hc.1⟩
    case isFalse => cases h
theorem procs_good (parts : List (List UInt8)) : ∀ (acc ps : List Pr), procsOf acc parts = some ps → (∀ p ∈ acc, Good p) → ∀ p ∈ ps, Good p := by
  induction parts with
  | nil => intro acc ps h ha; injection h with h; subst h; exact ha
  | cons q qs ih =>
    intro acc ps h ha
    rw [procsOf] at h
    cases hq : procOf q with
    | none => rw [hq] at h; cases h
    | some x =>
      rw [hq] at h
      dsimp only at h
      split at h
      · refine ih _ _ h ?_
        intro p hp
        rcases List.mem_append.1 hp with hp | hp
        · exact ha p hp
        · rw [List.mem_singleton.1 hp]; exact procOf_good hq
      · cases h
theorem pr_get {w : World} {B c : Nat} {e : TypeId} {a : Option Addr} {ps : List Pr} (h : w.ownsRow B e 2 (.slice a ps.length c) ps.length (prVs ps)) (k : Nat) (hk : k < ps.length) :
    ∃ g, a = some ⟨g, 0, none⟩ ∧ w.cell? ⟨g, k * 2, none⟩ = some (.int .u8 ps[k].1.toNat) ∧ w.cell? ⟨g, k * 2 + 1, none⟩ = some (.string (txtOf (txts ps[k].2))) := by
  have key : ∀ (ps : List Pr) (k : Nat) (hk : k < ps.length), (prVs ps)[k * 2]? = some (.int .u8 ps[k].1.toNat) ∧ (prVs ps)[k * 2 + 1]? = some (.string (txtOf (txts ps[k].2))) := by
    intro ps
    induction ps with
    | nil => intro k hk; simp at hk
    | cons p t ih =>
      intro k hk
      cases k with
      | zero => exact ⟨rfl, rfl⟩
      | succ k =>
        have := ih k (by simpa using hk)
        simp only [prVs, List.flatMap_cons, prV] at this ⊢
        rw [show (k + 1) * 2 = k * 2 + 2 by omega, show k * 2 + 2 + 1 = (k * 2 + 1) + 2 by omega]
        simpa using this
  rcases h.2 with ⟨h1, h2⟩ | ⟨g, cap, cur, h1, _, _⟩
  · omega
  · injection h1 with h1 h3 h4
    subst h1
    subst h4
    exact ⟨g, rfl, row_cell h _ _ (key ps k hk).1, row_cell h _ _ (key ps k hk).2⟩
theorem failed' {s : ByteArray} {w wr : World} (hN : progOf s = none) (h : Below w.heap.size w wr) : OpenTo s w (.returned (.tuple #[.slice (some ⟨wr.heap.size, 0, none⟩) 0 0, .bool false])) (wr.alloc (.cells #[] 75)) :=
  ⟨_, false, [], rfl, .inl ⟨rfl, hN⟩, row_empty w wr h, h.alloc h.size _⟩

theorem failed_at {s : ByteArray} {w wr : World} {g : Nat} (hN : progOf s = none) (h : Below w.heap.size w wr) (hg : wr.heap.size = g) : OpenTo s w (.returned (.tuple #[.slice (some ⟨g, 0, none⟩) 0 0, .bool false])) (wr.alloc (.cells #[] 75)) := by
  subst hg
  exact failed' hN h
mutual
theorem calls_stm (x : Stm) : x.calls.length ≤ x.txt.length := by
  match x with
  | .chg _ _ => simp [Stm.calls]
  | .prt => simp [Stm.calls]
  | .pro => simp [Stm.calls]
  | .call c => simp [Stm.calls, Stm.txt]
  | .cho a b =>
    have h1 := calls_le a
    have h2 := calls_le b
    simp [Stm.calls, Stm.txt]; omega
theorem calls_le (xs : List Stm) : (callsIn xs).length ≤ (txts xs).length := by
  match xs with
  | [] => simp [callsIn]
  | x :: xs =>
    have h1 := calls_stm x
    have h2 := calls_le xs
    simp [callsIn, txts]; omega
end
theorem prog_bad {s : ByteArray} {parts : List (List UInt8)} {ps : List Pr} {p : Pr} {c : UInt8} (hp : cuts s.data.toList = parts) (h : procsOf [] parts = some ps) (hm : p ∈ ps) (hc : c ∈ callsIn p.2) (hn : c ∉ namesOf ps) : progOf s = none := by
  unfold progOf
  split
  · rw [hp, h]
    have : ownCalls ps = false := by
      rw [ownCalls, List.all_eq_false]
      refine ⟨p, hm, ?_⟩
      simp only [Bool.not_eq_true, List.all_eq_false]
      exact ⟨c, hc, by simpa using hn⟩
    simp [this]
  · rfl

set_option maxHeartbeats 4000000 in
set_option maxRecDepth 100000 in
theorem open_prog (s : ByteArray) (w : World) (hs : s.size ≤ 1073741824) :
    Calls Tryz.prog 34 #[.string s] w (OpenTo s w) := by
  obtain ⟨i0, hi, hz0, hz1, hz2⟩ := info_parts info_pr
  have HCut := Lib.hid (fun w => cut_any s w hs)
  have hcl := cuts_le s.data.toList []
  rw [show s.data.toList.length = s.size from by simp] at hcl
  generalize hparts : cuts s.data.toList = parts at *
  rw [show cutsP [] s.data.toList = parts from hparts] at hcl
  have hpl : parts.length ≤ 1073741825 := by have := hcl.1; omega
  have HCl := Lib.hid hcl.2
  clear hcl
  have HPa := Lib.hid hparts
  clear hparts
  go_enter Tryz.func34, Tryz.ntmps34
  go_wp2_with fail
  refine (HCut.out _).mono ?_
  rintro e w1 ⟨v1, rfl, o1, b1⟩
  have hsz1 := b1.size
  have O1 := Lib.hid o1
  have B1 := Lib.hid b1
  clear b1
  obtain ⟨va, vn, vc, rfl⟩ := slice_form o1
  have hvn : vn = parts.length := by
    rcases o1.2 with ⟨h1, h2⟩ | ⟨g, cap, cur, h1, _⟩
    · injection h1 with _ h3; omega
    · injection h1 with _ h3
  subst hvn
  clear o1
  go_wp2_with fail
  go_loopw [4, 5, 7, 8, 9, 18] (fun v nm _ _ _ i wr => ∃ (k : Nat) (ps : List Pr), i = .int .i64 k ∧ k ≤ parts.length ∧ ps.length = k ∧ nm = .string (txtOf (namesOf ps)) ∧ wr.ownsRow w.heap.size 75 2 v ps.length (prVs ps) ∧ Hid (Below w.heap.size w wr) ∧ Hid (w1.heap.size ≤ wr.heap.size ∧ wr.ownsRow (w.heap.size + 1) 9 1 (.slice va parts.length vc) parts.length (partVs parts) ∧ ∀ j, v.ownBlock = some j → j = w.heap.size ∨ w1.heap.size ≤ j) ∧ Hid (procsOf [] parts = procsOf ps (parts.drop k))) (fun _ _ _ _ _ i _ => parts.length - (intOf i).toNat)
  case atStart =>
    refine ⟨0, [], by go_num, Nat.zero_le _, rfl, rfl, ?_, ?_, ⟨Nat.le_refl _, by rw [← alloc_size w (.cells #[] 75)]; exact O1.out, fun j hj => .inl (by simpa [Value.ownBlock] using hj.symm)⟩, rfl⟩
    · exact ownsRow_of (row_empty w w (Below.refl _ _)) (fun j hj => B1.out.block j ((row_empty w w (Below.refl _ _)).lt j hj).2)
    · exact ((Below.refl _ _).alloc (Nat.le_refl _) _).trans (B1.out.mono (Nat.le_of_lt (alloc_more w _)))
  case round =>
    obtain ⟨k, ps, rfl, hk, hpk, rfl, hown, hbw, hR, hP⟩ := hrel
    by_cases hlt : k < parts.length
    · obtain ⟨g, c, hvv, c1⟩ := part_get hR.out.2.1 k hlt
      injection hvv with hv1 hv2 hv3
      subst hv1
      subst hv3
      have hst := procsOf_step ps parts k hlt
      have HF := Lib.hid (fun h => prog_none HPa.out (by rw [hP.out, hst, h]) : procOf parts[k] = none → progOf s = none)
      have HFl := Lib.hid (fun x hx hb => prog_none HPa.out (by rw [hP.out, hst, hx]; exact if_neg (by rw [hb]; decide)) : ∀ x, procOf parts[k] = some x → lastBelow ps x.1 = false → progOf s = none)
      have HOk := Lib.hid (fun x hx hb => by rw [hP.out, hst, hx]; exact if_pos hb : ∀ x, procOf parts[k] = some x → lastBelow ps x.1 = true → procsOf [] parts = procsOf (ps ++ [x]) (parts.drop (k + 1)))
      clear hst
      generalize htt : txtOf parts[k] = t at *
      have HTT := Lib.hid htt
      clear htt
      have hpt : parts[k] = t.data.toList := by rw [← HTT.out]; rfl
      have hrest : t.extract (min 2 (t.size : Int)).toNat t.size = txtOf (t.data.toList.drop 2) := by
        rw [← rest_eq]; congr 1; omega
      have hts : t.size ≤ 1073741824 := by
        have := HCl.out _ (List.getElem_mem hlt)
        rw [hpt] at this; simp at this; omega
      have HSt := Lib.hid (fun w => spec_statements (t.extract (min 2 (t.size : Int)).toNat t.size) w (by rw [hrest, txtOf_size]; simp; omega))
      have HRest := Lib.hid hrest
      have HPt := Lib.hid hpt
      clear hrest hpt
      go_wp2_with fail
      refine (HSt.out _).mono ?_
      rintro e w2 ⟨v2, b, xs, rfl, hb, ho2, hb2⟩
      obtain ⟨a2, n2, c2, rfl⟩ := slice_form ho2
      clear ho2
      have HB2 := Lib.hid hb2
      have HBd := Lib.hid hb.out
      clear hb hb2
      have HLong := Lib.hid (fun h => by rw [HPt.out, procOf_long (by simpa using h)]; rfl : 2 ≤ t.size → procOf parts[k] = if isLet (sgn t 0) = true ∧ sgn t 1 = 58 then (bodyOf (txtOf (t.data.toList.drop 2))).map fun b => (sgn t 0, b) else none)
      have HW2 := Lib.hid (hbw.out.trans (HB2.out.mono hbw.out.size))
      generalize hnm : txtOf (namesOf ps) = nm at *
      have HNm := Lib.hid hnm
      clear hnm
      by_cases h2 : t.size < 2
      · have hd : decide ((t.size : Int) < 2) = true := by rw [decide_eq_true_iff]; omega
        go_wp2_with fail
        go_quiet (fail)
        go_wp2_with fail
        go_ret2
        exact failed (HF.out (by rw [HPt.out]; exact procOf_short (by simpa using h2))) HW2.out
      · have hd : decide ((t.size : Int) < 2) = false := by rw [decide_eq_false_iff_not]; omega
        have h0 : 0 < t.size := by omega
        have h1 : 1 < t.size := by omega
        have h1i : (1 : Int) < (t.size : Int) := by omega
        have h2i : (2 : Int) ≤ (t.size : Int) := by omega
        by_cases a0 : isLet t[0] = true
        · by_cases a1 : sgn t 1 = 58
          · have a1b : ((t[1].toNat : Int) != 58) = false := by rw [bne, show (58 : Int) = ((58 : UInt8).toNat : Int) from rfl, sgn_is t 1 h1 58, a1]; rfl
            cases b with
            | false =>
              go_wp2_with fail
              go_quiet ((go_at_call 36; exact Calls.quiet_of_same ((letter_any _ _).mono fun _ _ h => ⟨h.1, h.2.symm⟩)))
              go_wp2_with fail
              go_ret2
              exact failed (HF.out (by
                rw [HLong.out (by omega), ← HRest.out]
                rcases HBd.out with ⟨_, h, _⟩ | ⟨h, _⟩
                · rw [h]; split <;> rfl
                · cases h)) HW2.out
            | true =>
              have HO2 := Lib.hid (ownsRow_of (w' := w2) hown (fun j hj => HB2.out.block j (hown.lt j hj).2))
              have hnz : nm.size = k := by rw [← HNm.out, txtOf_size, ← hpk]; simp [namesOf]
              have e1 := str_sum nm (t.extract 0 1) (by simp; omega)
              have HNz := Lib.hid hnz
              have HPk := Lib.hid hpk
              have HX := Lib.hid (by
                rcases HBd.out with ⟨h, _⟩ | ⟨_, h⟩
                · cases h
                · rw [← HRest.out]; exact h : bodyOf (txtOf (t.data.toList.drop 2)) = some xs)
              have HPr := Lib.hid (by rw [HLong.out (by omega), if_pos ⟨by rw [← sgn_at t 0 h0]; exact a0, a1⟩, HX.out]; rfl : procOf parts[k] = some (sgn t 0, xs))
              have hpl2 : ps.length ≤ 1073741825 := by omega
              clear hpk hnz
              rcases Nat.eq_zero_or_pos ps.length with hk0 | hk0
              · have hel : nm.toList.isEmpty = true := text_none (by rw [HNz.out, ← HPk.out]; exact hk0)
                have HLb := Lib.hid (by rw [List.length_eq_zero_iff.1 hk0]; rfl : lastBelow ps (sgn t 0) = true)
                have HK0 := Lib.hid hk0
                clear hk0
                go_wp2_with fail
                go_quiet ((go_at_call 36; exact Calls.quiet_of_same ((letter_any _ _).mono fun _ _ h => ⟨h.1, h.2.symm⟩)))
                go_wp2_with fail
                go_region_law ((refine step_append_lies _ (by rfl) (.tmp 68) (.tmp 74) 70 (by rfl) w.heap.size 75 i0 _ 2 24 Tryz.underlying70 hi hz0 hz1 hz2 (by rfl) (by decide) _ ps.length (prVs ps) (by simp [Act.eval]) (World.ownsRow.alloc (w := w2.drewN (nq + 1)) HO2.out _) ⟨w2.heap.size, 0, none⟩ 1 1 [.int .u8 t[0].toNat, .string (t.extract 2 t.size)] (by simp [Act.eval]) (by rfl) (World.news_of_block (heap_alloc_new _ _)) (by simp [Value.oneCell']) (by decide) (by unfold maxLen; omega) (by omega) (by rw [alloc_size]; exact Nat.le_succ_of_le HW2.out.size) (w2.heap.size + 1) (by rw [alloc_size]; rfl) ?_; intro g' cap' w4 hown' hgrow hat hlt'))
                have HN4 := Lib.hid (And.intro hown' (And.intro hgrow (And.intro hat hlt')))
                clear hown' hgrow hat hlt'
                go_wp2_with fail
                go_roundw
                case rel =>
                  obtain ⟨hown', hgrow, hat, hlt'⟩ := HN4.out
                  have hW4 : Below w.heap.size w w4 := ((HW2.out.trans (⟨rfl, rfl, rfl, Nat.le_refl _, fun _ _ => rfl⟩ : Below w.heap.size w2 (w2.drewN (nq + 1)))).alloc (HW2.out.size) _).grown hgrow (by rw [alloc_size]; exact Nat.le_succ_of_le HW2.out.size) (fun j hj => (HO2.out.lt j hj).1)
                  have hz4 := hgrow.size
                  rw [alloc_size] at hz4
                  have hz2 : wr.heap.size ≤ w2.heap.size := HB2.out.size
                  have hz4' : w2.heap.size + 1 ≤ w4.heap.size := hz4
                  refine ⟨k + 1, ps ++ [(sgn t 0, xs)], by go_num, by omega, by simp; exact HPk.out, ?_, ?_, hW4, ⟨by have := hR.out.1; omega, ?_, ?_⟩, ?_⟩
                  · rw [← names_snoc ps t h0 xs, HNm.out]
                  · rw [← pr_snoc ps t h0 xs HX.out]; simpa using hown'
                  · refine ownsRow_of hR.out.2.1 (fun j hj => ?_)
                    obtain ⟨j1, j2⟩ := hR.out.2.1.lt j hj
                    have j3 := (O1.out.lt j hj).2
                    rw [hgrow.block j (by rw [alloc_size]; show j < w2.heap.size + 1; omega) (fun he => by have := hR.out.2.2 j he.symm; omega)]
                    rw [Lib.alloc_old (w2.drewN (nq + 1)) _ _ (show j < w2.heap.size by omega)]
                    exact HB2.out.block j j2
                  · intro j hj
                    have hjg : g' = j := by simpa [Value.ownBlock] using hj
                    subst hjg
                    rcases hat with h | h
                    · exact hR.out.2.2 _ h
                    · right; have := hR.out.1; omega
                  · exact HOk.out _ HPr.out HLb.out
                case measure => simp [intOf]; omega
              · obtain ⟨j, hj, hj1, hcmp⟩ := last_of ps t[0] nm hk0 HNm.out
                rw [sgn_at t 0 h0] at hcmp
                have hel : nm.toList.isEmpty = false := text_some (by omega)
                have hks : nm.size ≤ 1073741825 := by rw [HNz.out, ← HPk.out]; exact hpl2
                have hji : (j : Int) < (nm.size : Int) := by omega
                have hjw : IntKind.i64.wrap ((nm.size : Int) - 1) = (j : Int) := by
                  rw [show (nm.size : Int) - 1 = j by omega]
                  exact IntWalk.i64_in _ (by omega)
                have HCmp2 := Lib.hid (by rw [hcmp, sgn_at t 0 h0] : lastBelow ps (sgn t 0) = decide (nm[j].toNat < t[0].toNat))
                have HK0 := Lib.hid hk0
                have HJ1 := Lib.hid hj1
                clear hk0 hj1 hcmp
                by_cases hle : t[0].toNat ≤ nm[j].toNat
                · have hcb : decide (t[0].toNat ≤ nm[j].toNat) = true := by rw [decide_eq_true_iff]; omega
                  have HFf := Lib.hid (HFl.out _ HPr.out (by rw [HCmp2.out, decide_eq_false_iff_not]; omega))
                  clear hle
                  go_wp2_with fail
                  go_quiet ((go_at_call 36; exact Calls.quiet_of_same ((letter_any _ _).mono fun _ _ h => ⟨h.1, h.2.symm⟩)))
                  go_wp2_with fail
                  go_ret2
                  exact failed HFf.out HW2.out
                · have hcb : decide (t[0].toNat ≤ nm[j].toNat) = false := by rw [decide_eq_false_iff_not]; omega
                  have HLb := Lib.hid (by rw [HCmp2.out, decide_eq_true_iff]; omega : lastBelow ps (sgn t 0) = true)
                  clear hle
                  go_wp2_with fail
                  go_quiet ((go_at_call 36; exact Calls.quiet_of_same ((letter_any _ _).mono fun _ _ h => ⟨h.1, h.2.symm⟩)))
                  go_wp2_with fail
                  go_region_law ((refine step_append_lies _ (by rfl) (.tmp 68) (.tmp 74) 70 (by rfl) w.heap.size 75 i0 _ 2 24 Tryz.underlying70 hi hz0 hz1 hz2 (by rfl) (by decide) _ ps.length (prVs ps) (by simp [Act.eval]) (World.ownsRow.alloc (w := w2.drewN (nq + 1)) HO2.out _) ⟨w2.heap.size, 0, none⟩ 1 1 [.int .u8 t[0].toNat, .string (t.extract 2 t.size)] (by simp [Act.eval]) (by rfl) (World.news_of_block (heap_alloc_new _ _)) (by simp [Value.oneCell']) (by decide) (by unfold maxLen; omega) (by omega) (by rw [alloc_size]; exact Nat.le_succ_of_le HW2.out.size) (w2.heap.size + 1) (by rw [alloc_size]; rfl) ?_; intro g' cap' w4 hown' hgrow hat hlt'))
                  have HN4 := Lib.hid (And.intro hown' (And.intro hgrow (And.intro hat hlt')))
                  clear hown' hgrow hat hlt'
                  go_wp2_with fail
                  go_roundw
                  case rel =>
                    obtain ⟨hown', hgrow, hat, hlt'⟩ := HN4.out
                    have hW4 : Below w.heap.size w w4 := ((HW2.out.trans (⟨rfl, rfl, rfl, Nat.le_refl _, fun _ _ => rfl⟩ : Below w.heap.size w2 (w2.drewN (nq + 1)))).alloc (HW2.out.size) _).grown hgrow (by rw [alloc_size]; exact Nat.le_succ_of_le HW2.out.size) (fun j hj => (HO2.out.lt j hj).1)
                    have hz4 := hgrow.size
                    rw [alloc_size] at hz4
                    have hz2 : wr.heap.size ≤ w2.heap.size := HB2.out.size
                    have hz4' : w2.heap.size + 1 ≤ w4.heap.size := hz4
                    refine ⟨k + 1, ps ++ [(sgn t 0, xs)], by go_num, by omega, by simp; exact HPk.out, ?_, ?_, hW4, ⟨by have := hR.out.1; omega, ?_, ?_⟩, ?_⟩
                    · rw [← names_snoc ps t h0 xs, HNm.out]
                    · rw [← pr_snoc ps t h0 xs HX.out]; simpa using hown'
                    · refine ownsRow_of hR.out.2.1 (fun j hj => ?_)
                      obtain ⟨j1, j2⟩ := hR.out.2.1.lt j hj
                      have j3 := (O1.out.lt j hj).2
                      rw [hgrow.block j (by rw [alloc_size]; show j < w2.heap.size + 1; omega) (fun he => by have := hR.out.2.2 j he.symm; omega)]
                      rw [Lib.alloc_old (w2.drewN (nq + 1)) _ _ (show j < w2.heap.size by omega)]
                      exact HB2.out.block j j2
                    · intro j hj
                      have hjg : g' = j := by simpa [Value.ownBlock] using hj
                      subst hjg
                      rcases hat with h | h
                      · exact hR.out.2.2 _ h
                      · right; have := hR.out.1; omega
                    · exact HOk.out _ HPr.out HLb.out
                  case measure => simp [intOf]; omega
          · have a1b : ((t[1].toNat : Int) != 58) = true := by rw [bne, show (58 : Int) = ((58 : UInt8).toNat : Int) from rfl, sgn_is t 1 h1 58, beq_eq_false_iff_ne.2 a1]; rfl
            go_wp2_with fail
            go_quiet ((go_at_call 36; exact Calls.quiet_of_same ((letter_any _ _).mono fun _ _ h => ⟨h.1, h.2.symm⟩)))
            go_wp2_with fail
            go_ret2
            exact failed (HF.out (by rw [HLong.out (by omega), if_neg (fun h => a1 h.2)])) HW2.out
        · have a0b : isLet t[0] = false := by simpa using a0
          clear a0
          go_wp2_with fail
          go_quiet ((go_at_call 36; exact Calls.quiet_of_same ((letter_any _ _).mono fun _ _ h => ⟨h.1, h.2.symm⟩)))
          go_wp2_with fail
          go_ret2
          exact failed (HF.out (by rw [HLong.out (by omega), if_neg (fun h => by rw [sgn_at t 0 h0] at a0b; rw [a0b] at h; cases h.1)])) HW2.out
    · obtain ⟨w5, hw5⟩ : ∃ x, x = wr := ⟨_, rfl⟩
      subst hw5
      have hke : k = parts.length := by omega
      have HPs := Lib.hid (by rw [hP.out, hke, List.drop_of_length_le (Nat.le_refl _)]; rfl : procsOf [] parts = some ps)
      have HGood := Lib.hid (procs_good parts [] ps HPs.out (by simp))
      have HW := hbw
      have hpl2 : ps.length ≤ 1073741825 := by omega
      have hnm : (txtOf (namesOf ps)).size ≤ 1099511627776 := by rw [txtOf_size]; simp [namesOf]; omega
      have HNd := Lib.hid (txtOf_data (namesOf ps))
      obtain ⟨pa, pn, pc, hv⟩ := slice_form hown
      subst hv
      have hpn : pn = ps.length := by
        rcases hown.2 with ⟨h1, h2⟩ | ⟨g, cap, cur, h1, _⟩
        · injection h1 with _ h3; omega
        · injection h1 with _ h3
      subst hpn
      have HO := Lib.hid hown
      clear hown hR hP hbw hke hpk HCl
      generalize txtOf (namesOf ps) = nm at *
      go_wp2_with fail
      go_loopw [11, 12, 13, 79] (fun _ _ _ i w2 => ∃ (m : Nat), i = .int .i64 m ∧ m ≤ ps.length ∧ Hid (Below w5.heap.size w5 w2) ∧ Hid (∀ p ∈ ps.take m, ∀ c ∈ callsIn p.2, c ∈ namesOf ps)) (fun _ _ _ i _ => ps.length - (intOf i).toNat)
      case atStart => exact ⟨0, by go_num, Nat.zero_le _, Below.refl _ _, by show ∀ p ∈ _, _; simp⟩
      case round =>
        obtain ⟨m, rfl, hm, hb2, hA⟩ := hrel
        by_cases hlt2 : m < ps.length
        · obtain ⟨g, hg, cc1, cc2⟩ := pr_get HO.out m hlt2
          subst hg
          have hgl : g < w5.heap.size := World.block_lt_of_cell? w5 _ cc1
          have d1 : wr.cell? ⟨g, m * 2, none⟩ = some (.int .u8 ps[m].1.toNat) := by rw [hb2.out.cell (p := ⟨g, m * 2, none⟩) hgl]; exact cc1
          have d2 : wr.cell? ⟨g, m * 2 + 1, none⟩ = some (.string (txtOf (txts ps[m].2))) := by rw [hb2.out.cell (p := ⟨g, m * 2 + 1, none⟩) hgl]; exact cc2
          have hgood := HGood.out ps[m] (List.getElem_mem hlt2)
          have HGm := Lib.hid hgood
          have HNm := Lib.hid (fun w => names_any ps[m].2 (txtOf (txts ps[m].2)) w (by have := hgood.2.2.1; rw [txtOf_size]; omega) rfl hgood.1)
          have hcl : (callsIn ps[m].2).length ≤ 400 := Nat.le_trans (calls_le ps[m].2) hgood.2.2.1
          clear cc1 cc2 hgood
          have HCs := Lib.hid (show (txtOf (callsIn ps[m].2)).data.toList = callsIn ps[m].2 from rfl)
          have hcz : (txtOf (callsIn ps[m].2)).size ≤ 400 := hcl
          generalize hcn : txtOf (callsIn ps[m].2) = cn at *
          generalize hbt : txtOf (txts ps[m].2) = bt at *
          have HCn := Lib.hid hcn
          have HBt := Lib.hid hbt
          clear hcn hbt hcl
          have hbb : Below w5.heap.size w5 (wr.alloc (Obj.cells #[.int .u8 ps[m].1.toNat, .string bt] 75)) := hb2.out.alloc hb2.out.size _
          have HBb := Lib.hid hbb
          clear hbb
          go_wp2_with fail
          refine (HNm.out _).mono ?_
          rintro e w6 ⟨rfl, rfl⟩
          go_wp2_with fail
          go_loop [13, 88] (fun _ i => ∃ q : Nat, i = .int .i64 q ∧ q ≤ cn.size ∧ Hid (∀ c ∈ (callsIn ps[m].2).take q, c ∈ namesOf ps)) (fun _ i => cn.size - (intOf i).toNat)
          case atStart => exact ⟨0, by go_num, Nat.zero_le _, by show ∀ c ∈ _, _; simp⟩
          case round =>
            obtain ⟨q, rfl, hq, hQ⟩ := hrel
            by_cases hlt3 : q < cn.size
            · have hqc : q < (callsIn ps[m].2).length := by rw [← HCs.out]; simpa using hlt3
              have hcq : cn[q] = (callsIn ps[m].2)[q] := by
                have : cn.data.toList[q]'(by simpa using hlt3) = (callsIn ps[m].2)[q] := by simp only [HCs.out]
                rw [← this]; rfl
              have HHas := Lib.hid (fun w => has_letter nm cn[q] hnm w)
              have HCq := Lib.hid hcq
              clear hcq
              cases hin : nm.data.toList.contains cn[q] with
              | true =>
                have HIn := Lib.hid (by rw [HNd.out] at hin; rw [← HCq.out]; simpa using hin : (callsIn ps[m].2)[q] ∈ namesOf ps)
                rw [hin] at HHas
                clear hin
                go_wp2_with fail
                refine (HHas.out _).mono ?_
                rintro e w7 ⟨rfl, rfl⟩
                go_wp2_with fail
                go_round
                case rel =>
                  refine ⟨q + 1, by go_num, by omega, ?_⟩
                  show ∀ c ∈ _, _
                  intro c hc
                  rw [List.take_add_one, List.getElem?_eq_getElem hqc] at hc
                  rcases List.mem_append.1 hc with hc | hc
                  · exact hQ.out c hc
                  · simp at hc; rw [hc]; exact HIn.out
                case measure => simp [intOf]; omega
              | false =>
                have HNo := Lib.hid (prog_bad HPa.out HPs.out (List.getElem_mem hlt2) (List.getElem_mem hqc) (by rw [HNd.out] at hin; rw [← HCq.out]; simpa using hin))
                rw [hin] at HHas
                clear hin
                go_wp2_with fail
                refine (HHas.out _).mono ?_
                rintro e w7 ⟨rfl, rfl⟩
                go_wp2_with fail
                go_ret2
                exact failed_at HNo.out (HW.out.trans (HBb.out.mono HW.out.size)) (by rw [alloc_size])
            · have HAll := Lib.hid (by
                intro c hc
                have := hQ.out c
                rw [List.take_of_length_le (by rw [← HCs.out]; simp; omega)] at this
                exact this hc : ∀ c ∈ callsIn ps[m].2, c ∈ namesOf ps)
              clear hQ
              go_wp2_with fail
              go_roundw
              case rel =>
                refine ⟨m + 1, by go_num, by omega, HBb.out, ?_⟩
                show ∀ p ∈ _, _
                intro p hp
                rw [List.take_add_one, List.getElem?_eq_getElem hlt2] at hp
                rcases List.mem_append.1 hp with hp | hp
                · exact hA.out p hp
                · simp at hp; subst hp; exact HAll.out
              case measure => simp [intOf]; omega
        · have HOwn := Lib.hid (by
            have := hA.out
            rw [List.take_of_length_le (by omega)] at this
            rw [ownCalls, List.all_eq_true]
            intro p hp
            rw [List.all_eq_true]
            intro c hc
            simpa using this p hp c hc : ownCalls ps = true)
          have HO5 := Lib.hid (ownsRow_of (w' := wr) HO.out (fun j hj => hb2.out.block j (HO.out.lt j hj).2))
          by_cases h400 : s.size ≤ 400
          · go_wp2_with fail
            go_ret2
            refine ⟨_, _, ps, rfl, .inr ⟨(by rw [decide_eq_true_iff]; omega : decide ((s.size : Int) ≤ 400) = true), ?_⟩, HO5.out, HW.out.trans (hb2.out.mono HW.out.size)⟩
            rw [progOf, if_pos h400, HPa.out, HPs.out]
            simp [HOwn.out]
          · go_wp2_with fail
            go_ret2
            refine ⟨_, _, ps, rfl, .inl ⟨(by rw [decide_eq_false_iff_not]; omega : decide ((s.size : Int) ≤ 400) = false), ?_⟩, HO5.out, HW.out.trans (hb2.out.mono HW.out.size)⟩
            rw [progOf, if_neg h400]
end Go.Proofs.YtfmmpahbjkiomaaGreatDoor
