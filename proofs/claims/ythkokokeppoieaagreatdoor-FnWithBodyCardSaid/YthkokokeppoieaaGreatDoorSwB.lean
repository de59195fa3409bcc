/- WithBody of the model, where the procedure is there. Condition: texts of at most 2^20 bytes. -/
import Derived.Test.YthkokokeppoieaaGreatDoorSwl
namespace Go.Proofs.YthkokokeppoieaaGreatDoor
open Go.RowKit Gram

set_option maxHeartbeats 40000000 in
set_option maxRecDepth 100000 in
theorem swith_put (s nm bt : ByteArray) (w : World) (hs : s.size ≤ 1048576) (hb : bt.size ≤ 1048576) (ps : List Pr) (t : UInt8) (xs : List Stm) (hp : progOf s = some ps) (hnm : nm = ⟨#[t]⟩) (ht : isLet t = true) (hbo : bodyOf bt = some xs) (r q : Nat) (hr : r = rank (namesOf ps) t) (hq : q = r + 1) (hcon : (namesOf ps).contains t = true) :
    Calls Tryz.prog 7 #[.string s, .string nm, .string bt] w fun e w' => e = .returned (validT (txtOf (joinP (ps.take r ++ [(t, xs)] ++ ps.drop q)))) ∧ Below w.heap.size w w' := by
  have HP := Lib.hid ((open_prog s w (by omega)).mono fun _ _ h => h.cases)
  rw [hp] at HP
  have HS := Lib.hid (fun w' => spec_statements bt w' (by omega))
  have hf := prog_facts hp
  have hasc : asc (namesOf ps) := procs_asc _ _ _ hf.2.2.2 (by simp [asc, namesOf])
  have hrk := rank_iff _ t hasc
  have hrl := rank_le (namesOf ps) t
  rw [← hr] at hrk hrl
  have hnl : (namesOf ps).length = ps.length := by simp [namesOf]
  have HL26 := Lib.hid (prog_len hasc hf.2.1)
  have HROW := Lib.hid (out_rows hf.2.1 hbo r q)
  have hsz : nm.size = 1 := by rw [hnm]; rfl
  have h0 : nm[0]'(by omega) = t := by subst hnm; rfl
  have HL := Lib.hid (fun w' => letter_is t true ht w')
  have HB := Lib.hid hbo
  have HRK := Lib.hid hrk
  have HHF := Lib.hid hf
  have HQK := Lib.hid hq
  have HCON := Lib.hid hcon
  have HKN0 := Lib.hid (show r < (namesOf ps).length from by obtain ⟨h, _⟩ := (rank_has _ t hasc).1 hcon; rw [hr]; exact h)
  clear hq hcon
  have HRr := Lib.hid hr
  clear hp hs hb hbo hnm hrk hf ht hr
  obtain ⟨i0, hi, hz0, hz1, hz2⟩ := info_parts info_pr
  go_enter Tryz.func7, Tryz.ntmps7
  go_wp2_with fail
  refine HP.out.mono ?_
  rintro e w2 ⟨a, n, c, ps', rfl, hb2, hn, hrow, heq⟩
  have heq := heq ps rfl
  subst heq
  have HB2 := Lib.hid hb2
  have HRow := Lib.hid hrow
  clear hb2 hrow
  go_wp2_with fail
  refine (HS.out _).mono ?_
  rintro e w3 ⟨v3, b3, xs3, rfl, hx, _, hb3⟩
  obtain rfl : b3 = true := by
    rcases hx.out with ⟨_, h, _⟩ | ⟨h, _⟩
    · rw [HB.out] at h; cases h
    · exact h
  have HB3 := Lib.hid (HB2.out.trans (hb3.mono HB2.out.size))
  have HRow3 := Lib.hid (ownsRow_of (w' := w3) HRow.out (fun j hj => hb3.block j (HRow.out.lt j hj).2))
  clear hb3 hx
  go_wp2_with fail
  refine (HL.out _).mono ?_
  rintro e w4 ⟨rfl, rfl⟩
  have hn401 : n ≤ 401 := by rw [← hn]; exact HHF.out.1
  have HN := Lib.hid hn
  rw [hnl, hn] at hrl
  have HASC := Lib.hid hasc
  clear hasc
  go_wp2_with fail
  go_loopw [12] (fun i wr => ∃ k : Nat, k ≤ r ∧ i = .int .i64 k ∧ Hid (Below w.heap.size w wr) ∧ Hid (wr.ownsRow w.heap.size 69 2 (.slice a n c) n (prVs ps'))) (fun i _ => r - (intOf i).toNat)
  case atStart => exact ⟨0, Nat.zero_le _, by go_num, HB3.out, HRow3.out⟩
  case round =>
    obtain ⟨k, hk, rfl, hW, hR⟩ := hrel
    by_cases hlt : k < r
    · have hkp : k < ps'.length := by rw [HN.out]; omega
      have hR' := hR.out
      rw [← HN.out] at hR'
      obtain ⟨g, rfl, d0, d1⟩ := pr_get hR' k hkp
      have hd : decide (ps'[k].1.toNat < t.toNat) = true := by
        rw [decide_eq_true_eq]
        have := (HRK.out k (by rw [hnl]; exact hkp)).2 hlt
        simpa [namesOf] using this
      have hkn : k < n := by omega
      have hd2 : decide ((k : Int) < (n : Int)) = true := by rw [decide_eq_true_eq]; omega
      clear hR' d1
      generalize ps'[k].1 = nk at *
      go_wp2_with fail
      go_quiet (fail)
      go_wp2_with fail
      exact ⟨⟨k + 1, by omega, by go_num, hW.out.trans ⟨rfl, rfl, rfl, Nat.le_refl _, fun _ _ => rfl⟩, ownsRow_of (w' := wr.drewN nq) hR.out (fun _ _ => rfl)⟩, by simp [intOf]; omega⟩
    · have hkr : k = r := by omega
      subst hkr
      by_cases hkn : k < n
      · have hkp : k < ps'.length := by rw [HN.out]; exact hkn
        have hR' := hR.out
        rw [← HN.out] at hR'
        obtain ⟨g, rfl, d0, d1⟩ := pr_get hR' k hkp
        have hd : decide (ps'[k].1.toNat < t.toNat) = false := by
          rw [decide_eq_false_iff_not]
          intro h
          have := (HRK.out k (by rw [hnl]; exact hkp)).1 (by simpa [namesOf] using h)
          omega
        have hd2 : decide ((k : Int) < (n : Int)) = true := by rw [decide_eq_true_eq]; omega
        have hnc : n ≤ c := by
          obtain ⟨cur, _, _, h, _⟩ := row_cur hR.out
          exact h
        have hs1 := slice_low g 0 n c k k rfl (by omega)
        rw [if_neg (by omega), Nat.zero_add] at hs1
        clear hR' d1
        go_wp2_with fail
        go_quiet (fail)
        go_wp2_with fail
        generalize hw5 : wr.drewN nq = w5
        have HR5 := Lib.hid (show w5.ownsRow w.heap.size 69 2 (.slice (some ⟨g, 0, none⟩) n c) n (prVs ps') by rw [← hw5]; exact ownsRow_of (w' := wr.drewN nq) hR.out (fun _ _ => rfl))
        have HW5 := Lib.hid (show Below w.heap.size w w5 by rw [← hw5]; exact hW.out.trans ⟨rfl, rfl, rfl, Nat.le_refl _, fun _ _ => rfl⟩)
        have d5 : w5.cell? ⟨g, k * 2, none⟩ = some (.int .u8 ps'[k].1.toNat) := by rw [← hw5]; exact d0
        clear hw5 d0 hd hd2 hs1 hW hR
        have hgt : decide ((0 : Int) < ((n - k : Nat) : Int)) = true := by rw [decide_eq_true_eq]; omega
        have heq : ((ps'[k].1.toNat : Int) == (t.toNat : Int)) = (ps'[k].1 == t) := toNat_beq _ _
        obtain ⟨o2, ho2⟩ : ∃ o2, o2 = k * 2 + (if c - k = 1 then 0 else 1 * 2) := ⟨_, rfl⟩
        have hs2 := slice_low g (k * 2) (n - k) (c - k) 1 1 rfl (by omega)
        rw [← ho2] at hs2
        have HO2 := Lib.hid ho2
        clear ho2
        have hmk : 0 < n - k := by omega
        have hval : (ps'[k].1 == t) = true := by
          have h := has_at HASC.out HRr.out (by rw [hnl]; exact hkp)
          rw [HCON.out] at h
          rw [h]; simp [namesOf]
        · rw [hval] at heq
          clear hval
          generalize ps'[k].1 = nk at *
          go_wp2_with fail
          go_quiet (fail)
          go_wp2_with fail
          generalize hw6 : w5.drewN nq = w6
          have HR6 := Lib.hid (show w6.ownsRow w.heap.size 69 2 (.slice (some ⟨g, 0, none⟩) n c) n (prVs ps') by rw [← hw6]; exact ownsRow_of (w' := w5.drewN nq) HR5.out (fun _ _ => rfl))
          have HW6 := Lib.hid (show Below w.heap.size w w6 by rw [← hw6]; exact HW5.out.trans ⟨rfl, rfl, rfl, Nat.le_refl _, fun _ _ => rfl⟩)
          have HMQ := Lib.hid (show n - k - 1 = n - q by have := HQK.out; omega)
          have HM := Lib.hid (show 0 < n - k - 1 → o2 = q * 2 by have := HQK.out; intro h; have h2 := HO2.out; rw [if_neg (by omega)] at h2; omega)
          have HQ2 := Lib.hid (show q ≤ k + 1 ∧ k ≤ q by have := HQK.out; omega)
          clear hw6 d5 hs2 heq hgt HO2
          generalize n - k - 1 = m at *
          generalize c - k - 1 = cc at *
          generalize o2 = o at *
          have hs3 := slice_high g n c k k rfl (by omega)
          have HGL := Lib.hid (show g < w6.heap.size from (HR6.out.lt g rfl).2)
          have hq3 : q ≤ k + 1 ∧ k ≤ q := HQ2.out
          by_cases hk0 : 0 < k
          · go_region_law ((first
              | (refine step_append_lies _ (by rfl) (.tmp 75) (.tmp 78) 61 (by rfl) w.heap.size 69 i0 _ 2 24 Tryz.underlying61 hi hz0 hz1 hz2 (by rfl) (by decide) (.slice (some ⟨w6.heap.size, 0, none⟩) 0 0) 0 [] (by first | (simp [Act.eval]; done) | (simp [Act.eval, Act.put]; done) | rfl) (row_e (H := w6.heap.size) (heap_alloc_new w6 _) HW6.out.size) ⟨g, 0, none⟩ k c (prVs (ps'.take k)) (by first | (simp [Act.eval]; done) | (simp [Act.eval, Act.put]; done) | rfl) (by rw [prVs_len, List.length_take, HN.out]; omega) (news_row HR6.out (by omega) (Lib.alloc_old _ _ _ HGL.out)) (ones_pr _) (by omega) (by unfold maxLen; omega) (by omega) (by have := HW6.out.size; simp; omega) _ (by rfl) ?_; intro g7 c7 w7 hown7 hgrow7 hat7 hlt7; have H7 := Lib.hid (row_zero hown7); have HL7 := Lib.hid hlt7; have HB7 := Lib.hid (Below.grown ((HW6.out.alloc HW6.out.size _).drew) hgrow7 (by have := HW6.out.size; simp; omega) (fun j hj => by simp [Value.ownBlock] at hj; have := HW6.out.size; omega)); have HX7 := Lib.hid ((hgrow7.block g (by have := HGL.out; simp; omega) (fun e => by simp [Value.ownBlock] at e; have := HGL.out; omega)).trans (Lib.alloc_old _ _ _ HGL.out)); have HA7 := Lib.hid (show w6.heap.size ≤ g7 by rcases hat7 with h | h <;> simp [Value.ownBlock] at h <;> omega); clear hown7 hgrow7 hat7 hlt7)
              | (refine step_append_lies _ (by rfl) (.tmp 75) (.tmp 78) 61 (by rfl) w.heap.size 69 i0 _ 2 24 Tryz.underlying61 hi hz0 hz1 hz2 (by rfl) (by decide) (.slice (some ⟨w6.heap.size, 0, none⟩) 0 0) 0 [] (by first | (simp [Act.eval]; done) | (simp [Act.eval, Act.put]; done) | rfl) (row_e (H := w6.heap.size) ((Lib.alloc_old _ _ _ (by simp)).trans (heap_alloc_new w6 _)) HW6.out.size) ⟨g, 0, none⟩ k c (prVs (ps'.take k)) (by first | (simp [Act.eval]; done) | (simp [Act.eval, Act.put]; done) | rfl) (by rw [prVs_len, List.length_take, HN.out]; omega) (news_row HR6.out (by omega) ((Lib.alloc_old _ _ _ (by have := HGL.out; simp; omega)).trans (Lib.alloc_old _ _ _ HGL.out))) (ones_pr _) (by omega) (by unfold maxLen; omega) (by omega) (by have := HW6.out.size; simp; omega) _ (by rfl) ?_; intro g7 c7 w7 hown7 hgrow7 hat7 hlt7; have H7 := Lib.hid (row_zero hown7); have HL7 := Lib.hid hlt7; have HB7 := Lib.hid (Below.grown (by first | exact ((HW6.out.alloc HW6.out.size _).alloc (by have := HW6.out.size; simp; omega) _).drew | exact ((HW6.out.alloc HW6.out.size _).drew.alloc (by have := HW6.out.size; simp; omega) _)) hgrow7 (by have := HW6.out.size; simp; omega) (fun j hj => by simp [Value.ownBlock] at hj; have := HW6.out.size; omega)); have HX7 := Lib.hid ((hgrow7.block g (by have := HGL.out; simp; omega) (fun e => by simp [Value.ownBlock] at e; have := HGL.out; omega)).trans ((Lib.alloc_old _ _ _ (by have := HGL.out; simp; omega)).trans (Lib.alloc_old _ _ _ HGL.out))); have HA7 := Lib.hid (show w6.heap.size ≤ g7 by rcases hat7 with h | h <;> simp [Value.ownBlock] at h <;> omega); have HN7 := Lib.hid ((hgrow7.block (w6.heap.size + 1) (by simp) (fun e => by simp [Value.ownBlock] at e)).trans (heap_two w6 _ #[.int .u8 t.toNat, .string bt])); clear hown7 hgrow7 hat7 hlt7)
              | (refine step_append_lies _ (by rfl) (.tmp 75) (.tmp 78) 61 (by rfl) w.heap.size 69 i0 _ 2 24 Tryz.underlying61 hi hz0 hz1 hz2 (by rfl) (by decide) (.slice (some ⟨w6.heap.size + 1, 0, none⟩) 0 0) 0 [] (by first | (simp [Act.eval]; done) | (simp [Act.eval, Act.put]; done) | rfl) (row_e (H := w6.heap.size + 1) (heap_two w6 _ _) (by have := HW6.out.size; omega)) ⟨g, 0, none⟩ k c (prVs (ps'.take k)) (by first | (simp [Act.eval]; done) | (simp [Act.eval, Act.put]; done) | rfl) (by rw [prVs_len, List.length_take, HN.out]; omega) (news_row HR6.out (by omega) ((Lib.alloc_old _ _ _ (by have := HGL.out; simp; omega)).trans (Lib.alloc_old _ _ _ HGL.out))) (ones_pr _) (by omega) (by unfold maxLen; omega) (by omega) (by have := HW6.out.size; simp; omega) _ (by rfl) ?_; intro g7 c7 w7 hown7 hgrow7 hat7 hlt7; have H7 := Lib.hid (row_zero hown7); have HL7 := Lib.hid hlt7; have HB7 := Lib.hid (Below.grown (by first | exact ((HW6.out.alloc HW6.out.size _).alloc (by have := HW6.out.size; simp; omega) _).drew | exact ((HW6.out.alloc HW6.out.size _).drew.alloc (by have := HW6.out.size; simp; omega) _)) hgrow7 (by have := HW6.out.size; simp; omega) (fun j hj => by simp [Value.ownBlock] at hj; have := HW6.out.size; omega)); have HX7 := Lib.hid ((hgrow7.block g (by have := HGL.out; simp; omega) (fun e => by simp [Value.ownBlock] at e; have := HGL.out; omega)).trans ((Lib.alloc_old _ _ _ (by have := HGL.out; simp; omega)).trans (Lib.alloc_old _ _ _ HGL.out))); have HA7 := Lib.hid (show w6.heap.size ≤ g7 by rcases hat7 with h | h <;> simp [Value.ownBlock] at h <;> omega); have HN7 := Lib.hid ((hgrow7.block w6.heap.size (by simp; omega) (fun e => by simp [Value.ownBlock] at e)).trans ((Lib.alloc_old _ _ _ (by simp)).trans (heap_alloc_new w6 (.cells #[.int .u8 t.toNat, .string bt] 69)))); clear hown7 hgrow7 hat7 hlt7)
              | (refine step_append_lies _ (by rfl) (.tmp 79) (.tmp 84) 61 (by rfl) w.heap.size 69 i0 _ 2 24 Tryz.underlying61 hi hz0 hz1 hz2 (by rfl) (by decide) (.slice (some ⟨g7, 0, none⟩) k c7) k (prVs (ps'.take k)) (by first | (simp [Act.eval]; done) | (simp [Act.eval, Act.put]; done) | rfl) (H7.out.alloc _) ⟨w7.heap.size, 0, none⟩ 1 1 [.int .u8 t.toNat, .string bt] (by first | (simp [Act.eval]; done) | (simp [Act.eval, Act.put]; done) | rfl) (by rfl) (World.news_of_block (heap_alloc_new _ _)) (by simp [Value.oneCell']) (by decide) (by unfold maxLen; omega) (by omega) (by have := HB7.out.size; first | exact this | (simp; omega)) _ (by rfl) ?_; intro g8 c8 w8 hown8 hgrow8 hat8 hlt8; have H8 := Lib.hid hown8; have HB8 := Lib.hid (Below.grown (HB7.out.alloc HB7.out.size _) hgrow8 (by have := HB7.out.size; first | exact this | (simp; omega)) (fun j hj => (H7.out.lt j hj).1)); have HX8 := Lib.hid ((hgrow8.block g (by have h1 := HGL.out; have h2 := HA7.out; have h3 := HL7.out; first | omega | (simp; omega)) (fun e => by simp [Value.ownBlock] at e; have h1 := HGL.out; have h2 := HA7.out; omega)).trans ((Lib.alloc_old _ _ _ (by have h1 := HGL.out; have h2 := HA7.out; have h3 := HL7.out; omega)).trans HX7.out)); clear hown8 hgrow8 hat8 hlt8)
              | (refine step_append_lies _ (by rfl) (.tmp 79) (.tmp 84) 61 (by rfl) w.heap.size 69 i0 _ 2 24 Tryz.underlying61 hi hz0 hz1 hz2 (by rfl) (by decide) (.slice (some ⟨g7, 0, none⟩) k c7) k (prVs (ps'.take k)) (by first | (simp [Act.eval]; done) | (simp [Act.eval, Act.put]; done) | rfl) H7.out ⟨w6.heap.size + 1, 0, none⟩ 1 1 [.int .u8 t.toNat, .string bt] (by first | (simp [Act.eval]; done) | (simp [Act.eval, Act.put]; done) | rfl) (by rfl) (World.news_of_block HN7.out) (by simp [Value.oneCell']) (by decide) (by unfold maxLen; omega) (by omega) (by have := HB7.out.size; first | exact this | (simp; omega)) _ (by rfl) ?_; intro g8 c8 w8 hown8 hgrow8 hat8 hlt8; have H8 := Lib.hid hown8; have HB8 := Lib.hid (Below.grown HB7.out hgrow8 (by have := HB7.out.size; first | exact this | (simp; omega)) (fun j hj => (H7.out.lt j hj).1)); have HX8 := Lib.hid ((hgrow8.block g (by have h1 := HGL.out; have h2 := HA7.out; have h3 := HL7.out; first | omega | (simp; omega)) (fun e => by simp [Value.ownBlock] at e; have h1 := HGL.out; have h2 := HA7.out; omega)).trans HX7.out); clear hown8 hgrow8 hat8 hlt8)
              | (refine step_append_lies _ (by rfl) (.tmp 79) (.tmp 84) 61 (by rfl) w.heap.size 69 i0 _ 2 24 Tryz.underlying61 hi hz0 hz1 hz2 (by rfl) (by decide) (.slice (some ⟨g7, 0, none⟩) k c7) k (prVs (ps'.take k)) (by first | (simp [Act.eval]; done) | (simp [Act.eval, Act.put]; done) | rfl) H7.out ⟨w6.heap.size, 0, none⟩ 1 1 [.int .u8 t.toNat, .string bt] (by first | (simp [Act.eval]; done) | (simp [Act.eval, Act.put]; done) | rfl) (by rfl) (World.news_of_block HN7.out) (by simp [Value.oneCell']) (by decide) (by unfold maxLen; omega) (by omega) (by have := HB7.out.size; first | exact this | (simp; omega)) _ (by rfl) ?_; intro g8 c8 w8 hown8 hgrow8 hat8 hlt8; have H8 := Lib.hid hown8; have HB8 := Lib.hid (Below.grown HB7.out hgrow8 (by have := HB7.out.size; first | exact this | (simp; omega)) (fun j hj => (H7.out.lt j hj).1)); have HX8 := Lib.hid ((hgrow8.block g (by have h1 := HGL.out; have h2 := HA7.out; have h3 := HL7.out; first | omega | (simp; omega)) (fun e => by simp [Value.ownBlock] at e; have h1 := HGL.out; have h2 := HA7.out; omega)).trans HX7.out); clear hown8 hgrow8 hat8 hlt8)))
            all_goals
              clear H7 HL7 HB7 HX7 HA7
              try clear HN7
              by_cases hm0 : 0 < m
              · generalize hvs : prVs (ps'.take k) ++ [.int .u8 t.toNat, .string bt] = vs8 at *
                go_wp2_with (at_builtin; go_loud (refine wpList_append_lies _ rfl _ _ 61 rfl w.heap.size 69 i0 _ 2 24 Tryz.underlying61 hi hz0 hz1 hz2 rfl (by decide) (.slice (some ⟨g8, 0, none⟩) (k + 1) c8) (k + 1) vs8 rfl H8.out ⟨g, o, none⟩ m cc (prVs (ps'.drop q)) rfl (by have := HMQ.out; rw [prVs_len, List.length_drop, HN.out]; omega) (by rw [HM.out hm0]; exact news_drop HR6.out HX8.out) (ones_pr _) hm0 (by have := HMQ.out; unfold maxLen; omega) (by have := HMQ.out; omega) HB8.out.size _ rfl ?_); intro g9 c9 w9 hown9 hgrow9 hat9 hlt9)
                have HB9 := Lib.hid (HB8.out.grown hgrow9 HB8.out.size (fun j hj => (H8.out.lt j hj).1))
                rw [← hvs, (HROW.out t).1] at hown9
                have hlen : ((outP ps' t xs k q).map rwOf).length = k + 1 + m := by have := HMQ.out; rw [out_len _ _ _ _ _ (by omega), HN.out]; omega
                have HR9 := Lib.hid hown9
                clear hown9
                have h26 := HL26.out
                rw [HN.out] at h26
                have HT9 := Lib.hid (fun w' (hb : Below w9.heap.size w9 w') => text_rows (w := w') (M := 400) (rs := (outP ps' t xs k q).map rwOf) (by rw [hlen]; exact ownsRow_of HR9.out (fun j hj => hb.block j (HR9.out.lt j hj).2)) hlen (by have := HMQ.out; omega) (HROW.out t).2 (by decide))
                rw [rowT_join] at HT9
                have hsz9 : (txtOf (joinP (outP ps' t xs k q))).size ≤ 1073741824 := by
                  rw [← rowT_join]
                  refine Nat.le_trans (rowT_le 400 _ (HROW.out t).2) ?_
                  rw [hlen]; have := HMQ.out; omega
                have HD9 := Lib.hid (told_any _ hsz9)
                change Hid (∀ w, Calls _ _ _ _ fun e w' => e = .returned (validT (txtOf (joinP (ps'.take k ++ [(t, xs)] ++ ps'.drop q)))) ∧ _) at HD9
                obtain ⟨V, hV⟩ : ∃ V b, validT (txtOf (joinP (ps'.take k ++ [(t, xs)] ++ ps'.drop q))) = .tuple #[.string V, .bool b] := by
                  unfold validT; split <;> exact ⟨_, _, rfl⟩
                obtain ⟨bb, hV⟩ := hV
                have HVV := Lib.hid hV
                rw [hV] at HD9
                clear hV hsz9 hlen h26 hvs
                generalize txtOf (joinP (outP ps' t xs k q)) = T9 at *
                go_wp2_with fail
                refine (HT9.out _ (by first | exact Below.refl _ _ | exact (Below.refl _ _).drew)).mono ?_
                rintro e w10 ⟨rfl, hb10⟩
                have HB10 := Lib.hid (HB9.out.trans (hb10.mono HB9.out.size))
                clear hb10
                go_wp2_with fail
                refine (HD9.out _).mono ?_
                rintro e w11 ⟨rfl, hb11⟩
                have HB11 := Lib.hid (HB10.out.trans (hb11.mono HB10.out.size))
                clear hb11
                go_wp2_with fail
                go_ret2
                exact ⟨by rw [HVV.out]; rfl, HB11.out⟩
              · generalize hvs : prVs (ps'.take k) ++ [.int .u8 t.toNat, .string bt] = vs8 at *
                have hle8 : k + 1 ≤ c8 := by
                  obtain ⟨cur, _, _, h, _⟩ := row_cur H8.out
                  exact h
                have h88 := fun w => app_none w g8 (k + 1) c8 hle8 g o cc m (by omega)
                have hown9 := H8.out
                have HB9 := Lib.hid HB8.out
                have hdr : prVs (ps'.drop q) = [] := by rw [List.drop_eq_nil_of_le (by have := HMQ.out; rw [HN.out]; omega)]; rfl
                have hrow := HROW.out t
                rw [hdr, List.append_nil] at hrow
                rw [← hvs, hrow.1] at hown9
                have hlen : ((outP ps' t xs k q).map rwOf).length = k + 1 := by have := HMQ.out; rw [out_len _ _ _ _ _ (by omega), HN.out]; omega
                have HR9 := Lib.hid hown9
                clear hown9
                have h26 := HL26.out
                rw [HN.out] at h26
                have HT9 := Lib.hid (fun w' (hb : Below w8.heap.size w8 w') => text_rows (w := w') (M := 400) (rs := (outP ps' t xs k q).map rwOf) (by rw [hlen]; exact ownsRow_of HR9.out (fun j hj => hb.block j (HR9.out.lt j hj).2)) hlen (by have := HMQ.out; omega) (HROW.out t).2 (by decide))
                rw [rowT_join] at HT9
                have hsz9 : (txtOf (joinP (outP ps' t xs k q))).size ≤ 1073741824 := by
                  rw [← rowT_join]
                  refine Nat.le_trans (rowT_le 400 _ (HROW.out t).2) ?_
                  rw [hlen]; have := HMQ.out; omega
                have HD9 := Lib.hid (told_any _ hsz9)
                change Hid (∀ w, Calls _ _ _ _ fun e w' => e = .returned (validT (txtOf (joinP (ps'.take k ++ [(t, xs)] ++ ps'.drop q)))) ∧ _) at HD9
                obtain ⟨V, hV⟩ : ∃ V b, validT (txtOf (joinP (ps'.take k ++ [(t, xs)] ++ ps'.drop q))) = .tuple #[.string V, .bool b] := by
                  unfold validT; split <;> exact ⟨_, _, rfl⟩
                obtain ⟨bb, hV⟩ := hV
                have HVV := Lib.hid hV
                rw [hV] at HD9
                clear hV hsz9 hlen h26 hvs
                generalize txtOf (joinP (outP ps' t xs k q)) = T9 at *
                go_wp2_with (at_builtin; refine Lib.wpList_append_run _ rfl _ _ 61 61 rfl _ _ rfl rfl _ _ (h88 _) ?_)
                go_wp2_with fail
                refine (HT9.out _ (by first | exact Below.refl _ _ | exact (Below.refl _ _).drew)).mono ?_
                rintro e w10 ⟨rfl, hb10⟩
                have HB10 := Lib.hid (HB9.out.trans (hb10.mono HB9.out.size))
                clear hb10
                go_wp2_with fail
                refine (HD9.out _).mono ?_
                rintro e w11 ⟨rfl, hb11⟩
                have HB11 := Lib.hid (HB10.out.trans (hb11.mono HB10.out.size))
                clear hb11
                go_wp2_with fail
                go_ret2
                exact ⟨by rw [HVV.out]; rfl, HB11.out⟩
          · have HK1 := Lib.hid (show k = 0 by omega)
            have h79 := fun (b : Nat) w => app_none w b 0 0 (by omega) g 0 c k HK1.out
            clear hk0
            go_region_law ((first
              | (refine step_append_run (by rfl) (.tmp 75) (.tmp 78) 61 (by rfl) (.slice (some ⟨w6.heap.size, 0, none⟩) 0 0) (.slice (some ⟨g, 0, none⟩) k c) (by first | (simp [Act.eval]; done) | (simp [Act.eval, Act.put]; done) | rfl) (by first | (simp [Act.eval]; done) | (simp [Act.eval, Act.put]; done) | rfl) _ _ (h79 _ _) ?_)
              | (refine step_append_run (by rfl) (.tmp 75) (.tmp 78) 61 (by rfl) (.slice (some ⟨w6.heap.size + 1, 0, none⟩) 0 0) (.slice (some ⟨g, 0, none⟩) k c) (by first | (simp [Act.eval]; done) | (simp [Act.eval, Act.put]; done) | rfl) (by first | (simp [Act.eval]; done) | (simp [Act.eval, Act.put]; done) | rfl) _ _ (h79 _ _) ?_)
              | (refine step_append_lies _ (by rfl) (.tmp 79) (.tmp 84) 61 (by rfl) w.heap.size 69 i0 _ 2 24 Tryz.underlying61 hi hz0 hz1 hz2 (by rfl) (by decide) (.slice (some ⟨w6.heap.size, 0, none⟩) 0 0) 0 [] (by first | (simp [Act.eval]; done) | (simp [Act.eval, Act.put]; done) | rfl) (row_e (H := w6.heap.size) ((Lib.alloc_old _ _ _ (by simp)).trans (heap_alloc_new w6 _)) HW6.out.size) ⟨w6.heap.size + 1, 0, none⟩ 1 1 [.int .u8 t.toNat, .string bt] (by first | (simp [Act.eval]; done) | (simp [Act.eval, Act.put]; done) | rfl) (by rfl) (World.news_of_block (heap_two w6 _ _)) (by simp [Value.oneCell']) (by decide) (by unfold maxLen; omega) (by omega) (by have := HW6.out.size; simp; omega) _ (by rfl) ?_; intro g8 c8 w8 hown8 hgrow8 hat8 hlt8; have H8 := Lib.hid (show w8.ownsRow w.heap.size 69 2 (.slice (some ⟨g8, 0, none⟩) 1 c8) 1 (prVs (ps'.take k) ++ [.int .u8 t.toNat, .string bt]) from by rw [HK1.out]; simpa [prVs] using hown8); have HB8 := Lib.hid (Below.grown (by first | exact ((HW6.out.alloc HW6.out.size _).alloc (by have := HW6.out.size; simp; omega) _).drew | exact ((HW6.out.alloc HW6.out.size _).drew.alloc (by have := HW6.out.size; simp; omega) _)) hgrow8 (by have := HW6.out.size; simp; omega) (fun j hj => by simp [Value.ownBlock] at hj; have := HW6.out.size; omega)); have HX8 := Lib.hid ((hgrow8.block g (by have := HGL.out; simp; omega) (fun e => by simp [Value.ownBlock] at e; have := HGL.out; omega)).trans ((Lib.alloc_old _ _ _ (by have := HGL.out; simp; omega)).trans (Lib.alloc_old _ _ _ HGL.out))); clear hown8 hgrow8 hat8 hlt8)
              | (refine step_append_lies _ (by rfl) (.tmp 79) (.tmp 84) 61 (by rfl) w.heap.size 69 i0 _ 2 24 Tryz.underlying61 hi hz0 hz1 hz2 (by rfl) (by decide) (.slice (some ⟨w6.heap.size + 1, 0, none⟩) 0 0) 0 [] (by first | (simp [Act.eval]; done) | (simp [Act.eval, Act.put]; done) | rfl) (row_e (H := w6.heap.size + 1) (heap_two w6 _ _) (by have := HW6.out.size; omega)) ⟨w6.heap.size, 0, none⟩ 1 1 [.int .u8 t.toNat, .string bt] (by first | (simp [Act.eval]; done) | (simp [Act.eval, Act.put]; done) | rfl) (by rfl) (World.news_of_block ((Lib.alloc_old _ _ _ (by simp)).trans (heap_alloc_new w6 _))) (by simp [Value.oneCell']) (by decide) (by unfold maxLen; omega) (by omega) (by have := HW6.out.size; simp; omega) _ (by rfl) ?_; intro g8 c8 w8 hown8 hgrow8 hat8 hlt8; have H8 := Lib.hid (show w8.ownsRow w.heap.size 69 2 (.slice (some ⟨g8, 0, none⟩) 1 c8) 1 (prVs (ps'.take k) ++ [.int .u8 t.toNat, .string bt]) from by rw [HK1.out]; simpa [prVs] using hown8); have HB8 := Lib.hid (Below.grown (by first | exact ((HW6.out.alloc HW6.out.size _).alloc (by have := HW6.out.size; simp; omega) _).drew | exact ((HW6.out.alloc HW6.out.size _).drew.alloc (by have := HW6.out.size; simp; omega) _)) hgrow8 (by have := HW6.out.size; simp; omega) (fun j hj => by simp [Value.ownBlock] at hj; have := HW6.out.size; omega)); have HX8 := Lib.hid ((hgrow8.block g (by have := HGL.out; simp; omega) (fun e => by simp [Value.ownBlock] at e; have := HGL.out; omega)).trans ((Lib.alloc_old _ _ _ (by have := HGL.out; simp; omega)).trans (Lib.alloc_old _ _ _ HGL.out))); clear hown8 hgrow8 hat8 hlt8)))
            all_goals
              by_cases hm0 : 0 < m
              · generalize hvs : prVs (ps'.take k) ++ [.int .u8 t.toNat, .string bt] = vs8 at *
                go_wp2_with (at_builtin; go_loud (refine wpList_append_lies _ rfl _ _ 61 rfl w.heap.size 69 i0 _ 2 24 Tryz.underlying61 hi hz0 hz1 hz2 rfl (by decide) (.slice (some ⟨g8, 0, none⟩) (1) c8) (1) vs8 rfl H8.out ⟨g, o, none⟩ m cc (prVs (ps'.drop q)) rfl (by have := HMQ.out; have := HK1.out; rw [prVs_len, List.length_drop, HN.out]; omega) (by rw [HM.out hm0]; exact news_drop HR6.out HX8.out) (ones_pr _) hm0 (by have := HMQ.out; have := HK1.out; unfold maxLen; omega) (by have := HMQ.out; have := HK1.out; omega) HB8.out.size _ rfl ?_); intro g9 c9 w9 hown9 hgrow9 hat9 hlt9)
                have HB9 := Lib.hid (HB8.out.grown hgrow9 HB8.out.size (fun j hj => (H8.out.lt j hj).1))
                rw [← hvs, (HROW.out t).1] at hown9
                have hlen : ((outP ps' t xs k q).map rwOf).length = 1 + m := by have := HMQ.out; have := HK1.out; rw [out_len _ _ _ _ _ (by omega), HN.out]; omega
                have HR9 := Lib.hid hown9
                clear hown9
                have h26 := HL26.out
                rw [HN.out] at h26
                have HT9 := Lib.hid (fun w' (hb : Below w9.heap.size w9 w') => text_rows (w := w') (M := 400) (rs := (outP ps' t xs k q).map rwOf) (by rw [hlen]; exact ownsRow_of HR9.out (fun j hj => hb.block j (HR9.out.lt j hj).2)) hlen (by have := HMQ.out; have := HK1.out; omega) (HROW.out t).2 (by decide))
                rw [rowT_join] at HT9
                have hsz9 : (txtOf (joinP (outP ps' t xs k q))).size ≤ 1073741824 := by
                  rw [← rowT_join]
                  refine Nat.le_trans (rowT_le 400 _ (HROW.out t).2) ?_
                  rw [hlen]; have := HMQ.out; have := HK1.out; omega
                have HD9 := Lib.hid (told_any _ hsz9)
                change Hid (∀ w, Calls _ _ _ _ fun e w' => e = .returned (validT (txtOf (joinP (ps'.take k ++ [(t, xs)] ++ ps'.drop q)))) ∧ _) at HD9
                obtain ⟨V, hV⟩ : ∃ V b, validT (txtOf (joinP (ps'.take k ++ [(t, xs)] ++ ps'.drop q))) = .tuple #[.string V, .bool b] := by
                  unfold validT; split <;> exact ⟨_, _, rfl⟩
                obtain ⟨bb, hV⟩ := hV
                have HVV := Lib.hid hV
                rw [hV] at HD9
                clear hV hsz9 hlen h26 hvs
                generalize txtOf (joinP (outP ps' t xs k q)) = T9 at *
                go_wp2_with fail
                refine (HT9.out _ (by first | exact Below.refl _ _ | exact (Below.refl _ _).drew)).mono ?_
                rintro e w10 ⟨rfl, hb10⟩
                have HB10 := Lib.hid (HB9.out.trans (hb10.mono HB9.out.size))
                clear hb10
                go_wp2_with fail
                refine (HD9.out _).mono ?_
                rintro e w11 ⟨rfl, hb11⟩
                have HB11 := Lib.hid (HB10.out.trans (hb11.mono HB10.out.size))
                clear hb11
                go_wp2_with fail
                go_ret2
                exact ⟨by rw [HVV.out]; rfl, HB11.out⟩
              · generalize hvs : prVs (ps'.take k) ++ [.int .u8 t.toNat, .string bt] = vs8 at *
                have hle8 : 1 ≤ c8 := by
                  obtain ⟨cur, _, _, h, _⟩ := row_cur H8.out
                  exact h
                have h88 := fun w => app_none w g8 (1) c8 hle8 g o cc m (by omega)
                have hown9 := H8.out
                have HB9 := Lib.hid HB8.out
                have hdr : prVs (ps'.drop q) = [] := by rw [List.drop_eq_nil_of_le (by have := HMQ.out; have := HK1.out; rw [HN.out]; omega)]; rfl
                have hrow := HROW.out t
                rw [hdr, List.append_nil] at hrow
                rw [← hvs, hrow.1] at hown9
                have hlen : ((outP ps' t xs k q).map rwOf).length = 1 := by have := HMQ.out; have := HK1.out; rw [out_len _ _ _ _ _ (by omega), HN.out]; omega
                have HR9 := Lib.hid hown9
                clear hown9
                have h26 := HL26.out
                rw [HN.out] at h26
                have HT9 := Lib.hid (fun w' (hb : Below w8.heap.size w8 w') => text_rows (w := w') (M := 400) (rs := (outP ps' t xs k q).map rwOf) (by rw [hlen]; exact ownsRow_of HR9.out (fun j hj => hb.block j (HR9.out.lt j hj).2)) hlen (by have := HMQ.out; have := HK1.out; omega) (HROW.out t).2 (by decide))
                rw [rowT_join] at HT9
                have hsz9 : (txtOf (joinP (outP ps' t xs k q))).size ≤ 1073741824 := by
                  rw [← rowT_join]
                  refine Nat.le_trans (rowT_le 400 _ (HROW.out t).2) ?_
                  rw [hlen]; have := HMQ.out; have := HK1.out; omega
                have HD9 := Lib.hid (told_any _ hsz9)
                change Hid (∀ w, Calls _ _ _ _ fun e w' => e = .returned (validT (txtOf (joinP (ps'.take k ++ [(t, xs)] ++ ps'.drop q)))) ∧ _) at HD9
                obtain ⟨V, hV⟩ : ∃ V b, validT (txtOf (joinP (ps'.take k ++ [(t, xs)] ++ ps'.drop q))) = .tuple #[.string V, .bool b] := by
                  unfold validT; split <;> exact ⟨_, _, rfl⟩
                obtain ⟨bb, hV⟩ := hV
                have HVV := Lib.hid hV
                rw [hV] at HD9
                clear hV hsz9 hlen h26 hvs
                generalize txtOf (joinP (outP ps' t xs k q)) = T9 at *
                go_wp2_with (at_builtin; refine Lib.wpList_append_run _ rfl _ _ 61 61 rfl _ _ rfl rfl _ _ (h88 _) ?_)
                go_wp2_with fail
                refine (HT9.out _ (by first | exact Below.refl _ _ | exact (Below.refl _ _).drew)).mono ?_
                rintro e w10 ⟨rfl, hb10⟩
                have HB10 := Lib.hid (HB9.out.trans (hb10.mono HB9.out.size))
                clear hb10
                go_wp2_with fail
                refine (HD9.out _).mono ?_
                rintro e w11 ⟨rfl, hb11⟩
                have HB11 := Lib.hid (HB10.out.trans (hb11.mono HB10.out.size))
                clear hb11
                go_wp2_with fail
                go_ret2
                exact ⟨by rw [HVV.out]; rfl, HB11.out⟩
      · exact absurd (show k < n from by have h := HKN0.out; rw [hnl, HN.out] at h; exact h) hkn
end Go.Proofs.YthkokokeppoieaaGreatDoor
