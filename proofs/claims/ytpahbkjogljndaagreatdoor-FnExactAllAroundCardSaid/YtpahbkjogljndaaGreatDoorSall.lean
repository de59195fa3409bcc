/- AllAround of the model, as the plain allZ says. Conditions as in Asps. -/
import Derived.Test.YtpahbkjogljndaaGreatDoorAll
namespace Go.Proofs.YtpahbkjogljndaaGreatDoor
open Go.RowKit Gram

theorem row_made (w : World) (B : Nat) (e : TypeId) (sz : Nat) (hb : B ≤ w.heap.size) : (w.alloc (.cells #[] e)).ownsRow B e sz (.slice (some ⟨w.heap.size, 0, none⟩) 0 0) 0 [] :=
  ⟨by simp, .inr ⟨w.heap.size, 0, #[], rfl, hb, heap_alloc_new _ _, Nat.le_refl _, Nat.zero_le _, by simp, by simp⟩⟩

set_option maxHeartbeats 4000000 in
set_option maxRecDepth 100000 in
theorem spec_all (w : World) (a : Option Addr) (n c : Nat) (zs : List As) (hA : Asps w a n zs) (hn : n + asT zs ≤ 1048576) :
    Calls Tryz.prog 7 #[.slice a n c] w (AllTo zs w) := by
  have HV := Lib.hid (fun w' (hb : Below w.heap.size w w') => specs_any w' a n c zs (hA.later hb) hn)
  obtain ⟨i0, hi, hz0, hz1, hz2⟩ := info_parts info_asp
  have HA := Lib.hid hA
  have HN := Lib.hid hn
  have hn1 : n ≤ 1048576 := by omega
  clear hA hn
  go_enter Tryz.func7, Tryz.ntmps7
  go_wp2_with fail
  have HO := Lib.hid (row_made w w.heap.size 34 3 (Nat.le_refl _))
  have hb2 := Lib.hid ((Below.refl w.heap.size w).alloc (Nat.le_refl _) (.cells #[] 34))
  go_loopw [4, 12] (fun v i wr => ∃ (k : Nat) (a' : Option Addr) (c' : Nat), k ≤ n ∧ i = .int .i64 k ∧ v = .slice a' k c' ∧ Hid (wr.ownsRow w.heap.size 34 3 (.slice a' k c') k ((asF (ardQ (zs.take k))).map Value.string) ∧ (zs.take k).all ardOk = true) ∧ Hid (Below w.heap.size w wr)) (fun _ i _ => n - (intOf i).toNat)
  case atStart => exact ⟨0, _, _, Nat.zero_le _, by go_num, rfl, ⟨HO.out, by simp⟩, hb2.out⟩
  case round =>
    obtain ⟨k, a', c', hk, rfl, rfl, hH, hW⟩ := hrel
    by_cases hlt : k < n
    · have hz : k < zs.length := by rw [HA.out.len]; exact hlt
      obtain ⟨g, off, rfl, c0, c1, c2⟩ := (HA.out.later hW.out).at_ k hz
      have HE := Lib.hid (fun w' => spec_ard zs[k].1 zs[k].2.1 zs[k].2.2 w' (by have h1 := asT_le zs k hz; have h2 := HN.out; unfold asZ at h1; omega) (by have h1 := asT_le zs k hz; have h2 := HN.out; unfold asZ at h1; omega))
      unfold aspV at HE
      have HT := Lib.hid (ardOk_take zs k hz)
      have HF := Lib.hid (ardOk_not zs k hz)
      have HQ := Lib.hid (fun q => ardQ_take zs k hz (q := q))
      cases hq : ardA zs[k].1 zs[k].2.1 zs[k].2.2 with
      | none =>
        have HX := Lib.hid (show allOk zs = false by unfold allOk; rw [HF.out (by unfold ardOk ardP; rw [hq]; rfl)]; simp)
        rw [hq] at HE
        unfold parV aspV at HE
        clear hq HT HF HQ
        generalize zs[k] = p at *
        obtain ⟨x, y, z⟩ := p
        have HB0 := Lib.hid (hW.out.alloc hW.out.size (Obj.cells #[.string x, .string y, .string z] 34))
        go_wp2_with fail
        refine (HE.out _).mono ?_
        rintro e w5 ⟨rfl, hb5⟩
        have HB5 := Lib.hid (HB0.out.trans (hb5.mono HB0.out.size))
        clear hb5
        go_wp2_with fail
        go_ret2
        have hs := HB5.out.size
        have hr := row_made (w5.alloc (Obj.cells #[.string ⟨#[]⟩, .string ⟨#[]⟩, .string ⟨#[]⟩] 34)) w.heap.size 34 3 (by rw [alloc_size']; omega)
        rw [alloc_size'] at hr
        exact allTo_none HX.out hr ((HB5.out.alloc hs _).alloc (by rw [alloc_size']; omega) _)
      | some q =>
        have hqq : ardP zs[k] = some q := hq
        have HX := Lib.hid (show (zs.take (k + 1)).all ardOk = true by rw [HT.out, hH.out.2]; unfold ardOk; rw [hqq]; rfl)
        have HY := Lib.hid (HQ.out q hqq)
        rw [hq] at HE
        unfold parV aspV at HE
        clear hq hqq HT HF HQ
        generalize zs[k] = p at *
        obtain ⟨x, y, z⟩ := p
        obtain ⟨X, Y, Z⟩ := q
        have HB0 := Lib.hid (hW.out.alloc hW.out.size (Obj.cells #[.string x, .string y, .string z] 34))
        simp only at HE c0 c1 c2
        go_wp2_with fail
        refine (HE.out _).mono ?_
        rintro e w5 ⟨rfl, hb5⟩
        have HB5 := Lib.hid (HB0.out.trans (hb5.mono HB0.out.size))
        have HR5 := Lib.hid (show w5.ownsRow w.heap.size 34 3 (.slice a' k c') k ((asF (ardQ (zs.take k))).map Value.string) from ownsRow_of (hH.out.1.alloc (Obj.cells #[.string x, .string y, .string z] 34)) (fun j hj => hb5.block j ((hH.out.1.alloc (Obj.cells #[.string x, .string y, .string z] 34)).lt j hj).2))
        clear hb5
        go_wp2_with (at_builtin; go_loud (refine wpList_append_lies _ rfl _ _ 24 rfl w.heap.size 34 i0 (aspV ⟨#[]⟩ ⟨#[]⟩ ⟨#[]⟩) 3 48 Tryz.underlying24 hi hz0 hz1 hz2 rfl (by decide) (.slice a' k c') k ((asF (ardQ (zs.take k))).map Value.string) rfl ((HR5.out.alloc _).alloc _) ⟨w5.heap.size + 1, 0, none⟩ 1 1 [.string X, .string Y, .string Z] rfl rfl news_two (by intro u hu; simp at hu; rcases hu with rfl | rfl | rfl <;> rfl) (by decide) (by unfold maxLen; omega) (by omega) (by have := HB5.out.size; rw [alloc_size', alloc_size']; omega) _ rfl ?_); intro g' cap' w6 hown' hgrow hat hlt')
        have HO6 := Lib.hid hown'
        have HB6 := Lib.hid (show Below w.heap.size w w6 from ((HB5.out.alloc HB5.out.size _).alloc (by have := HB5.out.size; rw [alloc_size']; omega) _).grown hgrow (by have := HB5.out.size; rw [alloc_size', alloc_size']; omega) (fun j hj => (HR5.out.lt j hj).1))
        clear hown' hgrow hat hlt'
        go_wp2_with fail
        exact ⟨⟨k + 1, _, _, by omega, by go_num, rfl, ⟨by rw [HY.out, asF_snoc, List.map_append]; exact HO6.out, HX.out⟩, HB6.out⟩, by simp [intOf]; omega⟩
    · have hkn : k = n := by omega
      subst hkn
      have h2 : zs.take k = zs := List.take_of_length_le (by rw [HA.out.len]; omega)
      have HX := Lib.hid (show zs.all ardOk = true by rw [← h2]; exact hH.out.2)
      have HO := Lib.hid (show wr.ownsRow w.heap.size 34 3 (.slice a' k c') k ((asF (ardQ zs)).map Value.string) by have h1 := hH.out.1; rw [h2] at h1; exact h1)
      have HL := Lib.hid (show (ardQ zs).length = k by rw [ardQ_len zs HX.out, HA.out.len])
      have HVV := Lib.hid (HV.out wr hW.out)
      clear h2 HV
      cases hp : aspsP zs with
      | false =>
        have HT := Lib.hid (show allOk zs = false by unfold allOk; rw [hp]; rfl)
        rw [hp] at HVV
        clear hp
        go_wp2_with fail
        refine HVV.out.mono ?_
        rintro e w1 ⟨rfl, hb⟩
        have HB := Lib.hid (hW.out.trans (hb.mono hW.out.size))
        clear hb
        go_wp2_with fail
        go_ret2
        exact allTo_none HT.out (row_made w1 w.heap.size 34 3 HB.out.size) (HB.out.alloc HB.out.size _)
      | true =>
        have HP := Lib.hid hp
        rw [hp] at HVV
        clear hp
        go_wp2_with fail
        refine HVV.out.mono ?_
        rintro e w1 ⟨rfl, hb⟩
        have HB := Lib.hid (hW.out.trans (hb.mono hW.out.size))
        have HO1 := Lib.hid (ownsRow_of (w' := w1) HO.out (fun j hj => hb.block j (HO.out.lt j hj).2))
        clear hb
        go_wp2_with fail
        go_ret2
        exact allTo_some (by unfold allOk; rw [HP.out, HX.out]; rfl) HL.out HO1.out HB.out
end Go.Proofs.YtpahbkjogljndaaGreatDoor
