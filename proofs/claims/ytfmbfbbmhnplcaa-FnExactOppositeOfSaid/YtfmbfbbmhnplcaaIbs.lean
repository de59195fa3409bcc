/- fromInside with inBothWays: a cut in both ways; OppositeOf of the program. Condition: cuts of at most 2^20 bytes. -/
import Derived.Test.YtfmbfbbmhnplcaaIbw
import Derived.Test.YtfmbfbbmhnplcaaCval
namespace Go.Proofs.Ytfmbfbbmhnplcaa
open Go.RowKit Gram

theorem enters_bw (args : Array Value) (w : World) : (callFunc 19 args).run Try.prog w = .ok (.enter 19 args) w :=
  enters_of Try.func19 (by kernel_rfl) rfl args w
theorem info_bw : (Try.prog.info? 40).map (fun i => (i.zero, i.size, i.bytes)) = some (some (.agg #[.nilIface, .nilIface]), 2, 32) := by kernel_rfl

/-- what fromInside makes of a cut with inBothWays -/
def SaidIbs (n : Nat) : Prop := ∀ (x : Ct) (w : World), x.txt.length ≤ n → x.wf = true → x.txt.length ≤ 1048576 →
  Calls Try.prog 18 #[x.val, .func (.func 19) #[] #[]] w fun e w' => e = .returned (bwV x) ∧ Below w.heap.size w w'

set_option maxHeartbeats 2000000 in
set_option maxRecDepth 100000 in
theorem ibs_step (n : Nat) (h : ∀ m, m < n → SaidIbs m) : SaidIbs n := by
  intro x w hx hw hl
  obtain ⟨i0, hi, hz0, hz1, hz2⟩ := info_parts info_bw
  have H := Lib.hid h
  have HC := Lib.hid (fun (w : World) (v : Value) hr => bw_all x hw w 0 v hr)
  have HP := Lib.hid (parts_all x)
  have hm := meth_parts x
  have he := enters_parts x
  have hec := enters_bw
  have hkl := kids_len x
  have HK := Lib.hid (fun y hy => And.intro (kids_short x y hy) (kids_wf x y hw hy))
  clear h
  generalize hks : kids x = ks at *
  unfold Ct.val
  unfold Ct.val at HC
  have HKS := Lib.hid hks
  clear hks
  unfold PartsTo at HP
  rw [HKS.out] at HP
  have HX := Lib.hid (And.intro hx hl)
  clear hx HKS hl hw
  generalize partsFn x = fx at *
  generalize x.arg = ax at *
  have H0 := Lib.hid (bw_start w)
  go_enter Try.func18, Try.ntmps18
  go_wp2_with fail
  refine (HP.out _).mono ?_
  rintro e w3 ⟨ad, ln, rfl, hln, hkid, hb3⟩
  have HKid := Lib.hid hkid
  have H3 := Lib.hid (⟨H0.out.1.trans (hb3.mono H0.out.1.size), H0.out.2.later hb3⟩ : Below w.heap.size w w3 ∧ BAt w3 w.heap.size .nilIface .nilIface)
  clear hb3 hkid
  have hln2 : ln ≤ 2 := by omega
  have HLn := Lib.hid hln
  clear hln
  go_wp2_with fail
  go_loopw [5, 11] (fun v i wr => ∃ k : Nat, k ≤ ln ∧ i = .int .i64 k ∧ Hid (wr.ownsRow w3.heap.size 40 2 v k (bwC (ks.take k))) ∧ Hid (Below w3.heap.size w3 wr)) (fun _ i _ => ln - (intOf i).toNat)
  case atStart => exact ⟨0, Nat.zero_le _, by go_num, World.ownsRow_nil _ _ _ _, Below.refl _ _⟩
  case round =>
    obtain ⟨k, hk, rfl, hO, hb⟩ := hrel
    by_cases hlt : k < ln
    · have hk2 : k < ks.length := by rw [← HLn.out]; exact hlt
      obtain ⟨g, rfl, hg1, hg2, hcell⟩ := HKid.out k hk2
      have q1 : wr.cell? ⟨g, k, none⟩ = some (ks[k].val) := by
        rw [hb.out.cell (p := ⟨g, k, none⟩) hg2]; exact hcell
      have hkk := HK.out _ (List.getElem_mem hk2)
      have HR := Lib.hid (H.out ks[k].txt.length (by have := HX.out; omega) ks[k] wr (Nat.le_refl _) hkk.2 (by have := HX.out; omega))
      have HN := Lib.hid (show bwC (ks.take (k + 1)) = bwC (ks.take k) ++ bwC [ks[k]] by
        rw [List.take_succ_eq_append_getElem hk2, bwC, List.flatMap_append]; rfl)
      obtain ⟨va, vc, rfl⟩ := row_form hO.out
      clear hcell hg1 hg2 hkk
      unfold Ct.val at q1 HR
      generalize ks[k] = y at *
      generalize y.arg = ay at *
      unfold bwV Ct.val at HR
      unfold bwC at HN
      simp only [List.flatMap_cons, List.flatMap_nil, List.append_nil] at HN
      change Hid (bwC _ = bwC _ ++ _) at HN
      unfold Ct.val at HN
      generalize (nnf false y).ty = t0 at *
      generalize (nnf false y).arg = a0 at *
      generalize (nnf true y).ty = t1 at *
      generalize (nnf true y).arg = a1 at *
      go_wp2_with fail
      refine HR.out.mono ?_
      rintro e w4 ⟨rfl, hb4⟩
      have HO4 := Lib.hid (row_below hO.out hb4)
      have HB4 := Lib.hid (hb.out.trans (hb4.mono hb.out.size))
      clear hb4
      go_wp2_with (at_builtin; go_loud (refine wpList_append_lies _ rfl _ _ 56 rfl w3.heap.size 40 i0 (.agg #[.nilIface, .nilIface]) 2 32 Try.underlying56 hi hz0 hz1 hz2 rfl (by decide) (.slice va k vc) k _ rfl (HO4.out.alloc _) ⟨w4.heap.size, 0, none⟩ 1 1 [.iface t0 a0, .iface t1 a1] rfl rfl (World.news_of_block (cs := #[.iface t0 a0, .iface t1 a1]) (heap_alloc_new _ _)) (by intro u hu; simp at hu; rcases hu with rfl | rfl <;> rfl) (by decide) (by unfold maxLen; omega) (by omega) (by rw [alloc_size']; have := HB4.out.size; omega) _ rfl ?_); intro g' cap' w5 hown' hgrow hat hlt')
      have HN5 := Lib.hid (And.intro hown' (grown_over HB4.out hgrow (fun j hj => (HO4.out.lt j hj).1)))
      clear hown' hgrow hat hlt'
      go_wp2_with fail
      go_roundw
      case rel => exact ⟨k + 1, by omega, by go_num, by show World.ownsRow _ _ _ _ _ _ _; rw [HN.out]; exact HN5.out.1, HN5.out.2⟩
      case measure => simp [intOf]; omega
    · have hall : ks.take k = ks := List.take_of_length_le (by rw [← HLn.out]; omega)
      have hkn : k = ks.length := by rw [← HLn.out]; omega
      rw [hall] at hO
      obtain ⟨va, vc, rfl⟩ := row_form hO.out
      have HC' := Lib.hid (HC.out wr (.slice va k vc) (by rw [← hkn]; exact row_base hO.out))
      clear hkn
      go_wp2_with fail
      refine HC'.out.mono ?_
      rintro e w4 ⟨rfl, hb4⟩
      have hb34 := hb.out.trans (hb4.mono hb.out.size)
      have H4 := Lib.hid (⟨H3.out.1.trans (hb34.mono H3.out.1.size), H3.out.2.later hb34⟩ : Below w.heap.size w w4 ∧ BAt w4 w.heap.size .nilIface .nilIface)
      obtain ⟨_, _, f0, f1⟩ := H4.out.2.read
      clear hb4 hb34
      have HBV := Lib.hid (show bwV x = .agg #[.iface (nnf false x).ty (nnf false x).arg, .iface (nnf true x).ty (nnf true x).arg] from rfl)
      unfold bwV Ct.val
      generalize (nnf false x).ty = t0 at *
      generalize (nnf false x).arg = a0 at *
      generalize (nnf true x).ty = t1 at *
      generalize (nnf true x).arg = a1 at *
      go_wp2_with fail
      obtain ⟨r0, r1, _, _⟩ := (H4.out.2.put (.iface t0 a0) (.iface t1 a1)).read
      refine bodyPost_ret (v := .agg #[.iface t0 a0, .iface t1 a1]) ?_ rfl ⟨by rw [HBV.out], bput_below H4.out.1 _ _⟩
      simp [results, Try.results18, go_sem, r0, r1]

theorem ibs_all (n : Nat) : SaidIbs n := by
  induction n using Nat.strongRecOn with
  | _ n ih => exact ibs_step n ih


/-- the text that OppositeOf tells, and whether there is one -/
def oppP (s : ByteArray) : ByteArray × Bool := match cutOf s with
  | some x => if (nnf true x).txt.length ≤ 40 then (txtOf (nnf true x).txt, true) else (⟨#[]⟩, false)
  | none => (⟨#[]⟩, false)

theorem field_bw (x y : Value) (w : World) : (Instr.field 40 (.agg #[x, y]) 1).run Try.prog w = .ok y w := by kernel_rfl

set_option maxHeartbeats 1000000 in
set_option maxRecDepth 100000 in
theorem impl_opp (s : ByteArray) (w : World) (hs : s.size ≤ 1073741824) :
    Calls Try.prog 9 #[.string s] w fun e w' => e = .returned (.tuple #[.string (oppP s).1, .bool (oppP s).2]) ∧ Below w.heap.size w w' := by
  have HR := Lib.hid (read_cut s w hs)
  cases hc : cutOf s with
  | none =>
    have HC := Lib.hid hc
    have HT := Lib.hid (show oppP s = (⟨#[]⟩, false) by rw [oppP, hc])
    clear hc
    go_enter Try.func9, Try.ntmps9
    go_wp2_with fail
    refine HR.out.mono ?_
    rintro e w1 ⟨h1, hb⟩
    rw [HC.out] at h1
    subst h1
    go_wp2_with fail
    go_ret2
    exact ⟨by rw [HT.out]; rfl, hb⟩
  | some x =>
    have HC := Lib.hid hc
    obtain ⟨z1, z2, z3, _⟩ := cutOf_some hc
    have hxl : x.txt.length ≤ 40 := by rw [← z2]; exact z1
    have hnl := nnf_len x true
    have hfd := field_bw
    have HI := Lib.hid (fun w => ibs_all x.txt.length x w (Nat.le_refl _) z3 (by omega))
    have HX := Lib.hid (fun w => cut_text (nnf true x) (nnf_wf x true z3) (by omega) w)
    have HT := Lib.hid (show oppP s = if (nnf true x).txt.length ≤ 40 then (txtOf (nnf true x).txt, true) else (⟨#[]⟩, false) by rw [oppP, hc])
    have hsz : (txtOf (nnf true x).txt).size = (nnf true x).txt.length := txtOf_size _
    rw [← hsz] at HT hnl
    clear hc z1 z2 z3 hsz
    unfold bwV Ct.val at *
    generalize (nnf true x).ty = t1 at *
    generalize (nnf true x).arg = a1 at *
    generalize (nnf false x).ty = t0 at *
    generalize (nnf false x).arg = a0 at *
    generalize txtOf (nnf true x).txt = tx at *
    by_cases hlt : tx.size ≤ 40
    all_goals
      have HT2 := Lib.hid HT.out
      go_enter Try.func9, Try.ntmps9
      go_wp2_with fail
      refine HR.out.mono ?_
      rintro e w1 ⟨h1, hb⟩
      rw [HC.out] at h1
      subst h1
      have HB1 := Lib.hid hb
      clear hb
      unfold Ct.val
      generalize x.arg = ax at *
      go_wp2_with fail
      refine (HI.out _).mono ?_
      rintro e w2 ⟨rfl, hb⟩
      have HB2 := Lib.hid (below_on HB1.out hb)
      clear hb
      go_wp2_with fail
      refine (HX.out _).mono ?_
      rintro e w3 ⟨rfl, hb⟩
      have HB3 := Lib.hid (below_on HB2.out hb)
      clear hb
      go_wp2_with fail
      go_ret2
      refine ⟨?_, HB3.out⟩
      rw [HT2.out]
      first | (rw [if_pos hlt]; rfl) | (rw [if_neg hlt]; rfl)
end Go.Proofs.Ytfmbfbbmhnplcaa
