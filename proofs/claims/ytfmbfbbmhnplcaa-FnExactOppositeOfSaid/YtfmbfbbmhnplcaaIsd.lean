/- cutText: what fromInside makes of a cut and of the texts of its parts. Condition: well formed cuts of at most 2^20 bytes. -/
import Derived.Test.YtfmbfbbmhnplcaaSig
import Derived.Deep.AppendLies
namespace Go.Proofs.Ytfmbfbbmhnplcaa
open Go.RowKit Gram

theorem enters_ct (args : Array Value) (w : World) : (callFunc 28 args).run Try.prog w = .ok (.enter 28 args) w :=
  enters_of Try.func28 (by kernel_rfl) rfl args w
theorem info_str : (Try.prog.info? 9).map (fun i => (i.zero, i.size, i.bytes)) = some (some (.string ⟨#[]⟩), 1, 16) := by kernel_rfl

theorem row_below {w w' : World} {B n : Nat} {e : TypeId} {sz : Nat} {v : Value} {xs : List Value} (h : w.ownsRow B e sz v n xs) (hb : Below w.heap.size w w') : w'.ownsRow B e sz v n xs := by
  refine ⟨h.1, ?_⟩
  rcases h.2 with h1 | ⟨g, cap, cur, h1, h2, h3, h4⟩
  · exact .inl h1
  · exact .inr ⟨g, cap, cur, h1, h2, by rw [hb.block g (heap_lt h3)]; exact h3, h4⟩

theorem below_on {w w1 w2 : World} (h : Below w.heap.size w w1) (hb : Below w1.heap.size w1 w2) : Below w.heap.size w w2 := h.trans (hb.mono h.size)

set_option maxHeartbeats 1000000 in
theorem ct_lit (x : Ct) (hw : x.wf = true) (hl : x.txt.length ≤ 1048576) (w : World) (B : Nat) (v : Value) (h : w.ownsRow B 9 1 v (kids x).length ((kids x).map fun y => .string (txtOf y.txt))) (hB : B ≤ w.heap.size) :
    Calls Try.prog 28 #[x.val, v] w fun e w' => e = .returned (.string (txtOf x.txt)) ∧ Below w.heap.size w w' := by
  have HS := Lib.hid (signs_all x hw)
  have HJ := Lib.hid (fun (w2 : World) (hb : Below w.heap.size w w2) => join_row x hl w2 B v (row_below h hb) (Nat.le_trans hB hb.size))
  have hm := meth_signs x
  have he := enters_signs x
  have hcat := congrArg List.length (txt_sgs x)
  rw [List.length_append] at hcat
  have HT := Lib.hid (show txtOf x.txt = txtOf (sgs x) ++ txtOf ((kids x).flatMap Ct.txt) by
    rw [txt_sgs x]; apply ByteArray.ext; apply Array.ext'; simp [txtOf])
  have e1 := str_sum (txtOf (sgs x)) (txtOf ((kids x).flatMap Ct.txt)) (by rw [txtOf_size, txtOf_size]; omega)
  unfold Ct.val
  generalize signsFn x = fx at *
  generalize x.arg = ax at *
  generalize txtOf (sgs x) = t1 at *
  generalize txtOf ((kids x).flatMap Ct.txt) = t2 at *
  generalize txtOf x.txt = t3 at *
  clear h hcat
  go_enter Try.func28, Try.ntmps28
  go_wp2_with fail
  refine (HS.out _).mono ?_
  rintro e w2 ⟨rfl, hb2⟩
  have HB2 := Lib.hid hb2
  clear hb2
  go_wp2_with fail
  refine (HJ.out _ HB2.out).mono ?_
  rintro e w3 ⟨rfl, hb3⟩
  have HB3 := Lib.hid (below_on HB2.out hb3)
  clear hb3
  go_wp2_with fail
  go_ret
  exact ⟨by rw [HT.out]; rfl, HB3.out⟩

/-- what fromInside makes of a cut with cutText's function -/
def SaidIst (n : Nat) : Prop := ∀ (x : Ct) (w : World), x.txt.length ≤ n → x.wf = true → x.txt.length ≤ 1048576 →
  Calls Try.prog 27 #[x.val, .func (.func 28) #[] #[]] w fun e w' => e = .returned (.string (txtOf x.txt)) ∧ Below w.heap.size w w'

theorem kids_wf (x y : Ct) (hw : x.wf = true) (h : y ∈ kids x) : y.wf = true := by
  cases x with
  | opp x => simp [kids] at h; subst h; exact hw
  | two g a b =>
    simp only [Ct.wf, Bool.and_eq_true] at hw
    simp [kids] at h
    rcases h with rfl | rfl
    · exact hw.2.1
    · exact hw.2.2
  | prt => cases h
  | fix b => cases h
  | lt g c => cases h

theorem row_base {w : World} {B n : Nat} {e : TypeId} {sz : Nat} {v : Value} {xs : List Value} (h : w.ownsRow B e sz v n xs) : w.ownsRow 0 e sz v n xs := by
  refine ⟨h.1, ?_⟩
  rcases h.2 with h1 | ⟨g, cap, cur, h1, _, h3⟩
  · exact .inl h1
  · exact .inr ⟨g, cap, cur, h1, Nat.zero_le _, h3⟩
theorem row_form {w : World} {B k : Nat} {e : TypeId} {sz : Nat} {v : Value} {xs : List Value} (h : w.ownsRow B e sz v k xs) : ∃ a c, v = .slice a k c := by
  rcases h.2 with ⟨h1, h2⟩ | ⟨g, cap, cur, h1, _⟩
  · exact ⟨_, _, by rw [h1, h2]⟩
  · exact ⟨_, _, h1⟩
theorem grown_over {w Z w5 : World} {o : Obj} {r : Option Nat} (hb : Below w.heap.size w Z) (hg : (Z.alloc o).grownBy w5 r) (hr : ∀ j, r = some j → w.heap.size ≤ j) : Below w.heap.size w w5 :=
  (hb.alloc hb.size o).grown hg (by rw [alloc_size']; have := hb.size; omega) hr

set_option maxHeartbeats 2000000 in
set_option maxRecDepth 100000 in
theorem ist_step (n : Nat) (h : ∀ m, m < n → SaidIst m) : SaidIst n := by
  intro x w hx hw hl
  obtain ⟨i0, hi, hz0, hz1, hz2⟩ := info_parts info_str
  have H := Lib.hid h
  have HC := Lib.hid (fun (w : World) (v : Value) hr => ct_lit x hw hl w 0 v hr (Nat.zero_le _))
  have HP := Lib.hid (parts_all x)
  have hm := meth_parts x
  have he := enters_parts x
  have hec := enters_ct
  have hkl := kids_len x
  have HK := Lib.hid (fun y hy => And.intro (kids_short x y hy) (kids_wf x y hw hy))
  clear h
  generalize hks : kids x = ks at *
  unfold Ct.val
  unfold Ct.val at HC
  have HKS := Lib.hid hks
  clear hks
  unfold PartsTo at HP
  rw [HKS.out] at HP
  have HX := Lib.hid (And.intro hx hl)
  clear hx HKS hl hw
  generalize partsFn x = fx at *
  generalize x.arg = ax at *
  go_enter Try.func27, Try.ntmps27
  go_wp2_with fail
  refine (HP.out _).mono ?_
  rintro e w3 ⟨ad, ln, rfl, hln, hkid, hb3⟩
  have HKid := Lib.hid hkid
  have HB3 := Lib.hid (hb3.mono (Nat.le_refl _) : Below w.heap.size w w3)
  clear hb3 hkid
  have hln2 : ln ≤ 2 := by omega
  have HLn := Lib.hid hln
  clear hln
  go_wp2_with fail
  go_loopw [5, 11] (fun v i wr => ∃ k : Nat, k ≤ ln ∧ i = .int .i64 k ∧ Hid (wr.ownsRow w3.heap.size 9 1 v k ((ks.take k).map fun y => .string (txtOf y.txt))) ∧ Hid (Below w3.heap.size w3 wr)) (fun _ i _ => ln - (intOf i).toNat)
  case atStart => exact ⟨0, Nat.zero_le _, by go_num, World.ownsRow_nil _ _ _ _, Below.refl _ _⟩
  case round =>
    obtain ⟨k, hk, rfl, hO, hb⟩ := hrel
    by_cases hlt : k < ln
    · have hk2 : k < ks.length := by rw [← HLn.out]; exact hlt
      obtain ⟨g, rfl, hg1, hg2, hcell⟩ := HKid.out k hk2
      have q1 : wr.cell? ⟨g, k, none⟩ = some (ks[k].val) := by
        rw [hb.out.cell (p := ⟨g, k, none⟩) hg2]; exact hcell
      have hkk := HK.out _ (List.getElem_mem hk2)
      have HR := Lib.hid (H.out ks[k].txt.length (by have := HX.out; omega) ks[k] wr (Nat.le_refl _) hkk.2 (by have := HX.out; omega))
      have HN := Lib.hid (show ((ks.take (k + 1)).map fun y => Value.string (txtOf y.txt)) = ((ks.take k).map fun y => Value.string (txtOf y.txt)) ++ [.string (txtOf ks[k].txt)] by
        rw [List.take_succ_eq_append_getElem hk2, List.map_append]; rfl)
      obtain ⟨va, vc, rfl⟩ := row_form hO.out
      clear hcell hg1 hg2 hkk
      unfold Ct.val at q1 HR
      generalize ks[k] = y at *
      generalize y.arg = ay at *
      generalize txtOf y.txt = ty at *
      go_wp2_with fail
      refine HR.out.mono ?_
      rintro e w4 ⟨rfl, hb4⟩
      have HO4 := Lib.hid (row_below hO.out hb4)
      have HB4 := Lib.hid (hb.out.trans (hb4.mono hb.out.size))
      clear hb4
      go_wp2_with (at_builtin; go_loud (refine wpList_append_lies _ rfl _ _ 53 rfl w3.heap.size 9 i0 (.string ⟨#[]⟩) 1 16 Try.underlying53 hi hz0 hz1 hz2 rfl (by decide) (.slice va k vc) k _ rfl (HO4.out.alloc _) ⟨w4.heap.size, 0, none⟩ 1 1 [.string ty] rfl rfl (World.news_of_block (cs := #[.string ty]) (heap_alloc_new _ _)) (by intro u hu; simp at hu; subst hu; rfl) (by decide) (by unfold maxLen; omega) (by omega) (by rw [alloc_size']; have := HB4.out.size; omega) _ rfl ?_); intro g' cap' w5 hown' hgrow hat hlt')
      have HN5 := Lib.hid (And.intro hown' (grown_over HB4.out hgrow (fun j hj => (HO4.out.lt j hj).1)))
      clear hown' hgrow hat hlt'
      go_wp2_with fail
      go_roundw
      case rel => exact ⟨k + 1, by omega, by go_num, by show World.ownsRow _ _ _ _ _ _ _; rw [HN.out]; exact HN5.out.1, HN5.out.2⟩
      case measure => simp [intOf]; omega
    · have hall : ks.take k = ks := List.take_of_length_le (by rw [← HLn.out]; omega)
      have hkn : k = ks.length := by rw [← HLn.out]; omega
      rw [hall] at hO
      obtain ⟨va, vc, rfl⟩ := row_form hO.out
      have HC' := Lib.hid (HC.out wr (.slice va k vc) (by rw [← hkn]; exact row_base hO.out))
      clear hkn
      go_wp2_with fail
      refine HC'.out.mono ?_
      rintro e w4 ⟨rfl, hb4⟩
      have HB4 := Lib.hid (HB3.out.trans ((hb.out.trans (hb4.mono hb.out.size)).mono HB3.out.size))
      clear hb4
      go_wp2_with fail
      go_ret
      exact ⟨rfl, HB4.out⟩

theorem ist_all (n : Nat) : SaidIst n := by
  induction n using Nat.strongRecOn with
  | _ n ih => exact ist_step n ih

set_option maxHeartbeats 400000 in
theorem cut_text (x : Ct) (hw : x.wf = true) (hl : x.txt.length ≤ 1048576) (w : World) :
    Calls Try.prog 17 #[x.val] w fun e w' => e = .returned (.string (txtOf x.txt)) ∧ Below w.heap.size w w' := by
  have hmf : ∀ (fn : Fn) (first cap : Array Value) (w : World), (Instr.makeFunc fn first cap).run Try.prog w = .ok (.func fn first cap) w := fun _ _ _ _ => rfl
  have HE := Lib.hid (ist_all x.txt.length x w (Nat.le_refl _) hw hl)
  unfold Ct.val at *
  generalize x.arg = ax at *
  go_enter Try.func17, Try.ntmps17
  go_wp2_with fail
  refine HE.out.mono ?_
  rintro e w2 ⟨rfl, hb⟩
  have HB := Lib.hid hb
  clear hb
  go_wp2_with fail
  go_ret
  exact ⟨rfl, HB.out⟩
end Go.Proofs.Ytfmbfbbmhnplcaa
