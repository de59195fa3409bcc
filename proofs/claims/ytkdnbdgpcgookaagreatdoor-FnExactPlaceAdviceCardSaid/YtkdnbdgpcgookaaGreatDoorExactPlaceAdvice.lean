/- The card of FnExactPlaceAdvice, proved: for every text and list of aspects the law answers true and leaves its argument as it was. No condition of its own. -/
import Derived.Test.YtkdnbdgpcgookaaGreatDoorLaidE
import Derived.Test.YtkdnbdgpcgookaaGreatDoorPll
import Derived.Test.YtkdnbdgpcgookaaGreatDoorAscame
import Derived.Lib.SmallJoins
namespace Go.Proofs.YtkdnbdgpcgookaaGreatDoor
open Go.ChangeShapes Go.WideShapes Go.ChangeAt Go.RowKit Go.ChangeMaps Go.Joins Go.Stop

theorem laid_metPlaceAdvice (os : Os) : laidMet Tryz.prog Rows.fnExactPlaceAdviceRow.laid ((laidWorld os).forCall (fun _ _ => 0) ⟨#[], #[.string ⟨#[]⟩, .slice none 0 0], []⟩).memory :=
  laidMet_of_run' 300 (by kernel_rfl) (by kernel_rfl)
theorem readsPlaceAdvice (os : Os) {H : Type} (enc : TypeId × Value → H) : ∃ x, DataW.whole enc Tryz.prog ((laidWorld os).forCall (fun _ _ => 0) ⟨#[], #[.string ⟨#[]⟩, .slice none 0 0], []⟩).memory [9, 46] fiveVars false #[.string ⟨#[]⟩, .slice none 0 0].toList 8 = some x :=
  Option.isSome_iff_exists.1 (by kernel_rfl)

set_option maxRecDepth 100000 in
theorem pla_contract (H : Type) (enc : TypeId × Value → H) (W : World) (base : Nat) (args : Array Value) (ds gs : List (DataW H)) (before : List MemPlace)
    (hval0 : ∀ (j : Nat) t v, Tryz.f5.params[j]? = some t → args[j]? = some v → Value.okWide Tryz.prog W .any base t v)
    (hW : DataW.Whole enc Tryz.prog Tryz.f5.params.toList Rows.fnExactPlaceAdviceSpec.vars false W args.toList ds gs before) (hL : laidMet Tryz.prog fiveLaid W) (_hsh : W.ShapedOpen Tryz.prog) :
    Calls Tryz.prog 5 args W fun e W' => ∃ v, e = .returned v ∧ Rows.fnExactPlaceAdviceSpec.post enc Tryz.prog Tryz.f5 false true false false W args v W' := by
  have hval : ∀ (j : Nat) t v, Tryz.f5.params[j]? = some t → args[j]? = some v → Value.okWide Tryz.prog W .any base t v := hval0
  have hW' := hW
  obtain ⟨p, q, hA0, hV0, rfl, _, _⟩ := hW
  have hA : DataW.TrodAll enc Tryz.prog W 0 (fun _ => true) true Tryz.f5.params.toList args.toList ds p := hA0
  have hV : DataW.TrodVars enc Tryz.prog W (fun _ => true) fiveVars gs q := hV0
  rw [Tryz.params5] at hA hval
  obtain ⟨vs, vss, dS, dss, pS, pss, hargs, rfl, rfl, hS, r0⟩ := trodAll_cons hA
  obtain ⟨v0, vs1, d0, ds1, p0, q1, rfl, rfl, rfl, h0, r1⟩ := trodAll_cons r0
  obtain ⟨rfl, rfl, rfl⟩ := trodAll_nil r1
  obtain rfl : args = #[vs, v0] := by cases args; simp_all
  obtain ⟨s, rfl, rfl, rfl, ws⟩ := open_string Tryz.underlying9 (hval 0 9 vs rfl rfl) hS
  obtain ⟨ek, ec, eb, el, ep, hE, hVs⟩ := laid5 hL
  obtain ⟨rfl, rfl⟩ := hV.unique (vars5 enc hVs _)
  have h0k := h0
  obtain ⟨a0, len, cap, rfl⟩ := okWide_slice Tryz.underlying46 (hval 1 46 v0 rfl rfl)
  obtain ⟨fuel, hf⟩ := h0
  obtain ⟨a1, len1, cap1, zs, hv, hI, hl, hz⟩ := aspects_came enc (v := .slice a0 len cap) hf
  injection hv with e0 e1 e2
  subst e0; subst e1; subst e2
  clear hA0 hval0 hV0
  simp only [List.append_nil, List.nil_append] at hW'
  have hlt : ∀ x ∈ p0, x.block < W.heap.size := fun x hx => by simpa using hW'.lt x (List.mem_append_left _ hx)
  have hargs : ∀ (W' : World), Below W.heap.size W W' → DataW.Trod enc Tryz.prog W' 0 (fun b => decide (b < W.heap.size)) true 46 (.slice a0 len cap) d0 p0 :=
    fun W' hn => Below.trod laidOut (by kernel_rfl) (of_decide_eq_true (by kernel_rfl)) h0k hn hlt
  refine (pll_any s W a0 len cap zs ws hI hl hz ek ec eb el ep hE).mono fun e W' ⟨he, hb⟩ => ?_
  subst he
  refine ⟨_, rfl, _, _, _, [], p0, fivePlaces, hW', ?_, trodAll_cons_mk (shut_string Tryz.underlying9 ws) (trodAll_mk1 (hargs _ hb)), vars5 enc (hVs.later hb) _, hb.frame _, fun h => by cases h⟩
  exact trodAll_mk1 (shut_bool Tryz.underlying4 true)

set_option maxRecDepth 100000 in
theorem pla_lifted (os : Os) (started : os.Started) (H : Type) (enc : TypeId × Value → H) (F : Stop.Interp) :
    ReturnsInHanded {} Tryz.checked os 5 .any ((OpenSpec.ofChange Rows.fnExactPlaceAdviceSpec).preRow enc Tryz.prog Tryz.f5 Rows.fnExactPlaceAdviceRow.domain false Rows.fnExactPlaceAdviceRow.laid) (((OpenSpec.ofChange Rows.fnExactPlaceAdviceSpec).at F).post enc Tryz.prog Tryz.f5 false true false false) := by
  obtain ⟨x, hx⟩ := readsPlaceAdvice os enc
  refine returnsInHanded_of_row (C := Tryz.checked) (s := OpenSpec.ofChange Rows.fnExactPlaceAdviceSpec) own started (by kernel_rfl) Tryz.func5
    (witness_row_at (enc := enc) (C := Tryz.checked) false (laidWorld os) #[.string ⟨#[]⟩, .slice none 0 0] rfl (by kernel_rfl) (by kernel_rfl) (by kernel_rfl)
      (OpenSpec.preRow_of_cond 8 hx (by kernel_rfl) (fun k hk => by cases hk) (by kernel_rfl) (laid_metPlaceAdvice os))) ?_
  intro W base args ds gs before hval hW _ _ _ hL hsh _
  exact pla_contract H enc W base args ds gs before hval hW hL hsh

theorem pla_said : Rows.FnExactPlaceAdviceSaid :=
  OpenClaim.holds_of_cond 5 Tryz.f5 rfl rfl rfl rfl rfl rfl rfl ⟨rfl, rfl, rfl, rfl, rfl⟩ rfl rfl rfl rfl rfl (by kernel_rfl) Tryz.func5 (by kernel_rfl)
    (of_decide_eq_true (by kernel_rfl)) (by unfold Func.isWrapper; first | (rw [if_pos (by decide +kernel)]; kernel_rfl) | (rw [if_neg (by decide +kernel)]; exact ⟨rfl, rfl⟩))
    (fun os started H enc _ F => by rw [OpenClaim.pre_eq_preRow]; exact pla_lifted os started H enc F)

/-- No parameter wants a stand-in. -/
theorem pla_plain (f : FuncId) (fn : Func) (hf : Tryz.pinned.checked.prog.funcNamed "loop.example/wovenprograms/laws.FnExactPlaceAdvice" = some f) (hfn : Tryz.pinned.checked.prog.funcs[f]? = some fn) :
    true = Tryz.pinned.checked.prog.looks [] ∧ ∀ (j : Nat) t, fn.params[j]? = some t → Tryz.pinned.checked.prog.wantsStandIn t = false := by
  obtain rfl : f = 5 := Option.some.inj ((show Tryz.prog.funcNamed "loop.example/wovenprograms/laws.FnExactPlaceAdvice" = some 5 by kernel_rfl).symm.trans hf) |>.symm
  obtain rfl : fn = Tryz.f5 := (Option.some.inj (Tryz.func5.symm.trans hfn)).symm
  refine ⟨by kernel_rfl, fun j t ht => ?_⟩
  rw [Tryz.params5] at ht
  have hm := Array.mem_of_getElem? ht
  simp only [List.mem_toArray, List.mem_cons, List.not_mem_nil, or_false] at hm
  rcases hm with rfl | rfl
  · exact (show Tryz.prog.wantsStandIn 9 = false by kernel_rfl)
  · exact (show Tryz.prog.wantsStandIn 46 = false by kernel_rfl)

set_option maxRecDepth 100000 in
theorem exactPlaceAdvice_card : Rows.FnExactPlaceAdviceCardSaid :=
  Claim7.holds_tied_plain_at .later [] _ _ _ _ pla_said (fun _ h => by cases h) (by kernel_rfl) (fun _ h => by cases h) fnExactPlaceAdvice_row_tie rfl ⟨rfl, rfl⟩ (by kernel_rfl) rfl pla_plain (by kernel_rfl)
end Go.Proofs.YtkdnbdgpcgookaaGreatDoor
