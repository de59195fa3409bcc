/- The card of FnExactMergeAdvice, proved: for every two aspects the law answers true and leaves its arguments as they were. No condition of its own. -/
import Derived.Test.YthkokokeppoieaaGreatDoorLaidM
import Derived.Test.YthkokokeppoieaaGreatDoorMgl
import Derived.Lib.SmallJoins
namespace Go.Proofs.YthkokokeppoieaaGreatDoor
open Go.ChangeShapes Go.WideShapes Go.ChangeAt Go.RowKit Go.ChangeMaps Go.Joins Go.Stop

theorem laid_metMg (os : Os) : laidMet Tryz.prog Rows.fnExactMergeAdviceRow.laid ((laidWorldM os).forCall (fun _ _ => 0) ⟨#[], #[aspV ⟨#[]⟩ ⟨#[]⟩ ⟨#[]⟩, aspV ⟨#[]⟩ ⟨#[]⟩ ⟨#[]⟩], []⟩).memory :=
  laidMet_of_run' 300 (by kernel_rfl) (by kernel_rfl)
theorem readsMg (os : Os) {H : Type} (enc : TypeId × Value → H) : ∃ x, DataW.whole enc Tryz.prog ((laidWorldM os).forCall (fun _ _ => 0) ⟨#[], #[aspV ⟨#[]⟩ ⟨#[]⟩ ⟨#[]⟩, aspV ⟨#[]⟩ ⟨#[]⟩ ⟨#[]⟩], []⟩).memory [32, 32] fiveVars false #[aspV ⟨#[]⟩ ⟨#[]⟩ ⟨#[]⟩, aspV ⟨#[]⟩ ⟨#[]⟩ ⟨#[]⟩].toList 8 = some x :=
  Option.isSome_iff_exists.1 (by kernel_rfl)

set_option maxRecDepth 100000 in
theorem mg_contract (H : Type) (enc : TypeId × Value → H) (W : World) (base : Nat) (args : Array Value) (ds gs : List (DataW H)) (before : List MemPlace)
    (hval0 : ∀ (j : Nat) t v, Tryz.f4.params[j]? = some t → args[j]? = some v → Value.okWide Tryz.prog W .any base t v)
    (hW : DataW.Whole enc Tryz.prog Tryz.f4.params.toList Rows.fnExactMergeAdviceSpec.vars false W args.toList ds gs before) (hL : laidMet Tryz.prog fiveLaid W) (hsh : W.ShapedOpen Tryz.prog) :
    Calls Tryz.prog 4 args W fun e W' => ∃ v, e = .returned v ∧ Rows.fnExactMergeAdviceSpec.post enc Tryz.prog Tryz.f4 false true false false W args v W' := by
  have hval : ∀ (j : Nat) t v, Tryz.f4.params[j]? = some t → args[j]? = some v → Value.okWide Tryz.prog W .any base t v := hval0
  have hW' := hW
  obtain ⟨p, q, hA0, hV0, rfl, _, _⟩ := hW
  have hA : DataW.TrodAll enc Tryz.prog W 0 (fun _ => true) true Tryz.f4.params.toList args.toList ds p := hA0
  have hV : DataW.TrodVars enc Tryz.prog W (fun _ => true) fiveVars gs q := hV0
  rw [Tryz.params4] at hA hval
  obtain ⟨v0, v1, d0, d1, p0, p1, rfl, rfl, rfl, h0, h1⟩ := trodAll_two hA
  obtain ⟨ek, ec, eb, el, ep, hE, hVs⟩ := laid5 hL
  obtain ⟨rfl, rfl⟩ := hV.unique (vars5 enc hVs _)
  have h0k := h0
  have h1k := h1
  obtain ⟨u0, u1, u2, y0, y1, y2, n, rfl, _, _, t0, t1, t2⟩ := open_agg3 Tryz.underlying32 (by kernel_rfl) (by kernel_rfl) (hval 0 32 v0 rfl rfl) h0
  obtain ⟨s0, e0, _, w0⟩ := DataW.trod_string Tryz.underlying9 t0
  obtain ⟨s1, e1, _, w1⟩ := DataW.trod_string Tryz.underlying9 t1
  obtain ⟨s2, e2, _, w2⟩ := DataW.trod_string Tryz.underlying9 t2
  injection e0 with e0; injection e1 with e1; injection e2 with e2
  subst e0; subst e1; subst e2
  obtain ⟨u3, u4, u5, y3, y4, y5, n', rfl, _, _, t3, t4, t5⟩ := open_agg3 Tryz.underlying32 (by kernel_rfl) (by kernel_rfl) (hval 1 32 v1 rfl rfl) h1
  obtain ⟨s3, e3, _, w3⟩ := DataW.trod_string Tryz.underlying9 t3
  obtain ⟨s4, e4, _, w4⟩ := DataW.trod_string Tryz.underlying9 t4
  obtain ⟨s5, e5, _, w5⟩ := DataW.trod_string Tryz.underlying9 t5
  injection e3 with e3; injection e4 with e4; injection e5 with e5
  subst e3; subst e4; subst e5
  clear hA0 hval0 hV0
  have hlt : ∀ x ∈ p0 ++ p1, x.block < W.heap.size := fun x hx => by simpa using hW'.lt x (List.mem_append_left _ hx)
  have hargs : ∀ (W' : World), Below W.heap.size W W' → DataW.Trod enc Tryz.prog W' 0 (fun b => decide (b < W.heap.size)) true 32 (.agg #[.string s0, .string s1, .string s2]) d0 p0 :=
    fun W' hn => Below.trod laidOut (by kernel_rfl) (of_decide_eq_true (by kernel_rfl)) h0k hn (fun x hx => hlt x (List.mem_append.2 (.inl hx)))
  have hargs1 : ∀ (W' : World), Below W.heap.size W W' → DataW.Trod enc Tryz.prog W' 0 (fun b => decide (b < W.heap.size)) true 32 (.agg #[.string s3, .string s4, .string s5]) d1 p1 :=
    fun W' hn => Below.trod laidOut (by kernel_rfl) (of_decide_eq_true (by kernel_rfl)) h1k hn (fun x hx => hlt x (List.mem_append.2 (.inr hx)))
  refine (mgl_any s0 s1 s2 s3 s4 s5 W w0 w1 w2 w3 w4 w5 (max_shaped hsh) ek ec eb el ep hE).mono fun e W' ⟨he, hb⟩ => ?_
  subst he
  refine ⟨_, rfl, _, _, _, [], p0 ++ p1, fivePlaces, hW', ?_, trodAll_mk2 (hargs _ hb) (hargs1 _ hb), vars5 enc (hVs.later hb) _, hb.frame _, fun h => by cases h⟩
  exact trodAll_mk1 (shut_bool Tryz.underlying4 true)

set_option maxRecDepth 100000 in
theorem mg_lifted (os : Os) (started : os.Started) (H : Type) (enc : TypeId × Value → H) (F : Stop.Interp) :
    ReturnsInHanded {} Tryz.checked os 4 .any ((OpenSpec.ofChange Rows.fnExactMergeAdviceSpec).preRow enc Tryz.prog Tryz.f4 Rows.fnExactMergeAdviceRow.domain false Rows.fnExactMergeAdviceRow.laid) (((OpenSpec.ofChange Rows.fnExactMergeAdviceSpec).at F).post enc Tryz.prog Tryz.f4 false true false false) := by
  obtain ⟨x, hx⟩ := readsMg os enc
  refine returnsInHanded_of_row (C := Tryz.checked) (s := OpenSpec.ofChange Rows.fnExactMergeAdviceSpec) own started (by kernel_rfl) Tryz.func4
    (witness_row_at (enc := enc) (C := Tryz.checked) false (laidWorldM os) #[aspV ⟨#[]⟩ ⟨#[]⟩ ⟨#[]⟩, aspV ⟨#[]⟩ ⟨#[]⟩ ⟨#[]⟩] rfl (by kernel_rfl) (by kernel_rfl) (by kernel_rfl)
      (OpenSpec.preRow_of_cond 8 hx (by kernel_rfl) (fun k hk => by cases hk) (by kernel_rfl) (laid_metMg os))) ?_
  intro W base args ds gs before hval hW _ _ _ hL hsh _
  exact mg_contract H enc W base args ds gs before hval hW (five_of hL) hsh

theorem mg_said : Rows.FnExactMergeAdviceSaid :=
  OpenClaim.holds_of_cond 4 Tryz.f4 rfl rfl rfl rfl rfl rfl rfl ⟨rfl, rfl, rfl, rfl, rfl⟩ rfl rfl rfl rfl rfl (by kernel_rfl) Tryz.func4 (by kernel_rfl)
    (of_decide_eq_true (by kernel_rfl)) (by unfold Func.isWrapper; first | (rw [if_pos (by decide +kernel)]; kernel_rfl) | (rw [if_neg (by decide +kernel)]; exact ⟨rfl, rfl⟩))
    (fun os started H enc _ F => by rw [OpenClaim.pre_eq_preRow]; exact mg_lifted os started H enc F)

/-- No parameter wants a stand-in. -/
theorem mg_plain (f : FuncId) (fn : Func) (hf : Tryz.pinned.checked.prog.funcNamed "loop.example/wovenprograms/laws.FnExactMergeAdvice" = some f) (hfn : Tryz.pinned.checked.prog.funcs[f]? = some fn) :
    true = Tryz.pinned.checked.prog.looks [] ∧ ∀ (j : Nat) t, fn.params[j]? = some t → Tryz.pinned.checked.prog.wantsStandIn t = false := by
  obtain rfl : f = 4 := Option.some.inj ((show Tryz.prog.funcNamed "loop.example/wovenprograms/laws.FnExactMergeAdvice" = some 4 by kernel_rfl).symm.trans hf) |>.symm
  obtain rfl : fn = Tryz.f4 := (Option.some.inj (Tryz.func4.symm.trans hfn)).symm
  refine ⟨by kernel_rfl, fun j t ht => ?_⟩
  rw [Tryz.params4] at ht
  obtain rfl : t = 32 := by simpa using Array.mem_of_getElem? ht
  exact (show Tryz.prog.wantsStandIn 32 = false by kernel_rfl)

set_option maxRecDepth 100000 in
theorem exactMergeAdvice_card : Rows.FnExactMergeAdviceCardSaid :=
  Claim7.holds_tied_plain_at .later [] _ _ _ _ mg_said (fun _ h => by cases h) (by kernel_rfl) (fun _ h => by cases h) fnExactMergeAdvice_row_tie rfl ⟨rfl, rfl⟩ (by kernel_rfl) rfl mg_plain (by kernel_rfl)
end Go.Proofs.YthkokokeppoieaaGreatDoor
