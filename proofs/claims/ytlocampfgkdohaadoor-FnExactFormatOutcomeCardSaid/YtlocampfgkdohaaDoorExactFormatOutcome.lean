/- The card of FnExactFormatOutcome, proved: for every outcome the law answers true and leaves its argument as it was. No condition of its own. -/
import Derived.Test.YtlocampfgkdohaaDoorLaidO
import Derived.Test.YtlocampfgkdohaaDoorFlaw
import Derived.Lib.SmallJoins
namespace Go.Proofs.YtlocampfgkdohaaDoor
open Go.ChangeShapes Go.WideShapes Go.ChangeAt Go.RowKit Go.ChangeMaps Go.Joins

def noOutcome : Value := .agg #[.int .i64 0, .slice none 0 0, .string ⟨#[]⟩, .int .i64 0]
theorem laid_metO (os : Os) : laidMet Tryd.prog Rows.fnExactFormatOutcomeRow.laid ((laidWorld os).forCall (fun _ _ => 0) ⟨#[], #[noOutcome], []⟩).memory :=
  laidMet_of_run' 300 (by kernel_rfl) (by kernel_rfl)
theorem readsO (os : Os) {H : Type} (enc : TypeId × Value → H) : ∃ places, DataW.whole enc Tryd.prog ((laidWorld os).forCall (fun _ _ => 0) ⟨#[], #[noOutcome], []⟩).memory [24] [] false #[noOutcome].toList 8 = some ([.agg [.lit (.int .i64 0), .nil, .lit (.string []), .lit (.int .i64 0)]], [], places) :=
  ⟨[], by kernel_rfl⟩

set_option maxRecDepth 100000 in
theorem fmt_contract (H : Type) (enc : TypeId × Value → H) (W : World) (base : Nat) (args : Array Value) (ds gs : List (DataW H)) (before : List MemPlace)
    (hval0 : ∀ (j : Nat) t v, Tryd.f3.params[j]? = some t → args[j]? = some v → Value.okWide Tryd.prog W .any base t v)
    (hW : DataW.Whole enc Tryd.prog Tryd.f3.params.toList Rows.fnExactFormatOutcomeSpec.vars false W args.toList ds gs before) (ht : Tab W) :
    Calls Tryd.prog 3 args W fun e W' => ∃ v, e = .returned v ∧ Rows.fnExactFormatOutcomeSpec.post enc Tryd.prog Tryd.f3 false true false false W args v W' := by
  have hval : ∀ (j : Nat) t v, Tryd.f3.params[j]? = some t → args[j]? = some v → Value.okWide Tryd.prog W .any base t v := hval0
  have hW' := hW
  obtain ⟨p, q, hA0, hV, rfl, hfz, hnd⟩ := hW
  have hA : DataW.TrodAll enc Tryd.prog W 0 (fun _ => true) true Tryd.f3.params.toList args.toList ds p := hA0
  rw [Tryd.params3] at hA hval
  obtain ⟨v0, d0, rfl, rfl, h0⟩ := trodAll_one hA
  obtain ⟨rfl, rfl⟩ := trodVars_none hV
  have h0k := h0
  obtain ⟨u0, u1, u2, u3, y0, y1, y2, y3, n, rfl, _, _, t0, t1, t2, t3⟩ := open_agg4 Tryd.underlying24 (by kernel_rfl) (by kernel_rfl) (hval 0 24 v0 rfl rfl) h0
  obtain ⟨x0, e0, _, i0⟩ := DataW.trod_int Tryd.underlying3 t0
  obtain ⟨x1, xn, xc, xz, rfl, xI, xl, xi⟩ := ints_came enc t1
  obtain ⟨x2, e2, _, w2⟩ := DataW.trod_string Tryd.underlying9 t2
  obtain ⟨x3, e3, _, i3⟩ := DataW.trod_int Tryd.underlying3 t3
  injection e0 with e0; injection e2 with e2; injection e3 with e3
  subst e0; subst e2; subst e3
  clear hA0 hval0
  simp only [List.append_nil] at hW'
  have hlt : ∀ x ∈ p, x.block < W.heap.size := fun x hx => by simpa using hW'.lt x hx
  have hargs : ∀ (W' : World), Below W.heap.size W W' → DataW.Trod enc Tryd.prog W' 0 (fun b => decide (b < W.heap.size)) true 24 (oV x0 x1 xn xc x2 x3) d0 p :=
    fun W' hn => Below.trod laidOut (by kernel_rfl) (of_decide_eq_true (by kernel_rfl)) h0k hn hlt
  refine (fmt_law W x0 x1 xn xc xz x2 x3 xI xl w2 (int64_of i0) (int64_of i3) xi ht).mono fun e W' ⟨he, hb⟩ => ?_
  subst he
  refine ⟨_, rfl, _, _, _, [], p, [], hW', ?_, trodAll_mk1 (hargs _ hb), rfl, hb.frame _, fun h => by cases h⟩
  exact trodAll_mk1 (shut_bool Tryd.underlying4 true)

set_option maxRecDepth 100000 in
theorem fmt_lifted (os : Os) (started : os.Started) (H : Type) (enc : TypeId × Value → H) (F : Stop.Interp) :
    ReturnsInHanded {} Tryd.checked os 3 .any ((OpenSpec.ofChange Rows.fnExactFormatOutcomeSpec).preRow enc Tryd.prog Tryd.f3 Rows.fnExactFormatOutcomeRow.domain false Rows.fnExactFormatOutcomeRow.laid) (((OpenSpec.ofChange Rows.fnExactFormatOutcomeSpec).at F).post enc Tryd.prog Tryd.f3 false true false false) := by
  obtain ⟨places, hx⟩ := readsO os enc
  refine returnsInHanded_of_row (C := Tryd.checked) (s := OpenSpec.ofChange Rows.fnExactFormatOutcomeSpec) own started (by kernel_rfl) Tryd.func3
    (witness_row_at (enc := enc) (C := Tryd.checked) false (laidWorld os) #[noOutcome] rfl (by kernel_rfl) (by kernel_rfl) (by kernel_rfl)
      (OpenSpec.preRow_of_cond 8 hx (by kernel_rfl) (fun k hk => by cases hk) (by kernel_rfl) (laid_metO os))) ?_
  intro W base args ds gs before hval hW _ _ _ hL hsh _
  exact fmt_contract H enc W base args ds gs before hval hW (tab_met hL (by kernel_rfl))

theorem fmt_said : Rows.FnExactFormatOutcomeSaid :=
  OpenClaim.holds_of_cond 3 Tryd.f3 rfl rfl rfl rfl rfl rfl rfl ⟨rfl, rfl, rfl, rfl, rfl⟩ rfl rfl rfl rfl rfl (by kernel_rfl) Tryd.func3 (by kernel_rfl)
    (of_decide_eq_true (by kernel_rfl)) (by unfold Func.isWrapper; first | (rw [if_pos (by decide +kernel)]; kernel_rfl) | (rw [if_neg (by decide +kernel)]; exact ⟨rfl, rfl⟩))
    (fun os started H enc _ F => by rw [OpenClaim.pre_eq_preRow]; exact fmt_lifted os started H enc F)

/-- No parameter wants a stand-in. -/
theorem fmt_plain (f : FuncId) (fn : Func) (hf : Tryd.pinned.checked.prog.funcNamed "loop.example/wovenprograms/laws.FnExactFormatOutcome" = some f) (hfn : Tryd.pinned.checked.prog.funcs[f]? = some fn) :
    false = Tryd.pinned.checked.prog.looks [] ∧ ∀ (j : Nat) t, fn.params[j]? = some t → Tryd.pinned.checked.prog.wantsStandIn t = false := by
  obtain rfl : f = 3 := Option.some.inj ((show Tryd.prog.funcNamed "loop.example/wovenprograms/laws.FnExactFormatOutcome" = some 3 by kernel_rfl).symm.trans hf) |>.symm
  obtain rfl : fn = Tryd.f3 := (Option.some.inj (Tryd.func3.symm.trans hfn)).symm
  refine ⟨by kernel_rfl, fun j t ht => ?_⟩
  rw [Tryd.params3] at ht
  obtain rfl : t = 24 := by simpa using Array.mem_of_getElem? ht
  exact (show Tryd.prog.wantsStandIn 24 = false by kernel_rfl)

set_option maxRecDepth 100000 in
theorem exactFormatOutcome_card : Rows.FnExactFormatOutcomeCardSaid :=
  Claim7.holds_tied_plain_at .later [] _ _ _ _ fmt_said (fun _ h => by cases h) (by kernel_rfl) (fun _ h => by cases h) fnExactFormatOutcome_row_tie rfl ⟨rfl, rfl⟩ (by kernel_rfl) rfl fmt_plain (by kernel_rfl)
end Go.Proofs.YtlocampfgkdohaaDoor
