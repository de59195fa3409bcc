/- What a row's condition on the five errors gives; how they are read as variables; a world for the witnesses of the cards. -/
import Derived.Test.YtkdnbdgpcgookaaGreatDoorCards
import Derived.Test.YtkdnbdgpcgookaaGreatDoorTie
import Derived.Test.YtkdnbdgpcgookaaGreatDoorErr
import Derived.ProofKit
import Derived.OpenShut
import Derived.ChangeSlices
import Derived.ChangeVars
import Derived.Deep.DeepHandedRow
import Derived.Stop.LaidTwo
import Derived.Stop.LaidErr
import Derived.LaidSub
namespace Go.Proofs.YtkdnbdgpcgookaaGreatDoor
open Go.ChangeShapes Go.WideShapes Go.ChangeAt Go.RowKit Go.ChangeMaps Go.Stop

theorem own : ownKnob Tryz.prog.godebug = none := by kernel_rfl
theorem laidOut : laidOutB Tryz.prog = true := by kernel_rfl
theorem gK : Tryz.prog.globalNamed "loop.example/wovenprograms/impl.errKind" = some 2 := by kernel_rfl
theorem gC : Tryz.prog.globalNamed "loop.example/wovenprograms/impl.errCut" = some 0 := by kernel_rfl
theorem gB : Tryz.prog.globalNamed "loop.example/wovenprograms/impl.errBody" = some 1 := by kernel_rfl
theorem gL : Tryz.prog.globalNamed "loop.example/wovenprograms/impl.errCalls" = some 3 := by kernel_rfl
theorem gP : Tryz.prog.globalNamed "loop.example/wovenprograms/impl.errProceeds" = some 4 := by kernel_rfl
theorem tK : (Tryz.prog.globals[2]?).map (·.type) = some 59 := by kernel_rfl
theorem tC : (Tryz.prog.globals[0]?).map (·.type) = some 59 := by kernel_rfl
theorem tB : (Tryz.prog.globals[1]?).map (·.type) = some 59 := by kernel_rfl
theorem tL : (Tryz.prog.globals[3]?).map (·.type) = some 59 := by kernel_rfl
theorem tP : (Tryz.prog.globals[4]?).map (·.type) = some 59 := by kernel_rfl
theorem cellsE : Tryz.prog.cellsOf 231 = 1 := by kernel_rfl
theorem cellsS : Tryz.prog.cellsOf 9 = 1 := by kernel_rfl
theorem starE : "*" ++ "errors.errorString" = "*errors.errorString" := by decide
theorem rowE (u : TypeId) (h : Tryz.prog.typeName? 3 u = some "*errors.errorString") : u = 205 :=
  typeName_ptr_named (nm := "errors.errorString") (by rw [starE]; kernel_rfl) (by kernel_rfl) (by decide) u (by rw [starE]; exact h)

/-- the five variables as they read -/
structure Vars5 (w : World) (ek ec eb el ep : Addr) : Prop where
  k : w.var? Tryz.prog "loop.example/wovenprograms/impl.errKind" = some #[errV ek]
  c : w.var? Tryz.prog "loop.example/wovenprograms/impl.errCut" = some #[errV ec]
  b : w.var? Tryz.prog "loop.example/wovenprograms/impl.errBody" = some #[errV eb]
  l : w.var? Tryz.prog "loop.example/wovenprograms/impl.errCalls" = some #[errV el]
  p : w.var? Tryz.prog "loop.example/wovenprograms/impl.errProceeds" = some #[errV ep]

theorem var_later {w w' : World} {n : String} {cs : Array Value} (hb : Below w.heap.size w w') (h : w.var? Tryz.prog n = some cs) : w'.var? Tryz.prog n = some cs := by
  unfold World.var? at h ⊢
  cases hg : Tryz.prog.globalNamed n with
  | none => simp [hg] at h
  | some g =>
    simp only [hg, Option.bind_some] at h ⊢
    have hlt : g < w.heap.size := by
      rcases Nat.lt_or_ge g w.heap.size with h' | h'
      · exact h'
      · simp [Array.getElem?_eq_none h'] at h
    rw [hb.block g hlt]; exact h
theorem Vars5.later {w w' : World} {ek ec eb el ep : Addr} (h : Vars5 w ek ec eb el ep) (hb : Below w.heap.size w w') : Vars5 w' ek ec eb el ep :=
  ⟨var_later hb h.k, var_later hb h.c, var_later hb h.b, var_later hb h.l, var_later hb h.p⟩

/-- the five errors in a row's condition -/
abbrev fiveLaid : List (String × DataW Unit) := [("loop.example/wovenprograms/impl.errKind", Rows.laid_loop_example_wovenprograms_impl_errKind), ("loop.example/wovenprograms/impl.errCut", Rows.laid_loop_example_wovenprograms_impl_errCut), ("loop.example/wovenprograms/impl.errBody", Rows.laid_loop_example_wovenprograms_impl_errBody), ("loop.example/wovenprograms/impl.errCalls", Rows.laid_loop_example_wovenprograms_impl_errCalls), ("loop.example/wovenprograms/impl.errProceeds", Rows.laid_loop_example_wovenprograms_impl_errProceeds)]

theorem laid5 {W : World} (h : laidMet Tryz.prog fiveLaid W) : ∃ ek ec eb el ep, Errs W ek ec eb el ep ∧ Vars5 W ek ec eb el ep := by
  obtain ⟨ek, _, vk, _⟩ := laid_sentinel h gK tK Tryz.underlying59 rowE Tryz.underlying205 Tryz.underlying231 rfl rfl Tryz.underlying9 cellsE cellsS
  obtain ⟨ec, _, vc, _⟩ := laid_sentinel h.tail gC tC Tryz.underlying59 rowE Tryz.underlying205 Tryz.underlying231 rfl rfl Tryz.underlying9 cellsE cellsS
  obtain ⟨eb, _, vb, _⟩ := laid_sentinel h.tail.tail gB tB Tryz.underlying59 rowE Tryz.underlying205 Tryz.underlying231 rfl rfl Tryz.underlying9 cellsE cellsS
  obtain ⟨el, ep, _, _, _, _, _, _, vl, vp, _, _, _, _, _, _, hne, hl, hp⟩ := laid_sentinels2 h.tail.tail.tail gL tL gP tP Tryz.underlying59 rowE Tryz.underlying205 Tryz.underlying231 rfl rfl Tryz.underlying9 cellsE cellsS
  refine ⟨ek, ec, eb, el, ep, ⟨?_, ?_, ?_, ?_, ?_, hne, ⟨_, _, hl⟩, ⟨_, _, hp⟩⟩, ⟨vk, vc, vb, vl, vp⟩⟩
  · simpa [errV] using World.var?_cell gK vk 0
  · simpa [errV] using World.var?_cell gC vc 0
  · simpa [errV] using World.var?_cell gB vb 0
  · simpa [errV] using World.var?_cell gL vl 0
  · simpa [errV] using World.var?_cell gP vp 0

theorem errV_iface (a : Addr) : IsIface (errV a) := trivial
/-- the variables of the rows, in their order -/
abbrev fiveVars : List String := ["loop.example/wovenprograms/impl.errCut", "loop.example/wovenprograms/impl.errBody", "loop.example/wovenprograms/impl.errKind", "loop.example/wovenprograms/impl.errCalls", "loop.example/wovenprograms/impl.errProceeds"]
abbrev fivePlaces : List MemPlace := [.cell 0 0, .cell 1 0, .cell 2 0, .cell 3 0, .cell 4 0]
theorem vars5 {H : Type} (enc : TypeId × Value → H) {W : World} {ek ec eb el ep : Addr} (h : Vars5 W ek ec eb el ep) (sp : Nat → Bool) :
    DataW.TrodVars enc Tryz.prog W sp fiveVars [tok enc (errV ec), tok enc (errV eb), tok enc (errV ek), tok enc (errV el), tok enc (errV ep)] fivePlaces :=
  ⟨_, _, _, 1, [], _, gC, tC, h.c, trod_held Tryz.underlying59 (errV_iface ec) 0,
    ⟨_, _, _, 1, [], _, gB, tB, h.b, trod_held Tryz.underlying59 (errV_iface eb) 0,
      ⟨_, _, _, 1, [], _, gK, tK, h.k, trod_held Tryz.underlying59 (errV_iface ek) 0,
        ⟨_, _, _, 1, [], _, gL, tL, h.l, trod_held Tryz.underlying59 (errV_iface el) 0,
          ⟨_, _, _, 1, [], _, gP, tP, h.p, trod_held Tryz.underlying59 (errV_iface ep) 0, rfl, rfl⟩, rfl⟩, rfl⟩, rfl⟩, rfl⟩

noncomputable def low : Nat := (World.holding Tryz.prog default ⟨#[], #[], []⟩).heap.size
def txtE : DataW Unit → ByteArray
  | .iface _ (.ptr (.agg [.lit (.string l)])) => ⟨l.toArray⟩
  | _ => ⟨#[]⟩
def setE (n : Nat) : Obj → Obj
  | .cells _ t frozen => .cells #[.iface 205 (.pointer (some ⟨n, 0, none⟩))] t frozen
  | o => o
noncomputable def laidWorld (os : Os) : World :=
  let w0 := World.holding Tryz.prog os ⟨#[.cells #[.string (txtE Rows.laid_loop_example_wovenprograms_impl_errKind)] 231, .cells #[.string (txtE Rows.laid_loop_example_wovenprograms_impl_errCut)] 231, .cells #[.string (txtE Rows.laid_loop_example_wovenprograms_impl_errBody)] 231, .cells #[.string (txtE Rows.laid_loop_example_wovenprograms_impl_errCalls)] 231, .cells #[.string (txtE Rows.laid_loop_example_wovenprograms_impl_errProceeds)] 231], #[], []⟩
  { w0 with heap := ((((w0.heap.modify 2 (setE low)).modify 0 (setE (low + 1))).modify 1 (setE (low + 2))).modify 3 (setE (low + 3))).modify 4 (setE (low + 4)) }
end Go.Proofs.YtkdnbdgpcgookaaGreatDoor
