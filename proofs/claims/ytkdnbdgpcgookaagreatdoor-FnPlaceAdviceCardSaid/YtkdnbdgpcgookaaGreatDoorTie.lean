/-
  DERIVED. GIVEN WITH THE SEED: THE PROGRAM's TIES (one call each: nine closed facts by the kernel) AND EACH ROW's TIE, after the 31st guide's Derived/Test/Toyas{Tie, Card}.lean. No idea stands in it: it is a product of the set-up. Laid BY PROGRAM, IN A SANDBOX (cutbox-door.mjs). By AI agents, Wed Nov 11 2026. No macro, syntax, notation, axiom, sorry.
-/
import Derived.Test.YtkdnbdgpcgookaaGreatDoorRows
import Derived.LaidByTextLater
import Derived.SevenTiedAt
import Derived.LaidSub
import Derived.LaidOnce
namespace Go.Proofs.YtkdnbdgpcgookaaGreatDoor
open Go
set_option maxRecDepth 100000
theorem seatTie1 : Tryz.prog.laidByTextLater [("loop.example/wovenprograms/impl.errKind", Rows.laid_loop_example_wovenprograms_impl_errKind), ("loop.example/wovenprograms/impl.errCut", Rows.laid_loop_example_wovenprograms_impl_errCut), ("loop.example/wovenprograms/impl.errBody", Rows.laid_loop_example_wovenprograms_impl_errBody), ("loop.example/wovenprograms/impl.errCalls", Rows.laid_loop_example_wovenprograms_impl_errCalls), ("loop.example/wovenprograms/impl.errProceeds", Rows.laid_loop_example_wovenprograms_impl_errProceeds)] [.sentinel, .sentinel, .sentinel, .sentinel, .sentinel] true :=
  Program.laidByTextLater_by_one 104 8 2 (by kernel_rfl) (by kernel_rfl) (by kernel_rfl) (by kernel_rfl) (by kernel_rfl) (by kernel_rfl) (fun _ _ => by kernel_rfl)
theorem noOwnUnsafe : Tryz.pinned.checked.prog.headLifts.contains "ownunsafe" = false := by kernel_rfl
theorem tie : Tryz.prog.laidByTextLater [("loop.example/wovenprograms/impl.errKind", Rows.laid_loop_example_wovenprograms_impl_errKind), ("loop.example/wovenprograms/impl.errCut", Rows.laid_loop_example_wovenprograms_impl_errCut), ("loop.example/wovenprograms/impl.errBody", Rows.laid_loop_example_wovenprograms_impl_errBody), ("loop.example/wovenprograms/impl.errCalls", Rows.laid_loop_example_wovenprograms_impl_errCalls), ("loop.example/wovenprograms/impl.errProceeds", Rows.laid_loop_example_wovenprograms_impl_errProceeds)] [.sentinel, .sentinel, .sentinel, .sentinel, .sentinel] true :=
  Program.laidByTextLater.sub seatTie1 ["loop.example/wovenprograms/impl.errKind", "loop.example/wovenprograms/impl.errCut", "loop.example/wovenprograms/impl.errBody", "loop.example/wovenprograms/impl.errCalls", "loop.example/wovenprograms/impl.errProceeds"] (by kernel_rfl) (by kernel_rfl)
theorem fnAspectText_row_tie : Rows.fnAspectTextRow.laidByTextAt .later Tryz.pinned [.sentinel, .sentinel, .sentinel, .sentinel, .sentinel] true :=
  OpenClaim.laidByTextAt_later rfl rfl tie noOwnUnsafe
theorem fnPlaceAdvice_row_tie : Rows.fnPlaceAdviceRow.laidByTextAt .later Tryz.pinned [.sentinel, .sentinel, .sentinel, .sentinel, .sentinel] true :=
  OpenClaim.laidByTextAt_later rfl rfl tie noOwnUnsafe
theorem fnExactPlaceAdvice_row_tie : Rows.fnExactPlaceAdviceRow.laidByTextAt .later Tryz.pinned [.sentinel, .sentinel, .sentinel, .sentinel, .sentinel] true :=
  OpenClaim.laidByTextAt_later rfl rfl tie noOwnUnsafe
theorem fnAspectTextUpto_row_tie : Rows.fnAspectTextUptoRow.laidByTextAt .later Tryz.pinned [.sentinel, .sentinel, .sentinel, .sentinel, .sentinel] true :=
  OpenClaim.laidByTextAt_later rfl rfl tie noOwnUnsafe
theorem fnPlaceAdviceUpto_row_tie : Rows.fnPlaceAdviceUptoRow.laidByTextAt .later Tryz.pinned [.sentinel, .sentinel, .sentinel, .sentinel, .sentinel] true :=
  OpenClaim.laidByTextAt_later rfl rfl tie noOwnUnsafe
theorem fnExactPlaceAdviceUpto_row_tie : Rows.fnExactPlaceAdviceUptoRow.laidByTextAt .later Tryz.pinned [.sentinel, .sentinel, .sentinel, .sentinel, .sentinel] true :=
  OpenClaim.laidByTextAt_later rfl rfl tie noOwnUnsafe
end Go.Proofs.YtkdnbdgpcgookaaGreatDoor
