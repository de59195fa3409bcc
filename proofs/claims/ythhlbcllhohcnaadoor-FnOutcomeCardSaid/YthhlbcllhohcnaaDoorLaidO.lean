/- A world for the witnesses of the cards: the settled one, with the three tables as their initialisers lay them; the table of powers out of a row's condition. -/
import Derived.Test.YthhlbcllhohcnaaDoorCards
import Derived.Test.YthhlbcllhohcnaaDoorTie
import Derived.Test.YthhlbcllhohcnaaDoorEx
import Derived.ProofKit
import Derived.OpenShut
import Derived.ChangeSlices
import Derived.Deep.DeepHandedRow
import Derived.Lib.LaidTab
import Derived.LaidSub
namespace Go.Proofs.YthhlbcllhohcnaaDoor
open Go.ChangeShapes Go.WideShapes Go.ChangeAt Go.RowKit Go.ChangeMaps

theorem own : ownKnob Tryd.prog.godebug = none := by kernel_rfl
theorem laidOut : laidOutB Tryd.prog = true := by kernel_rfl

def litV : DataW Unit → Value
  | .lit (.int k n) => .int k n
  | _ => .nilIface
def aggV : DataW Unit → List Value
  | .agg l => l.map litV
  | _ => []
def setTab (l : List Value) : Obj → Obj
  | .cells _ t frozen => .cells l.toArray t frozen
  | o => o
noncomputable def laidWorld (os : Os) : World :=
  { World.holding Tryd.prog os ⟨#[], #[], []⟩ with
    heap := (((World.holding Tryd.prog os ⟨#[], #[], []⟩).heap.modify 1 (setTab (aggV Rows.laid_math_bits_deBruijn32tab))).modify 2 (setTab (aggV Rows.laid_math_bits_deBruijn64tab))).modify 0 (setTab (aggV Rows.laid_internal_strconv_uint64pow10)) }

theorem tab_met {W : World} {l : List (String × DataW Unit)} (h : laidMet Tryd.prog l W)
    (hl : (l.filter fun x => x.1 == "internal/strconv.uint64pow10") = [("internal/strconv.uint64pow10", Lib.tabData .u64 Lib.pow10Tab)]) : Tab W := by
  have h2 := h.filter fun x => x.1 == "internal/strconv.uint64pow10"
  rw [hl] at h2
  exact Lib.tabIs_of_head (g := 0) (t := 130) (e := 108) (n := 20) (by kernel_rfl) (by kernel_rfl) (by kernel_rfl) (by kernel_rfl) (by kernel_rfl) (by kernel_rfl) h2

theorem int64_of {n : Int} (h : (Lit.int .i64 n).wf = true) : Int64 n := by
  have h1 : IntKind.i64.min = -9223372036854775808 := rfl
  have h2 : IntKind.i64.max = 9223372036854775807 := rfl
  simp only [Lit.wf, Bool.and_eq_true, decide_eq_true_eq, h1, h2] at h
  exact h

/-- a list of numbers that came with an argument -/
theorem ints_came {H : Type} (enc : TypeId × Value → H) {W : World} {n : Nat} {v : Value} {y : DataW H × List MemPlace} (h : DataW.trod enc Tryd.prog W 0 (fun _ => true) true n 23 [v] = some y) :
    ∃ (a : Option Addr) (len cap : Nat) (zs : List Int), v = .slice a len cap ∧ Ints W a len zs ∧ len ≤ maxLen ∧ ∀ z ∈ zs, Int64 z := by
  rcases open_ints Tryd.underlying23 Tryd.underlying3 (by kernel_rfl) h with ⟨hcs, _⟩ | ⟨a, len, cap, zs, hcs, _, hl, hm, hz, _, hcell, hwf⟩
  · injection hcs with hcs
    exact ⟨none, 0, 0, [], hcs, ⟨rfl, fun i hi => by simp at hi⟩, Nat.zero_le _, fun z h => by cases h⟩
  · injection hcs with hcs
    simp only [if_true] at hz
    refine ⟨some a, len, cap, zs.take len, hcs, ⟨by simp; omega, fun i hi => ?_⟩, Nat.le_trans hl hm, fun z h => int64_of (hwf z (List.mem_of_mem_take h))⟩
    have hi' : i < zs.length := by simp at hi; omega
    obtain ⟨b, off, rfl, hat⟩ := ints_at hcell (by omega)
    refine ⟨b, off, rfl, ?_⟩
    rw [hat i hi', List.getD_eq_getElem?_getD, List.getElem?_eq_getElem hi']
    simp
end Go.Proofs.YthhlbcllhohcnaaDoor
