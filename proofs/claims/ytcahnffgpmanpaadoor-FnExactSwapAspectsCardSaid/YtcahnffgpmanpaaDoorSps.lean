/- SwapAspects of the model, as the plain swZ says. Conditions: at most 2^20 aspects and bytes. -/
import Derived.Test.YtcahnffgpmanpaaDoorSwr
import Derived.Deep.RegionHeldLaw
namespace Go.Proofs.YtcahnffgpmanpaaDoor
open Go.RowKit Gram

set_option maxHeartbeats 400000 in
theorem l1In_asp (n a b : Int) (w : World) : Calls Tryd.prog 20 #[.int .i64 n, .int .i64 a, .int .i64 b] w fun e w' => e = .returned (.bool (decide (a ≤ n) && decide (n ≤ b))) ∧ w = w' := by
  go_enter Tryd.func20, Tryd.ntmps20
  go_wp2_with fail
  all_goals go_ret
  all_goals exact ⟨ret_bool (by simp_all; try (intro h; omega)), rfl⟩

set_option maxHeartbeats 400000 in
theorem pair_any (a : Option Addr) (n c : Nat) (i : Int) (hn : n ≤ 1048576) (w : World) (v : Bool)
    (hv : ∀ w', Below w.heap.size w w' → Calls Tryd.prog 19 #[.slice a n c] w' fun e w'' => e = .returned (.bool v) ∧ Below w'.heap.size w' w'') :
    Calls Tryd.prog 12 #[.slice a n c, .int .i64 i] w fun e w' => e = .returned (.bool (v && (decide (0 ≤ i) && decide (i < (n : Int) - 1)))) ∧ Below w.heap.size w w' := by
  have HV := Lib.hid hv
  have HI := Lib.hid (fun w => l1In_asp i 0 ((n : Int) - 2) w)
  rw [show decide (i ≤ (n : Int) - 2) = decide (i < (n : Int) - 1) by congr 1; apply propext; omega] at HI
  clear hv
  generalize (decide (0 ≤ i) && decide (i < (n : Int) - 1)) = r at *
  cases v with
  | false =>
    go_enter Tryd.func12, Tryd.ntmps12
    go_wp2_with fail
    refine (HV.out _ (Below.refl _ _)).mono ?_
    rintro e w1 ⟨rfl, hb⟩
    go_wp2_with fail
    go_ret
    exact ⟨rfl, hb⟩
  | true =>
    go_enter Tryd.func12, Tryd.ntmps12
    go_wp2_with fail
    refine (HV.out _ (Below.refl _ _)).mono ?_
    rintro e w1 ⟨rfl, hb⟩
    go_wp2_with fail
    refine (HI.out _).mono ?_
    rintro e _ ⟨rfl, rfl⟩
    go_wp2_with fail
    go_ret
    exact ⟨rfl, hb⟩

/-- two aspects in one block -/
def twoC (q p : As) : Obj := .cells #[.string q.1, .string q.2.1, .string q.2.2, .string p.1, .string p.2.1, .string p.2.2] 35
/-- a world in which an empty row lies at e -/
structure Ea (W W' : World) (e : Nat) : Prop where
  cells : W'.heap[e]? = some (.cells #[] 35 (0, 0))
  low : W.heap.size ≤ e
  bel : Below W.heap.size W W'
theorem Ea.one (W : World) : Ea W (W.alloc (.cells #[] 35)) W.heap.size := ⟨heap_alloc_new _ _, Nat.le_refl _, (Below.refl _ _).alloc (Nat.le_refl _) _⟩
theorem Ea.two (W : World) (o : Obj) : Ea W ((W.alloc (.cells #[] 35)).alloc o) W.heap.size :=
  ⟨(alloc_heap _ _ (by rw [alloc_size']; omega)).trans (heap_alloc_new _ _), Nat.le_refl _, ((Below.refl _ _).alloc (Nat.le_refl _) _).alloc (by rw [alloc_size']; omega) _⟩
theorem Ea.late (W : World) (o : Obj) : Ea W ((W.alloc o).alloc (.cells #[] 35)) (W.heap.size + 1) :=
  ⟨by rw [← alloc_size' W o]; exact heap_alloc_new _ _, by omega, ((Below.refl _ _).alloc (Nat.le_refl _) _).alloc (by rw [alloc_size']; omega) _⟩
theorem Ea.drew {W W' : World} {e : Nat} (h : Ea W W' e) : Ea W W'.drew e := ⟨h.cells, h.low, h.bel.drew⟩

/-- what the first append leaves -/
structure Fst (W W' : World) (e k : Nat) (xs : List As) (g c : Nat) (w' : World) : Prop where
  row : Arow w' W.heap.size g k c xs
  bel : Below W.heap.size W w'
  size : W'.heap.size ≤ w'.heap.size
  keep : ∀ j, j < W'.heap.size → j ≠ e → w'.heap[j]? = W'.heap[j]?

theorem first_asp {W W' : World} {B g n c e k : Nat} {xs us : List As} (hE : Ea W W' e) (hR : Arow W B g n c (xs ++ us)) (hk : xs.length = k) (hm : k ≤ 2000) :
    ∃ g' c' w', (Builtin.append_ #[24, 24] 24 #[.slice (some ⟨e, 0, none⟩) 0 0, .slice (some ⟨g, 0, none⟩) k c]).run Tryd.prog W' = .ok (.slice (some ⟨g', 0, none⟩) k c') w' ∧ Fst W W' e k xs g' c' w' := by
  have hg := hR.lt.2
  have he := heap_lt hE.cells
  have hlow := hE.low
  obtain ⟨g', c', w', h1, h2, h3⟩ := more_asps W' W.heap.size e 0 0 [] (arow_e hE.cells hE.low) g 0 k c xs hk (fun j u hu => by
    have h := (Arow.part (xs := []) (ys := xs) (us := us) (by simpa using hR.keep (hE.bel.block g hg))) j u hu
    simpa using h) (by omega) hE.bel.size
  rw [Nat.zero_add] at h1 h2
  rw [List.nil_append] at h2
  exact ⟨g', c', w', h1, h2, hE.bel.grown h3 hE.bel.size (fun j hj => by injection hj with hj; omega), h3.size, fun j hj hne => h3.block j hj (fun e => by injection e with e; exact hne e)⟩

theorem second_asp {W W' : World} {g k c b : Nat} {xs : List As} {p q : As} (hR : Arow W' W.heap.size g k c xs) (hb : W'.heap[b]? = some (twoC q p)) (hB : Below W.heap.size W W') (hk : k ≤ 1000) :
    ∃ g' c' w', (Builtin.append_ #[24, 24] 24 #[.slice (some ⟨g, 0, none⟩) k c, .slice (some ⟨b, 0, none⟩) 2 2]).run Tryd.prog W' = .ok (.slice (some ⟨g', 0, none⟩) (k + 2) c') w' ∧ (Arow w' W.heap.size g' (k + 2) c' (xs ++ [q, p]) ∧ Below W.heap.size W w') := by
  obtain ⟨g', c', w', h1, h2, h3⟩ := more_asps W' W.heap.size g k c xs hR b 0 2 2 [q, p] rfl (fun j u hu => by
    rw [Go.WideShapes.add_plain, Nat.zero_add, Lib.cell_of_heap hb, ← Array.getElem?_toList]
    simpa [asC, asF] using hu) (by omega) hB.size
  exact ⟨g', c', w', h1, h2, hB.grown h3 hB.size (fun j hj => by injection hj with hj; have := hR.lt.1; omega)⟩
theorem twoC_new (W : World) (q p : As) : (W.alloc (twoC q p)).heap[W.heap.size]? = some (twoC q p) := heap_alloc_new _ _
end Go.Proofs.YtcahnffgpmanpaaDoor
