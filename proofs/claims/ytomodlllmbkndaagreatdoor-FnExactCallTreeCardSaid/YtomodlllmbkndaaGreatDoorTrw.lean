/- The closures of treeOf: hasCall, and write, which calls itself: the text of the trees of calls. Condition: at most 2000 calls. -/
import Derived.Test.YtomodlllmbkndaaGreatDoorWby
import Derived.Test.YtomodlllmbkndaaGreatDoorTre
import Derived.Test.YtomodlllmbkndaaGreatDoorPto
namespace Go.Proofs.YtomodlllmbkndaaGreatDoor
open Go.RowKit Gram

theorem wstr_add (x y z : ByteArray) (h : x.size + y.size ≤ 9223372036854775807) (hz : x ++ y = z) (w : World) : (Op.stringOp .add x y).run Tryz.prog w = .ok (.string z) w := by subst hz; exact run_string_add_sum w x y h
theorem txt_app (a b : List UInt8) : txtOf a ++ txtOf b = txtOf (a ++ b) := by
  apply ByteArray.ext; simp [txtOf]
theorem FoT.len {stk : List UInt8} {F : List Jpt} {t : List UInt8} (h : FoT stk F t) : t.length ≤ 3 * F.length := by
  induction h with
  | nil => simp
  | cons _ _ ih1 ih2 =>
    rename_i t1 t2 _ _
    have : (parT t1).length ≤ t1.length + 2 := by unfold parT; split <;> simp
    have h0 : t1 = [] → (parT t1).length = 0 := fun h => by unfold parT; rw [if_pos h]; rfl
    simp only [List.length_cons, List.length_append]
    by_cases h1 : t1 = []
    · have := h0 h1; subst h1; omega
    · have : 1 ≤ t1.length := by cases t1 with
        | nil => exact absurd rfl h1
        | cons _ _ => simp
      omega

/-- the calls that are still to be written -/
def Cal (w : World) (cb : Nat) (F : List Jpt) : Prop :=
  ∃ a c, w.heap[cb]? = some (.cells #[.slice a F.length c] 44 (0, 0)) ∧ F.length ≤ c ∧ c ≤ maxLen ∧ (F ≠ [] → ∃ g off cur fz, a = some ⟨g, off, none⟩ ∧ w.heap[g]? = some (.cells cur 49 fz) ∧
    ∀ k (h : k < F.length), cur[off + k * 3]? = some (.string (kT F[k])) ∧ cur[off + k * 3 + 1]? = some (.string (nT F[k])) ∧ cur[off + k * 3 + 2]? = some (.string (sT F[k])))
theorem Cal.rest {w w' : World} {cb : Nat} {F : List Jpt} (h : Cal w cb F) (hr : Rest w w') : Cal w' cb F := by
  obtain ⟨a, c, h1, h2, h3, h4⟩ := h
  refine ⟨a, c, hr _ _ _ _ h1 (by decide) (by decide), h2, h3, fun hF => ?_⟩
  obtain ⟨g, off, cur, fz, h5, h6, h7⟩ := h4 hF
  exact ⟨g, off, cur, fz, h5, hr _ _ _ _ h6 (by decide) (by decide), h7⟩
theorem Cal.lt {w : World} {cb : Nat} {F : List Jpt} (h : Cal w cb F) : cb < w.heap.size := by
  obtain ⟨a, c, h1, _⟩ := h
  exact heap_lt h1
/-- how many are left -/
def lenAt (w : World) (cb : Nat) : Nat := match w.cell? ⟨cb, 0, none⟩ with | some (.slice _ n _) => n | _ => 0
theorem Cal.lenAt {w : World} {cb : Nat} {F : List Jpt} (h : Cal w cb F) : lenAt w cb = F.length := by
  obtain ⟨a, c, h1, _⟩ := h
  unfold Go.Proofs.YtomodlllmbkndaaGreatDoor.lenAt
  rw [Lib.cell_of_heap h1]; rfl
/-- the first one is taken -/
theorem jslice_tail (g off n c : Nat) (h1 : 1 ≤ n) (h2 : n ≤ c) (w : World) :
    (Instr.slice 44 (.slice (some ⟨g, off, none⟩) n c) (some (.int .i64 1)) none none).run Tryz.prog w = .ok (.slice (some ⟨g, if c = 1 then off else off + 3, none⟩) (n - 1) (c - 1)) w := by
  have hz : (sizeOf (Tryz.prog.elem 44)).run Tryz.prog w = .ok 3 w := by kernel_rfl
  rw [run_slice_l (P := Tryz.prog) (w := w) (t := 44) (ht := by kernel_rfl) (kl := .i64) (l := 1) (h0 := by omega) (h1 := by omega), hz]
  simp only [Result.andThen, sliced, Int.toNat_one]
  split
  · rfl
  · rw [Option.map_some, Go.WideShapes.add_plain]
theorem Cal.first {w : World} {cb : Nat} {j : Jpt} {F : List Jpt} (h : Cal w cb (j :: F)) :
    ∃ g off c, w.cell? ⟨cb, 0, none⟩ = some (.slice (some ⟨g, off, none⟩) (F.length + 1) c) ∧ w.frozen? ⟨cb, 0, none⟩ = false ∧ F.length + 1 ≤ c ∧ w.cell? ⟨g, off, none⟩ = some (.string (kT j)) ∧ w.cell? ⟨g, off + 1, none⟩ = some (.string (nT j)) ∧ w.cell? ⟨g, off + 2, none⟩ = some (.string (sT j)) ∧
      ∀ w', Rest w w' → w'.heap[cb]? = w.heap[cb]? → Cal (w'.setCell ⟨cb, 0, none⟩ (.slice (some ⟨g, if c = 1 then off else off + 3, none⟩) F.length (c - 1))) cb F := by
  obtain ⟨a, c, h1, h2, h3, h4⟩ := h
  obtain ⟨g, off, cur, fz, rfl, h6, h7⟩ := h4 (by simp)
  obtain ⟨k0, k1, k2⟩ := h7 0 (by simp)
  simp only [Nat.zero_mul, Nat.add_zero, List.getElem_cons_zero, List.length_cons] at k0 k1 k2 h2 h1
  refine ⟨g, off, c, Lib.cell_of_heap h1 0, Lib.frozen_of_heap h1 0, h2, by rw [Lib.cell_of_heap h6]; exact k0, by rw [Lib.cell_of_heap h6]; exact k1, by rw [Lib.cell_of_heap h6]; exact k2, fun w' hr hc => ?_⟩
  refine ⟨_, c - 1, by rw [heap_set_same (hc.trans h1)]; rfl, by omega, by omega, fun hF => ?_⟩
  have hl : 0 < F.length := List.length_pos_iff.2 hF
  refine ⟨g, _, cur, fz, rfl, ?_, fun k hk => ?_⟩
  · rw [heap_set_other]
    · exact hr _ _ _ _ h6 (by decide) (by decide)
    · rintro rfl
      rw [h1] at h6
      injection h6 with h6
      injection h6 with _ ht _
      exact absurd ht (by decide)
  · obtain ⟨m0, m1, m2⟩ := h7 (k + 1) (by simp; omega)
    rw [if_neg (by omega)]
    simp only [List.getElem_cons_succ] at m0 m1 m2
    rw [show off + 3 + k * 3 = off + (k + 1) * 3 by omega]
    exact ⟨m0, m1, m2⟩

/-- whether the next call is one of what is active -/
def headIs (F : List Jpt) (st : ByteArray) : Bool := match F with | [] => false | j :: _ => (sT j).toList == st.toList

set_option maxHeartbeats 1000000 in
theorem thc_any (cb : Nat) (F : List Jpt) (st : ByteArray) (w : World) (h : Cal w cb F) :
    Calls Tryz.prog 47 #[.string st, .pointer (some ⟨cb, 0, none⟩)] w fun e w' => e = .returned (.bool (headIs F st)) ∧ w' = w := by
  cases F with
  | nil =>
    obtain ⟨a, c, h1, _⟩ := h
    have c0 : w.cell? ⟨cb, 0, none⟩ = some (.slice a 0 c) := Lib.cell_of_heap h1 0
    clear h1
    go_enter Tryz.func47, Tryz.ntmps47
    go_wp2_with fail
    go_ret
    exact ⟨rfl, rfl⟩
  | cons j F =>
    obtain ⟨g, off, c, c0, _, _, d0, d1, d2, _⟩ := h.first
    have hi : (0 : Int) < ((F.length : Nat) : Int) + 1 := by omega
    have hh : headIs (j :: F) st = ((sT j).toList == st.toList) := rfl
    have HH := Lib.hid hh
    clear hh h
    generalize sT j = z at *
    generalize hbb : (z.toList == st.toList) = bb at *
    go_enter Tryz.func47, Tryz.ntmps47
    go_wp2_with fail
    go_ret
    exact ⟨by rw [HH.out]; rfl, rfl⟩
end Go.Proofs.YtomodlllmbkndaaGreatDoor
