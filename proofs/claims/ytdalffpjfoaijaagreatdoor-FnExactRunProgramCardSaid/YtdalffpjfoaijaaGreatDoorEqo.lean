/- The laws' eqOutcome, markOutcome and heldOutcome. Condition: lists of at most 2^20 numbers. -/
import Derived.Test.YtdalffpjfoaijaaGreatDoorInts
import Derived.Test.YtdalffpjfoaijaaGreatDoorRd
import Derived.Test.YtdalffpjfoaijaaGreatDoorGrow0
namespace Go.Proofs.YtdalffpjfoaijaaGreatDoor
open Go.RowKit

/-- an outcome as a value -/
def oV (v : Int) (a : Option Addr) (n c : Nat) (e : ByteArray) (st : Int) : Value := .agg #[.int .i64 v, .slice a n c, .string e, .int .i64 st]
/-- two outcomes that lie one behind the other -/
theorem two_lie {w w3 : World} {x0 x1 x2 x3 y0 y1 y2 y3 : Value} {t t' : TypeId} (hb : Below (w.heap.size + 1 + 1) ((w.alloc (Obj.cells #[x0, x1, x2, x3] t)).alloc (Obj.cells #[y0, y1, y2, y3] t')) w3) :
    w3.heap[w.heap.size]? = some (.cells #[x0, x1, x2, x3] t (0, 0)) ∧ w3.heap[w.heap.size + 1]? = some (.cells #[y0, y1, y2, y3] t' (0, 0)) ∧ Below w.heap.size w w3 := by
  have h0 := heap_alloc_new w (Obj.cells #[x0, x1, x2, x3] t)
  have h1 := heap_alloc_new (w.alloc (Obj.cells #[x0, x1, x2, x3] t)) (Obj.cells #[y0, y1, y2, y3] t')
  rw [alloc_size'] at h1
  refine ⟨(hb.block _ (by omega)).trans ((alloc_heap _ _ (by rw [alloc_size']; omega)).trans h0), (hb.block _ (by omega)).trans h1, ?_⟩
  exact (((Below.refl w.heap.size w).alloc (Nat.le_refl _) _).alloc (by rw [alloc_size']; omega) _).trans (hb.mono (by omega))
theorem read4 {w : World} {g : Nat} {x0 x1 x2 x3 : Value} {t : TypeId} (h : w.heap[g]? = some (.cells #[x0, x1, x2, x3] t (0, 0))) : w.cell? ⟨g, 0, none⟩ = some x0 ∧ w.cell? ⟨g, 1, none⟩ = some x1 ∧ w.cell? ⟨g, 2, none⟩ = some x2 ∧ w.cell? ⟨g, 3, none⟩ = some x3 := by
  refine ⟨?_, ?_, ?_, ?_⟩ <;> (rw [Lib.cell_of_heap h]; rfl)

set_option maxHeartbeats 1000000 in
set_option maxRecDepth 100000 in
theorem eqOut_any (w : World) (v : Int) (a a' : Option Addr) (n c c' : Nat) (zs : List Int) (e : ByteArray) (st : Int) (hA : Ints w a n zs) (hB : Ints w a' n zs) (hn : n ≤ 1048576) :
    Calls Tryz.prog 7 #[oV v a n c e st, oV v a' n c' e st] w fun r w' => r = .returned (.bool true) ∧ Below w.heap.size w w' := by
  have HE := Lib.hid (fun w' hb => eqInts_any w' a a' n c n c' zs zs (hA.later hb) (hB.later hb) (by omega) (by omega))
  have hz : (zs == zs) = true := by simp
  rw [hz] at HE
  clear hA hB hz
  unfold oV
  go_enter Tryz.func7, Tryz.ntmps7
  go_wp2_with fail
  refine (HE.out _ (((Below.refl w.heap.size w).alloc (Nat.le_refl _) _).alloc (by simp) _)).mono ?_
  rintro r w3 ⟨rfl, hb⟩
  rw [alloc_size', alloc_size'] at hb
  obtain ⟨l0, l1, hB⟩ := two_lie hb
  have HB := Lib.hid hB
  obtain ⟨_, _, q2, q3⟩ := read4 l0
  obtain ⟨_, _, r2, r3⟩ := read4 l1
  clear hb l0 l1 hB
  go_wp2_with fail
  go_ret
  exact ⟨rfl, HB.out⟩


/-- a row of numbers is a list of them -/
theorem ints_of {w : World} {B n c : Nat} {a : Option Addr} {zs : List Int} (h : w.ownsRow B 3 1 (.slice a n c) n (intVs zs)) : Ints w a n zs := by
  have hl : zs.length = n := by have := h.1; rw [intVs_len] at this; omega
  refine ⟨hl, fun i hi => ?_⟩
  rcases h.2 with ⟨h1, h2⟩ | ⟨g, cap, cur, h1, hb, hc, hm⟩
  · omega
  · injection h1 with h1 h2 h3
    subst h1; subst h3
    exact ⟨g, 0, rfl, by
      rw [Nat.zero_add]
      exact row_cell h i _ (by simp [intVs, hi])⟩

/-- numbers in order from k on, n of them, in front of what stands behind -/
def nums (k : Nat) (j : Nat) (zs : List Int) : List Int := (List.range' k j).map (fun i => ((i : Nat) : Int)) ++ zs.drop j
theorem nums_zero (k : Nat) (zs : List Int) : nums k 0 zs = zs := by simp [nums]
theorem nums_len (k j : Nat) (zs : List Int) (h : j ≤ zs.length) : (nums k j zs).length = zs.length := by simp [nums]; omega
theorem nums_get (k j : Nat) (zs : List Int) (i : Nat) (hi : i < j) : (nums k j zs)[i]? = some (((k + i : Nat)) : Int) := by
  unfold nums
  rw [List.getElem?_append_left (by simp; exact hi), List.getElem?_map, List.getElem?_range' hi]
  simp
theorem nums_set (k j : Nat) (zs : List Int) (h : j < zs.length) : (nums k j zs).set j ((k + j : Nat) : Int) = nums k (j + 1) zs := by
  apply List.ext_getElem?
  intro i
  rw [List.getElem?_set]
  by_cases hij : j = i
  · subst hij
    rw [if_pos rfl, if_pos (by rw [nums_len k j zs (by omega)]; exact h), nums_get k (j + 1) zs j (by omega)]
  · rw [if_neg hij]
    by_cases hlt : i < j
    · rw [nums_get k j zs i hlt, nums_get k (j + 1) zs i (by omega)]
    · unfold nums
      rw [List.getElem?_append_right (by simp; omega), List.getElem?_append_right (by simp; omega)]
      simp only [List.length_map, List.length_range', List.getElem?_drop]
      congr 1
      omega

theorem intVs_set (zs : List Int) (j : Nat) (x : Int) : intVs (zs.set j x) = (intVs zs).set j (.int .i64 x) := by simp [intVs, List.map_set]

set_option maxHeartbeats 1000000 in
set_option maxRecDepth 100000 in
theorem markI_any (a : Option Addr) (n c B k0 : Nat) (zs : List Int) (w : World) (hn : n ≤ 1048576) (hkb : k0 ≤ 1000) (ha : w.ownsRow B 3 1 (.slice a n c) n (intVs zs)) :
    Calls Tryz.prog 18 #[.slice a n c, .int .i64 k0] w fun e w' => e = .returned (.int .i64 (k0 + n : Nat)) ∧ w'.ownsRow B 3 1 (.slice a n c) n (intVs (nums k0 n zs)) ∧ w.grownBy w' (Value.slice a n c).ownBlock := by
  have hl : zs.length = n := by have := ha.1; rw [intVs_len] at this; omega
  have HL := Lib.hid hl
  have HA := Lib.hid ha
  clear ha hl
  go_enter Tryz.func18, Tryz.ntmps18
  go_wp2_with fail
  go_loopw [1, 5] (fun k i wr => ∃ j : Nat, j ≤ n ∧ i = .int .i64 j ∧ k = .int .i64 (k0 + j : Nat) ∧ Hid (wr.ownsRow B 3 1 (.slice a n c) n (intVs (nums k0 j zs)) ∧ w.grownBy wr (Value.slice a n c).ownBlock)) (fun _ i _ => n - (intOf i).toNat)
  case atStart => exact ⟨0, Nat.zero_le _, by go_num, by go_num, by rw [nums_zero]; exact ⟨HA.out, World.grownBy.refl _ _⟩⟩
  case round =>
    obtain ⟨j, hj, rfl, rfl, hr⟩ := hrel
    by_cases hlt : j < n
    · have hlm : (nums k0 j zs).length = n := by rw [nums_len k0 j zs (by rw [HL.out]; omega), HL.out]
      obtain ⟨g, off, rfl, c0⟩ := (ints_of hr.out.1).at_ j (by rw [hlm]; exact hlt)
      have hoff : off = 0 := by
        rcases hr.out.1.2 with ⟨h1, _⟩ | ⟨g', cap, cur, h1, _⟩
        · cases h1
        · injection h1 with h1; injection h1 with h1; injection h1
      subst hoff
      rw [Nat.zero_add] at c0
      have f0 := row_free hr.out.1 j
      have HS := Lib.hid (show (wr.setCell ⟨g, j, none⟩ (.int .i64 (k0 + j : Nat))).ownsRow B 3 1 (.slice (some ⟨g, 0, none⟩) n c) n (intVs (nums k0 (j + 1) zs)) ∧ w.grownBy (wr.setCell ⟨g, j, none⟩ (.int .i64 (k0 + j : Nat))) (some g) from by
        refine ⟨?_, grownBy_trans hr.out.2 (grownBy_set _)⟩
        have := row_set hr.out.1 j (.int .i64 (k0 + j : Nat))
        rw [← intVs_set, nums_set _ _ _ (by rw [HL.out]; exact hlt)] at this
        exact this)
      generalize (nums k0 j zs)[j] = x0 at *
      clear hlm
      go_wp2_with fail
      exact ⟨⟨j + 1, by omega, by go_num, by go_num, HS.out⟩, by simp [intOf]; omega⟩
    · have hjn : j = n := by omega
      subst hjn
      go_wp2_with fail
      go_ret
      exact ⟨rfl, hr.out⟩

set_option maxHeartbeats 1000000 in
set_option maxRecDepth 100000 in
theorem heldI_any (a : Option Addr) (n c B k0 : Nat) (zs : List Int) (w : World) (hn : n ≤ 1048576) (hkb : k0 ≤ 1000) (ha : w.ownsRow B 3 1 (.slice a n c) n (intVs (nums k0 n zs))) :
    Calls Tryz.prog 19 #[.slice a n c, .int .i64 k0] w fun e w' => e = .returned (.int .i64 (k0 + n : Nat)) ∧ Below w.heap.size w w' := by
  have HI := Lib.hid (ints_of ha)
  clear ha
  go_enter Tryz.func19, Tryz.ntmps19
  go_wp2_with fail
  go_loopw [1, 5] (fun k i wr => ∃ j : Nat, j ≤ n ∧ i = .int .i64 j ∧ k = .int .i64 (k0 + j : Nat) ∧ Hid (Below w.heap.size w wr)) (fun _ i _ => n - (intOf i).toNat)
  case atStart => exact ⟨0, Nat.zero_le _, by go_num, by go_num, Below.refl _ _⟩
  case round =>
    obtain ⟨j, hj, rfl, rfl, hb⟩ := hrel
    by_cases hlt : j < n
    · obtain ⟨g, off, rfl, c0⟩ := HI.out.at_ j (by rw [HI.out.len]; exact hlt)
      have hg := nums_get k0 n zs j hlt
      rw [List.getElem?_eq_getElem (by rw [HI.out.len]; exact hlt)] at hg
      injection hg with hg
      rw [hg] at c0
      have c1 : wr.cell? ⟨g, off + j, none⟩ = some (.int .i64 ((k0 + j : Nat) : Int)) := by rw [hb.out.cell (p := ⟨g, off + j, none⟩) (World.block_lt_of_cell? w _ c0)]; exact c0
      clear c0 hg
      go_wp2_with fail
      exact ⟨⟨j + 1, by omega, by go_num, by go_num, hb.out⟩, by simp [intOf]; omega⟩
    · have hjn : j = n := by omega
      subst hjn
      go_wp2_with fail
      go_ret
      exact ⟨rfl, hb.out⟩

set_option maxHeartbeats 1000000 in
set_option maxRecDepth 100000 in
theorem markO_one (a : Option Addr) (n c B : Nat) (zs : List Int) (v : Int) (en : ByteArray) (st : Int) (w : World) (hn : n ≤ 1048576) (ha : w.ownsRow B 3 1 (.slice a n c) n (intVs zs)) :
    Calls Tryz.prog 8 #[oV v a n c en st, .int .i64 1] w fun e w' => e = .returned (.int .i64 (1 + n : Nat)) ∧ w'.ownsRow B 3 1 (.slice a n c) n (intVs (nums 1 n zs)) ∧ w.grownBy w' (Value.slice a n c).ownBlock := by
  have HM := Lib.hid (markI_any a n c B 1 zs (w.alloc (Obj.cells #[.int .i64 v, .slice a n c, .string en, .int .i64 st] 24)) hn (by omega) (ha.alloc _))
  have HG := Lib.hid (World.grownBy_alloc w (Obj.cells #[.int .i64 v, .slice a n c, .string en, .int .i64 st] 24) (Value.slice a n c).ownBlock)
  clear ha
  unfold oV
  go_enter Tryz.func8, Tryz.ntmps8
  go_wp2_with fail
  refine HM.out.mono ?_
  rintro e w2 ⟨rfl, h1, h2⟩
  have HX := Lib.hid (⟨h1, grownBy_trans HG.out h2⟩ : _ ∧ _)
  clear h1 h2
  go_wp2_with fail
  go_ret
  exact ⟨rfl, HX.out⟩
set_option maxHeartbeats 1000000 in
set_option maxRecDepth 100000 in
theorem heldO_one (a : Option Addr) (n c B : Nat) (zs : List Int) (v : Int) (en : ByteArray) (st : Int) (w : World) (hn : n ≤ 1048576) (ha : w.ownsRow B 3 1 (.slice a n c) n (intVs (nums 1 n zs))) :
    Calls Tryz.prog 9 #[oV v a n c en st, .int .i64 1] w fun e w' => e = .returned (.int .i64 (1 + n : Nat)) ∧ Below w.heap.size w w' := by
  have HM := Lib.hid (heldI_any a n c B 1 zs (w.alloc (Obj.cells #[.int .i64 v, .slice a n c, .string en, .int .i64 st] 24)) hn (by omega) (ha.alloc _))
  have HG := Lib.hid ((Below.refl w.heap.size w).alloc (Nat.le_refl _) (Obj.cells #[.int .i64 v, .slice a n c, .string en, .int .i64 st] 24))
  clear ha
  unfold oV
  go_enter Tryz.func9, Tryz.ntmps9
  go_wp2_with fail
  refine HM.out.mono ?_
  rintro e w2 ⟨rfl, h2⟩
  have HX := Lib.hid (HG.out.trans (h2.mono HG.out.size))
  clear h2
  go_wp2_with fail
  go_ret
  exact ⟨rfl, HX.out⟩
end Go.Proofs.YtdalffpjfoaijaaGreatDoor
