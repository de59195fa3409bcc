/- JoinPointsOf of the program and of the model. Conditions: texts of at most 2^30 bytes, and the library's own number can be read. -/
import Derived.Test.YtdalffpjfoaijaaGreatDoorRx
import Derived.Test.YtdalffpjfoaijaaGreatDoorMx
import Derived.Test.YtdalffpjfoaijaaGreatDoorRpf
namespace Go.Proofs.YtdalffpjfoaijaaGreatDoor
open Go.RowKit Gram

/-- the join points of a run, if there is one -/
def ptsP (o : Option (Mst × Option Fin)) : List Jpt := match o with
  | some r => r.1.pts
  | none => []
/-- what JoinPointsOf hands back -/
def PtsTo (o : Option (Mst × Option Fin)) (w : World) (e : Ending) (w' : World) : Prop :=
  (∃ a c, e = .returned (.tuple #[.slice a (ptsP o).length c, .bool o.isSome]) ∧ w'.ownsRow w.heap.size 56 3 (.slice a (ptsP o).length c) (ptsP o).length (jpC (ptsP o))) ∧ Below w.heap.size w w'

set_option maxHeartbeats 1000000 in
set_option maxRecDepth 100000 in
theorem impl_pts (s nm : ByteArray) (v : Int) (w : World) (hs : s.size ≤ 1073741824) (hm : MaxCell w) :
    Calls Tryz.prog 11 #[.string s, .string nm, .int .i64 v] w (PtsTo (runP s nm v) w) := by
  have HF := Lib.hid (run_of s nm v w hs hm)
  clear hm hs
  cases hr : runP s nm v with
  | none =>
    go_enter Tryz.func11, Tryz.ntmps11
    go_wp2_with fail
    refine HF.out.mono ?_
    rintro e w1 ⟨hx, hb⟩
    rw [hr] at hx
    subst hx
    have HB := Lib.hid hb
    clear hb hr
    go_wp2_with fail
    go_ret2
    exact ⟨⟨none, 0, rfl, World.ownsRow_nil _ _ _ _⟩, HB.out⟩
  | some r =>
    go_enter Tryz.func11, Tryz.ntmps11
    go_wp2_with fail
    refine HF.out.mono ?_
    rintro e w1 ⟨hx, hb⟩
    rw [hr] at hx
    obtain ⟨B, rb, S, qs, pv, oa, ja, oc, jc, rfl, hB, hD, hPw, hpr⟩ := hx
    have c5 : w1.cell? ⟨rb, 5, none⟩ = some (.slice ja r.1.pts.length jc) := hD.cell 5
    have HB := Lib.hid (⟨hb, hD, hB⟩ : _ ∧ _ ∧ _)
    clear hb hr hB hD hPw hpr
    go_wp2_with fail
    go_ret2
    exact ⟨⟨ja, jc, rfl, ownsRow_base HB.out.2.1.pts fun g hg => Nat.le_trans HB.out.2.2 (row_block HB.out.2.1.pts hg).1⟩, HB.out.1⟩

/-- join points put behind an empty row -/
theorem app_row (W : World) (B g0 : Nat) (h0 : W.heap[g0]? = some (Obj.cells #[] 56 (0, 0))) (hB : B ≤ g0) (B' n c : Nat) (a : Option Addr) (js : List Jpt) (hs : W.ownsRow B' 56 3 (.slice a n c) n (jpC js)) (hn : n ≤ 1000) :
    ∃ g c' w', (Builtin.append_ #[30, 30] 30 #[.slice (some ⟨g0, 0, none⟩) 0 0, .slice a n c]).run Tryz.prog W = .ok (.slice (some ⟨g, 0, none⟩) n c') w' ∧
      w'.ownsRow B 56 3 (.slice (some ⟨g, 0, none⟩) n c') n (jpC js) ∧ W.grownBy w' (some g0) := by
  obtain ⟨i0, hi, hz0, hz1, hz2⟩ := info_parts info_jp
  have hl : js.length = n := by have := hs.1; rw [jpC_len] at this; omega
  have hrow : W.ownsRow B 56 3 (.slice (some ⟨g0, 0, none⟩) 0 0) 0 [] := ⟨rfl, .inr ⟨g0, 0, #[], rfl, hB, h0, Nat.le_refl _, Nat.zero_le _, by simp, by simp⟩⟩
  by_cases hn0 : n = 0
  · subst hn0
    have hjs : js = [] := List.length_eq_zero_iff.1 hl
    subst hjs
    have hsrc : Src Tryz.prog i0.size 30 (.slice a 0 c) 0 [] W := by
      cases a with
      | none => exact Src.ofNil W Tryz.underlying30 c
      | some a => exact Src.ofSlice W Tryz.underlying30 a 0 c [] (by simp) (fun j u h => by simp at h) (fun _ h => by cases h)
    exact ⟨g0, 0, W, run_append_nothing W _ _ _ 56 i0 Tryz.underlying30 hi (some ⟨g0, 0, none⟩) 0 0 (Nat.le_refl _) _ hsrc, hrow, ⟨rfl, rfl, rfl, Nat.le_refl _, fun _ _ _ => rfl⟩⟩
  · rcases hs.2 with ⟨h1, h2⟩ | ⟨gs, cap, cur, h1, _, hc, _⟩
    · omega
    · injection h1 with h1 _ h3
      subst h1; subst h3
      obtain ⟨g', c', w', hrun, h2, h3, _, _⟩ := run_append_lies (P := Tryz.prog) W 30 30 B 56 i0 (.agg #[.string ⟨#[]⟩, .string ⟨#[]⟩, .string ⟨#[]⟩]) 3 48 Tryz.underlying30 hi hz0 hz1 hz2 rfl (by decide) (.slice (some ⟨g0, 0, none⟩) 0 0) 0 [] hrow ⟨gs, 0, none⟩ n c (jpC js) (by rw [jpC_len, hl])
        (fun j u hu => by
          rw [Go.WideShapes.add_plain, Nat.zero_add]
          exact row_cell hs j u hu) (by
          intro u hu
          simp only [jpC, List.mem_flatMap] at hu
          obtain ⟨j, _, hj⟩ := hu
          simp at hj
          rcases hj with rfl | rfl | rfl <;> rfl) (by omega) (by unfold maxLen; omega) (by omega) (by have := heap_lt h0; omega) W.heap.size rfl
      rw [Nat.zero_add] at hrun h2
      exact ⟨g', c', w', hrun, h2, h3⟩

set_option maxHeartbeats 1000000 in
set_option maxRecDepth 100000 in
theorem spec_pts (s nm : ByteArray) (v : Int) (w : World) (hs : s.size ≤ 1073741824) :
    Calls Tryz.prog 10 #[.string s, .string nm, .int .i64 v] w (PtsTo (runP s nm v) w) := by
  have hba : Below w.heap.size w (w.alloc (Obj.cells #[] 100)) := (Below.refl _ _).alloc (Nat.le_refl _) _
  have HF := Lib.hid (start_any s nm v (some ⟨w.heap.size, 0, none⟩) 0 (w.alloc (Obj.cells #[] 100)) hs)
  have HA := Lib.hid hba
  have HZ := Lib.hid (alloc_size' w (Obj.cells #[] 100))
  clear hs hba
  cases hr : runP s nm v with
  | none =>
    go_enter Tryz.func10, Tryz.ntmps10
    go_wp2_with fail
    refine HF.out.mono ?_
    rintro e w1 ⟨hx, hb⟩
    rw [hr] at hx
    obtain ⟨rb, rfl⟩ := hx
    have HB := Lib.hid (HA.out.trans (hb.mono HA.out.size))
    clear hb hr
    go_wp2_with fail
    go_ret2
    exact ⟨⟨some ⟨w1.heap.size, 0, none⟩, 0, rfl, ⟨rfl, .inr ⟨w1.heap.size, 0, #[], rfl, HB.out.size, heap_alloc_new w1 _, Nat.le_refl _, Nat.zero_le _, by simp [ptsP], by simp [ptsP, jpC]⟩⟩⟩, HB.out.alloc HB.out.size _⟩
  | some r =>
    have hsm := (runP_small hr).2
    go_enter Tryz.func10, Tryz.ntmps10
    go_wp2_with fail
    refine HF.out.mono ?_
    rintro e w1 ⟨hx, hb⟩
    rw [hr] at hx
    obtain ⟨B, rb, pv, av, cv, oa, ja, oc, jc, rfl, hB, hD⟩ := hx
    have c7 : w1.cell? ⟨rb, 7, none⟩ = some (.slice ja r.1.pts.length jc) := hD.cell 7
    have HB := Lib.hid (HA.out.trans (hb.mono HA.out.size))
    have hx : Below w1.heap.size w1 (w1.alloc (Obj.cells #[] 56)) := (Below.refl _ _).alloc (Nat.le_refl _) _
    have d7 : (w1.alloc (Obj.cells #[] 56)).cell? ⟨rb, 7, none⟩ = some (.slice ja r.1.pts.length jc) := (later_m hD hx).cell 7
    obtain ⟨g', c', w2, hrun, hrow, hg⟩ := app_row (w1.alloc (Obj.cells #[] 56)) w.heap.size w1.heap.size (heap_alloc_new w1 _) HB.out.size B r.1.pts.length jc ja r.1.pts ((later_m hD hx).pts) (by omega)
    have RUN := Lib.hid hrun
    have HR := Lib.hid (⟨hrow, (HB.out.alloc HB.out.size _).grown hg (by rw [alloc_size']; exact Nat.le_succ_of_le HB.out.size) (fun j hj => by injection hj with hj; have := HB.out.size; omega)⟩ : _ ∧ Below w.heap.size w w2)
    clear hb hr hB hD hx hrun hrow hg c7
    go_wp2_with (at_builtin; go_loud (refine Lib.wpList_append_run _ rfl (.tmp 21) (.tmp 25) _ _ rfl _ _ rfl rfl _ _ RUN.out ?_))
    go_wp2_with fail
    go_ret2
    exact ⟨⟨_, _, rfl, HR.out.1⟩, HR.out.2⟩
end Go.Proofs.YtdalffpjfoaijaaGreatDoor
