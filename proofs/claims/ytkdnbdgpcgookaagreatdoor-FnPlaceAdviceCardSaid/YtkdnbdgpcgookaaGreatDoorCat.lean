/- slices.Grow and slices.Concat at rows of statements. Condition: at least one and at most 2000 elements together. -/
import Derived.Test.YtkdnbdgpcgookaaGreatDoorKx
import Derived.Lib.AppendZeros
import Derived.Deep.AppendLies
import Derived.Deep.Upon
namespace Go.Proofs.YtkdnbdgpcgookaaGreatDoor
open Go.RowKit Gram

set_option maxHeartbeats 1000000 in
set_option maxRecDepth 100000 in
theorem grow_stmts (n : Nat) (w : World) (h0 : 0 < n) (hn : n ≤ 2000) :
    Calls Tryz.prog 99 #[.slice none 0 0, .int .i64 n] w fun e w' => ∃ c, e = .returned (.slice (some ⟨w.heap.size, 0, none⟩) 0 c) ∧
      w'.ownsRow w.heap.size 72 1 (.slice (some ⟨w.heap.size, 0, none⟩) 0 c) 0 [] ∧ Below w.heap.size w w' := by
  obtain ⟨i0, hi, hz0, hz1, hz2⟩ := info_parts info_stm
  have hrz := fun ty => Lib.run_append_nil_zeros (P := Tryz.prog) w 55 3 ty 72 i0 .nilIface .i64 .i64 Tryz.underlying55 Tryz.underlying3 hi hz0 n h0 (by omega) (by omega) (by rw [hz2]; omega)
  have hGn : n ≤ grownCap w n 0 72 := grownCap_ge w _ _ _
  have hGm : grownCap w n 0 72 ≤ maxLen := grownCap_le_maxLen w n 0 72 (by unfold maxLen; omega)
  generalize grownCap w n 0 72 = G at *
  have hG63 : G ≤ 9223372036854775807 := by unfold maxLen at hGm; omega
  have HZ := Lib.hid hrz
  have HM := Lib.hid hGm
  have h1 : ¬ ((n : Int) < 0) := by omega
  have h4 : (n : Int) > 0 := by omega
  clear hrz hGm hi hz0 hz1 hz2
  go_enter Tryz.func99, Tryz.ntmps99
  go_wp2_with (at_builtin; refine Lib.wpList_append_run _ rfl _ _ _ _ rfl _ _ rfl rfl _ _ (HZ.out _) ?_)
  go_ret
  refine ⟨G, rfl, ⟨rfl, .inr ⟨w.heap.size, G, _, rfl, Nat.le_refl _, heap_alloc_new w.drew _, Nat.zero_le _, HM.out, ?_, by simp⟩⟩, (Below.refl _ w).drew.alloc (Nat.le_refl _) _⟩
  simp [size_zeroCells]
  omega

/-- a row of statements put behind another one, both as they lie -/
theorem append_stmts (w : World) (B g t cap : Nat) (xs : List Value) (hown : w.ownsRow B 72 1 (.slice (some ⟨g, 0, none⟩) t cap) t xs) (a : Option Addr) (n c : Nat) (vs : List Value)
    (hr : w.ownsRow 0 72 1 (.slice a n c) n vs) (h1 : ∀ u ∈ vs, u.oneCell' = true) (hmax : t + n ≤ 2000) (hB : B ≤ w.heap.size) :
    ∃ g' cap' w', (Builtin.append_ #[55, 55] 55 #[.slice (some ⟨g, 0, none⟩) t cap, .slice a n c]).run Tryz.prog w = .ok (.slice (some ⟨g', 0, none⟩) (t + n) cap') w' ∧
      w'.ownsRow B 72 1 (.slice (some ⟨g', 0, none⟩) (t + n) cap') (t + n) (xs ++ vs) ∧ w.grownBy w' (some g) := by
  obtain ⟨i0, hi, hz0, hz1, hz2⟩ := info_parts info_stm
  by_cases h0 : n = 0
  · subst h0
    have hvs : vs = [] := List.length_eq_zero_iff.1 (by simpa using hr.1)
    subst hvs
    have htc : t ≤ cap := by
      rcases hown.2 with ⟨h, _⟩ | ⟨g', cap', cur, h, _, _, h2, _⟩
      · injection h with h; cases h
      · injection h with _ _ h3; omega
    have hsrc : Src Tryz.prog i0.size 55 (.slice a 0 c) 0 [] w := by
      cases a with
      | none => exact Src.ofNil w Tryz.underlying55 c
      | some a => exact Src.ofSlice w Tryz.underlying55 a 0 c [] (by simp) (fun j u h => by simp at h) (fun _ h => by cases h)
    refine ⟨g, cap, w, run_append_nothing w _ _ _ 72 i0 Tryz.underlying55 hi (some ⟨g, 0, none⟩) t cap htc _ hsrc, by simpa using hown, ⟨rfl, rfl, rfl, Nat.le_refl _, fun _ _ _ => rfl⟩⟩
  · obtain ⟨gs, rfl⟩ : ∃ gs, a = some ⟨gs, 0, none⟩ := by
      rcases hr.2 with ⟨h, h2⟩ | ⟨g', cap', cur, h, _⟩
      · exact absurd h2 h0
      · injection h with h _ h3; exact ⟨g', h⟩
    have hl : vs.length = n * 1 := hr.1
    obtain ⟨g', c', w', hrun, h2, h3, _, _⟩ := run_append_lies (P := Tryz.prog) w 55 55 B 72 i0 .nilIface 1 16 Tryz.underlying55 hi hz0 hz1 hz2 rfl (by decide) (.slice (some ⟨g, 0, none⟩) t cap) t xs hown ⟨gs, 0, none⟩ n c vs hl
      (fun j u hj => by
        have := row_cell (show w.ownsRow 0 72 1 (.slice (some ⟨gs, 0, none⟩) n c) n vs from hr) j u hj
        rw [Addr.add_lit]; simpa using this) h1 (by omega) (by unfold maxLen; omega) (by omega) hB w.heap.size rfl
    exact ⟨g', c', w', hrun, h2, h3⟩

theorem ownsRow_low {w : World} {B g n cap t size : Nat} {xs : List Value} {e : TypeId} (h : w.ownsRow B e size (.slice (some ⟨g, 0, none⟩) n cap) t xs) : B ≤ g := by
  rcases h.2 with ⟨h, _⟩ | ⟨g', cap', cur, h, hb, _⟩
  · injection h with h; cases h
  · injection h with h; injection h with h; injection h with h; omega

set_option maxHeartbeats 2000000 in
set_option maxRecDepth 100000 in
theorem concat_two (w : World) (A : Nat) (a b : Option Addr) (n m c d : Nat) (vs us : List Value) (hA : w.heap[A]? = some (.cells #[.slice a n c, .slice b m d] 55 (0, 0)))
    (ha : w.ownsRow 0 72 1 (.slice a n c) n vs) (hb : w.ownsRow 0 72 1 (.slice b m d) m us) (la : ∀ g, (Value.slice a n c).ownBlock = some g → g < w.heap.size) (lb : ∀ g, (Value.slice b m d).ownBlock = some g → g < w.heap.size)
    (h0 : 0 < n + m) (hmax : n + m ≤ 2000) (h1 : ∀ u ∈ vs, u.oneCell' = true) (h2 : ∀ u ∈ us, u.oneCell' = true) :
    Calls Tryz.prog 80 #[.slice (some ⟨A, 0, none⟩) 2 2] w fun e w' => ∃ g cap, e = .returned (.slice (some ⟨g, 0, none⟩) (n + m) cap) ∧
      w'.ownsRow w.heap.size 72 1 (.slice (some ⟨g, 0, none⟩) (n + m) cap) (n + m) (vs ++ us) ∧ Below w.heap.size w w' := by
  have q0 : w.cell? ⟨A, 0, none⟩ = some (.slice a n c) := by rw [Lib.cell_of_heap hA]; rfl
  have q1 : w.cell? ⟨A, 1, none⟩ = some (.slice b m d) := by rw [Lib.cell_of_heap hA]; rfl
  have hAl := heap_lt hA
  have HA := Lib.hid hA
  have HG := Lib.hid (fun w' => grow_stmts (n + m) w' h0 hmax)
  have HX := Lib.hid (fun w' (hw : Below w.heap.size w w') g t cap xs hown ht => append_stmts w' w.heap.size g t cap xs hown a n c vs (ownsRow_of ha fun k hk => hw.block k (la k hk)) h1 ht hw.size)
  have HY := Lib.hid (fun w' (hw : Below w.heap.size w w') g t cap xs hown ht => append_stmts w' w.heap.size g t cap xs hown b m d us (ownsRow_of hb fun k hk => hw.block k (lb k hk)) h2 ht hw.size)
  clear ha hb la lb h1 h2 hA
  go_enter Tryz.func80, Tryz.ntmps80
  go_wp2_with fail
  go_loopw [3, 11] (fun sz i wr => ∃ k t : Nat, i = .int .i64 k ∧ sz = .int .i64 t ∧ Hid ((k = 0 ∧ t = 0) ∨ (k = 1 ∧ t = n) ∨ (k = 2 ∧ t = n + m)) ∧ w = wr) (fun _ i _ => 2 - (intOf i).toNat)
  case atStart => exact ⟨0, 0, by go_num, by go_num, Or.inl ⟨rfl, rfl⟩, rfl⟩
  case round =>
    obtain ⟨k, t, rfl, rfl, hk, rfl⟩ := hrel
    rcases hk.out with ⟨rfl, rfl⟩ | ⟨rfl, rfl⟩ | ⟨rfl, rfl⟩
    · clear hk
      go_wp2_with fail
      exact ⟨⟨1, n, by go_num, by go_num, Or.inr (Or.inl ⟨rfl, rfl⟩), by trivial⟩, by simp [intOf]⟩
    · clear hk
      go_wp2_with fail
      exact ⟨⟨2, t + m, by go_num, by go_num, Or.inr (Or.inr ⟨rfl, rfl⟩), by trivial⟩, by simp [intOf]⟩
    · clear hk
      go_wp2_with fail
      refine (HG.out _).mono ?_
      rintro e w1 ⟨cap, rfl, hown, hb⟩
      have HO := Lib.hid hown
      have HB := Lib.hid hb
      have hwr := hb.size
      clear hown hb
      go_wp2_with fail
      go_loopw [6, 27] (fun v i w2 => ∃ k g t cap : Nat, i = .int .i64 k ∧ v = .slice (some ⟨g, 0, none⟩) t cap ∧ Hid ((k = 0 ∧ t = 0 ∧ w2.ownsRow w.heap.size 72 1 (.slice (some ⟨g, 0, none⟩) t cap) t []) ∨ (k = 1 ∧ t = n ∧ w2.ownsRow w.heap.size 72 1 (.slice (some ⟨g, 0, none⟩) t cap) t vs) ∨ (k = 2 ∧ t = n + m ∧ w2.ownsRow w.heap.size 72 1 (.slice (some ⟨g, 0, none⟩) t cap) t (vs ++ us))) ∧ Hid (Below w.heap.size w w2)) (fun _ i _ => 2 - (intOf i).toNat)
      case atStart => exact ⟨0, w.heap.size, 0, cap, by go_num, by go_num, Or.inl ⟨rfl, rfl, HO.out⟩, HB⟩
      case round =>
        rename_i wq
        obtain ⟨k, g, t, cap, rfl, rfl, hk, hw⟩ := hrel
        have hsz := hw.out.size
        rcases hk.out with ⟨rfl, rfl, ho⟩ | ⟨rfl, rfl, ho⟩ | ⟨rfl, rfl, ho⟩
        · obtain ⟨g', cap', w2, hrun, hown, hgr⟩ := HX.out wr hw.out g 0 cap [] ho (by omega)
          have HR := Lib.hid hrun
          have HN := Lib.hid (show w2.ownsRow w.heap.size 72 1 (.slice (some ⟨g', 0, none⟩) n cap') n vs by simpa using hown)
          have HW := Lib.hid (hw.out.grown hgr hsz (fun k hk => by injection hk with hk; subst hk; exact (ownsRow_low ho)))
          rw [Nat.zero_add] at HR
          have p0 : wr.cell? ⟨A, 0, none⟩ = some (.slice a n c) := by rw [hw.out.cell (p := ⟨A, 0, none⟩) hAl]; exact q0
          clear hk ho hrun hown hgr
          go_wp2_with (at_builtin; refine Lib.wpList_append_run _ rfl _ _ _ _ rfl _ _ rfl rfl _ _ HR.out ?_)
          exact ⟨⟨1, g', n, cap', by go_num, by go_num, Or.inr (Or.inl ⟨rfl, rfl, HN.out⟩), HW⟩, by simp [intOf]⟩
        · obtain ⟨g', cap', w2, hrun, hown, hgr⟩ := HY.out wr hw.out g t cap vs ho (by omega)
          have HR := Lib.hid hrun
          have HN := Lib.hid hown
          have HW := Lib.hid (hw.out.grown hgr hsz (fun k hk => by injection hk with hk; subst hk; exact (ownsRow_low ho)))
          have p0 : wr.cell? ⟨A, 1, none⟩ = some (.slice b m d) := by rw [hw.out.cell (p := ⟨A, 1, none⟩) hAl]; exact q1
          clear hk ho hrun hown hgr
          go_wp2_with (at_builtin; refine Lib.wpList_append_run _ rfl _ _ _ _ rfl _ _ rfl rfl _ _ HR.out ?_)
          exact ⟨⟨2, g', t + m, cap', by go_num, by go_num, Or.inr (Or.inr ⟨rfl, rfl, HN.out⟩), HW⟩, by simp [intOf]⟩
        · have HN := Lib.hid ho
          clear hk ho
          go_wp2_with fail
          go_ret
          exact ⟨g, cap, rfl, HN.out, hw.out⟩
end Go.Proofs.YtkdnbdgpcgookaaGreatDoor
