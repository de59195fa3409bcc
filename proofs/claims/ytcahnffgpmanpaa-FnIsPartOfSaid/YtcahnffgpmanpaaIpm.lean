/- Lists of numbers put behind lists of numbers of one's own. Condition: at most 2000 numbers together. -/
import Derived.Test.YtcahnffgpmanpaaIpd
import Derived.Deep.Upon
import Derived.Lib.AppendZeros
namespace Go.Proofs.Ytcahnffgpmanpaa
open Go.RowKit

theorem Ints.nil_of {w : World} {a : Option Addr} {zs : List Int} (h : Ints w a 0 zs) : zs = [] := List.length_eq_zero_iff.1 h.len

/-- numbers put behind a row of numbers -/
theorem more_ints (w : World) (B g c : Nat) (zs : List Int) (hR : Irow w B g c zs) (a : Option Addr) (m d : Nat) (ws : List Int) (hI : Ints w a m ws) (hmax : zs.length + m ≤ 2000) (hB : B ≤ w.heap.size) :
    ∃ g' c' w', (Builtin.append_ #[23, 23] 23 #[.slice (some ⟨g, 0, none⟩) zs.length c, .slice a m d]).run Try.prog w = .ok (.slice (some ⟨g', 0, none⟩) (zs.length + m) c') w' ∧
      Irow w' B g' c' (zs ++ ws) ∧ w.grownBy w' (some g) ∧ (g' = g ∨ g' = w.heap.size) := by
  obtain ⟨i0, hi, hz0, hz1, hz2⟩ := info_parts info_int
  by_cases h0 : m = 0
  · subst h0
    have hws := hI.nil_of
    subst hws
    have hsrc : Src Try.prog i0.size 23 (.slice a 0 d) 0 [] w := by
      cases a with
      | none => exact Src.ofNil w Try.underlying23 d
      | some a => exact Src.ofSlice w Try.underlying23 a 0 d [] (by simp) (fun j u h => by simp at h) (fun _ h => by cases h)
    exact ⟨g, c, w, run_append_nothing w _ _ _ 3 i0 Try.underlying23 hi (some ⟨g, 0, none⟩) zs.length c hR.room.1 _ hsrc, by simpa using hR, ⟨rfl, rfl, rfl, Nat.le_refl _, fun _ _ _ => rfl⟩, .inl rfl⟩
  · obtain ⟨gs, off, rfl, _⟩ := hI.at_ 0 (by rw [hI.len]; omega)
    obtain ⟨g', c', w', hrun, h2, h3, h4, _⟩ := run_append_lies (P := Try.prog) w 23 23 B 3 i0 (.int .i64 0) 1 8 Try.underlying23 hi hz0 hz1 hz2 rfl (by decide) (.slice (some ⟨g, 0, none⟩) zs.length c) zs.length (intVs zs) hR ⟨gs, off, none⟩ m d (intVs ws) (by rw [intVs_len, hI.len]; omega)
      (fun j u hj => by
        have hj' : j < ws.length := by
          have := (List.getElem?_eq_some_iff.1 hj).1
          rwa [intVs_len] at this
        obtain ⟨g'', off'', ha, hc⟩ := hI.at_ j hj'
        injection ha with ha; injection ha with e1 e2; subst e1; subst e2
        have hu : u = .int .i64 ws[j] := by simpa [intVs, hj'] using hj.symm
        rw [Addr.add_lit, hu]; exact hc)
      (fun u hu => by
        simp only [intVs, List.mem_map] at hu
        obtain ⟨x, _, rfl⟩ := hu
        rfl) (by omega) (by unfold maxLen; omega) (by omega) hB w.heap.size rfl
    refine ⟨g', c', w', hrun, ?_, h3, ?_⟩
    · have e : intVs (zs ++ ws) = intVs zs ++ intVs ws := by simp [intVs]
      show World.ownsRow _ _ _ _ _ _ _
      rw [e, List.length_append, hI.len]
      exact h2
    · rcases h4 with h4 | h4
      · left; injection h4 with h4; exact h4.symm
      · right; exact h4

/-- one number in a block of its own -/
theorem Irow.one (w : World) (B : Nat) (x : Int) (hB : B ≤ w.heap.size) : Irow (w.alloc (Obj.cells #[.int .i64 x] 3)) B w.heap.size 1 [x] :=
  ⟨by simp [intVs], .inr ⟨w.heap.size, 1, #[.int .i64 x], rfl, hB, heap_alloc_new w _, Nat.le_refl _, by simp [maxLen], by simp, by simp [intVs]⟩⟩

theorem Ints.take {w : World} {a : Option Addr} {m : Nat} {ws : List Int} (h : Ints w a m ws) (k : Nat) (hk : k ≤ m) : Ints w a k (ws.take k) :=
  ⟨by rw [List.length_take, h.len]; omega, fun i hi => by
    have hi' : i < ws.length := by rw [List.length_take] at hi; omega
    obtain ⟨g, off, ha, hc⟩ := h.at_ i hi'
    exact ⟨g, off, ha, by rw [hc, List.getElem_take]⟩⟩

theorem sub_self (ws : List Int) : ws.isSublist ws = true := List.isSublist_iff_sublist.2 (List.Sublist.refl _)
theorem sub_behind (ws : List Int) (x : Int) : ws.isSublist (ws ++ [x]) = true := List.isSublist_iff_sublist.2 (List.sublist_append_left _ _)
theorem sub_long (ws : List Int) (x : Int) : (ws ++ [x]).isSublist ws = false := by
  cases h : (ws ++ [x]).isSublist ws with
  | false => rfl
  | true =>
    have := (List.isSublist_iff_sublist.1 h).length_le
    simp at this
    omega
theorem sub_take (ws : List Int) (k : Nat) : (ws.take k).isSublist ws = true := List.isSublist_iff_sublist.2 (List.take_sublist _ _)
theorem sub_more {zs ws : List Int} (x : Int) (h : zs.isSublist ws = true) : zs.length ≤ ws.length ∧ zs.isSublist (ws ++ [x]) = true ∧ zs.isSublist ([x] ++ ws) = true := by
  have hs := List.isSublist_iff_sublist.1 h
  exact ⟨hs.length_le, List.isSublist_iff_sublist.2 (hs.trans (List.sublist_append_left _ _)), List.isSublist_iff_sublist.2 (hs.trans (List.sublist_append_right _ _))⟩
end Go.Proofs.Ytcahnffgpmanpaa
