/- A list of aspects that came with an argument. -/
import Derived.Test.YtkdnbdgpcgookaaGreatDoorLaidE
import Derived.Test.YtkdnbdgpcgookaaGreatDoorZx
import Derived.Deep.Slices
import Derived.Deep.Strs
import Derived.Lib.SmallJoins
namespace Go.Proofs.YtkdnbdgpcgookaaGreatDoor
open Go.ChangeShapes Go.WideShapes Go.ChangeAt Go.RowKit Go.ChangeMaps Go.Joins Go.Stop Go.Deep

theorem list_three {α : Type} {l : List α} (h : l.length = 3) : ∃ a b c, l = [a, b, c] := by
  match l, h with
  | [a, b, c], _ => exact ⟨a, b, c, rfl⟩
theorem cellsA : Tryz.prog.cellsOf 90 = 3 := by kernel_rfl
theorem asp_cells {H : Type} (enc : TypeId × Value → H) {W : World} {n : Nat} {cs : List Value} {y : DataW H × List MemPlace} (h : DataW.trod enc Tryz.prog W 0 (fun _ => true) true n 90 cs = some y) :
    ∃ p : As, cs = [.string p.1, .string p.2.1, .string p.2.2] ∧ p.1.size ≤ maxLen ∧ p.2.1.size ≤ maxLen ∧ p.2.2.size ≤ maxLen := by
  obtain ⟨y0, y1, y2, m, _, hl, h0, h1, h2⟩ := trod_struct3 Tryz.underlying90 h
  rw [cellsA] at hl
  obtain ⟨v0, v1, v2, rfl⟩ := list_three hl
  · obtain ⟨s0, e0, _, w0⟩ := DataW.trod_string Tryz.underlying9 h0
    obtain ⟨s1, e1, _, w1⟩ := DataW.trod_string Tryz.underlying9 h1
    obtain ⟨s2, e2, _, w2⟩ := DataW.trod_string Tryz.underlying9 h2
    simp [cellsS] at e0 e1 e2
    subst e0; subst e1; subst e2
    exact ⟨(s0, s1, s2), rfl, w0, w1, w2⟩

theorem addr_at {w : World} {a : Addr} {x : Value} (h : w.cell? (a.add 0) = some x) : ∃ b off, a = ⟨b, off, none⟩ := by
  obtain ⟨b, off, spot⟩ := a
  have hspot : spot = none := by simpa [Addr.add] using World.cell?_spot h
  subst hspot
  exact ⟨b, off, rfl⟩

theorem exists_row {P : Nat → As → Prop} : ∀ n, (∀ i, i < n → ∃ p, P i p) → ∃ zs : List As, zs.length = n ∧ ∀ i (h : i < zs.length), P i zs[i]
  | 0, _ => ⟨[], rfl, fun i h => by simp at h⟩
  | n + 1, h => by
    obtain ⟨zs, hl, hz⟩ := exists_row n (fun i hi => h i (by omega))
    obtain ⟨p, hp⟩ := h n (by omega)
    refine ⟨zs ++ [p], by simp [hl], fun i hi => ?_⟩
    by_cases he : i < zs.length
    · rw [List.getElem_append_left he]; exact hz i he
    · have : i = zs.length := by simp at hi; omega
      subst this
      simp
      rw [hl]; exact hp

def w_cells (W : World) (a : Addr) (i : Nat) (p : As) : Prop := W.cell? (a.add (i * 3 + 0)) = some (.string p.1) ∧ W.cell? (a.add (i * 3 + 1)) = some (.string p.2.1) ∧ W.cell? (a.add (i * 3 + 2)) = some (.string p.2.2)

theorem aspects_came {H : Type} (enc : TypeId × Value → H) {W : World} {n : Nat} {v : Value} {y : DataW H × List MemPlace} (h : DataW.trod enc Tryz.prog W 0 (fun _ => true) true n 46 [v] = some y) :
    ∃ (a : Option Addr) (len cap : Nat) (zs : List As), v = .slice a len cap ∧ Asps W a len zs ∧ len ≤ maxLen ∧ ∀ p ∈ zs, p.1.size ≤ maxLen ∧ p.2.1.size ≤ maxLen ∧ p.2.2.size ≤ maxLen := by
  rcases open_slice Tryz.underlying46 h with ⟨hcs, _⟩ | ⟨a, len, cap, m, k, D, Pl, hcs, _, hl, hm, hmm, _, hi⟩
  · injection hcs with hcs
    exact ⟨none, 0, 0, [], hcs, ⟨rfl, fun i hi => by simp at hi⟩, Nat.zero_le _, fun p hp => by simp at hp⟩
  · injection hcs with hcs
    simp only [if_true] at hmm
    have hone : ∀ i, i < len → ∃ p : As, (w_cells W a i p) ∧ p.1.size ≤ maxLen ∧ p.2.1.size ≤ maxLen ∧ p.2.2.size ≤ maxLen := by
      intro i hil
      obtain ⟨cs', h1, h2⟩ := hi i (by omega)
      rw [cellsA] at h1
      obtain ⟨_, _, hat⟩ := World.cells?_some h1
      obtain ⟨p, rfl, hp⟩ := asp_cells enc h2
      have a0 := hat 0 (by omega)
      have a1 := hat 1 (by omega)
      have a2 := hat 2 (by omega)
      rw [add_add] at a0 a1 a2
      exact ⟨p, ⟨a0, a1, a2⟩, hp⟩
    obtain ⟨zs, hzl, hz⟩ := exists_row len hone
    refine ⟨some a, len, cap, zs, hcs, ⟨hzl, fun i hj => ?_⟩, Nat.le_trans hl hm, fun p hp => ?_⟩
    · obtain ⟨b, off, rfl⟩ := addr_at (hz 0 (by omega)).1.1
      obtain ⟨⟨h0, h1, h2⟩, _⟩ := hz i hj
      rw [Go.WideShapes.add_plain] at h0 h1 h2
      exact ⟨b, off, rfl, h0, h1, h2⟩
    · obtain ⟨i, hj, rfl⟩ := List.getElem_of_mem hp
      exact (hz i hj).2
end Go.Proofs.YtkdnbdgpcgookaaGreatDoor
