/- The statements of advice around that does the same, as the program makes them. Condition: the text of the statements has at most 400 bytes. -/
import Derived.Test.YtpahbkjogljndaaGreatDoorCat
import Derived.Test.YtpahbkjogljndaaGreatDoorText
import Derived.Test.YtpahbkjogljndaaGreatDoorIasp
import Derived.Test.YtpahbkjogljndaaGreatDoorArp
namespace Go.Proofs.YtpahbkjogljndaaGreatDoor
open Go.RowKit Gram

theorem IsStms.ones {w : World} {S : Nat → Prop} : ∀ (xs : List Stm) (vs : List Value), IsStms w S xs vs → ∀ u ∈ vs, u.oneCell' = true
  | [], vs, h, u, hu => by simp only [IsStms] at h; subst h; cases hu
  | x :: xs, vs, h, u, hu => by
    simp only [IsStms] at h
    obtain ⟨v, t, rfl, h1, h2⟩ := h
    rcases List.mem_cons.1 hu with rfl | hu
    · obtain ⟨ty, pv, rfl⟩ := h1.iface; rfl
    · exact IsStms.ones xs t h2 u hu

/-- a new row of one statement -/
theorem one_row (w : World) (v : Value) (T : TypeId) : (w.alloc (.cells #[v] T)).ownsRow 0 T 1 (.slice (some ⟨w.heap.size, 0, none⟩) 1 1) 1 [v] :=
  ⟨rfl, .inr ⟨w.heap.size, 1, #[v], rfl, Nat.zero_le _, heap_alloc_new _ _, Nat.le_refl _, by decide, rfl, rfl⟩⟩

theorem ownBlock_lt {w : World} {B size n : Nat} {e : TypeId} {v : Value} {xs : List Value} (h : w.ownsRow B e size v n xs) : ∀ g, v.ownBlock = some g → g < w.heap.size := by
  intro g hg
  rcases h.2 with ⟨rfl, _⟩ | ⟨g', cap', cur, rfl, _, hc, _⟩
  · cases hg
  · injection hg with hg; subst hg; exact heap_lt hc

def ArdTo (n : Nat) (xs : List Stm) (w : World) (e : Ending) (w' : World) : Prop :=
  (∃ v S, e = .returned v ∧ IsBody w' S (ardOf n xs) v ∧ ∀ k, S k → k < w'.heap.size) ∧ Below w.heap.size w w'

set_option maxHeartbeats 2000000 in
set_option maxRecDepth 100000 in
theorem around_any (n : Nat) (hn : n ≤ 2) (xs : List Stm) (v : Value) (S : Nat → Prop) (w : World) (hlen : (txts xs).length ≤ 400) (hS : ∀ k, S k → k < w.heap.size) (hB : IsBody w S xs v) :
    Calls Tryz.prog 37 #[.agg #[.int .i64 n, v]] w (ArdTo n xs w) := by
  obtain ⟨vs, hrow, hst⟩ := hB
  obtain ⟨a, m, c, rfl⟩ := slice_form hrow.1
  have hl := IsStms.len _ _ hst
  have hx := txts_ge xs
  have hm : m = vs.length := by
    rcases hrow.1.2 with ⟨h1, h2⟩ | ⟨g, cap, cur, h1, _⟩
    · injection h1 with _ h3 <;> omega
    · injection h1 with _ h3 <;> omega
  have hr : w.ownsRow 0 89 1 (.slice a m c) m vs := by have := hrow.1; rw [← hm] at this; exact this
  have hm4 : m ≤ 400 := by omega
  -- the worlds behind the parameter, the new statement and the row of rows
  obtain ⟨w1, hw1⟩ : ∃ w1, w1 = w.alloc (.cells #[.int .i64 n, .slice a m c] 49) := ⟨_, rfl⟩
  obtain ⟨w2, hw2⟩ : ∃ w2, w2 = w1.alloc (.cells #[.iface 76 (.agg #[])] 89) := ⟨_, rfl⟩
  have Z1 : w1.heap.size = w.heap.size + 1 := by rw [hw1]; exact alloc_size' _ _
  have B1 : Below w.heap.size w w1 := by rw [hw1]; exact (Below.refl _ _).alloc (Nat.le_refl _) _
  have B2 : Below w.heap.size w w2 := by rw [hw2]; exact B1.alloc B1.size _
  have B12 : Below w1.heap.size w1 w2 := by rw [hw2]; exact (Below.refl _ _).alloc (Nat.le_refl _) _
  have hr2 : w2.ownsRow 0 89 1 (.slice a m c) m vs := ownsRow_of hr fun g hg => B2.block g (hS g (hrow.2 g hg))
  have hp2 : w2.ownsRow 0 89 1 (.slice (some ⟨w.heap.size + 1, 0, none⟩) 1 1) 1 [.iface 76 (.agg #[])] := by rw [hw2, ← Z1]; exact one_row _ _ _
  have hS2 : IsStms w2 (· < w2.heap.size) xs vs := IsStms.kept (fun g hg => B2.block g (hS g hg)) (fun g hg => Nat.lt_of_lt_of_le (hS g hg) B2.size) _ _ hst
  have hg1 : w1.heap[w.heap.size]? = some (.cells #[.int .i64 n, .slice a m c] 49 (0, 0)) := by rw [hw1]; exact heap_alloc_new _ _
  have q0 : w2.cell? ⟨w.heap.size, 0, none⟩ = some (.int .i64 n) := by rw [B12.cell (p := ⟨w.heap.size, 0, none⟩) (heap_lt hg1), Lib.cell_of_heap hg1]; rfl
  have q1 : w2.cell? ⟨w.heap.size, 1, none⟩ = some (.slice a m c) := by rw [B12.cell (p := ⟨w.heap.size, 1, none⟩) (heap_lt hg1), Lib.cell_of_heap hg1]; rfl
  have ones := IsStms.ones xs vs hst
  -- what is put together lies in blocks below the new heap's end
  have key : ∀ (w3 w4 : World) (g cap t : Nat) (ys : List Stm) (us : List Value), Below w2.heap.size w2 w3 → Below w3.heap.size w3 w4 → w4.ownsRow w3.heap.size 89 1 (.slice (some ⟨g, 0, none⟩) t cap) t us → IsStms w2 (· < w2.heap.size) ys us → ArdTo n xs w (.returned (.slice (some ⟨g, 0, none⟩) t cap)) w4 ∨ ys ≠ ardOf n xs := by
    intro w3 w4 g cap t ys us hb3 hb4 hown hys
    by_cases he : ys = ardOf n xs
    · left
      have hb24 : Below w2.heap.size w2 w4 := hb3.trans (hb4.mono hb3.size)
      have htu : t = us.length := by have := hown.1; omega
      refine ⟨⟨_, (· < w4.heap.size), rfl, he ▸ ⟨us, ⟨?_, fun k hk => ownBlock_lt hown k hk⟩, IsStms.kept (fun k hk => hb24.block k hk) (fun k hk => Nat.lt_of_lt_of_le hk hb24.size) _ _ hys⟩, fun k hk => hk⟩, B2.trans (hb24.mono B2.size)⟩
      rw [← htu]
      exact ownsRow_base hown fun k hk => Nat.zero_le _
    · exact .inr he
  by_cases h0 : n = 0
  · subst h0
    have hys : IsStms w2 (· < w2.heap.size) (xs ++ [.pro]) (vs ++ [.iface 76 (.agg #[])]) := IsStms.snoc (show IsStm w2 (· < w2.heap.size) .pro (.iface 76 (.agg #[])) from rfl) _ _ hS2
    obtain ⟨w3, hw3⟩ : ∃ w3, w3 = w2.alloc (.cells #[.slice a m c, .slice (some ⟨w.heap.size + 1, 0, none⟩) 1 1] 47) := ⟨_, rfl⟩
    have B23 : Below w2.heap.size w2 w3 := by rw [hw3]; exact (Below.refl _ _).alloc (Nat.le_refl _) _
    have hC := concat_two w3 w2.heap.size a (some ⟨w.heap.size + 1, 0, none⟩) m 1 c 1 vs [.iface 76 (.agg #[])] (by rw [hw3]; exact heap_alloc_new _ _)
      (ownsRow_of hr2 fun g hg => B23.block g (ownBlock_lt hr2 g hg)) (ownsRow_of hp2 fun g hg => B23.block g (ownBlock_lt hp2 g hg)) (fun g hg => Nat.lt_of_lt_of_le (ownBlock_lt hr2 g hg) B23.size) (fun g hg => Nat.lt_of_lt_of_le (ownBlock_lt hp2 g hg) B23.size) (by omega) (by omega) ones (by simp; rfl)
    have HC := Lib.hid hC
    have HK := Lib.hid (fun w4 g cap hb hown => (key w3 w4 g cap (m + 1) _ _ B23 hb hown hys).resolve_right (fun h => h rfl))
    have hz2 : w2.heap.size = w.heap.size + 2 := by rw [hw2, alloc_size', Z1]
    have HZ := Lib.hid hz2
    clear hC key hys hS2 hr2 hp2 hg1 hst hrow hS hr hm hl B1 B2 B12 B23 ones hz2 q0
    go_enter Tryz.func37, Tryz.ntmps37
    go_wp2_with fail
    have hX := HC.out
    rw [HZ.out, hw3, hw2, hw1] at hX
    refine hX.mono ?_
    rintro e w4 ⟨g, cap, rfl, hown, hb4⟩
    have HV := Lib.hid (HK.out w4 g cap (by rw [hw3, hw2, hw1]; exact hb4) (by rw [hw3, hw2, hw1]; exact hown))
    clear hown hb4 hX
    go_wp2_with fail
    go_ret
    exact HV.out
  · by_cases h1 : n = 1
    · subst h1
      have hys : IsStms w2 (· < w2.heap.size) (.pro :: xs) (.iface 76 (.agg #[]) :: vs) := ⟨_, _, rfl, rfl, hS2⟩
      obtain ⟨w3, hw3⟩ : ∃ w3, w3 = w2.alloc (.cells #[.slice (some ⟨w.heap.size + 1, 0, none⟩) 1 1, .slice a m c] 47) := ⟨_, rfl⟩
      have B23 : Below w2.heap.size w2 w3 := by rw [hw3]; exact (Below.refl _ _).alloc (Nat.le_refl _) _
      have hC := concat_two w3 w2.heap.size (some ⟨w.heap.size + 1, 0, none⟩) a 1 m 1 c [.iface 76 (.agg #[])] vs (by rw [hw3]; exact heap_alloc_new _ _)
        (ownsRow_of hp2 fun g hg => B23.block g (ownBlock_lt hp2 g hg)) (ownsRow_of hr2 fun g hg => B23.block g (ownBlock_lt hr2 g hg)) (fun g hg => Nat.lt_of_lt_of_le (ownBlock_lt hp2 g hg) B23.size) (fun g hg => Nat.lt_of_lt_of_le (ownBlock_lt hr2 g hg) B23.size) (by omega) (by omega) (by simp; rfl) ones
      have HC := Lib.hid hC
      have HK := Lib.hid (fun w4 g cap hb hown => (key w3 w4 g cap (1 + m) _ _ B23 hb hown hys).resolve_right (fun h => h rfl))
      have hz2 : w2.heap.size = w.heap.size + 2 := by rw [hw2, alloc_size', Z1]
      have HZ := Lib.hid hz2
      clear hC key hys hS2 hr2 hp2 hg1 hst hrow hS hr hm hl B1 B2 B12 B23 ones hz2 q0
      go_enter Tryz.func37, Tryz.ntmps37
      go_wp2_with fail
      have hX := HC.out
      rw [HZ.out, hw3, hw2, hw1] at hX
      refine hX.mono ?_
      rintro e w4 ⟨g, cap, rfl, hown, hb4⟩
      have HV := Lib.hid (HK.out w4 g cap (by rw [hw3, hw2, hw1]; exact hb4) (by rw [hw3, hw2, hw1]; exact hown))
      clear hown hb4 hX
      go_wp2_with fail
      go_ret
      exact HV.out
    · have h2 : n = 2 := by omega
      subst h2
      have HF := Lib.hid (show ArdTo 2 xs w (.returned (.slice a m c)) w2 from ⟨⟨_, _, rfl, ⟨vs, ⟨by rw [← hm]; exact hr2, fun g hg => Nat.lt_of_lt_of_le (hS g (hrow.2 g hg)) B2.size⟩, hS2⟩, fun k hk => hk⟩, B2⟩)
      clear hS2 hr2 hp2 hg1 hst hrow hS key hm hl ones hr
      go_enter Tryz.func37, Tryz.ntmps37
      go_wp2_with fail
      go_ret
      have h := HF.out
      rw [hw2, hw1] at h
      exact h
end Go.Proofs.YtpahbkjogljndaaGreatDoor
