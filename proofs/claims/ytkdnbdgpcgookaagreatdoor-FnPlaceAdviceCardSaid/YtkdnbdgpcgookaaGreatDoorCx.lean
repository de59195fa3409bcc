/- Plain mathematics: the advice around that does the same as an aspect; its text. No walk, no condition. The statements of advice around that does the same, as the program makes them. Condition: the text of the statements has at most 400 bytes. AroundOf of the program, as the plain ardA says. Conditions: texts of at most 2^30 bytes; the errors lie where start-up laid them. -/
import Derived.Test.YtkdnbdgpcgookaaGreatDoorOnly
import Derived.Test.YtkdnbdgpcgookaaGreatDoorCat
import Derived.Test.YtkdnbdgpcgookaaGreatDoorBx
import Derived.Test.YtkdnbdgpcgookaaGreatDoorHx
import Derived.Deep.RegionHeld3
import Derived.Deep.RegionWith
namespace Go.Proofs.YtkdnbdgpcgookaaGreatDoor
open Go.RowKit Gram

/-- the statements of advice around that does the same -/
def ardOf (n : Nat) (xs : List Stm) : List Stm := if n = 0 then xs ++ [.pro] else if n = 1 then .pro :: xs else xs
def aroundS : ByteArray := ⟨#[97, 114, 111, 117, 110, 100]⟩
/-- the advice around that does the same, if there is one -/
def ardA (k c b : ByteArray) : Option (ByteArray × ByteArray × ByteArray) := match aspOf k c b with
  | some (n, xs) => if (aspOf aroundS c (strL (txts (ardOf n xs)))).isSome = true then some (aroundS, c, strL (txts (ardOf n xs))) else none
  | none => none

theorem ard_len (n : Nat) (xs : List Stm) : (txts (ardOf n xs)).length ≤ (txts xs).length + 1 := by
  unfold ardOf
  split
  · rw [txts_snoc]; simp [Stm.txt]
  · split
    · simp [txts, Stm.txt] <;> omega
    · omega

/-- its body, made of the body's text -/
def bodyA (bef aft : Bool) (b : ByteArray) : ByteArray := if bef = true then b ++ ⟨#[75]⟩ else if aft = true then ⟨#[75]⟩ ++ b else b

theorem ard_body {k c b : ByteArray} {n : Nat} {xs : List Stm} (h : aspOf k c b = some (n, xs)) : strL (txts (ardOf n xs)) = bodyA (isBefore k) (isAfter k) b := by
  obtain ⟨hk, _, ha, _⟩ := aspOf_some h
  obtain ⟨_, htx, _, _⟩ := advOf_some ha
  unfold ardOf bodyA
  rcases kindOf_cases hk with ⟨rfl, e⟩ | ⟨rfl, e1, e2⟩ | ⟨rfl, _, e1, e2⟩
  · rw [if_pos rfl, if_pos e, txts_snoc, ← htx]
    apply ByteArray.ext; rw [← Array.toList_inj]; simp [strL, Stm.txt]
  · rw [if_neg (by decide), if_pos rfl, if_neg (by rw [e2]; decide), if_pos e1]
    simp only [txts, ← htx]
    apply ByteArray.ext; rw [← Array.toList_inj]; simp [strL, Stm.txt]
  · rw [if_neg (by decide), if_neg (by decide), if_neg (by rw [e1]; decide), if_neg (by rw [e2]; decide), ← htx]
    apply ByteArray.ext; simp [strL]

theorem ardA_is (k c b : ByteArray) : ardA k c b = if (aspOf k c b).isSome = true then (if (aspOf aroundS c (bodyA (isBefore k) (isAfter k) b)).isSome = true then some (aroundS, c, bodyA (isBefore k) (isAfter k) b) else none) else none := by
  unfold ardA
  cases h : aspOf k c b with
  | none => simp
  | some p =>
    obtain ⟨n, xs⟩ := p
    dsimp only
    rw [ard_body h]; simp
end Go.Proofs.YtkdnbdgpcgookaaGreatDoor
namespace Go.Proofs.YtkdnbdgpcgookaaGreatDoor
open Go.RowKit Gram

theorem IsStms.ones {w : World} {S : Nat → Prop} : ∀ (xs : List Stm) (vs : List Value), IsStms w S xs vs → ∀ u ∈ vs, u.oneCell' = true
  | [], vs, h, u, hu => by simp only [IsStms] at h; subst h; cases hu
  | x :: xs, vs, h, u, hu => by
    simp only [IsStms] at h
    obtain ⟨v, t, rfl, h1, h2⟩ := h
    rcases List.mem_cons.1 hu with rfl | hu
    · obtain ⟨ty, pv, rfl⟩ := h1.iface; rfl
    · exact IsStms.ones xs t h2 u hu

/-- a new row of one statement -/
theorem one_row (w : World) (v : Value) (T : TypeId) : (w.alloc (.cells #[v] T)).ownsRow 0 T 1 (.slice (some ⟨w.heap.size, 0, none⟩) 1 1) 1 [v] :=
  ⟨rfl, .inr ⟨w.heap.size, 1, #[v], rfl, Nat.zero_le _, heap_alloc_new _ _, Nat.le_refl _, by decide, rfl, rfl⟩⟩

theorem ownBlock_lt {w : World} {B size n : Nat} {e : TypeId} {v : Value} {xs : List Value} (h : w.ownsRow B e size v n xs) : ∀ g, v.ownBlock = some g → g < w.heap.size := by
  intro g hg
  rcases h.2 with ⟨rfl, _⟩ | ⟨g', cap', cur, rfl, _, hc, _⟩
  · cases hg
  · injection hg with hg; subst hg; exact heap_lt hc

def ArdTo (n : Nat) (xs : List Stm) (w : World) (e : Ending) (w' : World) : Prop :=
  (∃ v S, e = .returned v ∧ IsBody w' S (ardOf n xs) v ∧ ∀ k, S k → k < w'.heap.size) ∧ Below w.heap.size w w'

set_option maxHeartbeats 2000000 in
set_option maxRecDepth 100000 in
theorem around_any (n : Nat) (hn : n ≤ 2) (xs : List Stm) (v : Value) (S : Nat → Prop) (w : World) (hlen : (txts xs).length ≤ 400) (hS : ∀ k, S k → k < w.heap.size) (hB : IsBody w S xs v) :
    Calls Tryz.prog 51 #[.agg #[.int .i64 n, v]] w (ArdTo n xs w) := by
  obtain ⟨vs, hrow, hst⟩ := hB
  obtain ⟨a, m, c, rfl⟩ := slice_form hrow.1
  have hl := IsStms.len _ _ hst
  have hx := txts_ge xs
  have hm : m = vs.length := by
    rcases hrow.1.2 with ⟨h1, h2⟩ | ⟨g, cap, cur, h1, _⟩
    · injection h1 with _ h3 <;> omega
    · injection h1 with _ h3 <;> omega
  have hr : w.ownsRow 0 72 1 (.slice a m c) m vs := by have := hrow.1; rw [← hm] at this; exact this
  have hm4 : m ≤ 400 := by omega
  -- the worlds behind the parameter, the new statement and the row of rows
  obtain ⟨w1, hw1⟩ : ∃ w1, w1 = w.alloc (.cells #[.int .i64 n, .slice a m c] 57) := ⟨_, rfl⟩
  obtain ⟨w2, hw2⟩ : ∃ w2, w2 = w1.alloc (.cells #[.iface 134 (.agg #[])] 72) := ⟨_, rfl⟩
  have Z1 : w1.heap.size = w.heap.size + 1 := by rw [hw1]; exact alloc_size' _ _
  have B1 : Below w.heap.size w w1 := by rw [hw1]; exact (Below.refl _ _).alloc (Nat.le_refl _) _
  have B2 : Below w.heap.size w w2 := by rw [hw2]; exact B1.alloc B1.size _
  have B12 : Below w1.heap.size w1 w2 := by rw [hw2]; exact (Below.refl _ _).alloc (Nat.le_refl _) _
  have hr2 : w2.ownsRow 0 72 1 (.slice a m c) m vs := ownsRow_of hr fun g hg => B2.block g (hS g (hrow.2 g hg))
  have hp2 : w2.ownsRow 0 72 1 (.slice (some ⟨w.heap.size + 1, 0, none⟩) 1 1) 1 [.iface 134 (.agg #[])] := by rw [hw2, ← Z1]; exact one_row _ _ _
  have hS2 : IsStms w2 (· < w2.heap.size) xs vs := IsStms.kept (fun g hg => B2.block g (hS g hg)) (fun g hg => Nat.lt_of_lt_of_le (hS g hg) B2.size) _ _ hst
  have hg1 : w1.heap[w.heap.size]? = some (.cells #[.int .i64 n, .slice a m c] 57 (0, 0)) := by rw [hw1]; exact heap_alloc_new _ _
  have q0 : w2.cell? ⟨w.heap.size, 0, none⟩ = some (.int .i64 n) := by rw [B12.cell (p := ⟨w.heap.size, 0, none⟩) (heap_lt hg1), Lib.cell_of_heap hg1]; rfl
  have q1 : w2.cell? ⟨w.heap.size, 1, none⟩ = some (.slice a m c) := by rw [B12.cell (p := ⟨w.heap.size, 1, none⟩) (heap_lt hg1), Lib.cell_of_heap hg1]; rfl
  have ones := IsStms.ones xs vs hst
  -- what is put together lies in blocks below the new heap's end
  have key : ∀ (w3 w4 : World) (g cap t : Nat) (ys : List Stm) (us : List Value), Below w2.heap.size w2 w3 → Below w3.heap.size w3 w4 → w4.ownsRow w3.heap.size 72 1 (.slice (some ⟨g, 0, none⟩) t cap) t us → IsStms w2 (· < w2.heap.size) ys us → ArdTo n xs w (.returned (.slice (some ⟨g, 0, none⟩) t cap)) w4 ∨ ys ≠ ardOf n xs := by
    intro w3 w4 g cap t ys us hb3 hb4 hown hys
    by_cases he : ys = ardOf n xs
    · left
      have hb24 : Below w2.heap.size w2 w4 := hb3.trans (hb4.mono hb3.size)
      have htu : t = us.length := by have := hown.1; omega
      refine ⟨⟨_, (· < w4.heap.size), rfl, he ▸ ⟨us, ⟨?_, fun k hk => ownBlock_lt hown k hk⟩, IsStms.kept (fun k hk => hb24.block k hk) (fun k hk => Nat.lt_of_lt_of_le hk hb24.size) _ _ hys⟩, fun k hk => hk⟩, B2.trans (hb24.mono B2.size)⟩
      rw [← htu]
      exact ownsRow_base hown fun k hk => Nat.zero_le _
    · exact .inr he
  by_cases h0 : n = 0
  · subst h0
    have hys : IsStms w2 (· < w2.heap.size) (xs ++ [.pro]) (vs ++ [.iface 134 (.agg #[])]) := IsStms.snoc (show IsStm w2 (· < w2.heap.size) .pro (.iface 134 (.agg #[])) from rfl) _ _ hS2
    obtain ⟨w3, hw3⟩ : ∃ w3, w3 = w2.alloc (.cells #[.slice a m c, .slice (some ⟨w.heap.size + 1, 0, none⟩) 1 1] 55) := ⟨_, rfl⟩
    have B23 : Below w2.heap.size w2 w3 := by rw [hw3]; exact (Below.refl _ _).alloc (Nat.le_refl _) _
    have hC := concat_two w3 w2.heap.size a (some ⟨w.heap.size + 1, 0, none⟩) m 1 c 1 vs [.iface 134 (.agg #[])] (by rw [hw3]; exact heap_alloc_new _ _)
      (ownsRow_of hr2 fun g hg => B23.block g (ownBlock_lt hr2 g hg)) (ownsRow_of hp2 fun g hg => B23.block g (ownBlock_lt hp2 g hg)) (fun g hg => Nat.lt_of_lt_of_le (ownBlock_lt hr2 g hg) B23.size) (fun g hg => Nat.lt_of_lt_of_le (ownBlock_lt hp2 g hg) B23.size) (by omega) (by omega) ones (by simp; rfl)
    have HC := Lib.hid hC
    have HK := Lib.hid (fun w4 g cap hb hown => (key w3 w4 g cap (m + 1) _ _ B23 hb hown hys).resolve_right (fun h => h rfl))
    have hz2 : w2.heap.size = w.heap.size + 2 := by rw [hw2, alloc_size', Z1]
    have HZ := Lib.hid hz2
    clear hC key hys hS2 hr2 hp2 hg1 hst hrow hS hr hm hl B1 B2 B12 B23 ones hz2 q0
    go_enter Tryz.func51, Tryz.ntmps51
    go_wp2_with fail
    have hX := HC.out
    rw [HZ.out, hw3, hw2, hw1] at hX
    refine hX.mono ?_
    rintro e w4 ⟨g, cap, rfl, hown, hb4⟩
    have HV := Lib.hid (HK.out w4 g cap (by rw [hw3, hw2, hw1]; exact hb4) (by rw [hw3, hw2, hw1]; exact hown))
    clear hown hb4 hX
    go_wp2_with fail
    go_ret
    exact HV.out
  · by_cases h1 : n = 1
    · subst h1
      have hys : IsStms w2 (· < w2.heap.size) (.pro :: xs) (.iface 134 (.agg #[]) :: vs) := ⟨_, _, rfl, rfl, hS2⟩
      obtain ⟨w3, hw3⟩ : ∃ w3, w3 = w2.alloc (.cells #[.slice (some ⟨w.heap.size + 1, 0, none⟩) 1 1, .slice a m c] 55) := ⟨_, rfl⟩
      have B23 : Below w2.heap.size w2 w3 := by rw [hw3]; exact (Below.refl _ _).alloc (Nat.le_refl _) _
      have hC := concat_two w3 w2.heap.size (some ⟨w.heap.size + 1, 0, none⟩) a 1 m 1 c [.iface 134 (.agg #[])] vs (by rw [hw3]; exact heap_alloc_new _ _)
        (ownsRow_of hp2 fun g hg => B23.block g (ownBlock_lt hp2 g hg)) (ownsRow_of hr2 fun g hg => B23.block g (ownBlock_lt hr2 g hg)) (fun g hg => Nat.lt_of_lt_of_le (ownBlock_lt hp2 g hg) B23.size) (fun g hg => Nat.lt_of_lt_of_le (ownBlock_lt hr2 g hg) B23.size) (by omega) (by omega) (by simp; rfl) ones
      have HC := Lib.hid hC
      have HK := Lib.hid (fun w4 g cap hb hown => (key w3 w4 g cap (1 + m) _ _ B23 hb hown hys).resolve_right (fun h => h rfl))
      have hz2 : w2.heap.size = w.heap.size + 2 := by rw [hw2, alloc_size', Z1]
      have HZ := Lib.hid hz2
      clear hC key hys hS2 hr2 hp2 hg1 hst hrow hS hr hm hl B1 B2 B12 B23 ones hz2 q0
      go_enter Tryz.func51, Tryz.ntmps51
      go_wp2_with fail
      have hX := HC.out
      rw [HZ.out, hw3, hw2, hw1] at hX
      refine hX.mono ?_
      rintro e w4 ⟨g, cap, rfl, hown, hb4⟩
      have HV := Lib.hid (HK.out w4 g cap (by rw [hw3, hw2, hw1]; exact hb4) (by rw [hw3, hw2, hw1]; exact hown))
      clear hown hb4 hX
      go_wp2_with fail
      go_ret
      exact HV.out
    · have h2 : n = 2 := by omega
      subst h2
      have HF := Lib.hid (show ArdTo 2 xs w (.returned (.slice a m c)) w2 from ⟨⟨_, _, rfl, ⟨vs, ⟨by rw [← hm]; exact hr2, fun g hg => Nat.lt_of_lt_of_le (hS g (hrow.2 g hg)) B2.size⟩, hS2⟩, fun k hk => hk⟩, B2⟩)
      clear hS2 hr2 hp2 hg1 hst hrow hS key hm hl ones hr
      go_enter Tryz.func51, Tryz.ntmps51
      go_wp2_with fail
      go_ret
      have h := HF.out
      rw [hw2, hw1] at h
      exact h
end Go.Proofs.YtkdnbdgpcgookaaGreatDoor
namespace Go.Proofs.YtkdnbdgpcgookaaGreatDoor
open Go.RowKit Gram

set_option maxHeartbeats 1000000 in
theorem word_any (w : World) : Calls Tryz.prog 50 #[.int .i64 2] w fun e w' => e = .returned (.string aroundS) ∧ w = w' := by
  go_enter Tryz.func50, Tryz.ntmps50
  go_wp2_with fail
  go_ret
  exact ⟨rfl, rfl⟩

theorem ar_start {w w1 : World} {k c b : ByteArray} (hy : Cell3 w1 w.heap.size (.string k) (.string c) (.string b)) (x y : Value) :
    (w1.alloc (.cells #[x, y] 57)).drew.cell? ⟨w.heap.size, 1, none⟩ = some (.string c) ∧ (w1.alloc (.cells #[x, y] 57)).drew.cell? ⟨w1.heap.size, 0, none⟩ = some x ∧ (w1.alloc (.cells #[x, y] 57)).drew.cell? ⟨w1.heap.size, 1, none⟩ = some y ∧
    Below w1.heap.size w1 (w1.alloc (.cells #[x, y] 57)).drew ∧ w1.heap.size < (w1.alloc (.cells #[x, y] 57)).drew.heap.size := by
  have h : (w1.alloc (.cells #[x, y] 57)).drew.heap[w1.heap.size]? = some (.cells #[x, y] 57 (0, 0)) := heap_alloc_new _ _
  have hb : Below w1.heap.size w1 (w1.alloc (.cells #[x, y] 57)).drew := ((Below.refl _ _).alloc (Nat.le_refl _) _).drew
  refine ⟨(hy.later hb).read.2.1, by rw [Lib.cell_of_heap h]; rfl, by rw [Lib.cell_of_heap h]; rfl, hb, heap_lt h⟩
theorem ar_later {w w1 w2 w3 : World} {c : ByteArray} {x y : Value} (h : w2.cell? ⟨w.heap.size, 1, none⟩ = some (.string c) ∧ w2.cell? ⟨w1.heap.size, 0, none⟩ = some x ∧ w2.cell? ⟨w1.heap.size, 1, none⟩ = some y ∧ Below w1.heap.size w1 w2 ∧ w1.heap.size < w2.heap.size) (hb : Below w2.heap.size w2 w3) :
    w3.cell? ⟨w.heap.size, 1, none⟩ = some (.string c) ∧ w3.cell? ⟨w1.heap.size, 0, none⟩ = some x ∧ w3.cell? ⟨w1.heap.size, 1, none⟩ = some y ∧ Below w1.heap.size w1 w3 ∧ w1.heap.size < w3.heap.size :=
  ⟨cell_later hb h.1, cell_later hb h.2.1, cell_later hb h.2.2.1, h.2.2.2.1.trans (hb.mono (Nat.le_of_lt h.2.2.2.2)), Nat.lt_of_lt_of_le h.2.2.2.2 hb.size⟩
theorem ar_below {w w1 w2 : World} {c : ByteArray} {x y : Value} (h : w2.cell? ⟨w.heap.size, 1, none⟩ = some (.string c) ∧ w2.cell? ⟨w1.heap.size, 0, none⟩ = some x ∧ w2.cell? ⟨w1.heap.size, 1, none⟩ = some y ∧ Below w1.heap.size w1 w2 ∧ w1.heap.size < w2.heap.size) : Below w1.heap.size w1 w2 := h.2.2.2.1

theorem ar_le {w w1 W : World} {c : ByteArray} {x y : Value} {o : Obj} (h : (W.alloc o).cell? ⟨w.heap.size, 1, none⟩ = some (.string c) ∧ (W.alloc o).cell? ⟨w1.heap.size, 0, none⟩ = some x ∧ (W.alloc o).cell? ⟨w1.heap.size, 1, none⟩ = some y ∧ Below w1.heap.size w1 (W.alloc o) ∧ w1.heap.size < (W.alloc o).heap.size) : w1.heap.size ≤ W.heap.size := by
  have := h.2.2.2.2
  rw [alloc_size'] at this
  omega
theorem ar_swap {w w1 W : World} {c : ByteArray} {n : Int} {y : Value} (h : (W.alloc (.cells #[.string ⟨#[]⟩, .string ⟨#[]⟩, .string ⟨#[]⟩] 24)).cell? ⟨w.heap.size, 1, none⟩ = some (.string c) ∧ (W.alloc (.cells #[.string ⟨#[]⟩, .string ⟨#[]⟩, .string ⟨#[]⟩] 24)).cell? ⟨w1.heap.size, 0, none⟩ = some (.int .i64 n) ∧ (W.alloc (.cells #[.string ⟨#[]⟩, .string ⟨#[]⟩, .string ⟨#[]⟩] 24)).cell? ⟨w1.heap.size, 1, none⟩ = some y ∧ Below w1.heap.size w1 (W.alloc (.cells #[.string ⟨#[]⟩, .string ⟨#[]⟩, .string ⟨#[]⟩] 24)) ∧ w1.heap.size < (W.alloc (.cells #[.string ⟨#[]⟩, .string ⟨#[]⟩, .string ⟨#[]⟩] 24)).heap.size) (hw : w.heap.size < w1.heap.size) (P D R : Value) : (W.alloc (.cells #[P, D, R] 24)).cell? ⟨w.heap.size, 1, none⟩ = some (.string c) ∧ (W.alloc (.cells #[P, D, R] 24)).cell? ⟨w1.heap.size, 0, none⟩ = some (.int .i64 n) ∧ (W.alloc (.cells #[P, D, R] 24)).cell? ⟨w1.heap.size, 1, none⟩ = some y ∧ Below w1.heap.size w1 (W.alloc (.cells #[P, D, R] 24)) ∧ w1.heap.size < (W.alloc (.cells #[P, D, R] 24)).heap.size := by
  have hle := ar_le h
  have hne : w1.heap.size ≠ W.heap.size := by
    intro he
    have h0 := (Cell3.new W (.string ⟨#[]⟩) (.string ⟨#[]⟩) (.string ⟨#[]⟩)).read.1
    rw [← he, h.2.1] at h0
    cases h0
  obtain ⟨h1, h2, h3, h4, h5⟩ := h
  have key : ∀ (o o' : Obj) (b i : Nat), b < W.heap.size → (W.alloc o').cell? ⟨b, i, none⟩ = (W.alloc o).cell? ⟨b, i, none⟩ := fun o o' b i hb =>
    World.cell?_of_block (a := ⟨b, i, none⟩) ((alloc_heap o' b hb).trans (alloc_heap o b hb).symm)
  refine ⟨by rw [key _ _ _ _ (by omega)]; exact h1, by rw [key _ _ _ _ (by omega)]; exact h2, by rw [key _ _ _ _ (by omega)]; exact h3, ?_, by rw [alloc_size']; omega⟩
  refine ⟨h4.os, h4.tape, h4.output, by rw [alloc_size']; omega, fun j hj => ?_⟩
  rw [← h4.block j hj, alloc_heap _ j (by omega), alloc_heap _ j (by omega)]
/-- a block of an aspect behind w1's -/
def Zat (w1 w' : World) (B : Nat) : Prop := Cell3 w' B (.string ⟨#[]⟩) (.string ⟨#[]⟩) (.string ⟨#[]⟩) ∧ w1.heap.size ≤ B
theorem zat_new {w w1 W w' : World} {c : ByteArray} {n : Int} {y : Value} (h : (W.alloc (.cells #[.string ⟨#[]⟩, .string ⟨#[]⟩, .string ⟨#[]⟩] 24)).cell? ⟨w.heap.size, 1, none⟩ = some (.string c) ∧ (W.alloc (.cells #[.string ⟨#[]⟩, .string ⟨#[]⟩, .string ⟨#[]⟩] 24)).cell? ⟨w1.heap.size, 0, none⟩ = some (.int .i64 n) ∧ (W.alloc (.cells #[.string ⟨#[]⟩, .string ⟨#[]⟩, .string ⟨#[]⟩] 24)).cell? ⟨w1.heap.size, 1, none⟩ = some y ∧ Below w1.heap.size w1 (W.alloc (.cells #[.string ⟨#[]⟩, .string ⟨#[]⟩, .string ⟨#[]⟩] 24)) ∧ w1.heap.size < (W.alloc (.cells #[.string ⟨#[]⟩, .string ⟨#[]⟩, .string ⟨#[]⟩] 24)).heap.size) (hb : Below (W.alloc (.cells #[.string ⟨#[]⟩, .string ⟨#[]⟩, .string ⟨#[]⟩] 24)).heap.size (W.alloc (.cells #[.string ⟨#[]⟩, .string ⟨#[]⟩, .string ⟨#[]⟩] 24)) w') : Zat w1 w' W.heap.size :=
  ⟨(Cell3.new W _ _ _).later hb, by have := h.2.2.2.2; rw [alloc_size'] at this; omega⟩
theorem zat_then {G : Prop} {w w1 W w' : World} {c : ByteArray} {n : Int} {y : Value} (h : (W.alloc (.cells #[.string ⟨#[]⟩, .string ⟨#[]⟩, .string ⟨#[]⟩] 24)).cell? ⟨w.heap.size, 1, none⟩ = some (.string c) ∧ (W.alloc (.cells #[.string ⟨#[]⟩, .string ⟨#[]⟩, .string ⟨#[]⟩] 24)).cell? ⟨w1.heap.size, 0, none⟩ = some (.int .i64 n) ∧ (W.alloc (.cells #[.string ⟨#[]⟩, .string ⟨#[]⟩, .string ⟨#[]⟩] 24)).cell? ⟨w1.heap.size, 1, none⟩ = some y ∧ Below w1.heap.size w1 (W.alloc (.cells #[.string ⟨#[]⟩, .string ⟨#[]⟩, .string ⟨#[]⟩] 24)) ∧ w1.heap.size < (W.alloc (.cells #[.string ⟨#[]⟩, .string ⟨#[]⟩, .string ⟨#[]⟩] 24)).heap.size) (hb : Below (W.alloc (.cells #[.string ⟨#[]⟩, .string ⟨#[]⟩, .string ⟨#[]⟩] 24)).heap.size (W.alloc (.cells #[.string ⟨#[]⟩, .string ⟨#[]⟩, .string ⟨#[]⟩] 24)) w') (g : Hid (Zat w1 w' W.heap.size) → G) : G := g (Lib.hid (zat_new h hb))
theorem zat_first {w1 w' : World} {x y : Value} (hb : Below (((w1.alloc (.cells #[x, y] 57)).alloc (.cells #[.string ⟨#[]⟩, .string ⟨#[]⟩, .string ⟨#[]⟩] 24)).drew).heap.size (((w1.alloc (.cells #[x, y] 57)).alloc (.cells #[.string ⟨#[]⟩, .string ⟨#[]⟩, .string ⟨#[]⟩] 24)).drew) w') : Zat w1 w' (w1.heap.size + 1) :=
  ⟨Cell3.later (show Cell3 (((w1.alloc (.cells #[x, y] 57)).alloc (.cells #[.string ⟨#[]⟩, .string ⟨#[]⟩, .string ⟨#[]⟩] 24)).drew) (w1.heap.size + 1) _ _ _ from by have h := Cell3.new (w1.alloc (.cells #[x, y] 57)) (.string ⟨#[]⟩) (.string ⟨#[]⟩) (.string ⟨#[]⟩); rw [alloc_size'] at h; exact h) hb, by omega⟩
theorem Zat.later {w1 w2 w3 : World} {B : Nat} (h : Zat w1 w2 B) (hb : Below w2.heap.size w2 w3) : Zat w1 w3 B := ⟨h.1.later hb, h.2⟩
theorem ar_put {w w1 w2 : World} {c : ByteArray} {n : Int} {y : Value} {B : Nat} (h : w2.cell? ⟨w.heap.size, 1, none⟩ = some (.string c) ∧ w2.cell? ⟨w1.heap.size, 0, none⟩ = some (.int .i64 n) ∧ w2.cell? ⟨w1.heap.size, 1, none⟩ = some y ∧ Below w1.heap.size w1 w2 ∧ w1.heap.size < w2.heap.size) (hz : Zat w1 w2 B) (hw : w.heap.size < w1.heap.size) (p q r : Value) :
    (((w2.setCell ⟨B, 0, none⟩ p).setCell ⟨B, 1, none⟩ q).setCell ⟨B, 2, none⟩ r).cell? ⟨w.heap.size, 1, none⟩ = some (.string c) ∧ (((w2.setCell ⟨B, 0, none⟩ p).setCell ⟨B, 1, none⟩ q).setCell ⟨B, 2, none⟩ r).cell? ⟨w1.heap.size, 0, none⟩ = some (.int .i64 n) ∧ (((w2.setCell ⟨B, 0, none⟩ p).setCell ⟨B, 1, none⟩ q).setCell ⟨B, 2, none⟩ r).cell? ⟨w1.heap.size, 1, none⟩ = some y ∧ Below w1.heap.size w1 (((w2.setCell ⟨B, 0, none⟩ p).setCell ⟨B, 1, none⟩ q).setCell ⟨B, 2, none⟩ r) ∧ w1.heap.size < (((w2.setCell ⟨B, 0, none⟩ p).setCell ⟨B, 1, none⟩ q).setCell ⟨B, 2, none⟩ r).heap.size := by
  have hne : w1.heap.size ≠ B := by
    intro he
    have h0 := hz.1.read.1
    rw [← he, h.2.1] at h0
    cases h0
  have hle := hz.2
  have hne0 : w.heap.size ≠ B := by omega
  obtain ⟨h1, h2, h3, h4, h5⟩ := h
  refine ⟨?_, ?_, ?_, ((h4.setCell (by simpa using hle) p).setCell (by simpa using hle) q).setCell (by simpa using hle) r, by simpa [World.setCell] using h5⟩
  · rw [← h1]; exact World.cell?_of_block (a := ⟨w.heap.size, 1, none⟩) ((heap_set_other hne0 r).trans ((heap_set_other hne0 q).trans (heap_set_other hne0 p)))
  · rw [← h2]; exact World.cell?_of_block (a := ⟨w1.heap.size, 0, none⟩) ((heap_set_other hne r).trans ((heap_set_other hne q).trans (heap_set_other hne p)))
  · rw [← h3]; exact World.cell?_of_block (a := ⟨w1.heap.size, 1, none⟩) ((heap_set_other hne r).trans ((heap_set_other hne q).trans (heap_set_other hne p)))
theorem zat_alloc {w w1 W : World} {c : ByteArray} {n : Int} {y : Value} (h : (W.alloc (.cells #[.string ⟨#[]⟩, .string ⟨#[]⟩, .string ⟨#[]⟩] 24)).cell? ⟨w.heap.size, 1, none⟩ = some (.string c) ∧ (W.alloc (.cells #[.string ⟨#[]⟩, .string ⟨#[]⟩, .string ⟨#[]⟩] 24)).cell? ⟨w1.heap.size, 0, none⟩ = some (.int .i64 n) ∧ (W.alloc (.cells #[.string ⟨#[]⟩, .string ⟨#[]⟩, .string ⟨#[]⟩] 24)).cell? ⟨w1.heap.size, 1, none⟩ = some y ∧ Below w1.heap.size w1 (W.alloc (.cells #[.string ⟨#[]⟩, .string ⟨#[]⟩, .string ⟨#[]⟩] 24)) ∧ w1.heap.size < (W.alloc (.cells #[.string ⟨#[]⟩, .string ⟨#[]⟩, .string ⟨#[]⟩] 24)).heap.size) : Zat w1 (W.alloc (.cells #[.string ⟨#[]⟩, .string ⟨#[]⟩, .string ⟨#[]⟩] 24)) W.heap.size :=
  ⟨Cell3.new W _ _ _, by have := h.2.2.2.2; rw [alloc_size'] at this; omega⟩
/-- two blocks of aspects side by side -/
theorem beside3 {w : World} {B R : Nat} {x y z : Value} (h : Cell3 w B x y z) (hne : B ≠ R) (v v' v'' : Value) :
    (w.setCell ⟨R, 0, none⟩ v).cell? ⟨B, 0, none⟩ = some x ∧ ((w.setCell ⟨R, 0, none⟩ v).setCell ⟨R, 1, none⟩ v').cell? ⟨B, 1, none⟩ = some y ∧ (((w.setCell ⟨R, 0, none⟩ v).setCell ⟨R, 1, none⟩ v').setCell ⟨R, 2, none⟩ v'').cell? ⟨B, 2, none⟩ = some z := by
  obtain ⟨h0, h1, h2, _⟩ := h.read
  refine ⟨?_, ?_, ?_⟩
  · exact (World.cell?_of_block (a := ⟨B, 0, none⟩) (heap_set_other hne v)).trans h0
  · exact (World.cell?_of_block (a := ⟨B, 1, none⟩) ((heap_set_other hne v').trans (heap_set_other hne v))).trans h1
  · exact (World.cell?_of_block (a := ⟨B, 2, none⟩) ((heap_set_other hne v'').trans ((heap_set_other hne v').trans (heap_set_other hne v)))).trans h2

set_option maxHeartbeats 20000000 in
set_option maxRecDepth 100000 in
theorem impl_ard (k c b : ByteArray) (w : World) (ek ec eb el ep : Addr) (h : Errs w ek ec eb el ep) (hc : c.size ≤ 1073741824) (hb : b.size ≤ 1073741824) :
    Calls Tryz.prog 23 #[aspV k c b] w fun e w' => e = .returned (parV (ardA k c b)) ∧ Below w.heap.size w w' := by
  have HR := Lib.hid (fun w' (hw : Below w.heap.size w w') => rasp_any k c b w' ek ec eb el ep (h.later hw) hc hb)
  have HX := Lib.hid (Cell3.new (w.alloc (.cells #[.string k, .string c, .string b] 24)) (.string ⟨#[]⟩) (.string ⟨#[]⟩) (.string ⟨#[]⟩))
  have HY := Lib.hid ((Cell3.new w (.string k) (.string c) (.string b)).later ((Below.refl _ _).alloc (Nat.le_refl _) (.cells #[.string ⟨#[]⟩, .string ⟨#[]⟩, .string ⟨#[]⟩] 24)))
  have HB0 := Lib.hid (((Below.refl _ w).alloc (Nat.le_refl _) (.cells #[.string k, .string c, .string b] 24)).alloc (by simp) (.cells #[.string ⟨#[]⟩, .string ⟨#[]⟩, .string ⟨#[]⟩] 24))
  have Z1 : (w.alloc (.cells #[.string k, .string c, .string b] 24)).heap.size = w.heap.size + 1 := alloc_size' _ _
  rw [Z1] at HX
  clear Z1
  unfold aspV ardA at *
  cases ho : aspOf k c b with
  | none =>
    clear h hc hb
    rw [ho] at HR
    clear ho
    unfold RaspTo errV at HR
    unfold parV aspV
    dsimp only
    go_enter Tryz.func23, Tryz.ntmps23
    go_wp2_with fail
    generalize (w.alloc (Obj.cells #[.string k, .string c, .string b] 24)).alloc (Obj.cells #[.string ⟨#[]⟩, .string ⟨#[]⟩, .string ⟨#[]⟩] 24) = w0 at *
    refine (HR.out _ HB0.out).mono ?_
    rintro e w1 ⟨⟨a, rfl⟩, hb1⟩
    have HB1 := Lib.hid (HB0.out.trans (hb1.mono HB0.out.size))
    have HX1 := Lib.hid (HX.out.later hb1)
    clear hb1
    have HX2 := Lib.hid (HX1.out.later ((Below.refl _ _).alloc (Nat.le_refl _) (.cells #[.int .i64 0, .slice none 0 0] 57)))
    have HB2 := Lib.hid (HB1.out.alloc HB1.out.size (.cells #[.int .i64 0, .slice none 0 0] 57))
    obtain ⟨q0, q1, q2, f0, f1, f2⟩ := HX2.out.read
    go_wp2_with fail
    obtain ⟨r0, r1, r2, _⟩ := (HX2.out.put (.string ⟨#[]⟩) (.string ⟨#[]⟩) (.string ⟨#[]⟩)).read
    refine bodyPost_ret (v := .tuple #[.agg #[.string ⟨#[]⟩, .string ⟨#[]⟩, .string ⟨#[]⟩], .bool false]) ?_ rfl ⟨rfl, ((HB2.out.setCell (by simp) _).setCell (by simp) _).setCell (by simp) _⟩
    simp [results, Tryz.results23, go_sem, r0, r1, r2]
  | some p =>
    obtain ⟨n, xs⟩ := p
    obtain ⟨hkd, _, ha, _⟩ := aspOf_some ho
    obtain ⟨hb60, htx, hwf, _⟩ := advOf_some ha
    have hlen : (txts xs).length ≤ 60 := by rw [← htx]; simpa using hb60
    have hn : n ≤ 2 := by
      rcases kindOf_cases hkd with ⟨e, _⟩ | ⟨e, _⟩ | ⟨e, _⟩ <;> omega
    have hal := ard_len n xs
    have HA := Lib.hid (fun v S w' hS hB => around_any n hn xs v S w' (by omega) hS hB)
    have HT := Lib.hid (fun w' S v (hB : IsBody w' S (ardOf n xs) v) (hS : ∀ k, S k → k < w'.heap.size) => body_step _ (text_all 1000) (ardOf n xs) w' S v (by omega) (by omega) hS hB)
    have HO := Lib.hid (fun w' (hw : Below w.heap.size w w') => only_any aroundS c (strL (txts (ardOf n xs))) w' ek ec eb el ep (h.later hw) hc (by rw [strL_size]; omega))
    have HW := Lib.hid word_any
    unfold strV onlyV aspV at *
    unfold strL at *
    clear h hc hb hb60 htx hwf hlen ha hal hkd
    rw [ho] at HR
    clear ho
    unfold RaspTo at HR
    unfold ArdTo at HA
    dsimp only at HR ⊢
    unfold aroundS at *
    generalize hys : ardOf n xs = ys at *
    clear hys
    generalize (⟨(txts ys).toArray⟩ : ByteArray) = T at *
    obtain ⟨P, D, R, q, hq, hO, hP⟩ : ∃ (P D R : ByteArray) (q : Value), parV (if (aspOf ⟨#[97, 114, 111, 117, 110, 100]⟩ c T).isSome = true then some (⟨#[97, 114, 111, 117, 110, 100]⟩, c, T) else none) = q ∧
        (if (aspOf ⟨#[97, 114, 111, 117, 110, 100]⟩ c T).isSome = true then Value.agg #[.string ⟨#[97, 114, 111, 117, 110, 100]⟩, .string c, .string T] else Value.agg #[.string ⟨#[]⟩, .string ⟨#[]⟩, .string ⟨#[]⟩]) = .agg #[.string P, .string D, .string R] ∧
        ((P = ⟨#[]⟩ ∧ D = ⟨#[]⟩ ∧ R = ⟨#[]⟩ ∧ q = .tuple #[.agg #[.string ⟨#[]⟩, .string ⟨#[]⟩, .string ⟨#[]⟩], .bool false]) ∨ (P.toList.isEmpty = false ∧ q = .tuple #[.agg #[.string P, .string D, .string R], .bool true])) := by
      cases (aspOf ⟨#[97, 114, 111, 117, 110, 100]⟩ c T).isSome with
      | true => exact ⟨_, _, _, _, rfl, rfl, .inr ⟨by kernel_rfl, rfl⟩⟩
      | false => exact ⟨_, _, _, _, rfl, rfl, .inl ⟨rfl, rfl, rfl, rfl⟩⟩
    rw [hq]
    rw [hO] at HO
    have HQ := Lib.hid hP
    have hlt2 : ∀ (w1 : World), Cell3 w1 (w.heap.size + 1) (.string ⟨#[]⟩) (.string ⟨#[]⟩) (.string ⟨#[]⟩) → w.heap.size + 1 < w1.heap.size := fun _ h => heap_lt h
    have HL2 := Lib.hid hlt2
    clear hq hO hP hlt2
    go_enter Tryz.func23, Tryz.ntmps23
    go_wp2_with fail
    generalize (w.alloc (Obj.cells #[.string k, .string c, .string b] 24)).alloc (Obj.cells #[.string ⟨#[]⟩, .string ⟨#[]⟩, .string ⟨#[]⟩] 24) = w0 at *
    refine (HR.out _ HB0.out).mono ?_
    rintro e w1 ⟨⟨v, S, rfl, hB, hS⟩, hb1⟩
    have HB1 := Lib.hid (HB0.out.trans (hb1.mono HB0.out.size))
    have HX1 := Lib.hid (HX.out.later hb1)
    have HY1 := Lib.hid (HY.out.later hb1)
    have HBd := Lib.hid hB
    have HS := Lib.hid hS
    obtain ⟨va, vn, vc, rfl⟩ := hB.form
    clear hb1 hB hS
    go_wp2_with fail
    have n0 := fun w x y z => (Cell3.new w x y z).read.1
    have n1 := fun w x y z => (Cell3.new w x y z).read.2.1
    have n2 := fun w x y z => (Cell3.new w x y z).read.2.2.1
    have n3 := fun w x y z => (Cell3.new w x y z).read.2.2.2.1
    have n4 := fun w x y z => (Cell3.new w x y z).read.2.2.2.2.1
    have n5 := fun w x y z => (Cell3.new w x y z).read.2.2.2.2.2
    have hlt1 : w.heap.size < w1.heap.size := heap_lt HY1.out
    go_region_held3 (fun w' => w'.cell? ⟨w.heap.size, 1, none⟩ = some (.string c) ∧ w'.cell? ⟨w1.heap.size, 0, none⟩ = some (.int .i64 n) ∧ w'.cell? ⟨w1.heap.size, 1, none⟩ = some (.slice va vn vc) ∧ Below w1.heap.size w1 w' ∧ w1.heap.size < w'.heap.size)
      ((first | assumption | exact ar_start HY1.out _ _ | (apply ar_later; assumption; assumption) | (apply ar_later; assumption; exact (Below.refl _ _).alloc (Nat.le_refl _) _) | (refine ar_put ?_ Z5.out hlt1 _ _ _; assumption) | (refine ar_swap ?_ hlt1 _ _ _; assumption) | (refine ar_put ?_ (zat_alloc (w := w) (w1 := w1) (c := c) (n := n) (y := .slice va vn vc) ?_) hlt1 _ _ _; assumption; assumption)))
      ((first
      | (go_at_call 50; refine (HW.out _).mono ?_; rintro e w' ⟨rfl, rfl⟩)
      | (go_at_call 51; refine (HA.out _ S _ (fun j hj => Nat.lt_of_lt_of_le (HS.out j hj) (ar_below (by assumption)).size) (HBd.out.kept (fun j hj => (ar_below (by assumption)).block j (HS.out j hj)) (fun _ h => h))).mono ?_
         rintro e w3 ⟨⟨v3, S3, rfl, hB3, hS3⟩, hb3⟩
         have HB3 := Lib.hid hB3
         have HS3 := Lib.hid hS3
         have HT3 := Lib.hid (fun w' (hb : Below w3.heap.size w3 w') => HT.out w' S3 v3 (HB3.out.kept (fun j hj => hb.block j (HS3.out j hj)) (fun _ h => h)) (fun j hj => Nat.lt_of_lt_of_le (HS3.out j hj) hb.size))
         clear hB3 hS3
         (first | have Z3 := Lib.hid (zat_first hb3) | (refine zat_then (w := w) (w1 := w1) (c := c) (n := n) (y := .slice va vn vc) ?_ hb3 ?_; assumption; intro Z3) | skip))
      | (go_at_call 43; refine (HT3.out _ ?hbb).mono ?_
         case hbb => (first | exact Below.refl _ _ | exact (Below.refl _ _).alloc (Nat.le_refl _) _)
         rintro e w4 ⟨rfl, hb4⟩
         (first | have Z4 := Lib.hid (Z3.out.later hb4) | (refine zat_then (w := w) (w1 := w1) (c := c) (n := n) (y := .slice va vn vc) ?_ hb4 ?_; assumption; intro Z4) | skip))
      | (go_at_call 33; refine (HO.out _ (HB1.out.trans ((ar_below (by assumption)).mono HB1.out.size))).mono ?_
         rintro e w5 ⟨rfl, hb5⟩
         (first | have Z5 := Lib.hid (Z4.out.later hb5) | (refine zat_then (w := w) (w1 := w1) (c := c) (n := n) (y := .slice va vn vc) ?_ hb5 ?_; assumption; intro Z5) | skip)
         (try obtain ⟨m0, m1, m2, m3, m4, m5⟩ := Z5.out.1.read))))
    all_goals
      have HX5 := Lib.hid (HX1.out.later (ar_below (by assumption)))
      have HB5 := Lib.hid (HB1.out.trans ((ar_below (by assumption)).mono HB1.out.size))
      have hl2 := HL2.out _ HX1.out
      clear n0 n1 n2 n3 n4 n5
      first
      | (have HZ := Lib.hid (Z5.out.1.put (.string P) (.string D) (.string R))
         have hB1 := Z5.out.2
         clear m0 m1 m2 m3 m4 m5
         generalize ((w5.setCell _ _).setCell _ _).setCell _ _ = wf at *)
      | (have HZ := Lib.hid (Cell3.new w5 (.string P) (.string D) (.string R))
         have hB1 : w1.heap.size ≤ w5.heap.size := ar_le (by assumption)
         generalize w5.alloc _ = wf at *)
      have l0 := fun v => (beside3 (R := w.heap.size + 1) HZ.out (by omega) v v v).1
      have l1 := fun v v' => (beside3 (R := w.heap.size + 1) HZ.out (by omega) v v' v).2.1
      have l2 := fun v v' v'' => (beside3 (R := w.heap.size + 1) HZ.out (by omega) v v' v'').2.2
      obtain ⟨x0, x1, x2, y0, y1, y2⟩ := HX5.out.read
      obtain ⟨z0, z1, z2, _, _, _⟩ := HZ.out.read
      rcases HQ.out with ⟨rfl, rfl, rfl, hq⟩ | ⟨hP, hq⟩
      · have HV := Lib.hid hq
        clear hq
        go_wp2_with fail
        go_region
        all_goals
          go_wp2_with fail
          obtain ⟨r0, r1, r2, _⟩ := (HX5.out.put (.string ⟨#[]⟩) (.string ⟨#[]⟩) (.string ⟨#[]⟩)).read
          refine bodyPost_ret (v := .tuple #[.agg #[.string ⟨#[]⟩, .string ⟨#[]⟩, .string ⟨#[]⟩], .bool false]) ?_ rfl ⟨by rw [HV.out], (((HB5.out.setCell (by simp) _).setCell (by simp) _).setCell (by simp) _).drew⟩
          simp [results, Tryz.results23, go_sem, r0, r1, r2]
      · have HV := Lib.hid hq
        clear hq
        go_wp2_with fail
        go_region
        all_goals
          go_wp2_with fail
          obtain ⟨r0, r1, r2, _⟩ := (HX5.out.put (.string P) (.string D) (.string R)).read
          refine bodyPost_ret (v := .tuple #[.agg #[.string P, .string D, .string R], .bool true]) ?_ rfl ⟨by rw [HV.out], (((HB5.out.setCell (by simp) _).setCell (by simp) _).setCell (by simp) _).drew⟩
          simp [results, Tryz.results23, go_sem, r0, r1, r2]
end Go.Proofs.YtkdnbdgpcgookaaGreatDoor
