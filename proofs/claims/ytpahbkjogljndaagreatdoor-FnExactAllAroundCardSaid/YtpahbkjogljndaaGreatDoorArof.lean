/- AroundOf of the program, as the plain ardA says. Conditions: texts of at most 2^30 bytes; the errors lie where start-up laid them. -/
import Derived.Test.YtpahbkjogljndaaGreatDoorArd
import Derived.Test.YtpahbkjogljndaaGreatDoorOnly
import Derived.Deep.RegionHeld3
import Derived.Deep.RegionWith
namespace Go.Proofs.YtpahbkjogljndaaGreatDoor
open Go.RowKit Gram

set_option maxHeartbeats 1000000 in
theorem word_any (w : World) : Calls Tryz.prog 35 #[.int .i64 2] w fun e w' => e = .returned (.string aroundS) ∧ w = w' := by
  go_enter Tryz.func35, Tryz.ntmps35
  go_wp2_with fail
  go_ret
  exact ⟨rfl, rfl⟩

theorem ar_start {w w1 : World} {k c b : ByteArray} (hy : Cell3 w1 w.heap.size (.string k) (.string c) (.string b)) (x y : Value) :
    (w1.alloc (.cells #[x, y] 49)).drew.cell? ⟨w.heap.size, 1, none⟩ = some (.string c) ∧ (w1.alloc (.cells #[x, y] 49)).drew.cell? ⟨w1.heap.size, 0, none⟩ = some x ∧ (w1.alloc (.cells #[x, y] 49)).drew.cell? ⟨w1.heap.size, 1, none⟩ = some y ∧
    Below w1.heap.size w1 (w1.alloc (.cells #[x, y] 49)).drew ∧ w1.heap.size < (w1.alloc (.cells #[x, y] 49)).drew.heap.size := by
  have h : (w1.alloc (.cells #[x, y] 49)).drew.heap[w1.heap.size]? = some (.cells #[x, y] 49 (0, 0)) := heap_alloc_new _ _
  have hb : Below w1.heap.size w1 (w1.alloc (.cells #[x, y] 49)).drew := ((Below.refl _ _).alloc (Nat.le_refl _) _).drew
  refine ⟨(hy.later hb).read.2.1, by rw [Lib.cell_of_heap h]; rfl, by rw [Lib.cell_of_heap h]; rfl, hb, heap_lt h⟩
theorem ar_later {w w1 w2 w3 : World} {c : ByteArray} {x y : Value} (h : w2.cell? ⟨w.heap.size, 1, none⟩ = some (.string c) ∧ w2.cell? ⟨w1.heap.size, 0, none⟩ = some x ∧ w2.cell? ⟨w1.heap.size, 1, none⟩ = some y ∧ Below w1.heap.size w1 w2 ∧ w1.heap.size < w2.heap.size) (hb : Below w2.heap.size w2 w3) :
    w3.cell? ⟨w.heap.size, 1, none⟩ = some (.string c) ∧ w3.cell? ⟨w1.heap.size, 0, none⟩ = some x ∧ w3.cell? ⟨w1.heap.size, 1, none⟩ = some y ∧ Below w1.heap.size w1 w3 ∧ w1.heap.size < w3.heap.size :=
  ⟨cell_later hb h.1, cell_later hb h.2.1, cell_later hb h.2.2.1, h.2.2.2.1.trans (hb.mono (Nat.le_of_lt h.2.2.2.2)), Nat.lt_of_lt_of_le h.2.2.2.2 hb.size⟩
theorem ar_below {w w1 w2 : World} {c : ByteArray} {x y : Value} (h : w2.cell? ⟨w.heap.size, 1, none⟩ = some (.string c) ∧ w2.cell? ⟨w1.heap.size, 0, none⟩ = some x ∧ w2.cell? ⟨w1.heap.size, 1, none⟩ = some y ∧ Below w1.heap.size w1 w2 ∧ w1.heap.size < w2.heap.size) : Below w1.heap.size w1 w2 := h.2.2.2.1

theorem ar_le {w w1 W : World} {c : ByteArray} {x y : Value} {o : Obj} (h : (W.alloc o).cell? ⟨w.heap.size, 1, none⟩ = some (.string c) ∧ (W.alloc o).cell? ⟨w1.heap.size, 0, none⟩ = some x ∧ (W.alloc o).cell? ⟨w1.heap.size, 1, none⟩ = some y ∧ Below w1.heap.size w1 (W.alloc o) ∧ w1.heap.size < (W.alloc o).heap.size) : w1.heap.size ≤ W.heap.size := by
  have := h.2.2.2.2
  rw [alloc_size'] at this
  omega
theorem ar_swap {w w1 W : World} {c : ByteArray} {n : Int} {y : Value} (h : (W.alloc (.cells #[.string ⟨#[]⟩, .string ⟨#[]⟩, .string ⟨#[]⟩] 34)).cell? ⟨w.heap.size, 1, none⟩ = some (.string c) ∧ (W.alloc (.cells #[.string ⟨#[]⟩, .string ⟨#[]⟩, .string ⟨#[]⟩] 34)).cell? ⟨w1.heap.size, 0, none⟩ = some (.int .i64 n) ∧ (W.alloc (.cells #[.string ⟨#[]⟩, .string ⟨#[]⟩, .string ⟨#[]⟩] 34)).cell? ⟨w1.heap.size, 1, none⟩ = some y ∧ Below w1.heap.size w1 (W.alloc (.cells #[.string ⟨#[]⟩, .string ⟨#[]⟩, .string ⟨#[]⟩] 34)) ∧ w1.heap.size < (W.alloc (.cells #[.string ⟨#[]⟩, .string ⟨#[]⟩, .string ⟨#[]⟩] 34)).heap.size) (hw : w.heap.size < w1.heap.size) (P D R : Value) : (W.alloc (.cells #[P, D, R] 34)).cell? ⟨w.heap.size, 1, none⟩ = some (.string c) ∧ (W.alloc (.cells #[P, D, R] 34)).cell? ⟨w1.heap.size, 0, none⟩ = some (.int .i64 n) ∧ (W.alloc (.cells #[P, D, R] 34)).cell? ⟨w1.heap.size, 1, none⟩ = some y ∧ Below w1.heap.size w1 (W.alloc (.cells #[P, D, R] 34)) ∧ w1.heap.size < (W.alloc (.cells #[P, D, R] 34)).heap.size := by
  have hle := ar_le h
  have hne : w1.heap.size ≠ W.heap.size := by
    intro he
    have h0 := (Cell3.new W (.string ⟨#[]⟩) (.string ⟨#[]⟩) (.string ⟨#[]⟩)).read.1
    rw [← he, h.2.1] at h0
    cases h0
  obtain ⟨h1, h2, h3, h4, h5⟩ := h
  have key : ∀ (o o' : Obj) (b i : Nat), b < W.heap.size → (W.alloc o').cell? ⟨b, i, none⟩ = (W.alloc o).cell? ⟨b, i, none⟩ := fun o o' b i hb =>
    World.cell?_of_block (a := ⟨b, i, none⟩) ((alloc_heap o' b hb).trans (alloc_heap o b hb).symm)
  refine ⟨by rw [key _ _ _ _ (by omega)]; exact h1, by rw [key _ _ _ _ (by omega)]; exact h2, by rw [key _ _ _ _ (by omega)]; exact h3, ?_, by rw [alloc_size']; omega⟩
  refine ⟨h4.os, h4.tape, h4.output, by rw [alloc_size']; omega, fun j hj => ?_⟩
  rw [← h4.block j hj, alloc_heap _ j (by omega), alloc_heap _ j (by omega)]
/-- a block of an aspect behind w1's -/
def Zat (w1 w' : World) (B : Nat) : Prop := Cell3 w' B (.string ⟨#[]⟩) (.string ⟨#[]⟩) (.string ⟨#[]⟩) ∧ w1.heap.size ≤ B
theorem zat_new {w w1 W w' : World} {c : ByteArray} {n : Int} {y : Value} (h : (W.alloc (.cells #[.string ⟨#[]⟩, .string ⟨#[]⟩, .string ⟨#[]⟩] 34)).cell? ⟨w.heap.size, 1, none⟩ = some (.string c) ∧ (W.alloc (.cells #[.string ⟨#[]⟩, .string ⟨#[]⟩, .string ⟨#[]⟩] 34)).cell? ⟨w1.heap.size, 0, none⟩ = some (.int .i64 n) ∧ (W.alloc (.cells #[.string ⟨#[]⟩, .string ⟨#[]⟩, .string ⟨#[]⟩] 34)).cell? ⟨w1.heap.size, 1, none⟩ = some y ∧ Below w1.heap.size w1 (W.alloc (.cells #[.string ⟨#[]⟩, .string ⟨#[]⟩, .string ⟨#[]⟩] 34)) ∧ w1.heap.size < (W.alloc (.cells #[.string ⟨#[]⟩, .string ⟨#[]⟩, .string ⟨#[]⟩] 34)).heap.size) (hb : Below (W.alloc (.cells #[.string ⟨#[]⟩, .string ⟨#[]⟩, .string ⟨#[]⟩] 34)).heap.size (W.alloc (.cells #[.string ⟨#[]⟩, .string ⟨#[]⟩, .string ⟨#[]⟩] 34)) w') : Zat w1 w' W.heap.size :=
  ⟨(Cell3.new W _ _ _).later hb, by have := h.2.2.2.2; rw [alloc_size'] at this; omega⟩
theorem zat_then {G : Prop} {w w1 W w' : World} {c : ByteArray} {n : Int} {y : Value} (h : (W.alloc (.cells #[.string ⟨#[]⟩, .string ⟨#[]⟩, .string ⟨#[]⟩] 34)).cell? ⟨w.heap.size, 1, none⟩ = some (.string c) ∧ (W.alloc (.cells #[.string ⟨#[]⟩, .string ⟨#[]⟩, .string ⟨#[]⟩] 34)).cell? ⟨w1.heap.size, 0, none⟩ = some (.int .i64 n) ∧ (W.alloc (.cells #[.string ⟨#[]⟩, .string ⟨#[]⟩, .string ⟨#[]⟩] 34)).cell? ⟨w1.heap.size, 1, none⟩ = some y ∧ Below w1.heap.size w1 (W.alloc (.cells #[.string ⟨#[]⟩, .string ⟨#[]⟩, .string ⟨#[]⟩] 34)) ∧ w1.heap.size < (W.alloc (.cells #[.string ⟨#[]⟩, .string ⟨#[]⟩, .string ⟨#[]⟩] 34)).heap.size) (hb : Below (W.alloc (.cells #[.string ⟨#[]⟩, .string ⟨#[]⟩, .string ⟨#[]⟩] 34)).heap.size (W.alloc (.cells #[.string ⟨#[]⟩, .string ⟨#[]⟩, .string ⟨#[]⟩] 34)) w') (g : Hid (Zat w1 w' W.heap.size) → G) : G := g (Lib.hid (zat_new h hb))
theorem zat_first {w1 w' : World} {x y : Value} (hb : Below (((w1.alloc (.cells #[x, y] 49)).alloc (.cells #[.string ⟨#[]⟩, .string ⟨#[]⟩, .string ⟨#[]⟩] 34)).drew).heap.size (((w1.alloc (.cells #[x, y] 49)).alloc (.cells #[.string ⟨#[]⟩, .string ⟨#[]⟩, .string ⟨#[]⟩] 34)).drew) w') : Zat w1 w' (w1.heap.size + 1) :=
  ⟨Cell3.later (show Cell3 (((w1.alloc (.cells #[x, y] 49)).alloc (.cells #[.string ⟨#[]⟩, .string ⟨#[]⟩, .string ⟨#[]⟩] 34)).drew) (w1.heap.size + 1) _ _ _ from by have h := Cell3.new (w1.alloc (.cells #[x, y] 49)) (.string ⟨#[]⟩) (.string ⟨#[]⟩) (.string ⟨#[]⟩); rw [alloc_size'] at h; exact h) hb, by omega⟩
theorem Zat.later {w1 w2 w3 : World} {B : Nat} (h : Zat w1 w2 B) (hb : Below w2.heap.size w2 w3) : Zat w1 w3 B := ⟨h.1.later hb, h.2⟩
theorem ar_put {w w1 w2 : World} {c : ByteArray} {n : Int} {y : Value} {B : Nat} (h : w2.cell? ⟨w.heap.size, 1, none⟩ = some (.string c) ∧ w2.cell? ⟨w1.heap.size, 0, none⟩ = some (.int .i64 n) ∧ w2.cell? ⟨w1.heap.size, 1, none⟩ = some y ∧ Below w1.heap.size w1 w2 ∧ w1.heap.size < w2.heap.size) (hz : Zat w1 w2 B) (hw : w.heap.size < w1.heap.size) (p q r : Value) :
    (((w2.setCell ⟨B, 0, none⟩ p).setCell ⟨B, 1, none⟩ q).setCell ⟨B, 2, none⟩ r).cell? ⟨w.heap.size, 1, none⟩ = some (.string c) ∧ (((w2.setCell ⟨B, 0, none⟩ p).setCell ⟨B, 1, none⟩ q).setCell ⟨B, 2, none⟩ r).cell? ⟨w1.heap.size, 0, none⟩ = some (.int .i64 n) ∧ (((w2.setCell ⟨B, 0, none⟩ p).setCell ⟨B, 1, none⟩ q).setCell ⟨B, 2, none⟩ r).cell? ⟨w1.heap.size, 1, none⟩ = some y ∧ Below w1.heap.size w1 (((w2.setCell ⟨B, 0, none⟩ p).setCell ⟨B, 1, none⟩ q).setCell ⟨B, 2, none⟩ r) ∧ w1.heap.size < (((w2.setCell ⟨B, 0, none⟩ p).setCell ⟨B, 1, none⟩ q).setCell ⟨B, 2, none⟩ r).heap.size := by
  have hne : w1.heap.size ≠ B := by
    intro he
    have h0 := hz.1.read.1
    rw [← he, h.2.1] at h0
    cases h0
  have hle := hz.2
  have hne0 : w.heap.size ≠ B := by omega
  obtain ⟨h1, h2, h3, h4, h5⟩ := h
  refine ⟨?_, ?_, ?_, ((h4.setCell (by simpa using hle) p).setCell (by simpa using hle) q).setCell (by simpa using hle) r, by simpa [World.setCell] using h5⟩
  · rw [← h1]; exact World.cell?_of_block (a := ⟨w.heap.size, 1, none⟩) ((heap_set_other hne0 r).trans ((heap_set_other hne0 q).trans (heap_set_other hne0 p)))
  · rw [← h2]; exact World.cell?_of_block (a := ⟨w1.heap.size, 0, none⟩) ((heap_set_other hne r).trans ((heap_set_other hne q).trans (heap_set_other hne p)))
  · rw [← h3]; exact World.cell?_of_block (a := ⟨w1.heap.size, 1, none⟩) ((heap_set_other hne r).trans ((heap_set_other hne q).trans (heap_set_other hne p)))
theorem zat_alloc {w w1 W : World} {c : ByteArray} {n : Int} {y : Value} (h : (W.alloc (.cells #[.string ⟨#[]⟩, .string ⟨#[]⟩, .string ⟨#[]⟩] 34)).cell? ⟨w.heap.size, 1, none⟩ = some (.string c) ∧ (W.alloc (.cells #[.string ⟨#[]⟩, .string ⟨#[]⟩, .string ⟨#[]⟩] 34)).cell? ⟨w1.heap.size, 0, none⟩ = some (.int .i64 n) ∧ (W.alloc (.cells #[.string ⟨#[]⟩, .string ⟨#[]⟩, .string ⟨#[]⟩] 34)).cell? ⟨w1.heap.size, 1, none⟩ = some y ∧ Below w1.heap.size w1 (W.alloc (.cells #[.string ⟨#[]⟩, .string ⟨#[]⟩, .string ⟨#[]⟩] 34)) ∧ w1.heap.size < (W.alloc (.cells #[.string ⟨#[]⟩, .string ⟨#[]⟩, .string ⟨#[]⟩] 34)).heap.size) : Zat w1 (W.alloc (.cells #[.string ⟨#[]⟩, .string ⟨#[]⟩, .string ⟨#[]⟩] 34)) W.heap.size :=
  ⟨Cell3.new W _ _ _, by have := h.2.2.2.2; rw [alloc_size'] at this; omega⟩
/-- two blocks of aspects side by side -/
theorem beside3 {w : World} {B R : Nat} {x y z : Value} (h : Cell3 w B x y z) (hne : B ≠ R) (v v' v'' : Value) :
    (w.setCell ⟨R, 0, none⟩ v).cell? ⟨B, 0, none⟩ = some x ∧ ((w.setCell ⟨R, 0, none⟩ v).setCell ⟨R, 1, none⟩ v').cell? ⟨B, 1, none⟩ = some y ∧ (((w.setCell ⟨R, 0, none⟩ v).setCell ⟨R, 1, none⟩ v').setCell ⟨R, 2, none⟩ v'').cell? ⟨B, 2, none⟩ = some z := by
  obtain ⟨h0, h1, h2, _⟩ := h.read
  refine ⟨?_, ?_, ?_⟩
  · exact (World.cell?_of_block (a := ⟨B, 0, none⟩) (heap_set_other hne v)).trans h0
  · exact (World.cell?_of_block (a := ⟨B, 1, none⟩) ((heap_set_other hne v').trans (heap_set_other hne v))).trans h1
  · exact (World.cell?_of_block (a := ⟨B, 2, none⟩) ((heap_set_other hne v'').trans ((heap_set_other hne v').trans (heap_set_other hne v)))).trans h2

set_option maxHeartbeats 20000000 in
set_option maxRecDepth 100000 in
theorem impl_ard (k c b : ByteArray) (w : World) (ek ec eb el ep : Addr) (h : Errs w ek ec eb el ep) (hc : c.size ≤ 1073741824) (hb : b.size ≤ 1073741824) :
    Calls Tryz.prog 23 #[aspV k c b] w fun e w' => e = .returned (parV (ardA k c b)) ∧ Below w.heap.size w w' := by
  have HR := Lib.hid (fun w' (hw : Below w.heap.size w w') => rasp_any k c b w' ek ec eb el ep (h.later hw) hc hb)
  have HX := Lib.hid (Cell3.new (w.alloc (.cells #[.string k, .string c, .string b] 34)) (.string ⟨#[]⟩) (.string ⟨#[]⟩) (.string ⟨#[]⟩))
  have HY := Lib.hid ((Cell3.new w (.string k) (.string c) (.string b)).later ((Below.refl _ _).alloc (Nat.le_refl _) (.cells #[.string ⟨#[]⟩, .string ⟨#[]⟩, .string ⟨#[]⟩] 34)))
  have HB0 := Lib.hid (((Below.refl _ w).alloc (Nat.le_refl _) (.cells #[.string k, .string c, .string b] 34)).alloc (by simp) (.cells #[.string ⟨#[]⟩, .string ⟨#[]⟩, .string ⟨#[]⟩] 34))
  have Z1 : (w.alloc (.cells #[.string k, .string c, .string b] 34)).heap.size = w.heap.size + 1 := alloc_size' _ _
  rw [Z1] at HX
  clear Z1
  unfold aspV ardA at *
  cases ho : aspOf k c b with
  | none =>
    clear h hc hb
    rw [ho] at HR
    clear ho
    unfold RaspTo errV at HR
    unfold parV aspV
    dsimp only
    go_enter Tryz.func23, Tryz.ntmps23
    go_wp2_with fail
    generalize (w.alloc (Obj.cells #[.string k, .string c, .string b] 34)).alloc (Obj.cells #[.string ⟨#[]⟩, .string ⟨#[]⟩, .string ⟨#[]⟩] 34) = w0 at *
    refine (HR.out _ HB0.out).mono ?_
    rintro e w1 ⟨⟨a, rfl⟩, hb1⟩
    have HB1 := Lib.hid (HB0.out.trans (hb1.mono HB0.out.size))
    have HX1 := Lib.hid (HX.out.later hb1)
    clear hb1
    have HX2 := Lib.hid (HX1.out.later ((Below.refl _ _).alloc (Nat.le_refl _) (.cells #[.int .i64 0, .slice none 0 0] 49)))
    have HB2 := Lib.hid (HB1.out.alloc HB1.out.size (.cells #[.int .i64 0, .slice none 0 0] 49))
    obtain ⟨q0, q1, q2, f0, f1, f2⟩ := HX2.out.read
    go_wp2_with fail
    obtain ⟨r0, r1, r2, _⟩ := (HX2.out.put (.string ⟨#[]⟩) (.string ⟨#[]⟩) (.string ⟨#[]⟩)).read
    refine bodyPost_ret (v := .tuple #[.agg #[.string ⟨#[]⟩, .string ⟨#[]⟩, .string ⟨#[]⟩], .bool false]) ?_ rfl ⟨rfl, ((HB2.out.setCell (by simp) _).setCell (by simp) _).setCell (by simp) _⟩
    simp [results, Tryz.results23, go_sem, r0, r1, r2]
  | some p =>
    obtain ⟨n, xs⟩ := p
    obtain ⟨hkd, _, ha, _⟩ := aspOf_some ho
    obtain ⟨hb60, htx, hwf, _⟩ := advOf_some ha
    have hlen : (txts xs).length ≤ 60 := by rw [← htx]; simpa using hb60
    have hn : n ≤ 2 := by
      rcases kindOf_cases hkd with ⟨e, _⟩ | ⟨e, _⟩ | ⟨e, _⟩ <;> omega
    have hal := ard_len n xs
    have HA := Lib.hid (fun v S w' hS hB => around_any n hn xs v S w' (by omega) hS hB)
    have HT := Lib.hid (fun w' S v (hB : IsBody w' S (ardOf n xs) v) (hS : ∀ k, S k → k < w'.heap.size) => body_step _ (text_all 1000) (ardOf n xs) w' S v (by omega) (by omega) hS hB)
    have HO := Lib.hid (fun w' (hw : Below w.heap.size w w') => only_any aroundS c (strL (txts (ardOf n xs))) w' ek ec eb el ep (h.later hw) hc (by rw [strL_size]; omega))
    have HW := Lib.hid word_any
    unfold strV onlyV aspV at *
    unfold strL at *
    clear h hc hb hb60 htx hwf hlen ha hal hkd
    rw [ho] at HR
    clear ho
    unfold RaspTo at HR
    unfold ArdTo at HA
    dsimp only at HR ⊢
    unfold aroundS at *
    generalize hys : ardOf n xs = ys at *
    clear hys
    generalize (⟨(txts ys).toArray⟩ : ByteArray) = T at *
    obtain ⟨P, D, R, q, hq, hO, hP⟩ : ∃ (P D R : ByteArray) (q : Value), parV (if (aspOf ⟨#[97, 114, 111, 117, 110, 100]⟩ c T).isSome = true then some (⟨#[97, 114, 111, 117, 110, 100]⟩, c, T) else none) = q ∧
        (if (aspOf ⟨#[97, 114, 111, 117, 110, 100]⟩ c T).isSome = true then Value.agg #[.string ⟨#[97, 114, 111, 117, 110, 100]⟩, .string c, .string T] else Value.agg #[.string ⟨#[]⟩, .string ⟨#[]⟩, .string ⟨#[]⟩]) = .agg #[.string P, .string D, .string R] ∧
        ((P = ⟨#[]⟩ ∧ D = ⟨#[]⟩ ∧ R = ⟨#[]⟩ ∧ q = .tuple #[.agg #[.string ⟨#[]⟩, .string ⟨#[]⟩, .string ⟨#[]⟩], .bool false]) ∨ (P.toList.isEmpty = false ∧ q = .tuple #[.agg #[.string P, .string D, .string R], .bool true])) := by
      cases (aspOf ⟨#[97, 114, 111, 117, 110, 100]⟩ c T).isSome with
      | true => exact ⟨_, _, _, _, rfl, rfl, .inr ⟨by kernel_rfl, rfl⟩⟩
      | false => exact ⟨_, _, _, _, rfl, rfl, .inl ⟨rfl, rfl, rfl, rfl⟩⟩
    rw [hq]
    rw [hO] at HO
    have HQ := Lib.hid hP
    have hlt2 : ∀ (w1 : World), Cell3 w1 (w.heap.size + 1) (.string ⟨#[]⟩) (.string ⟨#[]⟩) (.string ⟨#[]⟩) → w.heap.size + 1 < w1.heap.size := fun _ h => heap_lt h
    have HL2 := Lib.hid hlt2
    clear hq hO hP hlt2
    go_enter Tryz.func23, Tryz.ntmps23
    go_wp2_with fail
    generalize (w.alloc (Obj.cells #[.string k, .string c, .string b] 34)).alloc (Obj.cells #[.string ⟨#[]⟩, .string ⟨#[]⟩, .string ⟨#[]⟩] 34) = w0 at *
    refine (HR.out _ HB0.out).mono ?_
    rintro e w1 ⟨⟨v, S, rfl, hB, hS⟩, hb1⟩
    have HB1 := Lib.hid (HB0.out.trans (hb1.mono HB0.out.size))
    have HX1 := Lib.hid (HX.out.later hb1)
    have HY1 := Lib.hid (HY.out.later hb1)
    have HBd := Lib.hid hB
    have HS := Lib.hid hS
    obtain ⟨va, vn, vc, rfl⟩ := hB.form
    clear hb1 hB hS
    go_wp2_with fail
    have n0 := fun w x y z => (Cell3.new w x y z).read.1
    have n1 := fun w x y z => (Cell3.new w x y z).read.2.1
    have n2 := fun w x y z => (Cell3.new w x y z).read.2.2.1
    have n3 := fun w x y z => (Cell3.new w x y z).read.2.2.2.1
    have n4 := fun w x y z => (Cell3.new w x y z).read.2.2.2.2.1
    have n5 := fun w x y z => (Cell3.new w x y z).read.2.2.2.2.2
    have hlt1 : w.heap.size < w1.heap.size := heap_lt HY1.out
    go_region_held3 (fun w' => w'.cell? ⟨w.heap.size, 1, none⟩ = some (.string c) ∧ w'.cell? ⟨w1.heap.size, 0, none⟩ = some (.int .i64 n) ∧ w'.cell? ⟨w1.heap.size, 1, none⟩ = some (.slice va vn vc) ∧ Below w1.heap.size w1 w' ∧ w1.heap.size < w'.heap.size)
      ((first | assumption | exact ar_start HY1.out _ _ | (apply ar_later; assumption; assumption) | (apply ar_later; assumption; exact (Below.refl _ _).alloc (Nat.le_refl _) _) | (refine ar_put ?_ Z5.out hlt1 _ _ _; assumption) | (refine ar_swap ?_ hlt1 _ _ _; assumption) | (refine ar_put ?_ (zat_alloc (w := w) (w1 := w1) (c := c) (n := n) (y := .slice va vn vc) ?_) hlt1 _ _ _; assumption; assumption)))
      ((first
      | (go_at_call 35; refine (HW.out _).mono ?_; rintro e w' ⟨rfl, rfl⟩)
      | (go_at_call 37; refine (HA.out _ S _ (fun j hj => Nat.lt_of_lt_of_le (HS.out j hj) (ar_below (by assumption)).size) (HBd.out.kept (fun j hj => (ar_below (by assumption)).block j (HS.out j hj)) (fun _ h => h))).mono ?_
         rintro e w3 ⟨⟨v3, S3, rfl, hB3, hS3⟩, hb3⟩
         have HB3 := Lib.hid hB3
         have HS3 := Lib.hid hS3
         have HT3 := Lib.hid (fun w' (hb : Below w3.heap.size w3 w') => HT.out w' S3 v3 (HB3.out.kept (fun j hj => hb.block j (HS3.out j hj)) (fun _ h => h)) (fun j hj => Nat.lt_of_lt_of_le (HS3.out j hj) hb.size))
         clear hB3 hS3
         (first | have Z3 := Lib.hid (zat_first hb3) | (refine zat_then (w := w) (w1 := w1) (c := c) (n := n) (y := .slice va vn vc) ?_ hb3 ?_; assumption; intro Z3) | skip))
      | (go_at_call 36; refine (HT3.out _ ?hbb).mono ?_
         case hbb => (first | exact Below.refl _ _ | exact (Below.refl _ _).alloc (Nat.le_refl _) _)
         rintro e w4 ⟨rfl, hb4⟩
         (first | have Z4 := Lib.hid (Z3.out.later hb4) | (refine zat_then (w := w) (w1 := w1) (c := c) (n := n) (y := .slice va vn vc) ?_ hb4 ?_; assumption; intro Z4) | skip))
      | (go_at_call 28; refine (HO.out _ (HB1.out.trans ((ar_below (by assumption)).mono HB1.out.size))).mono ?_
         rintro e w5 ⟨rfl, hb5⟩
         (first | have Z5 := Lib.hid (Z4.out.later hb5) | (refine zat_then (w := w) (w1 := w1) (c := c) (n := n) (y := .slice va vn vc) ?_ hb5 ?_; assumption; intro Z5) | skip)
         (try obtain ⟨m0, m1, m2, m3, m4, m5⟩ := Z5.out.1.read))))
    all_goals
      have HX5 := Lib.hid (HX1.out.later (ar_below (by assumption)))
      have HB5 := Lib.hid (HB1.out.trans ((ar_below (by assumption)).mono HB1.out.size))
      have hl2 := HL2.out _ HX1.out
      clear n0 n1 n2 n3 n4 n5
      first
      | (have HZ := Lib.hid (Z5.out.1.put (.string P) (.string D) (.string R))
         have hB1 := Z5.out.2
         clear m0 m1 m2 m3 m4 m5
         generalize ((w5.setCell _ _).setCell _ _).setCell _ _ = wf at *)
      | (have HZ := Lib.hid (Cell3.new w5 (.string P) (.string D) (.string R))
         have hB1 : w1.heap.size ≤ w5.heap.size := ar_le (by assumption)
         generalize w5.alloc _ = wf at *)
      have l0 := fun v => (beside3 (R := w.heap.size + 1) HZ.out (by omega) v v v).1
      have l1 := fun v v' => (beside3 (R := w.heap.size + 1) HZ.out (by omega) v v' v).2.1
      have l2 := fun v v' v'' => (beside3 (R := w.heap.size + 1) HZ.out (by omega) v v' v'').2.2
      obtain ⟨x0, x1, x2, y0, y1, y2⟩ := HX5.out.read
      obtain ⟨z0, z1, z2, _, _, _⟩ := HZ.out.read
      rcases HQ.out with ⟨rfl, rfl, rfl, hq⟩ | ⟨hP, hq⟩
      · have HV := Lib.hid hq
        clear hq
        go_wp2_with fail
        go_region
        all_goals
          go_wp2_with fail
          obtain ⟨r0, r1, r2, _⟩ := (HX5.out.put (.string ⟨#[]⟩) (.string ⟨#[]⟩) (.string ⟨#[]⟩)).read
          refine bodyPost_ret (v := .tuple #[.agg #[.string ⟨#[]⟩, .string ⟨#[]⟩, .string ⟨#[]⟩], .bool false]) ?_ rfl ⟨by rw [HV.out], (((HB5.out.setCell (by simp) _).setCell (by simp) _).setCell (by simp) _).drew⟩
          simp [results, Tryz.results23, go_sem, r0, r1, r2]
      · have HV := Lib.hid hq
        clear hq
        go_wp2_with fail
        go_region
        all_goals
          go_wp2_with fail
          obtain ⟨r0, r1, r2, _⟩ := (HX5.out.put (.string P) (.string D) (.string R)).read
          refine bodyPost_ret (v := .tuple #[.agg #[.string P, .string D, .string R], .bool true]) ?_ rfl ⟨by rw [HV.out], (((HB5.out.setCell (by simp) _).setCell (by simp) _).setCell (by simp) _).drew⟩
          simp [results, Tryz.results23, go_sem, r0, r1, r2]
end Go.Proofs.YtpahbkjogljndaaGreatDoor
