/- The model's draws of bodies: whatever the source holds, they return, and their texts are short. Conditions: counts up to 90000, depth at most 2. -/
import Derived.Test.YtmohgblcdhibeaaDraw
import Derived.Test.YtmohgblcdhibeaaMark
namespace Go.Proofs.Ytmohgblcdhibeaa
open Go.RowKit

/-- what a draw of a text hands back -/
def DrewS (w : World) (rb : Nat) (a : Option Addr) (n c p bound cost : Nat) (e : Ending) (w' : World) : Prop :=
  ∃ (s : ByteArray) (q : Nat), e = .returned (.string s) ∧ s.size ≤ bound ∧ q ≤ p + cost ∧ Rdr w' rb a n c q ∧ w.grownBy w' (some rb)

theorem Rdr.later {w w' : World} {rb : Nat} {a : Option Addr} {n c p : Nat} (h : Rdr w rb a n c p) (hk : ∀ k, k < w.heap.size → w'.heap[k]? = w.heap[k]?) : Rdr w' rb a n c p := by
  refine ⟨by rw [hk _ (heap_lt h.own)]; exact h.own, fun k hk' => ?_, h.off, h.small⟩
  obtain ⟨g, off, ha, b, hc⟩ := h.bytes k hk'
  exact ⟨g, off, ha, b, by rw [← hc]; exact World.cell?_of_block (a := ⟨g, off + k, none⟩) (hk g (World.block_lt_of_cell? w _ hc))⟩

theorem pick_to {w : World} {rb : Nat} {a : Option Addr} {n c p : Nat} (k : Int) (h : Rdr w rb a n c p) (hp : p ≤ 100000) (hk : 1 ≤ k) :
    Calls Try.prog 13 #[.pointer (some ⟨rb, 0, none⟩), .int .i64 k] w fun e w' => ∃ v : Nat, e = .returned (.int .i64 v) ∧ (v : Int) < k ∧ Rdr w' rb a n c (p + 1) ∧ w.grownBy w' (some rb) := by
  refine (pick_any w rb a n c p k h hp hk).mono ?_
  rintro e w' ⟨v, he, h0, h1, h2, h3⟩
  obtain ⟨m, rfl⟩ := Int.eq_ofNat_of_zero_le h0
  exact ⟨m, he, h1, h2, h3⟩

set_option maxHeartbeats 400000 in
theorem of_any (w : World) (rb : Nat) (a : Option Addr) (n c p : Nat) (g ln lc M : Nat) (h : Rdr w rb a n c p) (hp : p ≤ 100000) (hl : 1 ≤ ln) (hlb : ln ≤ 1000) (hg : g ≠ rb)
    (hc : ∀ i, i < ln → ∃ s : ByteArray, w.cell? ⟨g, i, none⟩ = some (.string s) ∧ s.size ≤ M) :
    Calls Try.prog 21 #[.pointer (some ⟨rb, 0, none⟩), .slice (some ⟨g, 0, none⟩) ln lc] w (DrewS w rb a n c p M 1) := by
  have H := Lib.hid h
  have HC := Lib.hid hc
  clear h hc
  go_enter Try.func21, Try.ntmps21
  go_wp2_with fail
  refine (pick_to _ H.out hp (by omega)).mono ?_
  rintro e w1 ⟨v, rfl, hv, hr, hgr⟩
  have hv' : v < ln := by omega
  obtain ⟨s, hcs, hsz⟩ := HC.out v hv'
  have hc1 : w1.cell? ⟨g, v, none⟩ = some (.string s) := hgr.cell hcs (by simpa using hg)
  have HR := Lib.hid hr
  have HG := Lib.hid hgr
  clear hr hgr hcs
  go_wp2_with fail
  go_ret
  exact ⟨s, p + 1, rfl, hsz, Nat.le_refl _, HR.out, HG.out⟩

set_option maxHeartbeats 400000 in
theorem dec_digit (d : Int) (h0 : 0 ≤ d) (h9 : d ≤ 9) (w : World) :
    Calls Try.prog 28 #[.int .i64 d] w fun e w' => (∃ s : ByteArray, e = .returned (.string s) ∧ s.size = 1) ∧ Below w.heap.size w w' := by
  obtain ⟨k, rfl⟩ := Int.eq_ofNat_of_zero_le h0
  have hk9 : k ≤ 9 := by omega
  obtain ⟨c, hcd⟩ : ∃ c : UInt8, c = UInt8.ofNat (48 + k) := ⟨_, rfl⟩
  have hs := str1 c w w.heap.size rfl (48 + (k : Int)) (by rw [hcd]; simp; omega)
  have e1 := str_add ⟨#[c]⟩ ⟨#[]⟩ (by have : (⟨#[c]⟩ : ByteArray).size = 1 := rfl; have : (⟨#[]⟩ : ByteArray).size = 0 := rfl; omega)
  clear hcd
  go_enter Try.func28, Try.ntmps28
  go_wp2_with fail
  refine wp_loop_rounds 1 ?_
  rw [rounds_succ]
  go_wp2_with fail
  go_ret
  exact ⟨⟨_, rfl, rfl⟩, (Below.refl _ _).alloc (Nat.le_refl _) _⟩

theorem many_odd (x y j N : Nat) (h : x * j + y = N) (ho : j % 2 = 1) : (x + x) * (j / 2) + (y + x) = N ∧ x ≤ N ∧ y + x ≤ N := by
  obtain ⟨t, rfl⟩ : ∃ t, j = 2 * t + 1 := ⟨j / 2, by omega⟩
  have e : (2 * t + 1) / 2 = t := by omega
  rw [e]
  have e1 : x * (2 * t + 1) = 2 * (x * t) + x := by rw [Nat.mul_add, Nat.mul_one, Nat.mul_left_comm]
  have e2 : (x + x) * t = 2 * (x * t) := by rw [Nat.add_mul]; omega
  omega
theorem many_even (x y j N : Nat) (h : x * j + y = N) (h0 : 0 < j) (ho : j % 2 = 0) : (x + x) * (j / 2) + y = N ∧ x ≤ N ∧ y ≤ N := by
  obtain ⟨t, rfl⟩ : ∃ t, j = 2 * t := ⟨j / 2, by omega⟩
  have e : 2 * t / 2 = t := by omega
  rw [e]
  have e1 : x * (2 * t) = 2 * (x * t) := Nat.mul_left_comm x 2 t
  have e2 : (x + x) * t = 2 * (x * t) := by rw [Nat.add_mul]; omega
  have e3 : x ≤ x * t := Nat.le_mul_of_pos_right x (by omega)
  omega

set_option maxHeartbeats 400000 in
theorem many_any (s0 : ByteArray) (n0 N : Nat) (w : World) (hN : s0.size * n0 = N) (hNb : N ≤ 100000) (hs0 : s0.size ≤ N) (hn0 : n0 ≤ 100000) :
    Calls Try.prog 14 #[.string s0, .int .i64 n0] w fun e w' => (∃ s : ByteArray, e = .returned (.string s) ∧ s.size = N) ∧ w = w' := by
  go_enter Try.func14, Try.ntmps14
  go_wp2_with fail
  go_loop [0, 1, 5] (fun s n o => ∃ (x y : ByteArray) (j : Nat), s = .string x ∧ n = .int .i64 j ∧ o = .string y ∧ Hid (x.size * j + y.size = N) ∧ x.size ≤ 2 * N ∧ j ≤ n0 ∧ y.size ≤ N) (fun _ n _ => (intOf n).toNat)
  case atStart => exact ⟨s0, ⟨#[]⟩, n0, rfl, rfl, rfl, by show _ = _; rw [hN]; rfl, by omega, Nat.le_refl _, Nat.zero_le _⟩
  case round =>
    obtain ⟨x, y, j, rfl, rfl, rfl, hI, hx, hj, hy⟩ := hrel
    by_cases h0 : 0 < j
    · have e1 := str_add y x (by omega)
      have e2 := str_add x x (by omega)
      by_cases ho : j % 2 = 1
      · have hob : ((j : Int) % 2 == 1) = true := by rw [beq_iff_eq]; omega
        have hm := Lib.hid (many_odd _ _ _ _ hI.out ho)
        clear ho
        go_wp2_with fail
        obtain ⟨m1, m2, m3⟩ := hm.out
        exact ⟨⟨x ++ x, y ++ x, j / 2, rfl, by go_num, rfl, by show _ = _; simpa using m1, by simp; omega, by omega, by simpa using m3⟩, by simp [intOf]; omega⟩
      · have hob : ((j : Int) % 2 == 1) = false := by rw [beq_eq_false_iff_ne]; omega
        have hm := Lib.hid (many_even _ _ _ _ hI.out h0 (by omega))
        clear ho
        go_wp2_with fail
        obtain ⟨m1, m2, m3⟩ := hm.out
        exact ⟨⟨x ++ x, y, j / 2, rfl, by go_num, rfl, by show _ = _; simpa using m1, by simp; omega, by omega, m3⟩, by simp [intOf]; omega⟩
    · go_wp2_with fail
      go_ret
      have : j = 0 := by omega
      subst this
      exact ⟨⟨y, rfl, by have := hI.out; omega⟩, rfl⟩
end Go.Proofs.Ytmohgblcdhibeaa
