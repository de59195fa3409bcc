/- The model's random source: pick, in whatever state, hands back a number below its bound and moves its count on by one; nothing else turns. Condition: at most 2000 bytes behind it, counts up to 100000. -/
import Derived.Test.YthedbjdcnidelaaDoorBut
import Derived.Deep.QuietTactic
import Derived.BigQuiet
import Derived.Laws.BitsAllLaws
namespace Go.Proofs.YthedbjdcnidelaaDoor
open Go.RowKit

/-- the source at block rb, its bytes at a, its count p -/
structure Rdr (w : World) (rb : Nat) (a : Option Addr) (n c p : Nat) : Prop where
  own : w.heap[rb]? = some (.cells #[.slice a n c, .int .i64 p] 55 (0, 0))
  bytes : ∀ k, k < n → ∃ g off, a = some ⟨g, off, none⟩ ∧ ∃ b : UInt8, w.cell? ⟨g, off + k, none⟩ = some (.int .u8 b.toNat)
  off : 0 < n → ∀ g o s, a = some ⟨g, o, s⟩ → g ≠ rb
  small : n ≤ 2000

/-- what a pick hands back -/
def Picked (w : World) (rb : Nat) (a : Option Addr) (n c p : Nat) (k : Int) (e : Ending) (w' : World) : Prop :=
  ∃ v : Int, e = .returned (.int .i64 v) ∧ 0 ≤ v ∧ v < k ∧ Rdr w' rb a n c (p + 1) ∧ w.grownBy w' (some rb)

theorem Rdr.moved {w w0 : World} {rb : Nat} {a : Option Addr} {n c p : Nat} (h : Rdr w rb a n c p) (he : w0.heap = w.heap) (hb : w.grownBy w0 (some rb)) (q : Int) (hq : q = (p : Int) + 1) :
    Rdr (w0.setCell ⟨rb, 1, none⟩ (.int .i64 q)) rb a n c (p + 1) ∧ w.grownBy (w0.setCell ⟨rb, 1, none⟩ (.int .i64 q)) (some rb) := by
  subst hq
  have ho : w0.heap[rb]? = some (.cells #[.slice a n c, .int .i64 p] 55 (0, 0)) := by rw [he]; exact h.own
  refine ⟨⟨by rw [heap_set_same ho]; rfl, ?_, h.off, h.small⟩, ?_⟩
  · intro k hk
    obtain ⟨g, off, ha, b, hc⟩ := h.bytes k hk
    refine ⟨g, off, ha, b, ?_⟩
    rw [← hc]
    exact World.cell?_of_block (a := ⟨g, off + k, none⟩) (by rw [heap_set_other (h.off (by omega) g off none ha), he])
  · exact ⟨hb.os, hb.tape, hb.output, by simp [World.setCell]; exact hb.size, fun j hj hne => by rw [heap_set_other (fun e => hne (by rw [e])), he]⟩

theorem xor_range (x y : Nat) (hx : x < 16777216) (hy : y < 16777216) : x ^^^ y < 16777216 := Nat.xor_lt_two_pow (n := 24) hx hy
theorem xorI (a b : Nat) (ha : a < 16777216) (hb : b < 16777216) : bits .xor .i64 (a : Int) (b : Int) = ((a ^^^ b : Nat) : Int) := by
  have hx := xor_range a b ha hb
  have h1 : (BitVec.ofInt 64 (a : Int)).toNat = a := by
    rw [BitVec.ofInt_natCast, BitVec.toNat_ofNat]; exact Nat.mod_eq_of_lt (by omega)
  have h2 : (BitVec.ofInt 64 (b : Int)).toNat = b := by
    rw [BitVec.ofInt_natCast, BitVec.toNat_ofNat]; exact Nat.mod_eq_of_lt (by omega)
  show IntKind.i64.wrap ((BitVec.ofInt 64 (a : Int) ^^^ BitVec.ofInt 64 (b : Int)).toNat : Int) = _
  rw [BitVec.toNat_xor, h1, h2]
  exact IntWalk.i64_in _ (by omega)

set_option maxHeartbeats 1000000 in
theorem pick_none (w : World) (rb : Nat) (a : Option Addr) (c p : Nat) (k : Int) (h : Rdr w rb a 0 c p) (hp : p ≤ 100000) (hk : 1 ≤ k) :
    Calls Tryd.prog 20 #[.pointer (some ⟨rb, 0, none⟩), .int .i64 k] w (Picked w rb a 0 c p k) := by
  have h0 : w.cell? ⟨rb, 0, none⟩ = some (.slice a 0 c) := by rw [Lib.cell_of_heap h.own]; rfl
  have h1 : w.cell? ⟨rb, 1, none⟩ = some (.int .i64 p) := by rw [Lib.cell_of_heap h.own]; rfl
  have hf : w.frozen? ⟨rb, 1, none⟩ = false := Lib.frozen_of_heap h.own 1
  have H := Lib.hid (h.moved rfl (World.grownBy.refl _ _) ((p : Int) + 1) rfl)
  clear h
  go_enter Tryd.func20, Tryd.ntmps20
  go_wp2_with fail
  go_ret
  exact ⟨0, rfl, by omega, by omega, H.out⟩

set_option maxHeartbeats 1000000 in
theorem pick_early (w : World) (rb g off n c p : Nat) (k : Int) (b : UInt8) (h : Rdr w rb (some ⟨g, off, none⟩) n c p) (hp : p < n) (hk : 1 ≤ k) (hc : w.cell? ⟨g, off + p, none⟩ = some (.int .u8 b.toNat)) :
    Calls Tryd.prog 20 #[.pointer (some ⟨rb, 0, none⟩), .int .i64 k] w (Picked w rb (some ⟨g, off, none⟩) n c p k) := by
  have h0 : w.cell? ⟨rb, 0, none⟩ = some (.slice (some ⟨g, off, none⟩) n c) := by rw [Lib.cell_of_heap h.own]; rfl
  have h1 : w.cell? ⟨rb, 1, none⟩ = some (.int .i64 p) := by rw [Lib.cell_of_heap h.own]; rfl
  have hf : w.frozen? ⟨rb, 1, none⟩ = false := Lib.frozen_of_heap h.own 1
  have hsm := h.small
  have H := Lib.hid (h.moved rfl (World.grownBy.refl _ _) ((p : Int) + 1) rfl)
  have hbt := b.toNat_lt
  have hc2 : ∀ v, (w.setCell ⟨rb, 1, none⟩ v).cell? ⟨g, off + p, none⟩ = some (.int .u8 b.toNat) := fun v => by
    rw [← hc]; exact World.cell?_of_block (a := ⟨g, off + p, none⟩) (heap_set_other (h.off (by omega) g off none rfl) v)
  have hn0 : ((n : Int) == 0) = false := by rw [beq_eq_false_iff_ne]; omega
  clear h hc
  go_enter Tryd.func20, Tryd.ntmps20
  go_wp2_with fail
  go_ret
  exact ⟨_, rfl, Int.emod_nonneg _ (by omega), Int.emod_lt_of_pos _ (by omega), H.out⟩

set_option maxHeartbeats 1000000 in
theorem pick_late (w : World) (rb g off n c p q1 q2 d : Nat) (k : Int) (b b' : UInt8) (h : Rdr w rb (some ⟨g, off, none⟩) n c p) (hn : 0 < n) (hp : n ≤ p) (hpb : p ≤ 100000) (hk : 1 ≤ k)
    (e1 : (p : Int) % (n : Int) = q1) (e2 : ((p : Int) * 7 + 3) % (n : Int) = q2) (e3 : (p : Int) / (n : Int) = d) (l1 : q1 < n) (l2 : q2 < n) (l3 : d ≤ 100000)
    (hc : w.cell? ⟨g, off + q1, none⟩ = some (.int .u8 b.toNat)) (hc' : w.cell? ⟨g, off + q2, none⟩ = some (.int .u8 b'.toNat)) :
    Calls Tryd.prog 20 #[.pointer (some ⟨rb, 0, none⟩), .int .i64 k] w (Picked w rb (some ⟨g, off, none⟩) n c p k) := by
  have h0 : w.cell? ⟨rb, 0, none⟩ = some (.slice (some ⟨g, off, none⟩) n c) := by rw [Lib.cell_of_heap h.own]; rfl
  have h1 : w.cell? ⟨rb, 1, none⟩ = some (.int .i64 p) := by rw [Lib.cell_of_heap h.own]; rfl
  have hf : w.frozen? ⟨rb, 1, none⟩ = false := Lib.frozen_of_heap h.own 1
  have hsm := h.small
  have H := Lib.hid (h.moved rfl (World.grownBy.refl _ _) ((p : Int) + 1) rfl)
  have hbt := b.toNat_lt
  have hbt' := b'.toNat_lt
  have hc2 : ∀ v, (w.setCell ⟨rb, 1, none⟩ v).cell? ⟨g, off + q1, none⟩ = some (.int .u8 b.toNat) := fun v => by
    rw [← hc]; exact World.cell?_of_block (a := ⟨g, off + q1, none⟩) (heap_set_other (h.off (by omega) g off none rfl) v)
  have hc3 : ∀ v, (w.setCell ⟨rb, 1, none⟩ v).cell? ⟨g, off + q2, none⟩ = some (.int .u8 b'.toNat) := fun v => by
    rw [← hc']; exact World.cell?_of_block (a := ⟨g, off + q2, none⟩) (heap_set_other (h.off (by omega) g off none rfl) v)
  have hn0 : ((n : Int) == 0) = false := by rw [beq_eq_false_iff_ne]; omega
  have t1 : Int.tmod (p : Int) (n : Int) = q1 := by rw [← e1, Int.tmod_eq_emod_of_nonneg (by omega)]
  have t2 : Int.tmod ((p : Int) * 7 + 3) (n : Int) = q2 := by rw [← e2, Int.tmod_eq_emod_of_nonneg (by omega)]
  have t3 : Int.tdiv (p : Int) (n : Int) = d := by rw [← e3, Int.tdiv_eq_ediv_of_nonneg (by omega)]
  have w1 : IntKind.i64.wrap ((p : Int) * 7) = (p : Int) * 7 := IntWalk.i64_in _ (by omega)
  have w2 : IntKind.i64.wrap ((p : Int) * 7 + 3) = (p : Int) * 7 + 3 := IntWalk.i64_in _ (by omega)
  have w3 : IntKind.i64.wrap ((b.toNat : Int) * 131) = (b.toNat : Int) * 131 := IntWalk.i64_in _ (by omega)
  have w4 : IntKind.i64.wrap ((b'.toNat : Int) * 1117) = (b'.toNat : Int) * 1117 := IntWalk.i64_in _ (by omega)
  have w5 : IntKind.i64.wrap ((p : Int) * 29) = (p : Int) * 29 := IntWalk.i64_in _ (by omega)
  have w6 : IntKind.i64.wrap ((d : Int) * 53) = (d : Int) * 53 := IntWalk.i64_in _ (by omega)
  have w7 : IntKind.i64.wrap ((b.toNat : Int) * 131 + (b'.toNat : Int) * 1117) = (b.toNat : Int) * 131 + (b'.toNat : Int) * 1117 := IntWalk.i64_in _ (by omega)
  have w8 : IntKind.i64.wrap ((b.toNat : Int) * 131 + (b'.toNat : Int) * 1117 + (p : Int) * 29) = (b.toNat : Int) * 131 + (b'.toNat : Int) * 1117 + (p : Int) * 29 := IntWalk.i64_in _ (by omega)
  have w9 : IntKind.i64.wrap ((b.toNat : Int) * 131 + (b'.toNat : Int) * 1117 + (p : Int) * 29 + (d : Int) * 53) = (b.toNat : Int) * 131 + (b'.toNat : Int) * 1117 + (p : Int) * 29 + (d : Int) * 53 := IntWalk.i64_in _ (by omega)
  clear h hc hc'
  go_enter Tryd.func20, Tryd.ntmps20
  go_wp2_with fail
  go_quiet (fail)
  obtain ⟨X, hXe, hXb⟩ : ∃ X : Nat, (b.toNat : Int) * 131 + (b'.toNat : Int) * 1117 + (p : Int) * 29 + (d : Int) * 53 = (X : Int) ∧ X < 16777216 := ⟨b.toNat * 131 + b'.toNat * 1117 + p * 29 + d * 53, by omega, by omega⟩
  rw [hXe]
  have hx := xorI X (X / 64) (by omega) (by omega)
  have hlt := xor_range X (X / 64) (by omega) (by omega)
  have hd : ((X / 64 : Nat) : Int) = (X : Int) / 64 := by omega
  rw [hd] at hx
  clear w1 w2 w3 w4 w5 w6 w7 w8 w9 hXe t1 t2 t3 e1 e2 e3 hc2 hc3 hd
  generalize X ^^^ X / 64 = Y at *
  go_wp2_with fail
  go_ret
  obtain ⟨h1, h2⟩ := H.out
  exact ⟨_, rfl, Int.emod_nonneg _ (by omega), Int.emod_lt_of_pos _ (by omega), ⟨h1.own, h1.bytes, h1.off, h1.small⟩, ⟨h2.os, h2.tape, h2.output, h2.size, h2.block⟩⟩

theorem pick_any (w : World) (rb : Nat) (a : Option Addr) (n c p : Nat) (k : Int) (h : Rdr w rb a n c p) (hp : p ≤ 100000) (hk : 1 ≤ k) :
    Calls Tryd.prog 20 #[.pointer (some ⟨rb, 0, none⟩), .int .i64 k] w (Picked w rb a n c p k) := by
  by_cases hn : n = 0
  · subst hn; exact pick_none w rb a c p k h hp hk
  · by_cases hlt : p < n
    · obtain ⟨g, off, rfl, b, hc⟩ := h.bytes p hlt
      exact pick_early w rb g off n c p k b h hlt hk hc
    · obtain ⟨g, off, rfl, b, hc⟩ := h.bytes (p % n) (Nat.mod_lt _ (by omega))
      obtain ⟨g', off', he, b', hc'⟩ := h.bytes ((p * 7 + 3) % n) (Nat.mod_lt _ (by omega))
      injection he with he; injection he with e1 e2; subst e1; subst e2
      exact pick_late w rb g off n c p (p % n) ((p * 7 + 3) % n) (p / n) k b b' h (by omega) (by omega) hp hk (by simp) (by simp) (by simp) (Nat.mod_lt _ (by omega)) (Nat.mod_lt _ (by omega)) (Nat.le_trans (Nat.div_le_self _ _) hp) hc hc'
end Go.Proofs.YthedbjdcnidelaaDoor
