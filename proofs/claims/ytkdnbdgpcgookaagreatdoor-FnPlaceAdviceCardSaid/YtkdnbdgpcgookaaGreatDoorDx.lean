/- What a law on growth leaves, step behind step. Plain lemmas; no walk. The model's random source: pick, in whatever state, hands back a number below its bound and moves its count on by one; nothing else turns. Condition: at most 2000 bytes behind it, counts up to 100000. The model's random source: numbers and texts out of lists. Conditions: counts up to 100000. The model's l13Many: a text as often as said. Condition: at most 100000 bytes. -/
import Derived.Test.YtkdnbdgpcgookaaGreatDoorBut
import Derived.Deep.QuietTactic
import Derived.BigQuiet
import Derived.Laws.BitsAllLaws
import Derived.Test.YtkdnbdgpcgookaaGreatDoorTxt
namespace Go.Proofs.YtkdnbdgpcgookaaGreatDoor
open Go.RowKit

theorem grownBy_trans {w w1 w2 : World} {row : Option Nat} (h : w.grownBy w1 row) (k : w1.grownBy w2 row) : w.grownBy w2 row :=
  ⟨k.os.trans h.os, k.tape.trans h.tape, k.output.trans h.output, Nat.le_trans h.size k.size, fun j hj hne => (k.block j (Nat.lt_of_lt_of_le hj h.size) hne).trans (h.block j hj hne)⟩
theorem grownBy_below {w w1 : World} {row : Option Nat} (h : Below w.heap.size w w1) : w.grownBy w1 row := ⟨h.os, h.tape, h.output, h.size, fun j hj _ => h.block j hj⟩
theorem grownBy_set {w : World} {g k : Nat} (u : Value) : w.grownBy (w.setCell ⟨g, k, none⟩ u) (some g) :=
  ⟨rfl, rfl, rfl, by simp [World.setCell], fun j _ hne => heap_set_other (fun e => hne (by rw [e])) u⟩
end Go.Proofs.YtkdnbdgpcgookaaGreatDoor
namespace Go.Proofs.YtkdnbdgpcgookaaGreatDoor
open Go.RowKit

/-- the source at block rb, its bytes at a, its count p -/
structure Rdr (w : World) (rb : Nat) (a : Option Addr) (n c p : Nat) : Prop where
  own : w.heap[rb]? = some (.cells #[.slice a n c, .int .i64 p] 95 (0, 0))
  bytes : ∀ k, k < n → ∃ g off, a = some ⟨g, off, none⟩ ∧ ∃ b : UInt8, w.cell? ⟨g, off + k, none⟩ = some (.int .u8 b.toNat)
  off : 0 < n → ∀ g o s, a = some ⟨g, o, s⟩ → g ≠ rb
  small : n ≤ 2000

/-- what a pick hands back -/
def Picked (w : World) (rb : Nat) (a : Option Addr) (n c p : Nat) (k : Int) (e : Ending) (w' : World) : Prop :=
  ∃ v : Int, e = .returned (.int .i64 v) ∧ 0 ≤ v ∧ v < k ∧ Rdr w' rb a n c (p + 1) ∧ w.grownBy w' (some rb)

theorem Rdr.moved {w w0 : World} {rb : Nat} {a : Option Addr} {n c p : Nat} (h : Rdr w rb a n c p) (he : w0.heap = w.heap) (hb : w.grownBy w0 (some rb)) (q : Int) (hq : q = (p : Int) + 1) :
    Rdr (w0.setCell ⟨rb, 1, none⟩ (.int .i64 q)) rb a n c (p + 1) ∧ w.grownBy (w0.setCell ⟨rb, 1, none⟩ (.int .i64 q)) (some rb) := by
  subst hq
  have ho : w0.heap[rb]? = some (.cells #[.slice a n c, .int .i64 p] 95 (0, 0)) := by rw [he]; exact h.own
  refine ⟨⟨by rw [heap_set_same ho]; rfl, ?_, h.off, h.small⟩, ?_⟩
  · intro k hk
    obtain ⟨g, off, ha, b, hc⟩ := h.bytes k hk
    refine ⟨g, off, ha, b, ?_⟩
    rw [← hc]
    exact World.cell?_of_block (a := ⟨g, off + k, none⟩) (by rw [heap_set_other (h.off (by omega) g off none ha), he])
  · exact ⟨hb.os, hb.tape, hb.output, by simp [World.setCell]; exact hb.size, fun j hj hne => by rw [heap_set_other (fun e => hne (by rw [e])), he]⟩

theorem xor_range (x y : Nat) (hx : x < 16777216) (hy : y < 16777216) : x ^^^ y < 16777216 := Nat.xor_lt_two_pow (n := 24) hx hy
theorem xorI (a b : Nat) (ha : a < 16777216) (hb : b < 16777216) : bits .xor .i64 (a : Int) (b : Int) = ((a ^^^ b : Nat) : Int) := by
  have hx := xor_range a b ha hb
  have h1 : (BitVec.ofInt 64 (a : Int)).toNat = a := by
    rw [BitVec.ofInt_natCast, BitVec.toNat_ofNat]; exact Nat.mod_eq_of_lt (by omega)
  have h2 : (BitVec.ofInt 64 (b : Int)).toNat = b := by
    rw [BitVec.ofInt_natCast, BitVec.toNat_ofNat]; exact Nat.mod_eq_of_lt (by omega)
  show IntKind.i64.wrap ((BitVec.ofInt 64 (a : Int) ^^^ BitVec.ofInt 64 (b : Int)).toNat : Int) = _
  rw [BitVec.toNat_xor, h1, h2]
  exact IntWalk.i64_in _ (by omega)

set_option maxHeartbeats 1000000 in
theorem pick_none (w : World) (rb : Nat) (a : Option Addr) (c p : Nat) (k : Int) (h : Rdr w rb a 0 c p) (hp : p ≤ 100000) (hk : 1 ≤ k) :
    Calls Tryz.prog 35 #[.pointer (some ⟨rb, 0, none⟩), .int .i64 k] w (Picked w rb a 0 c p k) := by
  have h0 : w.cell? ⟨rb, 0, none⟩ = some (.slice a 0 c) := by rw [Lib.cell_of_heap h.own]; rfl
  have h1 : w.cell? ⟨rb, 1, none⟩ = some (.int .i64 p) := by rw [Lib.cell_of_heap h.own]; rfl
  have hf : w.frozen? ⟨rb, 1, none⟩ = false := Lib.frozen_of_heap h.own 1
  have H := Lib.hid (h.moved rfl (World.grownBy.refl _ _) ((p : Int) + 1) rfl)
  clear h
  go_enter Tryz.func35, Tryz.ntmps35
  go_wp2_with fail
  go_ret
  exact ⟨0, rfl, by omega, by omega, H.out⟩

set_option maxHeartbeats 1000000 in
theorem pick_early (w : World) (rb g off n c p : Nat) (k : Int) (b : UInt8) (h : Rdr w rb (some ⟨g, off, none⟩) n c p) (hp : p < n) (hk : 1 ≤ k) (hc : w.cell? ⟨g, off + p, none⟩ = some (.int .u8 b.toNat)) :
    Calls Tryz.prog 35 #[.pointer (some ⟨rb, 0, none⟩), .int .i64 k] w (Picked w rb (some ⟨g, off, none⟩) n c p k) := by
  have h0 : w.cell? ⟨rb, 0, none⟩ = some (.slice (some ⟨g, off, none⟩) n c) := by rw [Lib.cell_of_heap h.own]; rfl
  have h1 : w.cell? ⟨rb, 1, none⟩ = some (.int .i64 p) := by rw [Lib.cell_of_heap h.own]; rfl
  have hf : w.frozen? ⟨rb, 1, none⟩ = false := Lib.frozen_of_heap h.own 1
  have hsm := h.small
  have H := Lib.hid (h.moved rfl (World.grownBy.refl _ _) ((p : Int) + 1) rfl)
  have hbt := b.toNat_lt
  have hc2 : ∀ v, (w.setCell ⟨rb, 1, none⟩ v).cell? ⟨g, off + p, none⟩ = some (.int .u8 b.toNat) := fun v => by
    rw [← hc]; exact World.cell?_of_block (a := ⟨g, off + p, none⟩) (heap_set_other (h.off (by omega) g off none rfl) v)
  have hn0 : ((n : Int) == 0) = false := by rw [beq_eq_false_iff_ne]; omega
  clear h hc
  go_enter Tryz.func35, Tryz.ntmps35
  go_wp2_with fail
  go_ret
  exact ⟨_, rfl, Int.emod_nonneg _ (by omega), Int.emod_lt_of_pos _ (by omega), H.out⟩

set_option maxHeartbeats 1000000 in
theorem pick_late (w : World) (rb g off n c p q1 q2 d : Nat) (k : Int) (b b' : UInt8) (h : Rdr w rb (some ⟨g, off, none⟩) n c p) (hn : 0 < n) (hp : n ≤ p) (hpb : p ≤ 100000) (hk : 1 ≤ k)
    (e1 : (p : Int) % (n : Int) = q1) (e2 : ((p : Int) * 7 + 3) % (n : Int) = q2) (e3 : (p : Int) / (n : Int) = d) (l1 : q1 < n) (l2 : q2 < n) (l3 : d ≤ 100000)
    (hc : w.cell? ⟨g, off + q1, none⟩ = some (.int .u8 b.toNat)) (hc' : w.cell? ⟨g, off + q2, none⟩ = some (.int .u8 b'.toNat)) :
    Calls Tryz.prog 35 #[.pointer (some ⟨rb, 0, none⟩), .int .i64 k] w (Picked w rb (some ⟨g, off, none⟩) n c p k) := by
  have h0 : w.cell? ⟨rb, 0, none⟩ = some (.slice (some ⟨g, off, none⟩) n c) := by rw [Lib.cell_of_heap h.own]; rfl
  have h1 : w.cell? ⟨rb, 1, none⟩ = some (.int .i64 p) := by rw [Lib.cell_of_heap h.own]; rfl
  have hf : w.frozen? ⟨rb, 1, none⟩ = false := Lib.frozen_of_heap h.own 1
  have hsm := h.small
  have H := Lib.hid (h.moved rfl (World.grownBy.refl _ _) ((p : Int) + 1) rfl)
  have hbt := b.toNat_lt
  have hbt' := b'.toNat_lt
  have hc2 : ∀ v, (w.setCell ⟨rb, 1, none⟩ v).cell? ⟨g, off + q1, none⟩ = some (.int .u8 b.toNat) := fun v => by
    rw [← hc]; exact World.cell?_of_block (a := ⟨g, off + q1, none⟩) (heap_set_other (h.off (by omega) g off none rfl) v)
  have hc3 : ∀ v, (w.setCell ⟨rb, 1, none⟩ v).cell? ⟨g, off + q2, none⟩ = some (.int .u8 b'.toNat) := fun v => by
    rw [← hc']; exact World.cell?_of_block (a := ⟨g, off + q2, none⟩) (heap_set_other (h.off (by omega) g off none rfl) v)
  have hn0 : ((n : Int) == 0) = false := by rw [beq_eq_false_iff_ne]; omega
  have t1 : Int.tmod (p : Int) (n : Int) = q1 := by rw [← e1, Int.tmod_eq_emod_of_nonneg (by omega)]
  have t2 : Int.tmod ((p : Int) * 7 + 3) (n : Int) = q2 := by rw [← e2, Int.tmod_eq_emod_of_nonneg (by omega)]
  have t3 : Int.tdiv (p : Int) (n : Int) = d := by rw [← e3, Int.tdiv_eq_ediv_of_nonneg (by omega)]
  have w1 : IntKind.i64.wrap ((p : Int) * 7) = (p : Int) * 7 := IntWalk.i64_in _ (by omega)
  have w2 : IntKind.i64.wrap ((p : Int) * 7 + 3) = (p : Int) * 7 + 3 := IntWalk.i64_in _ (by omega)
  have w3 : IntKind.i64.wrap ((b.toNat : Int) * 131) = (b.toNat : Int) * 131 := IntWalk.i64_in _ (by omega)
  have w4 : IntKind.i64.wrap ((b'.toNat : Int) * 1117) = (b'.toNat : Int) * 1117 := IntWalk.i64_in _ (by omega)
  have w5 : IntKind.i64.wrap ((p : Int) * 29) = (p : Int) * 29 := IntWalk.i64_in _ (by omega)
  have w6 : IntKind.i64.wrap ((d : Int) * 53) = (d : Int) * 53 := IntWalk.i64_in _ (by omega)
  have w7 : IntKind.i64.wrap ((b.toNat : Int) * 131 + (b'.toNat : Int) * 1117) = (b.toNat : Int) * 131 + (b'.toNat : Int) * 1117 := IntWalk.i64_in _ (by omega)
  have w8 : IntKind.i64.wrap ((b.toNat : Int) * 131 + (b'.toNat : Int) * 1117 + (p : Int) * 29) = (b.toNat : Int) * 131 + (b'.toNat : Int) * 1117 + (p : Int) * 29 := IntWalk.i64_in _ (by omega)
  have w9 : IntKind.i64.wrap ((b.toNat : Int) * 131 + (b'.toNat : Int) * 1117 + (p : Int) * 29 + (d : Int) * 53) = (b.toNat : Int) * 131 + (b'.toNat : Int) * 1117 + (p : Int) * 29 + (d : Int) * 53 := IntWalk.i64_in _ (by omega)
  clear h hc hc'
  go_enter Tryz.func35, Tryz.ntmps35
  go_wp2_with fail
  go_quiet (fail)
  obtain ⟨X, hXe, hXb⟩ : ∃ X : Nat, (b.toNat : Int) * 131 + (b'.toNat : Int) * 1117 + (p : Int) * 29 + (d : Int) * 53 = (X : Int) ∧ X < 16777216 := ⟨b.toNat * 131 + b'.toNat * 1117 + p * 29 + d * 53, by omega, by omega⟩
  rw [hXe]
  have hx := xorI X (X / 64) (by omega) (by omega)
  have hlt := xor_range X (X / 64) (by omega) (by omega)
  have hd : ((X / 64 : Nat) : Int) = (X : Int) / 64 := by omega
  rw [hd] at hx
  clear w1 w2 w3 w4 w5 w6 w7 w8 w9 hXe t1 t2 t3 e1 e2 e3 hc2 hc3 hd
  generalize X ^^^ X / 64 = Y at *
  go_wp2_with fail
  go_ret
  obtain ⟨h1, h2⟩ := H.out
  exact ⟨_, rfl, Int.emod_nonneg _ (by omega), Int.emod_lt_of_pos _ (by omega), ⟨h1.own, h1.bytes, h1.off, h1.small⟩, ⟨h2.os, h2.tape, h2.output, h2.size, h2.block⟩⟩

theorem pick_any (w : World) (rb : Nat) (a : Option Addr) (n c p : Nat) (k : Int) (h : Rdr w rb a n c p) (hp : p ≤ 100000) (hk : 1 ≤ k) :
    Calls Tryz.prog 35 #[.pointer (some ⟨rb, 0, none⟩), .int .i64 k] w (Picked w rb a n c p k) := by
  by_cases hn : n = 0
  · subst hn; exact pick_none w rb a c p k h hp hk
  · by_cases hlt : p < n
    · obtain ⟨g, off, rfl, b, hc⟩ := h.bytes p hlt
      exact pick_early w rb g off n c p k b h hlt hk hc
    · obtain ⟨g, off, rfl, b, hc⟩ := h.bytes (p % n) (Nat.mod_lt _ (by omega))
      obtain ⟨g', off', he, b', hc'⟩ := h.bytes ((p * 7 + 3) % n) (Nat.mod_lt _ (by omega))
      injection he with he; injection he with e1 e2; subst e1; subst e2
      exact pick_late w rb g off n c p (p % n) ((p * 7 + 3) % n) (p / n) k b b' h (by omega) (by omega) hp hk (by simp) (by simp) (by simp) (Nat.mod_lt _ (by omega)) (Nat.mod_lt _ (by omega)) (Nat.le_trans (Nat.div_le_self _ _) hp) hc hc'
end Go.Proofs.YtkdnbdgpcgookaaGreatDoor
namespace Go.Proofs.YtkdnbdgpcgookaaGreatDoor
open Go.RowKit

/-- what a draw of a text hands back -/
def DrewS (w : World) (rb : Nat) (a : Option Addr) (n c p bound cost : Nat) (e : Ending) (w' : World) : Prop :=
  ∃ (s : ByteArray) (q : Nat), e = .returned (.string s) ∧ s.size ≤ bound ∧ q ≤ p + cost ∧ Rdr w' rb a n c q ∧ w.grownBy w' (some rb)

theorem Rdr.later {w w' : World} {rb : Nat} {a : Option Addr} {n c p : Nat} (h : Rdr w rb a n c p) (hk : ∀ k, k < w.heap.size → w'.heap[k]? = w.heap[k]?) : Rdr w' rb a n c p := by
  refine ⟨by rw [hk _ (heap_lt h.own)]; exact h.own, fun k hk' => ?_, h.off, h.small⟩
  obtain ⟨g, off, ha, b, hc⟩ := h.bytes k hk'
  exact ⟨g, off, ha, b, by rw [← hc]; exact World.cell?_of_block (a := ⟨g, off + k, none⟩) (hk g (World.block_lt_of_cell? w _ hc))⟩

theorem pick_to {w : World} {rb : Nat} {a : Option Addr} {n c p : Nat} (k : Int) (h : Rdr w rb a n c p) (hp : p ≤ 100000) (hk : 1 ≤ k) :
    Calls Tryz.prog 35 #[.pointer (some ⟨rb, 0, none⟩), .int .i64 k] w fun e w' => ∃ v : Nat, e = .returned (.int .i64 v) ∧ (v : Int) < k ∧ Rdr w' rb a n c (p + 1) ∧ w.grownBy w' (some rb) := by
  refine (pick_any w rb a n c p k h hp hk).mono ?_
  rintro e w' ⟨v, he, h0, h1, h2, h3⟩
  obtain ⟨m, rfl⟩ := Int.eq_ofNat_of_zero_le h0
  exact ⟨m, he, h1, h2, h3⟩

set_option maxHeartbeats 400000 in
set_option maxRecDepth 100000 in
theorem of_any (w : World) (rb : Nat) (a : Option Addr) (n c p : Nat) (g ln lc M : Nat) (h : Rdr w rb a n c p) (hp : p ≤ 100000) (hl : 1 ≤ ln) (hlb : ln ≤ 1000) (hg : g ≠ rb)
    (hc : ∀ i, i < ln → ∃ s : ByteArray, w.cell? ⟨g, i, none⟩ = some (.string s) ∧ s.size ≤ M) :
    Calls Tryz.prog 36 #[.pointer (some ⟨rb, 0, none⟩), .slice (some ⟨g, 0, none⟩) ln lc] w (DrewS w rb a n c p M 1) := by
  have H := Lib.hid h
  have HC := Lib.hid hc
  clear h hc
  go_enter Tryz.func36, Tryz.ntmps36
  go_wp2_with fail
  refine (pick_to _ H.out hp (by omega)).mono ?_
  rintro e w1 ⟨v, rfl, hv, hr, hgr⟩
  have hv' : v < ln := by omega
  obtain ⟨s, hcs, hsz⟩ := HC.out v hv'
  have hc1 : w1.cell? ⟨g, v, none⟩ = some (.string s) := hgr.cell hcs (by simpa using hg)
  have HR := Lib.hid hr
  have HG := Lib.hid hgr
  clear hr hgr hcs
  go_wp2_with fail
  go_ret
  exact ⟨s, p + 1, rfl, hsz, Nat.le_refl _, HR.out, HG.out⟩

theorem plus_cells (w : World) (g : Nat) (ss : List ByteArray) (M : Nat) (hM : ∀ s ∈ ss, s.size ≤ M) (hg : g = w.heap.size) : ∀ i, i < ss.length → ∃ s : ByteArray, (w.alloc (Obj.cells (ss.map Value.string).toArray 9)).cell? ⟨g, i, none⟩ = some (.string s) ∧ s.size ≤ M := by
  subst hg
  intro i hi
  refine ⟨ss[i], ?_, hM _ (List.getElem_mem hi)⟩
  rw [Lib.cell_of_heap (heap_alloc_new w _)]
  simp [hi]
end Go.Proofs.YtkdnbdgpcgookaaGreatDoor
namespace Go.Proofs.YtkdnbdgpcgookaaGreatDoor
open Go.RowKit

theorem many_odd (x y j N : Nat) (h : x * j + y = N) (ho : j % 2 = 1) : (x + x) * (j / 2) + (y + x) = N ∧ x ≤ N ∧ y + x ≤ N := by
  obtain ⟨t, rfl⟩ : ∃ t, j = 2 * t + 1 := ⟨j / 2, by omega⟩
  have e : (2 * t + 1) / 2 = t := by omega
  rw [e]
  have e1 : x * (2 * t + 1) = 2 * (x * t) + x := by rw [Nat.mul_add, Nat.mul_one, Nat.mul_left_comm]
  have e2 : (x + x) * t = 2 * (x * t) := by rw [Nat.add_mul]; omega
  omega
theorem many_even (x y j N : Nat) (h : x * j + y = N) (h0 : 0 < j) (ho : j % 2 = 0) : (x + x) * (j / 2) + y = N ∧ x ≤ N ∧ y ≤ N := by
  obtain ⟨t, rfl⟩ : ∃ t, j = 2 * t := ⟨j / 2, by omega⟩
  have e : 2 * t / 2 = t := by omega
  rw [e]
  have e1 : x * (2 * t) = 2 * (x * t) := Nat.mul_left_comm x 2 t
  have e2 : (x + x) * t = 2 * (x * t) := by rw [Nat.add_mul]; omega
  have e3 : x ≤ x * t := Nat.le_mul_of_pos_right x (by omega)
  omega

set_option maxHeartbeats 400000 in
set_option maxRecDepth 100000 in
theorem many_any (s0 : ByteArray) (n0 N : Nat) (w : World) (hN : s0.size * n0 = N) (hNb : N ≤ 100000) (hs0 : s0.size ≤ N) (hn0 : n0 ≤ 100000) :
    Calls Tryz.prog 78 #[.string s0, .int .i64 n0] w fun e w' => (∃ s : ByteArray, e = .returned (.string s) ∧ s.size = N) ∧ w = w' := by
  go_enter Tryz.func78, Tryz.ntmps78
  go_wp2_with fail
  go_loop [0, 1, 5] (fun s n o => ∃ (x y : ByteArray) (j : Nat), s = .string x ∧ n = .int .i64 j ∧ o = .string y ∧ Hid (x.size * j + y.size = N) ∧ x.size ≤ 2 * N ∧ j ≤ n0 ∧ y.size ≤ N) (fun _ n _ => (intOf n).toNat)
  case atStart => exact ⟨s0, ⟨#[]⟩, n0, rfl, rfl, rfl, by show _ = _; rw [hN]; rfl, by omega, Nat.le_refl _, Nat.zero_le _⟩
  case round =>
    obtain ⟨x, y, j, rfl, rfl, rfl, hI, hx, hj, hy⟩ := hrel
    by_cases h0 : 0 < j
    · have e1 := str_sum y x (by omega)
      have e2 := str_sum x x (by omega)
      by_cases ho : j % 2 = 1
      · have hob : ((j : Int) % 2 == 1) = true := by rw [beq_iff_eq]; omega
        have hm := Lib.hid (many_odd _ _ _ _ hI.out ho)
        clear ho
        go_wp2_with fail
        obtain ⟨m1, m2, m3⟩ := hm.out
        exact ⟨⟨x ++ x, y ++ x, j / 2, rfl, by go_num, rfl, by show _ = _; simpa using m1, by simp; omega, by omega, by simpa using m3⟩, by simp [intOf]; omega⟩
      · have hob : ((j : Int) % 2 == 1) = false := by rw [beq_eq_false_iff_ne]; omega
        have hm := Lib.hid (many_even _ _ _ _ hI.out h0 (by omega))
        clear ho
        go_wp2_with fail
        obtain ⟨m1, m2, m3⟩ := hm.out
        exact ⟨⟨x ++ x, y, j / 2, rfl, by go_num, rfl, by show _ = _; simpa using m1, by simp; omega, by omega, m3⟩, by simp [intOf]; omega⟩
    · go_wp2_with fail
      go_ret
      have : j = 0 := by omega
      subst this
      exact ⟨⟨y, rfl, by have := hI.out; omega⟩, rfl⟩
end Go.Proofs.YtkdnbdgpcgookaaGreatDoor
