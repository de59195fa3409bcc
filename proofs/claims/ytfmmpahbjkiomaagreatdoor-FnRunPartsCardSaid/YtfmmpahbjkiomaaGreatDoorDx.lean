/- The model's random source: pick, in whatever state, hands back a number below its bound and moves its count on by one; nothing else turns. Condition: at most 2000 bytes behind it, counts up to 100000. What a law on growth leaves, step behind step. Plain lemmas; no walk. The model's random source: numbers and texts out of lists. Conditions: counts up to 100000. What a law on growth leaves, step behind step; a byte as a text. Plain lemmas; no walk. The model's draws of bodies: whatever the source holds, they return, and their texts are short. Conditions: counts up to 90000, depth at most 2. The model's draws of bodies: l1Some, l1Draw: whatever the source holds, they return, and their texts are short. Conditions: counts up to 90000, depth at most 2. The model's l13Open: the source of a draw. No condition but that its bytes can be read. The model's l1Bad and l13Open, whatever the bytes behind the source. No condition but that those can be read. -/
import Derived.Test.YtfmmpahbjkiomaaGreatDoorBut
import Derived.Deep.QuietTactic
import Derived.BigQuiet
import Derived.Laws.BitsAllLaws
import Derived.Test.YtfmmpahbjkiomaaGreatDoorQx
namespace Go.Proofs.YtfmmpahbjkiomaaGreatDoor
open Go.RowKit

/-- the source at block rb, its bytes at a, its count p -/
structure Rdr (w : World) (rb : Nat) (a : Option Addr) (n c p : Nat) : Prop where
  own : w.heap[rb]? = some (.cells #[.slice a n c, .int .i64 p] 108 (0, 0))
  bytes : ∀ k, k < n → ∃ g off, a = some ⟨g, off, none⟩ ∧ ∃ b : UInt8, w.cell? ⟨g, off + k, none⟩ = some (.int .u8 b.toNat)
  off : 0 < n → ∀ g o s, a = some ⟨g, o, s⟩ → g ≠ rb
  small : n ≤ 2000

/-- what a pick hands back -/
def Picked (w : World) (rb : Nat) (a : Option Addr) (n c p : Nat) (k : Int) (e : Ending) (w' : World) : Prop :=
  ∃ v : Int, e = .returned (.int .i64 v) ∧ 0 ≤ v ∧ v < k ∧ Rdr w' rb a n c (p + 1) ∧ w.grownBy w' (some rb)

theorem Rdr.moved {w w0 : World} {rb : Nat} {a : Option Addr} {n c p : Nat} (h : Rdr w rb a n c p) (he : w0.heap = w.heap) (hb : w.grownBy w0 (some rb)) (q : Int) (hq : q = (p : Int) + 1) :
    Rdr (w0.setCell ⟨rb, 1, none⟩ (.int .i64 q)) rb a n c (p + 1) ∧ w.grownBy (w0.setCell ⟨rb, 1, none⟩ (.int .i64 q)) (some rb) := by
  subst hq
  have ho : w0.heap[rb]? = some (.cells #[.slice a n c, .int .i64 p] 108 (0, 0)) := by rw [he]; exact h.own
  refine ⟨⟨by rw [heap_set_same ho]; rfl, ?_, h.off, h.small⟩, ?_⟩
  · intro k hk
    obtain ⟨g, off, ha, b, hc⟩ := h.bytes k hk
    refine ⟨g, off, ha, b, ?_⟩
    rw [← hc]
    exact World.cell?_of_block (a := ⟨g, off + k, none⟩) (by rw [heap_set_other (h.off (by omega) g off none ha), he])
  · exact ⟨hb.os, hb.tape, hb.output, by simp [World.setCell]; exact hb.size, fun j hj hne => by rw [heap_set_other (fun e => hne (by rw [e])), he]⟩

theorem xor_range (x y : Nat) (hx : x < 16777216) (hy : y < 16777216) : x ^^^ y < 16777216 := Nat.xor_lt_two_pow (n := 24) hx hy
theorem xorI (a b : Nat) (ha : a < 16777216) (hb : b < 16777216) : bits .xor .i64 (a : Int) (b : Int) = ((a ^^^ b : Nat) : Int) := by
  have hx := xor_range a b ha hb
  have h1 : (BitVec.ofInt 64 (a : Int)).toNat = a := by
    rw [BitVec.ofInt_natCast, BitVec.toNat_ofNat]; exact Nat.mod_eq_of_lt (by omega)
  have h2 : (BitVec.ofInt 64 (b : Int)).toNat = b := by
    rw [BitVec.ofInt_natCast, BitVec.toNat_ofNat]; exact Nat.mod_eq_of_lt (by omega)
  show IntKind.i64.wrap ((BitVec.ofInt 64 (a : Int) ^^^ BitVec.ofInt 64 (b : Int)).toNat : Int) = _
  rw [BitVec.toNat_xor, h1, h2]
  exact IntWalk.i64_in _ (by omega)

set_option maxHeartbeats 1000000 in
theorem pick_none (w : World) (rb : Nat) (a : Option Addr) (c p : Nat) (k : Int) (h : Rdr w rb a 0 c p) (hp : p ≤ 100000) (hk : 1 ≤ k) :
    Calls Tryz.prog 55 #[.pointer (some ⟨rb, 0, none⟩), .int .i64 k] w (Picked w rb a 0 c p k) := by
  have h0 : w.cell? ⟨rb, 0, none⟩ = some (.slice a 0 c) := by rw [Lib.cell_of_heap h.own]; rfl
  have h1 : w.cell? ⟨rb, 1, none⟩ = some (.int .i64 p) := by rw [Lib.cell_of_heap h.own]; rfl
  have hf : w.frozen? ⟨rb, 1, none⟩ = false := Lib.frozen_of_heap h.own 1
  have H := Lib.hid (h.moved rfl (World.grownBy.refl _ _) ((p : Int) + 1) rfl)
  clear h
  go_enter Tryz.func55, Tryz.ntmps55
  go_wp2_with fail
  go_ret
  exact ⟨0, rfl, by omega, by omega, H.out⟩

set_option maxHeartbeats 1000000 in
theorem pick_early (w : World) (rb g off n c p : Nat) (k : Int) (b : UInt8) (h : Rdr w rb (some ⟨g, off, none⟩) n c p) (hp : p < n) (hk : 1 ≤ k) (hc : w.cell? ⟨g, off + p, none⟩ = some (.int .u8 b.toNat)) :
    Calls Tryz.prog 55 #[.pointer (some ⟨rb, 0, none⟩), .int .i64 k] w (Picked w rb (some ⟨g, off, none⟩) n c p k) := by
  have h0 : w.cell? ⟨rb, 0, none⟩ = some (.slice (some ⟨g, off, none⟩) n c) := by rw [Lib.cell_of_heap h.own]; rfl
  have h1 : w.cell? ⟨rb, 1, none⟩ = some (.int .i64 p) := by rw [Lib.cell_of_heap h.own]; rfl
  have hf : w.frozen? ⟨rb, 1, none⟩ = false := Lib.frozen_of_heap h.own 1
  have hsm := h.small
  have H := Lib.hid (h.moved rfl (World.grownBy.refl _ _) ((p : Int) + 1) rfl)
  have hbt := b.toNat_lt
  have hc2 : ∀ v, (w.setCell ⟨rb, 1, none⟩ v).cell? ⟨g, off + p, none⟩ = some (.int .u8 b.toNat) := fun v => by
    rw [← hc]; exact World.cell?_of_block (a := ⟨g, off + p, none⟩) (heap_set_other (h.off (by omega) g off none rfl) v)
  have hn0 : ((n : Int) == 0) = false := by rw [beq_eq_false_iff_ne]; omega
  clear h hc
  go_enter Tryz.func55, Tryz.ntmps55
  go_wp2_with fail
  go_ret
  exact ⟨_, rfl, Int.emod_nonneg _ (by omega), Int.emod_lt_of_pos _ (by omega), H.out⟩

set_option maxHeartbeats 1000000 in
theorem pick_late (w : World) (rb g off n c p q1 q2 d : Nat) (k : Int) (b b' : UInt8) (h : Rdr w rb (some ⟨g, off, none⟩) n c p) (hn : 0 < n) (hp : n ≤ p) (hpb : p ≤ 100000) (hk : 1 ≤ k)
    (e1 : (p : Int) % (n : Int) = q1) (e2 : ((p : Int) * 7 + 3) % (n : Int) = q2) (e3 : (p : Int) / (n : Int) = d) (l1 : q1 < n) (l2 : q2 < n) (l3 : d ≤ 100000)
    (hc : w.cell? ⟨g, off + q1, none⟩ = some (.int .u8 b.toNat)) (hc' : w.cell? ⟨g, off + q2, none⟩ = some (.int .u8 b'.toNat)) :
    Calls Tryz.prog 55 #[.pointer (some ⟨rb, 0, none⟩), .int .i64 k] w (Picked w rb (some ⟨g, off, none⟩) n c p k) := by
  have h0 : w.cell? ⟨rb, 0, none⟩ = some (.slice (some ⟨g, off, none⟩) n c) := by rw [Lib.cell_of_heap h.own]; rfl
  have h1 : w.cell? ⟨rb, 1, none⟩ = some (.int .i64 p) := by rw [Lib.cell_of_heap h.own]; rfl
  have hf : w.frozen? ⟨rb, 1, none⟩ = false := Lib.frozen_of_heap h.own 1
  have hsm := h.small
  have H := Lib.hid (h.moved rfl (World.grownBy.refl _ _) ((p : Int) + 1) rfl)
  have hbt := b.toNat_lt
  have hbt' := b'.toNat_lt
  have hc2 : ∀ v, (w.setCell ⟨rb, 1, none⟩ v).cell? ⟨g, off + q1, none⟩ = some (.int .u8 b.toNat) := fun v => by
    rw [← hc]; exact World.cell?_of_block (a := ⟨g, off + q1, none⟩) (heap_set_other (h.off (by omega) g off none rfl) v)
  have hc3 : ∀ v, (w.setCell ⟨rb, 1, none⟩ v).cell? ⟨g, off + q2, none⟩ = some (.int .u8 b'.toNat) := fun v => by
    rw [← hc']; exact World.cell?_of_block (a := ⟨g, off + q2, none⟩) (heap_set_other (h.off (by omega) g off none rfl) v)
  have hn0 : ((n : Int) == 0) = false := by rw [beq_eq_false_iff_ne]; omega
  have t1 : Int.tmod (p : Int) (n : Int) = q1 := by rw [← e1, Int.tmod_eq_emod_of_nonneg (by omega)]
  have t2 : Int.tmod ((p : Int) * 7 + 3) (n : Int) = q2 := by rw [← e2, Int.tmod_eq_emod_of_nonneg (by omega)]
  have t3 : Int.tdiv (p : Int) (n : Int) = d := by rw [← e3, Int.tdiv_eq_ediv_of_nonneg (by omega)]
  have w1 : IntKind.i64.wrap ((p : Int) * 7) = (p : Int) * 7 := IntWalk.i64_in _ (by omega)
  have w2 : IntKind.i64.wrap ((p : Int) * 7 + 3) = (p : Int) * 7 + 3 := IntWalk.i64_in _ (by omega)
  have w3 : IntKind.i64.wrap ((b.toNat : Int) * 131) = (b.toNat : Int) * 131 := IntWalk.i64_in _ (by omega)
  have w4 : IntKind.i64.wrap ((b'.toNat : Int) * 1117) = (b'.toNat : Int) * 1117 := IntWalk.i64_in _ (by omega)
  have w5 : IntKind.i64.wrap ((p : Int) * 29) = (p : Int) * 29 := IntWalk.i64_in _ (by omega)
  have w6 : IntKind.i64.wrap ((d : Int) * 53) = (d : Int) * 53 := IntWalk.i64_in _ (by omega)
  have w7 : IntKind.i64.wrap ((b.toNat : Int) * 131 + (b'.toNat : Int) * 1117) = (b.toNat : Int) * 131 + (b'.toNat : Int) * 1117 := IntWalk.i64_in _ (by omega)
  have w8 : IntKind.i64.wrap ((b.toNat : Int) * 131 + (b'.toNat : Int) * 1117 + (p : Int) * 29) = (b.toNat : Int) * 131 + (b'.toNat : Int) * 1117 + (p : Int) * 29 := IntWalk.i64_in _ (by omega)
  have w9 : IntKind.i64.wrap ((b.toNat : Int) * 131 + (b'.toNat : Int) * 1117 + (p : Int) * 29 + (d : Int) * 53) = (b.toNat : Int) * 131 + (b'.toNat : Int) * 1117 + (p : Int) * 29 + (d : Int) * 53 := IntWalk.i64_in _ (by omega)
  clear h hc hc'
  go_enter Tryz.func55, Tryz.ntmps55
  go_wp2_with fail
  go_quiet (fail)
  obtain ⟨X, hXe, hXb⟩ : ∃ X : Nat, (b.toNat : Int) * 131 + (b'.toNat : Int) * 1117 + (p : Int) * 29 + (d : Int) * 53 = (X : Int) ∧ X < 16777216 := ⟨b.toNat * 131 + b'.toNat * 1117 + p * 29 + d * 53, by omega, by omega⟩
  rw [hXe]
  have hx := xorI X (X / 64) (by omega) (by omega)
  have hlt := xor_range X (X / 64) (by omega) (by omega)
  have hd : ((X / 64 : Nat) : Int) = (X : Int) / 64 := by omega
  rw [hd] at hx
  clear w1 w2 w3 w4 w5 w6 w7 w8 w9 hXe t1 t2 t3 e1 e2 e3 hc2 hc3 hd
  generalize X ^^^ X / 64 = Y at *
  go_wp2_with fail
  go_ret
  obtain ⟨h1, h2⟩ := H.out
  exact ⟨_, rfl, Int.emod_nonneg _ (by omega), Int.emod_lt_of_pos _ (by omega), ⟨h1.own, h1.bytes, h1.off, h1.small⟩, ⟨h2.os, h2.tape, h2.output, h2.size, h2.block⟩⟩

theorem pick_any (w : World) (rb : Nat) (a : Option Addr) (n c p : Nat) (k : Int) (h : Rdr w rb a n c p) (hp : p ≤ 100000) (hk : 1 ≤ k) :
    Calls Tryz.prog 55 #[.pointer (some ⟨rb, 0, none⟩), .int .i64 k] w (Picked w rb a n c p k) := by
  by_cases hn : n = 0
  · subst hn; exact pick_none w rb a c p k h hp hk
  · by_cases hlt : p < n
    · obtain ⟨g, off, rfl, b, hc⟩ := h.bytes p hlt
      exact pick_early w rb g off n c p k b h hlt hk hc
    · obtain ⟨g, off, rfl, b, hc⟩ := h.bytes (p % n) (Nat.mod_lt _ (by omega))
      obtain ⟨g', off', he, b', hc'⟩ := h.bytes ((p * 7 + 3) % n) (Nat.mod_lt _ (by omega))
      injection he with he; injection he with e1 e2; subst e1; subst e2
      exact pick_late w rb g off n c p (p % n) ((p * 7 + 3) % n) (p / n) k b b' h (by omega) (by omega) hp hk (by simp) (by simp) (by simp) (Nat.mod_lt _ (by omega)) (Nat.mod_lt _ (by omega)) (Nat.le_trans (Nat.div_le_self _ _) hp) hc hc'
end Go.Proofs.YtfmmpahbjkiomaaGreatDoor
namespace Go.Proofs.YtfmmpahbjkiomaaGreatDoor
open Go.RowKit

theorem grownBy_trans {w w1 w2 : World} {row : Option Nat} (h : w.grownBy w1 row) (k : w1.grownBy w2 row) : w.grownBy w2 row :=
  ⟨k.os.trans h.os, k.tape.trans h.tape, k.output.trans h.output, Nat.le_trans h.size k.size, fun j hj hne => (k.block j (Nat.lt_of_lt_of_le hj h.size) hne).trans (h.block j hj hne)⟩
theorem grownBy_below {w w1 : World} {row : Option Nat} (h : Below w.heap.size w w1) : w.grownBy w1 row := ⟨h.os, h.tape, h.output, h.size, fun j hj _ => h.block j hj⟩
theorem grownBy_set {w : World} {g k : Nat} (u : Value) : w.grownBy (w.setCell ⟨g, k, none⟩ u) (some g) :=
  ⟨rfl, rfl, rfl, by simp [World.setCell], fun j _ hne => heap_set_other (fun e => hne (by rw [e])) u⟩
end Go.Proofs.YtfmmpahbjkiomaaGreatDoor
namespace Go.Proofs.YtfmmpahbjkiomaaGreatDoor
open Go.RowKit

/-- what a draw of a text hands back -/
def DrewS (w : World) (rb : Nat) (a : Option Addr) (n c p bound cost : Nat) (e : Ending) (w' : World) : Prop :=
  ∃ (s : ByteArray) (q : Nat), e = .returned (.string s) ∧ s.size ≤ bound ∧ q ≤ p + cost ∧ Rdr w' rb a n c q ∧ w.grownBy w' (some rb)

theorem Rdr.later {w w' : World} {rb : Nat} {a : Option Addr} {n c p : Nat} (h : Rdr w rb a n c p) (hk : ∀ k, k < w.heap.size → w'.heap[k]? = w.heap[k]?) : Rdr w' rb a n c p := by
  refine ⟨by rw [hk _ (heap_lt h.own)]; exact h.own, fun k hk' => ?_, h.off, h.small⟩
  obtain ⟨g, off, ha, b, hc⟩ := h.bytes k hk'
  exact ⟨g, off, ha, b, by rw [← hc]; exact World.cell?_of_block (a := ⟨g, off + k, none⟩) (hk g (World.block_lt_of_cell? w _ hc))⟩

theorem pick_to {w : World} {rb : Nat} {a : Option Addr} {n c p : Nat} (k : Int) (h : Rdr w rb a n c p) (hp : p ≤ 100000) (hk : 1 ≤ k) :
    Calls Tryz.prog 55 #[.pointer (some ⟨rb, 0, none⟩), .int .i64 k] w fun e w' => ∃ v : Nat, e = .returned (.int .i64 v) ∧ (v : Int) < k ∧ Rdr w' rb a n c (p + 1) ∧ w.grownBy w' (some rb) := by
  refine (pick_any w rb a n c p k h hp hk).mono ?_
  rintro e w' ⟨v, he, h0, h1, h2, h3⟩
  obtain ⟨m, rfl⟩ := Int.eq_ofNat_of_zero_le h0
  exact ⟨m, he, h1, h2, h3⟩

set_option maxHeartbeats 400000 in
set_option maxRecDepth 100000 in
theorem of_any (w : World) (rb : Nat) (a : Option Addr) (n c p : Nat) (g ln lc M : Nat) (h : Rdr w rb a n c p) (hp : p ≤ 100000) (hl : 1 ≤ ln) (hlb : ln ≤ 1000) (hg : g ≠ rb)
    (hc : ∀ i, i < ln → ∃ s : ByteArray, w.cell? ⟨g, i, none⟩ = some (.string s) ∧ s.size ≤ M) :
    Calls Tryz.prog 25 #[.pointer (some ⟨rb, 0, none⟩), .slice (some ⟨g, 0, none⟩) ln lc] w (DrewS w rb a n c p M 1) := by
  have H := Lib.hid h
  have HC := Lib.hid hc
  clear h hc
  go_enter Tryz.func25, Tryz.ntmps25
  go_wp2_with fail
  refine (pick_to _ H.out hp (by omega)).mono ?_
  rintro e w1 ⟨v, rfl, hv, hr, hgr⟩
  have hv' : v < ln := by omega
  obtain ⟨s, hcs, hsz⟩ := HC.out v hv'
  have hc1 : w1.cell? ⟨g, v, none⟩ = some (.string s) := hgr.cell hcs (by simpa using hg)
  have HR := Lib.hid hr
  have HG := Lib.hid hgr
  clear hr hgr hcs
  go_wp2_with fail
  go_ret
  exact ⟨s, p + 1, rfl, hsz, Nat.le_refl _, HR.out, HG.out⟩

theorem plus_cells (w : World) (g : Nat) (ss : List ByteArray) (M : Nat) (hM : ∀ s ∈ ss, s.size ≤ M) (hg : g = w.heap.size) : ∀ i, i < ss.length → ∃ s : ByteArray, (w.alloc (Obj.cells (ss.map Value.string).toArray 9)).cell? ⟨g, i, none⟩ = some (.string s) ∧ s.size ≤ M := by
  subst hg
  intro i hi
  refine ⟨ss[i], ?_, hM _ (List.getElem_mem hi)⟩
  rw [Lib.cell_of_heap (heap_alloc_new w _)]
  simp [hi]
end Go.Proofs.YtfmmpahbjkiomaaGreatDoor
namespace Go.Proofs.YtfmmpahbjkiomaaGreatDoor
open Go.RowKit

theorem str1 (c : UInt8) (w : World) (b : Nat) (hb : b = w.heap.size) (n : Int) (hn : (c.toNat : Int) = n) :
    (convert 22 9 (.slice (some ⟨b, 0, none⟩) 1 1)).run Tryz.prog (w.alloc (Obj.cells #[.int .u8 n] 5)) =
      .ok (.string ⟨#[c]⟩) (w.alloc (Obj.cells #[.int .u8 n] 5)) := by
  subst hb; subst hn
  exact run_convert_bytes_back (P := Tryz.prog) _ 22 9 5 ⟨w.heap.size, 0, none⟩ 1 [c] Tryz.underlying22 Tryz.underlying5 Tryz.underlying9 (bytes_cells (e := 5) (heap_alloc_new _ _))

end Go.Proofs.YtfmmpahbjkiomaaGreatDoor
namespace Go.Proofs.YtfmmpahbjkiomaaGreatDoor
open Go.RowKit

set_option maxHeartbeats 400000 in
set_option maxRecDepth 100000 in
theorem dec_digit (d : Int) (h0 : 0 ≤ d) (h9 : d ≤ 9) (w : World) :
    Calls Tryz.prog 138 #[.int .i64 d] w fun e w' => (∃ s : ByteArray, e = .returned (.string s) ∧ s.size = 1) ∧ Below w.heap.size w w' := by
  obtain ⟨k, rfl⟩ := Int.eq_ofNat_of_zero_le h0
  have hk9 : k ≤ 9 := by omega
  obtain ⟨c, hcd⟩ : ∃ c : UInt8, c = UInt8.ofNat (48 + k) := ⟨_, rfl⟩
  have hs := str1 c w w.heap.size rfl (48 + (k : Int)) (by rw [hcd]; simp; omega)
  have e1 := str_add ⟨#[c]⟩ ⟨#[]⟩ (by have : (⟨#[c]⟩ : ByteArray).size = 1 := rfl; have : (⟨#[]⟩ : ByteArray).size = 0 := rfl; omega)
  clear hcd
  go_enter Tryz.func138, Tryz.ntmps138
  go_wp2_with fail
  refine wp_loop_rounds 1 ?_
  rw [rounds_succ]
  go_wp2_with fail
  go_ret
  exact ⟨⟨_, rfl, rfl⟩, (Below.refl _ _).alloc (Nat.le_refl _) _⟩
end Go.Proofs.YtfmmpahbjkiomaaGreatDoor
namespace Go.Proofs.YtfmmpahbjkiomaaGreatDoor
open Go.RowKit

def Sz : Nat → Nat
  | 0 => 2
  | d + 1 => 5 + 6 * Sz d
def Cs : Nat → Nat
  | 0 => 3
  | d + 1 => 3 + 2 * (1 + 3 * Cs d)
theorem Sz_ge (d : Nat) : 2 ≤ Sz d := by cases d <;> simp [Sz] <;> omega
theorem Cs_ge (d : Nat) : 3 ≤ Cs d := by cases d <;> simp [Cs]

def SaidSome (d : Nat) : Prop := ∀ (w : World) (rb : Nat) (a : Option Addr) (n c p : Nat) (nm : ByteArray) (di : Int), di = d → Rdr w rb a n c p → p + 4000 * d ≤ 90000 → nm.size ≤ 10 → Sz d ≤ 1000 → Cs d ≤ 1000 →
  Calls Tryz.prog 113 #[.pointer (some ⟨rb, 0, none⟩), .string nm, .int .i64 di] w (DrewS w rb a n c p (Sz d) (Cs d))
def SaidDraw (d : Nat) : Prop := ∀ (w : World) (rb : Nat) (a : Option Addr) (n c p : Nat) (nm : ByteArray) (di : Int), di = d → Rdr w rb a n c p → p + 4000 * d + 2100 ≤ 90000 → nm.size ≤ 10  → Sz d ≤ 1000 → Cs d ≤ 1000 →
  Calls Tryz.prog 86 #[.pointer (some ⟨rb, 0, none⟩), .string nm, .int .i64 di] w (DrewS w rb a n c p (3 * Sz d) (1 + 3 * Cs d))

set_option maxHeartbeats 1000000 in
set_option maxRecDepth 100000 in
theorem draw_step (d : Nat) (ih : SaidSome d) : SaidDraw d := by
  intro w rb a n c p nm di hdi h hp hnm hsz hcs
  have H := Lib.hid h
  have IH := Lib.hid ih
  have HD := Lib.hid hdi
  clear h ih hdi
  go_enter Tryz.func86, Tryz.ntmps86
  go_wp2_with fail
  refine (pick_to 4 H.out (by omega) (by omega)).mono ?_
  rintro e w1 ⟨v, rfl, hv, hr, hg⟩
  have HR := Lib.hid hr
  have HG := Lib.hid hg
  clear hr hg
  have hvb : v ≤ 3 := by omega
  generalize hZe : Sz d = Z at *
  generalize hCe : Cs d = C at *
  have HZe := Lib.hid hZe
  have HCe := Lib.hid hCe
  clear hZe hCe
  go_wp2_with fail
  go_loopw [7, 10] (fun o i wr => ∃ (k q : Nat) (s : ByteArray), i = .int .i64 k ∧ k ≤ v ∧ o = .string s ∧ Hid (s.size ≤ k * Z) ∧ Hid (q ≤ p + 1 + k * C) ∧ Hid (Rdr wr rb a n c q ∧ w.grownBy wr (some rb))) (fun _ i _ => v - (intOf i).toNat)
  case atStart => exact ⟨0, p + 1, ⟨#[]⟩, by go_num, Nat.zero_le _, rfl, by show _ ≤ _; exact Nat.zero_le _, by show _ ≤ _; omega, HR.out, HG.out⟩
  case round =>
    obtain ⟨k, q, s, rfl, hk, rfl, hs, hq, hr⟩ := hrel
    have hkz : k * Z ≤ 3 * Z := Nat.mul_le_mul_right Z (by omega)
    have hkc : k * C ≤ 3 * C := Nat.mul_le_mul_right C (by omega)
    by_cases hlt : k < v
    · have hs3 : s.size ≤ 3 * Z := Nat.le_trans hs.out hkz
      have hkc2 : k * C ≤ 2 * C := Nat.mul_le_mul_right C (by omega)
      have hq3 : q ≤ p + 1 + 2 * C := Nat.le_trans hq.out (by omega)
      clear hkz hkc hkc2
      go_wp2_with fail
      refine (IH.out _ rb a n c q nm _ HD.out hr.out.1 (by omega) hnm (by rw [HZe.out]; exact hsz) (by rw [HCe.out]; exact hcs)).mono ?_
      rintro e w2 ⟨t, q', rfl, ht, hq', hr2, hg2⟩
      rw [HZe.out] at ht
      rw [HCe.out] at hq'
      have HR2 := Lib.hid hr2
      have HG2 := Lib.hid hg2
      clear hr2 hg2
      have e1 := str_add s t (by omega)
      go_wp2_with fail
      go_roundw
      case rel =>
        refine ⟨k + 1, q', s ++ t, by go_num, by omega, rfl, ?_, ?_, HR2.out, grownBy_trans hr.out.2 HG2.out⟩
        · show _ ≤ _; have := hs.out; rw [Nat.succ_mul]; simp; omega
        · show _ ≤ _; have := hq.out; rw [Nat.succ_mul]; omega
      case measure => simp [intOf]; omega
    · go_wp2_with fail
      go_ret
      exact ⟨s, q, rfl, Nat.le_trans hs.out hkz, Nat.le_trans hq.out (by omega), hr.out.1, hr.out.2⟩

theorem str_none {s : ByteArray} (h : s.size = 0) : s.toList.isEmpty = true := by
  rw [ByteArray.toList_eq]
  have : s.data.toList.length = 0 := by simpa using h
  rw [List.length_eq_zero_iff.1 this]; rfl
theorem str_some {s : ByteArray} (h : 0 < s.size) : s.toList.isEmpty = false := by
  rw [ByteArray.toList_eq]
  have : 0 < s.data.toList.length := by simpa using h
  cases hl : s.data.toList with
  | nil => rw [hl] at this; simp at this
  | cons x t => rfl
theorem four_small : ∀ s ∈ [(⟨#[43]⟩ : ByteArray), ⟨#[45]⟩, ⟨#[42]⟩, ⟨#[43]⟩], s.size ≤ 1 := by decide

set_option maxHeartbeats 4000000 in
set_option maxRecDepth 100000 in
theorem some_nameless (d : Nat) (ih : ∀ d', d = d' + 1 → SaidDraw d') (w : World) (rb : Nat) (a : Option Addr) (n c p : Nat) (nm : ByteArray) (h : Rdr w rb a n c p) (hp : p + 4000 * d ≤ 90000) (hnm : nm.size ≤ 10) (hZ : Sz d ≤ 1000) (hCs : Cs d ≤ 1000) (hem : nm.size = 0) :
    Calls Tryz.prog 113 #[.pointer (some ⟨rb, 0, none⟩), .string nm, .int .i64 d] w (DrewS w rb a n c p (Sz d) (Cs d)) := by
  have hz := Sz_ge d
  have hC := Cs_ge d
  have H := Lib.hid h
  have IH := Lib.hid ih
  have hel : nm.toList.isEmpty = true := str_none hem
  clear h ih hem
  go_enter Tryz.func113, Tryz.ntmps113
  go_wp2_with fail
  refine (pick_to 8 H.out (by omega) (by omega)).mono ?_
  rintro e w1 ⟨v, rfl, hv, hr, hg⟩
  have hrb := heap_lt hr.own
  have HR := Lib.hid hr
  have HG := Lib.hid hg
  clear hr hg
  obtain rfl | rfl | rfl | rfl | rfl | rfl | rfl | rfl : v = 0 ∨ v = 1 ∨ v = 2 ∨ v = 3 ∨ v = 4 ∨ v = 5 ∨ v = 6 ∨ v = 7 := by omega
  · go_wp2_with fail
    refine (of_any _ rb a n c (p + 1) w1.heap.size 4 4 1 (HR.out.later (alloc_heap _)) (by omega) (by omega) (by omega) (by omega) (plus_cells w1 w1.heap.size [⟨#[43]⟩, ⟨#[45]⟩, ⟨#[42]⟩, ⟨#[43]⟩] 1 four_small rfl)).mono ?_
    rintro e w2 ⟨s, q, rfl, hs1, hq, hr2, hg2⟩
    have HR2 := Lib.hid hr2
    have HG2 := Lib.hid hg2
    clear hr2 hg2
    go_wp2_with fail
    refine (pick_to 10 HR2.out (by omega) (by omega)).mono ?_
    rintro e w3 ⟨u, rfl, hu, hr3, hg3⟩
    have HR3 := Lib.hid hr3
    have HG3 := Lib.hid hg3
    clear hr3 hg3
    go_wp2_with fail
    refine (dec_digit u (by omega) (by omega) _).mono ?_
    rintro e w4 ⟨⟨t, rfl, ht⟩, hb4⟩
    have HB4 := Lib.hid hb4
    have HT := Lib.hid ht
    have e1 := str_add s t (by omega)
    clear hb4 ht
    go_wp2_with fail
    go_ret
    exact ⟨s ++ t, q + 1, rfl, by (have := HT.out; simp; omega), by omega, HR3.out.later (fun k hk => HB4.out.block k hk),
      grownBy_trans (grownBy_trans (grownBy_trans (grownBy_trans HG.out (World.grownBy_alloc _ _ _)) HG2.out) HG3.out) (grownBy_below HB4.out)⟩
  · go_wp2_with fail
    refine (of_any _ rb a n c (p + 1) w1.heap.size 4 4 1 (HR.out.later (alloc_heap _)) (by omega) (by omega) (by omega) (by omega) (plus_cells w1 w1.heap.size [⟨#[43]⟩, ⟨#[45]⟩, ⟨#[42]⟩, ⟨#[43]⟩] 1 four_small rfl)).mono ?_
    rintro e w2 ⟨s, q, rfl, hs1, hq, hr2, hg2⟩
    have HR2 := Lib.hid hr2
    have HG2 := Lib.hid hg2
    clear hr2 hg2
    go_wp2_with fail
    refine (pick_to 10 HR2.out (by omega) (by omega)).mono ?_
    rintro e w3 ⟨u, rfl, hu, hr3, hg3⟩
    have HR3 := Lib.hid hr3
    have HG3 := Lib.hid hg3
    clear hr3 hg3
    go_wp2_with fail
    refine (dec_digit u (by omega) (by omega) _).mono ?_
    rintro e w4 ⟨⟨t, rfl, ht⟩, hb4⟩
    have HB4 := Lib.hid hb4
    have HT := Lib.hid ht
    have e1 := str_add s t (by omega)
    clear hb4 ht
    go_wp2_with fail
    go_ret
    exact ⟨s ++ t, q + 1, rfl, by (have := HT.out; simp; omega), by omega, HR3.out.later (fun k hk => HB4.out.block k hk),
      grownBy_trans (grownBy_trans (grownBy_trans (grownBy_trans HG.out (World.grownBy_alloc _ _ _)) HG2.out) HG3.out) (grownBy_below HB4.out)⟩
  · go_wp2_with fail
    go_ret
    exact ⟨⟨#[80]⟩, p + 1, rfl, Nat.le_trans (Nat.le_succ 1) hz, by omega, HR.out, HG.out⟩
  · go_wp2_with fail
    go_ret
    exact ⟨⟨#[80]⟩, p + 1, rfl, Nat.le_trans (Nat.le_succ 1) hz, by omega, HR.out, HG.out⟩
  · go_wp2_with fail
    refine (pick_to 4 HR.out (by omega) (by omega)).mono ?_
    rintro e w3 ⟨u, rfl, hu, hr3, hg3⟩
    have HR3 := Lib.hid hr3
    have HG3 := Lib.hid hg3
    clear hr3 hg3
    go_wp2_with fail
    refine (dec_digit u (by omega) (by omega) _).mono ?_
    rintro e w4 ⟨⟨t, rfl, ht⟩, hb4⟩
    have HB4 := Lib.hid hb4
    have HT := Lib.hid ht
    have z1 : (⟨#[43]⟩ : ByteArray).size = 1 := rfl
    have e1 := str_add ⟨#[43]⟩ t (by omega)
    clear hb4 ht z1
    go_wp2_with fail
    go_ret
    exact ⟨⟨#[43]⟩ ++ t, p + 1 + 1, rfl, by (have := HT.out; have z1 : (⟨#[43]⟩ : ByteArray).size = 1 := rfl; simp; omega), by omega, HR3.out.later (fun k hk => HB4.out.block k hk),
      grownBy_trans (grownBy_trans HG.out HG3.out) (grownBy_below HB4.out)⟩
  · go_wp2_with fail
    refine (pick_to 4 HR.out (by omega) (by omega)).mono ?_
    rintro e w3 ⟨u, rfl, hu, hr3, hg3⟩
    have HR3 := Lib.hid hr3
    have HG3 := Lib.hid hg3
    clear hr3 hg3
    go_wp2_with fail
    refine (dec_digit u (by omega) (by omega) _).mono ?_
    rintro e w4 ⟨⟨t, rfl, ht⟩, hb4⟩
    have HB4 := Lib.hid hb4
    have HT := Lib.hid ht
    have z1 : (⟨#[43]⟩ : ByteArray).size = 1 := rfl
    have e1 := str_add ⟨#[43]⟩ t (by omega)
    clear hb4 ht z1
    go_wp2_with fail
    go_ret
    exact ⟨⟨#[43]⟩ ++ t, p + 1 + 1, rfl, by (have := HT.out; have z1 : (⟨#[43]⟩ : ByteArray).size = 1 := rfl; simp; omega), by omega, HR3.out.later (fun k hk => HB4.out.block k hk),
      grownBy_trans (grownBy_trans HG.out HG3.out) (grownBy_below HB4.out)⟩
  · cases d with
    | zero =>
      go_wp2_with fail
      refine (pick_to 4 HR.out (by omega) (by omega)).mono ?_
      rintro e w3 ⟨u, rfl, hu, hr3, hg3⟩
      have HR3 := Lib.hid hr3
      have HG3 := Lib.hid hg3
      clear hr3 hg3
      go_wp2_with fail
      refine (dec_digit u (by omega) (by omega) _).mono ?_
      rintro e w4 ⟨⟨t, rfl, ht⟩, hb4⟩
      have HB4 := Lib.hid hb4
      have HT := Lib.hid ht
      have z1 : (⟨#[43]⟩ : ByteArray).size = 1 := rfl
      have e1 := str_add ⟨#[43]⟩ t (by omega)
      clear hb4 ht z1
      go_wp2_with fail
      go_ret
      exact ⟨⟨#[43]⟩ ++ t, p + 1 + 1, rfl, by (have := HT.out; have z1 : (⟨#[43]⟩ : ByteArray).size = 1 := rfl; simp; omega), by omega, HR3.out.later (fun k hk => HB4.out.block k hk),
        grownBy_trans (grownBy_trans HG.out HG3.out) (grownBy_below HB4.out)⟩
    | succ d' =>
      have hsd : Sz (d' + 1) = 5 + 6 * Sz d' := rfl
      have hcd : Cs (d' + 1) = 3 + 2 * (1 + 3 * Cs d') := rfl
      have hdb : d' ≤ 100 := by omega
      have hp1 : p + 1 + 4000 * d' + 2100 ≤ 90000 := by clear hsd hcd hz hC hZ hCs; omega
      have hz1 : 5 + 6 * Sz d' ≤ 1000 := by omega
      have hc1 : 3 + 2 * (1 + 3 * Cs d') ≤ 1000 := by omega
      have HSD := Lib.hid hsd
      have HCD := Lib.hid hcd
      clear hsd hcd hz hC hZ hCs
      go_wp2_with fail
      refine (IH.out d' rfl _ rb a n c (p + 1) nm _ (by omega) HR.out hp1 hnm (by omega) (by omega)).mono ?_
      rintro e w2 ⟨s, q, rfl, hs1, hq, hr2, hg2⟩
      have HR2 := Lib.hid hr2
      have HG2 := Lib.hid hg2
      clear hr2 hg2
      have hp2 : q + 4000 * d' + 2100 ≤ 90000 := by omega
      have z1 : (⟨#[63, 91]⟩ : ByteArray).size = 2 := rfl
      have z2 : (⟨#[93, 91]⟩ : ByteArray).size = 2 := rfl
      have z3 : (⟨#[93]⟩ : ByteArray).size = 1 := rfl
      have e1 := str_add ⟨#[63, 91]⟩ s (by omega)
      have e2 := str_add (⟨#[63, 91]⟩ ++ s) ⟨#[93, 91]⟩ (by simp; omega)
      clear z1 z2 z3
      go_wp2_with fail
      refine (IH.out d' rfl _ rb a n c q nm _ (by omega) HR2.out hp2 hnm (by omega) (by omega)).mono ?_
      rintro e w3 ⟨t, q', rfl, ht1, hq', hr3, hg3⟩
      have HR3 := Lib.hid hr3
      have HG3 := Lib.hid hg3
      clear hr3 hg3
      have z1 : (⟨#[63, 91]⟩ : ByteArray).size = 2 := rfl
      have z2 : (⟨#[93, 91]⟩ : ByteArray).size = 2 := rfl
      have z3 : (⟨#[93]⟩ : ByteArray).size = 1 := rfl
      have e3 := str_add (⟨#[63, 91]⟩ ++ s ++ ⟨#[93, 91]⟩) t (by simp; omega)
      have e4 := str_add (⟨#[63, 91]⟩ ++ s ++ ⟨#[93, 91]⟩ ++ t) ⟨#[93]⟩ (by simp; omega)
      have HZ := Lib.hid (show (⟨#[63, 91]⟩ ++ s ++ ⟨#[93, 91]⟩ ++ t ++ ⟨#[93]⟩ : ByteArray).size ≤ 5 + 6 * Sz d' by simp; omega)
      clear z1 z2 z3
      go_wp2_with fail
      go_ret
      exact ⟨_, q', rfl, by rw [HSD.out]; exact HZ.out, by rw [HCD.out]; omega, HR3.out, grownBy_trans (grownBy_trans HG.out HG2.out) HG3.out⟩
  · go_wp2_with fail
    refine (pick_to 4 HR.out (by omega) (by omega)).mono ?_
    rintro e w3 ⟨u, rfl, hu, hr3, hg3⟩
    have HR3 := Lib.hid hr3
    have HG3 := Lib.hid hg3
    clear hr3 hg3
    go_wp2_with fail
    refine (dec_digit u (by omega) (by omega) _).mono ?_
    rintro e w4 ⟨⟨t, rfl, ht⟩, hb4⟩
    have HB4 := Lib.hid hb4
    have HT := Lib.hid ht
    have z1 : (⟨#[43]⟩ : ByteArray).size = 1 := rfl
    have e1 := str_add ⟨#[43]⟩ t (by omega)
    clear hb4 ht z1
    go_wp2_with fail
    go_ret
    exact ⟨⟨#[43]⟩ ++ t, p + 1 + 1, rfl, by (have := HT.out; have z1 : (⟨#[43]⟩ : ByteArray).size = 1 := rfl; simp; omega), by omega, HR3.out.later (fun k hk => HB4.out.block k hk),
      grownBy_trans (grownBy_trans HG.out HG3.out) (grownBy_below HB4.out)⟩

set_option maxHeartbeats 4000000 in
set_option maxRecDepth 100000 in
theorem some_named (d : Nat) (ih : ∀ d', d = d' + 1 → SaidDraw d') (w : World) (rb : Nat) (a : Option Addr) (n c p : Nat) (nm : ByteArray) (h : Rdr w rb a n c p) (hp : p + 4000 * d ≤ 90000) (hnm : nm.size ≤ 10) (hZ : Sz d ≤ 1000) (hCs : Cs d ≤ 1000) (hem : 0 < nm.size) :
    Calls Tryz.prog 113 #[.pointer (some ⟨rb, 0, none⟩), .string nm, .int .i64 d] w (DrewS w rb a n c p (Sz d) (Cs d)) := by
  have hz := Sz_ge d
  have hC := Cs_ge d
  have H := Lib.hid h
  have IH := Lib.hid ih
  have hel : nm.toList.isEmpty = false := str_some hem
  clear h ih 
  go_enter Tryz.func113, Tryz.ntmps113
  go_wp2_with fail
  refine (pick_to 8 H.out (by omega) (by omega)).mono ?_
  rintro e w1 ⟨v, rfl, hv, hr, hg⟩
  have hrb := heap_lt hr.own
  have HR := Lib.hid hr
  have HG := Lib.hid hg
  clear hr hg
  obtain rfl | rfl | rfl | rfl | rfl | rfl | rfl | rfl : v = 0 ∨ v = 1 ∨ v = 2 ∨ v = 3 ∨ v = 4 ∨ v = 5 ∨ v = 6 ∨ v = 7 := by omega
  · go_wp2_with fail
    refine (of_any _ rb a n c (p + 1) w1.heap.size 4 4 1 (HR.out.later (alloc_heap _)) (by omega) (by omega) (by omega) (by omega) (plus_cells w1 w1.heap.size [⟨#[43]⟩, ⟨#[45]⟩, ⟨#[42]⟩, ⟨#[43]⟩] 1 four_small rfl)).mono ?_
    rintro e w2 ⟨s, q, rfl, hs1, hq, hr2, hg2⟩
    have HR2 := Lib.hid hr2
    have HG2 := Lib.hid hg2
    clear hr2 hg2
    go_wp2_with fail
    refine (pick_to 10 HR2.out (by omega) (by omega)).mono ?_
    rintro e w3 ⟨u, rfl, hu, hr3, hg3⟩
    have HR3 := Lib.hid hr3
    have HG3 := Lib.hid hg3
    clear hr3 hg3
    go_wp2_with fail
    refine (dec_digit u (by omega) (by omega) _).mono ?_
    rintro e w4 ⟨⟨t, rfl, ht⟩, hb4⟩
    have HB4 := Lib.hid hb4
    have HT := Lib.hid ht
    have e1 := str_add s t (by omega)
    clear hb4 ht
    go_wp2_with fail
    go_ret
    exact ⟨s ++ t, q + 1, rfl, by (have := HT.out; simp; omega), by omega, HR3.out.later (fun k hk => HB4.out.block k hk),
      grownBy_trans (grownBy_trans (grownBy_trans (grownBy_trans HG.out (World.grownBy_alloc _ _ _)) HG2.out) HG3.out) (grownBy_below HB4.out)⟩
  · go_wp2_with fail
    refine (of_any _ rb a n c (p + 1) w1.heap.size 4 4 1 (HR.out.later (alloc_heap _)) (by omega) (by omega) (by omega) (by omega) (plus_cells w1 w1.heap.size [⟨#[43]⟩, ⟨#[45]⟩, ⟨#[42]⟩, ⟨#[43]⟩] 1 four_small rfl)).mono ?_
    rintro e w2 ⟨s, q, rfl, hs1, hq, hr2, hg2⟩
    have HR2 := Lib.hid hr2
    have HG2 := Lib.hid hg2
    clear hr2 hg2
    go_wp2_with fail
    refine (pick_to 10 HR2.out (by omega) (by omega)).mono ?_
    rintro e w3 ⟨u, rfl, hu, hr3, hg3⟩
    have HR3 := Lib.hid hr3
    have HG3 := Lib.hid hg3
    clear hr3 hg3
    go_wp2_with fail
    refine (dec_digit u (by omega) (by omega) _).mono ?_
    rintro e w4 ⟨⟨t, rfl, ht⟩, hb4⟩
    have HB4 := Lib.hid hb4
    have HT := Lib.hid ht
    have e1 := str_add s t (by omega)
    clear hb4 ht
    go_wp2_with fail
    go_ret
    exact ⟨s ++ t, q + 1, rfl, by (have := HT.out; simp; omega), by omega, HR3.out.later (fun k hk => HB4.out.block k hk),
      grownBy_trans (grownBy_trans (grownBy_trans (grownBy_trans HG.out (World.grownBy_alloc _ _ _)) HG2.out) HG3.out) (grownBy_below HB4.out)⟩
  · go_wp2_with fail
    go_ret
    exact ⟨⟨#[80]⟩, p + 1, rfl, Nat.le_trans (Nat.le_succ 1) hz, by omega, HR.out, HG.out⟩
  · go_wp2_with fail
    go_ret
    exact ⟨⟨#[80]⟩, p + 1, rfl, Nat.le_trans (Nat.le_succ 1) hz, by omega, HR.out, HG.out⟩
  · go_wp2_with fail
    refine (pick_to nm.size HR.out (by omega) (by omega)).mono ?_
    rintro e w3 ⟨u, rfl, hu, hr3, hg3⟩
    have HR3 := Lib.hid hr3
    have HG3 := Lib.hid hg3
    clear hr3 hg3
    have hu' : u < nm.size := by omega
    have z1 : (⟨#[67]⟩ : ByteArray).size = 1 := rfl
    have e1 := str_add ⟨#[67]⟩ (nm.extract u (u + 1)) (by simp; omega)
    clear z1
    go_wp2_with fail
    go_ret
    exact ⟨⟨#[67]⟩ ++ nm.extract u (u + 1), p + 1 + 1, rfl, by (have z1 : (⟨#[67]⟩ : ByteArray).size = 1 := rfl; simp; omega), by omega, HR3.out, grownBy_trans HG.out HG3.out⟩
  · go_wp2_with fail
    refine (pick_to nm.size HR.out (by omega) (by omega)).mono ?_
    rintro e w3 ⟨u, rfl, hu, hr3, hg3⟩
    have HR3 := Lib.hid hr3
    have HG3 := Lib.hid hg3
    clear hr3 hg3
    have hu' : u < nm.size := by omega
    have z1 : (⟨#[67]⟩ : ByteArray).size = 1 := rfl
    have e1 := str_add ⟨#[67]⟩ (nm.extract u (u + 1)) (by simp; omega)
    clear z1
    go_wp2_with fail
    go_ret
    exact ⟨⟨#[67]⟩ ++ nm.extract u (u + 1), p + 1 + 1, rfl, by (have z1 : (⟨#[67]⟩ : ByteArray).size = 1 := rfl; simp; omega), by omega, HR3.out, grownBy_trans HG.out HG3.out⟩
  · cases d with
    | zero =>
      go_wp2_with fail
      refine (pick_to 4 HR.out (by omega) (by omega)).mono ?_
      rintro e w3 ⟨u, rfl, hu, hr3, hg3⟩
      have HR3 := Lib.hid hr3
      have HG3 := Lib.hid hg3
      clear hr3 hg3
      go_wp2_with fail
      refine (dec_digit u (by omega) (by omega) _).mono ?_
      rintro e w4 ⟨⟨t, rfl, ht⟩, hb4⟩
      have HB4 := Lib.hid hb4
      have HT := Lib.hid ht
      have z1 : (⟨#[43]⟩ : ByteArray).size = 1 := rfl
      have e1 := str_add ⟨#[43]⟩ t (by omega)
      clear hb4 ht z1
      go_wp2_with fail
      go_ret
      exact ⟨⟨#[43]⟩ ++ t, p + 1 + 1, rfl, by (have := HT.out; have z1 : (⟨#[43]⟩ : ByteArray).size = 1 := rfl; simp; omega), by omega, HR3.out.later (fun k hk => HB4.out.block k hk),
        grownBy_trans (grownBy_trans HG.out HG3.out) (grownBy_below HB4.out)⟩
    | succ d' =>
      have hsd : Sz (d' + 1) = 5 + 6 * Sz d' := rfl
      have hcd : Cs (d' + 1) = 3 + 2 * (1 + 3 * Cs d') := rfl
      have hdb : d' ≤ 100 := by omega
      have hp1 : p + 1 + 4000 * d' + 2100 ≤ 90000 := by clear hsd hcd hz hC hZ hCs; omega
      have hz1 : 5 + 6 * Sz d' ≤ 1000 := by omega
      have hc1 : 3 + 2 * (1 + 3 * Cs d') ≤ 1000 := by omega
      have HSD := Lib.hid hsd
      have HCD := Lib.hid hcd
      clear hsd hcd hz hC hZ hCs
      go_wp2_with fail
      refine (IH.out d' rfl _ rb a n c (p + 1) nm _ (by omega) HR.out hp1 hnm (by omega) (by omega)).mono ?_
      rintro e w2 ⟨s, q, rfl, hs1, hq, hr2, hg2⟩
      have HR2 := Lib.hid hr2
      have HG2 := Lib.hid hg2
      clear hr2 hg2
      have hp2 : q + 4000 * d' + 2100 ≤ 90000 := by omega
      have z1 : (⟨#[63, 91]⟩ : ByteArray).size = 2 := rfl
      have z2 : (⟨#[93, 91]⟩ : ByteArray).size = 2 := rfl
      have z3 : (⟨#[93]⟩ : ByteArray).size = 1 := rfl
      have e1 := str_add ⟨#[63, 91]⟩ s (by omega)
      have e2 := str_add (⟨#[63, 91]⟩ ++ s) ⟨#[93, 91]⟩ (by simp; omega)
      clear z1 z2 z3
      go_wp2_with fail
      refine (IH.out d' rfl _ rb a n c q nm _ (by omega) HR2.out hp2 hnm (by omega) (by omega)).mono ?_
      rintro e w3 ⟨t, q', rfl, ht1, hq', hr3, hg3⟩
      have HR3 := Lib.hid hr3
      have HG3 := Lib.hid hg3
      clear hr3 hg3
      have z1 : (⟨#[63, 91]⟩ : ByteArray).size = 2 := rfl
      have z2 : (⟨#[93, 91]⟩ : ByteArray).size = 2 := rfl
      have z3 : (⟨#[93]⟩ : ByteArray).size = 1 := rfl
      have e3 := str_add (⟨#[63, 91]⟩ ++ s ++ ⟨#[93, 91]⟩) t (by simp; omega)
      have e4 := str_add (⟨#[63, 91]⟩ ++ s ++ ⟨#[93, 91]⟩ ++ t) ⟨#[93]⟩ (by simp; omega)
      have HZ := Lib.hid (show (⟨#[63, 91]⟩ ++ s ++ ⟨#[93, 91]⟩ ++ t ++ ⟨#[93]⟩ : ByteArray).size ≤ 5 + 6 * Sz d' by simp; omega)
      clear z1 z2 z3
      go_wp2_with fail
      go_ret
      exact ⟨_, q', rfl, by rw [HSD.out]; exact HZ.out, by rw [HCD.out]; omega, HR3.out, grownBy_trans (grownBy_trans HG.out HG2.out) HG3.out⟩
  · go_wp2_with fail
    refine (pick_to 4 HR.out (by omega) (by omega)).mono ?_
    rintro e w3 ⟨u, rfl, hu, hr3, hg3⟩
    have HR3 := Lib.hid hr3
    have HG3 := Lib.hid hg3
    clear hr3 hg3
    go_wp2_with fail
    refine (dec_digit u (by omega) (by omega) _).mono ?_
    rintro e w4 ⟨⟨t, rfl, ht⟩, hb4⟩
    have HB4 := Lib.hid hb4
    have HT := Lib.hid ht
    have z1 : (⟨#[43]⟩ : ByteArray).size = 1 := rfl
    have e1 := str_add ⟨#[43]⟩ t (by omega)
    clear hb4 ht z1
    go_wp2_with fail
    go_ret
    exact ⟨⟨#[43]⟩ ++ t, p + 1 + 1, rfl, by (have := HT.out; have z1 : (⟨#[43]⟩ : ByteArray).size = 1 := rfl; simp; omega), by omega, HR3.out.later (fun k hk => HB4.out.block k hk),
      grownBy_trans (grownBy_trans HG.out HG3.out) (grownBy_below HB4.out)⟩

theorem some_step (d : Nat) (ih : ∀ d', d = d' + 1 → SaidDraw d') : SaidSome d := by
  intro w rb a n c p nm di hdi h hp hnm hZ hCs
  subst hdi
  by_cases hem : nm.size = 0
  · exact some_nameless d ih w rb a n c p nm h hp hnm hZ hCs hem
  · exact some_named d ih w rb a n c p nm h hp hnm hZ hCs (by omega)

theorem draw_all (d : Nat) : SaidDraw d := by
  induction d with
  | zero => exact draw_step 0 (some_step 0 fun d' h => by omega)
  | succ d ih => exact draw_step (d + 1) (some_step (d + 1) fun d' h => by obtain rfl : d' = d := by omega
                                                                           exact ih)
end Go.Proofs.YtfmmpahbjkiomaaGreatDoor
namespace Go.Proofs.YtfmmpahbjkiomaaGreatDoor
open Go.RowKit

/-- the bytes of a slice that came in -/
def BytesAt (w : World) (a : Option Addr) (n : Nat) : Prop := ∀ k, k < n → ∃ g off, a = some ⟨g, off, none⟩ ∧ ∃ b : UInt8, w.cell? ⟨g, off + k, none⟩ = some (.int .u8 b.toNat)

theorem opened (w : World) (a : Option Addr) (n c : Nat) (h : BytesAt w a n) (hn : n ≤ 2000) :
    Rdr (w.alloc (Obj.cells #[.slice a n c, .int .i64 0] 108)) w.heap.size a n c 0 := by
  refine ⟨heap_alloc_new w _, fun k hk => ?_, fun hp g o s e => ?_, hn⟩
  · obtain ⟨g, off, ha, b, hc⟩ := h k hk
    exact ⟨g, off, ha, b, by rw [← hc]; exact World.cell?_of_block (a := ⟨g, off + k, none⟩) (alloc_heap _ g (World.block_lt_of_cell? w _ hc))⟩
  · obtain ⟨g', off, ha, b, hc⟩ := h 0 hp
    have hl := World.block_lt_of_cell? w _ hc
    rw [ha] at e
    injection e with e
    injection e with e1 e2 e3
    simp at hl
    omega

set_option maxHeartbeats 1000000 in
set_option maxRecDepth 100000 in
theorem open_any (w : World) (a : Option Addr) (n c : Nat) (h : BytesAt w a n) (hn : n ≤ c) (hc : c ≤ 9223372036854775807) (hnil : a = none → n = 0) :
    Calls Tryz.prog 23 #[.slice a n c] w fun e w' => ∃ m, e = .returned (.pointer (some ⟨w.heap.size, 0, none⟩)) ∧ Rdr w' w.heap.size a m c 0 ∧ Below w.heap.size w w' := by
  by_cases hb : n ≤ 2000
  · have H := Lib.hid (opened w a n c h hb)
    clear h
    go_enter Tryz.func23, Tryz.ntmps23
    go_wp2_with fail
    go_ret
    exact ⟨n, rfl, H.out, (Below.refl _ _).alloc (Nat.le_refl _) _⟩
  · cases a with
    | none => have := hnil rfl; omega
    | some ad =>
      have H := Lib.hid (opened w (some ad) 2000 c (fun k hk => h k (by omega)) (Nat.le_refl _))
      clear h hnil
      go_enter Tryz.func23, Tryz.ntmps23
      go_wp2_with fail
      go_ret
      exact ⟨2000, rfl, H.out, (Below.refl _ _).alloc (Nat.le_refl _) _⟩

theorem grown_new {w w1 w2 : World} (hb : Below w.heap.size w w1) (hg : w1.grownBy w2 (some w.heap.size)) : Below w.heap.size w w2 :=
  hb.grown hg hb.size (fun k hk => by simp at hk; omega)
end Go.Proofs.YtfmmpahbjkiomaaGreatDoor
namespace Go.Proofs.YtfmmpahbjkiomaaGreatDoor
open Go.RowKit

theorem eight_small : ∀ s ∈ [(⟨#[]⟩ : ByteArray), ⟨#[91]⟩, ⟨#[120]⟩, ⟨#[67, 122]⟩, ⟨#[59]⟩, ⟨#[75]⟩, ⟨#[58]⟩, ⟨#[63]⟩], s.size ≤ 2 := by decide

theorem grown_drew_alloc (w : World) (o : Obj) (r : Option Nat) : w.grownBy (w.drew.alloc o) r :=
  grownBy_trans (w := w) (w1 := w.drew) ⟨rfl, rfl, rfl, Nat.le_refl _, fun _ _ _ => rfl⟩ (World.grownBy_alloc _ _ _)

set_option maxHeartbeats 1000000 in
set_option maxRecDepth 100000 in
theorem bad_any (w : World) (rb : Nat) (a : Option Addr) (n c p : Nat) (s : ByteArray) (h : Rdr w rb a n c p) (hp : p ≤ 90000) (hs : s.size ≤ 5000) :
    Calls Tryz.prog 52 #[.pointer (some ⟨rb, 0, none⟩), .string s] w (DrewS w rb a n c p (s.size + 2) 4) := by
  by_cases hem : s.size = 0
  · have hel := str_none hem
    have H := Lib.hid h
    clear h hem
    go_enter Tryz.func52, Tryz.ntmps52
    go_wp2_with fail
    go_ret
    exact ⟨s, p, rfl, by omega, by omega, H.out, World.grownBy.refl _ _⟩
  · have hel := str_some (s := s) (by omega)
    have H := Lib.hid h
    have hpos : 0 < s.size := by omega
    clear h hem
    go_enter Tryz.func52, Tryz.ntmps52
    go_wp2_with fail
    refine (pick_to 12 H.out (by omega) (by omega)).mono ?_
    rintro e w1 ⟨v, rfl, hv, hr, hg⟩
    have hrb := heap_lt hr.own
    have HR := Lib.hid hr
    have HG := Lib.hid hg
    clear hr hg
    by_cases hv0 : 0 < v
    · go_wp2_with fail
      go_ret
      exact ⟨s, p + 1, rfl, by omega, by omega, HR.out, HG.out⟩
    · obtain rfl : v = 0 := by omega
      go_wp2_with fail
      refine (pick_to s.size HR.out (by omega) (by omega)).mono ?_
      rintro e w2 ⟨k, rfl, hk, hr2, hg2⟩
      have hk' : k < s.size := by omega
      have hrb2 := heap_lt hr2.own
      have HR2 := Lib.hid hr2
      have HG2 := Lib.hid hg2
      clear hr2 hg2
      go_wp2_with fail
      go_region_with ((first
        | (go_at_call 25; refine (of_any _ rb a n c (p + 1 + 1) w2.heap.size 8 8 2 (HR2.out.later (alloc_heap (w := w2.drew) _)) (by omega) (by omega) (by omega) (by omega) (plus_cells w2.drew w2.heap.size [⟨#[]⟩, ⟨#[91]⟩, ⟨#[120]⟩, ⟨#[67, 122]⟩, ⟨#[59]⟩, ⟨#[75]⟩, ⟨#[58]⟩, ⟨#[63]⟩] 2 eight_small rfl)).mono ?_
           rintro e w3 ⟨t, q, rfl, ht, hq, hr3, hg3⟩
           have HR3 := Lib.hid hr3
           have HG3 := Lib.hid hg3
           clear hr3 hg3
           have e1 := str_add (s.extract 0 k) t (by simp; omega))
        | (go_at_call 55; refine (pick_to 2 HR3.out (by omega) (by omega)).mono ?_
           rintro e w4 ⟨u, rfl, hu, hr4, hg4⟩
           have HR4 := Lib.hid hr4
           have HG4 := Lib.hid hg4
           clear hr4 hg4
           have hku : k + u ≤ s.size := by omega
           have hki : (k : Int) + (u : Int) ≤ (s.size : Int) := by omega
           have hk0 : 0 ≤ (k : Int) + (u : Int) := by omega
           have hkw : IntKind.i64.wrap ((k : Int) + (u : Int)) = (k : Int) + (u : Int) := IntWalk.i64_in _ (by omega)
           have hkn : ((k : Int) + (u : Int)).toNat = k + u := by omega
           have e2 := str_add (s.extract 0 k ++ t) (s.extract (k + u) s.size) (by simp; omega))))
      all_goals go_wp2_with fail
      all_goals go_ret
      all_goals exact ⟨_, q + 1, rfl, by simp; omega, by omega, HR4.out, grownBy_trans (grownBy_trans (grownBy_trans (grownBy_trans HG.out HG2.out) (grown_drew_alloc _ _ _)) HG3.out) HG4.out⟩

end Go.Proofs.YtfmmpahbjkiomaaGreatDoor
