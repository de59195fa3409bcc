/- Lists of numbers: copies and comparisons. Condition: lists of at most 2^40 numbers. -/
import Derived.Test.YtichibmnbmbeeaaGreatDoorBut
import Derived.WalkKit
import Derived.WalkSpells
import Derived.WalkLawsBesides
import Derived.Lib.Hide
import Derived.Deep.OwnRows
import Derived.Deep.RegionHeld3
import Derived.Deep.RegionWith
import Derived.Deep.QuietTactic
import Derived.BigQuiet
namespace Go.Proofs.YtichibmnbmbeeaaGreatDoor
open Go.RowKit

/-- the numbers of a slice -/
structure Ints (w : World) (a : Option Addr) (n : Nat) (zs : List Int) : Prop where
  len : zs.length = n
  at_ : ∀ i (h : i < zs.length), ∃ g off, a = some ⟨g, off, none⟩ ∧ w.cell? ⟨g, off + i, none⟩ = some (.int .i64 zs[i])
theorem Ints.later {w w' : World} {a : Option Addr} {n : Nat} {zs : List Int} (h : Ints w a n zs) (hb : Below w.heap.size w w') : Ints w' a n zs :=
  ⟨h.len, fun i hi => by
    obtain ⟨g, off, ha, hc⟩ := h.at_ i hi
    exact ⟨g, off, ha, by rw [hb.cell (p := ⟨g, off + i, none⟩) (World.block_lt_of_cell? w _ hc)]; exact hc⟩⟩

theorem Ints.set {w : World} {g n b j : Nat} {zs : List Int} {u : Value} (h : Ints w (some ⟨g, 0, none⟩) n zs) (hne : b < g) : Ints (w.setCell ⟨b, j, none⟩ u) (some ⟨g, 0, none⟩) n zs :=
  ⟨h.len, fun i hi => by
    obtain ⟨g', off, ha, hc⟩ := h.at_ i hi
    injection ha with ha; injection ha with e1 e2; subst e1; subst e2
    exact ⟨_, _, rfl, by rw [World.cell?_of_block (a := ⟨g, 0 + i, none⟩) (heap_set_other (show g ≠ b by omega) u)]; exact hc⟩⟩
def intVs (zs : List Int) : List Value := zs.map (.int .i64)
theorem intVs_len (zs : List Int) : (intVs zs).length = zs.length := by simp [intVs]

theorem take_eq (zs ws : List Int) (k : Nat) (h1 : k < zs.length) (h2 : k < ws.length) : (zs.take (k + 1) = ws.take (k + 1)) ↔ (zs.take k = ws.take k ∧ zs[k] = ws[k]) := by
  rw [List.take_succ_eq_append_getElem h1, List.take_succ_eq_append_getElem h2]
  constructor
  · intro h
    have hl : (zs.take k).length = (ws.take k).length := by simp; omega
    obtain ⟨a, b⟩ := List.append_inj h hl
    exact ⟨a, by simpa using b⟩
  · rintro ⟨a, b⟩; rw [a, b]


set_option maxHeartbeats 1000000 in
set_option maxRecDepth 100000 in
theorem eqInts_any (w : World) (a b : Option Addr) (n c m d : Nat) (zs ws : List Int) (hA : Ints w a n zs) (hB : Ints w b m ws) (hn : n ≤ 1099511627776) (hm : m ≤ 1099511627776) :
    Calls Tryz.prog 26 #[.slice a n c, .slice b m d] w fun e w' => e = .returned (.bool (zs == ws)) ∧ Below w.heap.size w w' := by
  have HA := Lib.hid hA
  have HB := Lib.hid hB
  by_cases hl : n = m
  · subst hl
    clear hA hB
    go_enter Tryz.func26, Tryz.ntmps26
    go_wp2_with fail
    go_loopw [5] (fun i wr => ∃ k : Nat, k ≤ n ∧ i = .int .i64 k ∧ Hid (zs.take k = ws.take k) ∧ Hid (Below w.heap.size w wr)) (fun i _ => n - (intOf i).toNat)
    case atStart => exact ⟨0, Nat.zero_le _, by go_num, rfl, Below.refl _ _⟩
    case round =>
      obtain ⟨k, hk, rfl, hE, hW⟩ := hrel
      by_cases hlt : k < n
      · have hz : k < zs.length := by rw [HA.out.len]; exact hlt
        have hw : k < ws.length := by rw [HB.out.len]; exact hlt
        obtain ⟨g, off, rfl, q1⟩ := HA.out.at_ k hz
        obtain ⟨g', off', rfl, q2⟩ := HB.out.at_ k hw
        have c1 : wr.cell? ⟨g, off + k, none⟩ = some (.int .i64 zs[k]) := by rw [hW.out.cell (p := ⟨g, off + k, none⟩) (World.block_lt_of_cell? w _ q1)]; exact q1
        have c2 : wr.cell? ⟨g', off' + k, none⟩ = some (.int .i64 ws[k]) := by rw [hW.out.cell (p := ⟨g', off' + k, none⟩) (World.block_lt_of_cell? w _ q2)]; exact q2
        have HT := Lib.hid (take_eq zs ws k hz hw)
        clear q1 q2
        have HNe := Lib.hid (fun (h : zs[k] ≠ ws[k]) => show (zs == ws) = false by
          rw [beq_eq_false_iff_ne]; rintro rfl; exact h rfl)
        generalize zs[k] = x at *
        generalize ws[k] = y at *
        cases hxy : (x == y) with
        | true =>
          have HX := Lib.hid (by simpa using hxy : x = y)
          go_wp2_with fail
          go_quiet (fail)
          go_wp2_with fail
          go_roundw
          case rel => exact ⟨k + 1, by omega, by go_num, HT.out.2 ⟨hE.out, HX.out⟩, hW.out.trans ⟨rfl, rfl, rfl, Nat.le_refl _, fun _ _ => rfl⟩⟩
          case measure => simp [intOf]; omega
        | false =>
          have HX := Lib.hid (HNe.out (by simpa using hxy))
          go_wp2_with fail
          go_quiet (fail)
          go_wp2_with fail
          go_ret
          exact ⟨ret_bool HX.out.symm, hW.out.trans ⟨rfl, rfl, rfl, Nat.le_refl _, fun _ _ => rfl⟩⟩
      · have HEq := Lib.hid (show (zs == ws) = true by
          have h := hE.out
          rw [List.take_of_length_le (by rw [HA.out.len]; omega), List.take_of_length_le (by rw [HB.out.len]; omega)] at h
          rw [h]; simp)
        go_wp2_with fail
        go_ret
        exact ⟨ret_bool HEq.out.symm, hW.out⟩
  · have hne : ((n : Int) == (m : Int)) = false := by rw [beq_eq_false_iff_ne]; omega
    have HN := Lib.hid (show (zs == ws) = false by
      rw [beq_eq_false_iff_ne]
      intro e
      have h1 := hA.len
      have h2 := hB.len
      rw [e] at h1
      omega)
    clear hA hB
    go_enter Tryz.func26, Tryz.ntmps26
    go_wp2_with fail
    go_ret
    exact ⟨by rw [HN.out]; rfl, Below.refl _ _⟩
theorem info_int : (Tryz.prog.info? 3).map (fun i => (i.zero, i.size, i.bytes)) = some (some (.int .i64 0), 1, 8) := by kernel_rfl

/-- the copy so far -/
def Copied (w : World) (g n k : Nat) (zs : List Int) (wr : World) : Prop := ∃ arr : Array Value, wr.heap[g]? = some (.cells arr 3 (0, 0)) ∧ arr.size = n ∧ (∀ i (h : i < zs.length), i < k → arr[i]? = some (.int .i64 zs[i])) ∧ Below w.heap.size w wr

theorem copied_step {w wr : World} {n k : Nat} {zs : List Int} {arr : Array Value} (harr : wr.heap[w.heap.size]? = some (.cells arr 3 (0, 0))) (hsz : arr.size = n) (hin : ∀ i (h : i < zs.length), i < k → arr[i]? = some (.int .i64 zs[i])) (hB : Below w.heap.size w wr) (hz : k < zs.length) (hk : k < n) :
    Copied w w.heap.size n (k + 1) zs (wr.setCell ⟨w.heap.size, k, none⟩ (.int .i64 zs[k])) := by
  refine ⟨_, heap_set_same harr _, by simp [hsz], fun i h hi => ?_, hB.setCell (p := ⟨w.heap.size, k, none⟩) (Nat.le_refl _) _⟩
  by_cases he : i = k
  · subst he
    rw [Array.getElem?_setIfInBounds, if_pos rfl, if_pos (by omega)]
  · rw [Array.getElem?_setIfInBounds, if_neg (by omega)]
    exact hin i h (by omega)

end Go.Proofs.YtichibmnbmbeeaaGreatDoor
