/- The laws' helpers on lists of texts: markText, eqStringS, markStringS, heldStringS. Conditions: at most 1000 texts. -/
import Derived.Test.YtlmppmdgajaclaaGrow
import Derived.Deep.QuietTactic
import Derived.BigQuiet
import Derived.Deep.RegionHeld3
namespace Go.Proofs.Ytlmppmdgajaclaa
open Go.RowKit Gram

/-- decimal digits of a number, in front of others -/
def mkL (k : Nat) (o : List UInt8) : List UInt8 := if h : k = 0 then o else mkL (k / 10) (UInt8.ofNat (48 + k % 10) :: o)
termination_by k
decreasing_by omega

def markV (k : Nat) : ByteArray := ⟨#[109]⟩ ++ ⟨(mkL k []).toArray⟩

set_option maxHeartbeats 400000 in
theorem mark_any (k0 : Nat) (hk : 1 ≤ k0) (hb : k0 ≤ 1000000) (w : World) :
    Calls Try.prog 20 #[.int .i64 k0] w fun e w' => e = .returned (.string (markV k0)) ∧ Below w.heap.size w w' := by
  go_enter Try.func20, Try.ntmps20
  go_wp2_with fail
  go_loopw [0, 3] (fun k v wr => ∃ (j : Nat) (o : List UInt8), k = .int .i64 j ∧ v = .string ⟨o.toArray⟩ ∧ j + o.length ≤ k0 ∧ Hid (mkL j o = mkL k0 []) ∧ Below w.heap.size w wr) (fun k _ _ => (intOf k).toNat)
  case atStart => exact ⟨k0, [], rfl, rfl, by simp, rfl, Below.refl _ _⟩
  case round =>
    obtain ⟨j, o, rfl, rfl, hjo, hm, hbw⟩ := hrel
    have hsz := hbw.size
    by_cases hj : 0 < j
    · obtain ⟨c, hcd⟩ : ∃ c : UInt8, c = UInt8.ofNat (48 + j % 10) := ⟨_, rfl⟩
      have hs := str1 c wr wr.heap.size rfl (48 + (j : Int) % 10) (by rw [hcd]; simp; omega)
      have z2 : (⟨o.toArray⟩ : ByteArray).size = o.length := by simp [ByteArray.size]
      have z1 : (⟨#[c]⟩ : ByteArray).size = 1 := rfl
      have e1 := str_add ⟨#[c]⟩ ⟨o.toArray⟩ (by omega)
      have HC := Lib.hid hcd
      clear z1 z2 hcd
      go_wp2_with fail
      refine ⟨⟨j / 10, c :: o, by go_num, ?_, ?_, ?_, hbw.alloc hsz _⟩, ?_⟩
      · congr 1
      · simp; omega
      · show mkL _ _ = _
        rw [← hm.out, HC.out]
        conv => rhs; rw [mkL, dif_neg (by omega)]
      · simp [intOf]; omega
    · have hj0 : j = 0 := by omega
      subst hj0
      have z1 : (⟨#[109]⟩ : ByteArray).size = 1 := rfl
      have z2 : (⟨o.toArray⟩ : ByteArray).size = o.length := by simp [ByteArray.size]
      have e1 := str_add ⟨#[109]⟩ ⟨o.toArray⟩ (by omega)
      have HO := Lib.hid (show o = mkL k0 [] by rw [← hm.out, mkL, dif_pos rfl])
      clear z1 z2 hm
      go_wp2_with fail
      go_ret
      exact ⟨by rw [markV, ← HO.out]; rfl, hbw⟩

/-- nothing in memory has turned -/
def Still (w w' : World) : Prop := w'.heap = w.heap ∧ Below w.heap.size w w'
theorem Still.refl (w : World) : Still w w := ⟨rfl, Below.refl _ _⟩
theorem Still.drewN {w w' : World} (h : Still w w') (n : Nat) : Still w (w'.drewN n) := ⟨h.1, h.2.trans ⟨rfl, rfl, rfl, Nat.le_refl _, fun _ _ => rfl⟩⟩

theorem strs_get {w : World} {B : Nat} {e : TypeId} {a : Option Addr} {n c : Nat} {ss : List ByteArray} (h : w.ownsRow B e 1 (.slice a n c) n (ss.map Value.string)) (k : Nat) (hk : k < n) :
    ∃ g s, a = some ⟨g, 0, none⟩ ∧ ss[k]? = some s ∧ w.cell? ⟨g, k, none⟩ = some (.string s) ∧ w.frozen? ⟨g, k, none⟩ = false := by
  have hl : ss.length = n := by have := h.1; simp at this; omega
  rcases h.2 with ⟨h1, h2⟩ | ⟨g, cap, cur, h1, _, _⟩
  · injection h1 with _ h3; omega
  · injection h1 with h3 h4 h5
    subst h3; subst h5
    have hs : ss[k]? = some ss[k] := List.getElem?_eq_getElem (by omega)
    exact ⟨g, ss[k], rfl, hs, row_cell h k _ (by rw [List.getElem?_map, hs]; rfl), row_free h k⟩

set_option maxHeartbeats 1000000 in
theorem eq_true (a b : Option Addr) (n c d : Nat) (B B' : Nat) (ss : List ByteArray) (w : World) (hn : n ≤ 1000) (ha : w.ownsRow B 9 1 (.slice a n c) n (ss.map Value.string)) (hb : w.ownsRow B' 9 1 (.slice b n d) n (ss.map Value.string)) :
    Calls Try.prog 9 #[.slice a n c, .slice b n d] w fun e w' => e = .returned (.bool true) ∧ Still w w' := by
  have HA := Lib.hid ha
  have HB := Lib.hid hb
  clear ha hb
  go_enter Try.func9, Try.ntmps9
  go_wp2_with fail
  go_loopw [5] (fun i wr => ∃ k : Nat, k ≤ n ∧ i = .int .i64 k ∧ Still w wr) (fun i _ => n - (intOf i).toNat)
  case atStart => exact ⟨0, Nat.zero_le _, by go_num, Still.refl w⟩
  case round =>
    obtain ⟨k, hk, rfl, hst⟩ := hrel
    by_cases hlt : k < n
    · obtain ⟨g, s, rfl, hs, hc1, _⟩ := strs_get HA.out k hlt
      obtain ⟨g', s', rfl, hs', hc2, _⟩ := strs_get HB.out k hlt
      have he : s' = s := by rw [hs] at hs'; injection hs' with h; exact h.symm
      subst he
      have c1 : wr.cell? ⟨g, k, none⟩ = some (.string s') := by rw [← hc1]; exact World.cell?_of_block (a := ⟨g, k, none⟩) (by rw [hst.1])
      have c2 : wr.cell? ⟨g', k, none⟩ = some (.string s') := by rw [← hc2]; exact World.cell?_of_block (a := ⟨g', k, none⟩) (by rw [hst.1])
      clear hs hs' hc1 hc2
      go_wp2_with fail
      go_quiet (fail)
      go_wp2_with fail
      go_roundw
      case rel => exact ⟨k + 1, by omega, by go_num, hst.drewN _⟩
      case measure => simp [intOf]; omega
    · go_wp2_with fail
      go_ret
      exact ⟨rfl, hst⟩

/-- the first j texts turned into marks from k0 on -/
def marksTo (k0 j : Nat) (ss : List ByteArray) : List ByteArray := (List.range j).map (fun i => markV (k0 + i)) ++ ss.drop j
theorem marksTo_zero (k0 : Nat) (ss : List ByteArray) : marksTo k0 0 ss = ss := by simp [marksTo]
theorem marksTo_len (k0 j : Nat) (ss : List ByteArray) (h : j ≤ ss.length) : (marksTo k0 j ss).length = ss.length := by simp [marksTo]; omega
theorem marksTo_set (k0 j : Nat) (ss : List ByteArray) (h : j < ss.length) : (marksTo k0 j ss).set j (markV (k0 + j)) = marksTo k0 (j + 1) ss := by
  unfold marksTo
  rw [List.set_append_right _ _ (by simp), List.range_succ]
  rw [List.drop_eq_getElem_cons h]
  simp only [List.length_map, List.length_range, Nat.sub_self, List.set_cons_zero, List.map_append, List.map_cons, List.map_nil, List.append_assoc, List.cons_append, List.nil_append]
theorem marksTo_get (k0 n : Nat) (ss : List ByteArray) (j : Nat) (h : j < n) : (marksTo k0 n ss)[j]? = some (markV (k0 + j)) := by
  unfold marksTo
  rw [List.getElem?_append_left (by simpa using h), List.getElem?_map, List.getElem?_range h]; rfl

set_option maxHeartbeats 1000000 in
theorem marks_any (a : Option Addr) (n c : Nat) (B k0 : Nat) (ss : List ByteArray) (w : World) (hn : n ≤ 1000) (hk0 : 1 ≤ k0) (hkb : k0 ≤ 1000) (ha : w.ownsRow B 9 1 (.slice a n c) n (ss.map Value.string)) :
    Calls Try.prog 10 #[.slice a n c, .int .i64 k0] w fun e w' => e = .returned (.int .i64 (k0 + n : Nat)) ∧ w'.ownsRow B 9 1 (.slice a n c) n ((marksTo k0 n ss).map Value.string) ∧ w.grownBy w' (Value.slice a n c).ownBlock := by
  have hl : ss.length = n := by have := ha.1; simp at this; omega
  have HL := Lib.hid hl
  have HA := Lib.hid ha
  clear ha hl
  go_enter Try.func10, Try.ntmps10
  go_wp2_with fail
  go_loopw [1, 5] (fun k i wr => ∃ j : Nat, j ≤ n ∧ i = .int .i64 j ∧ k = .int .i64 (k0 + j : Nat) ∧ Hid (wr.ownsRow B 9 1 (.slice a n c) n ((marksTo k0 j ss).map Value.string) ∧ w.grownBy wr (Value.slice a n c).ownBlock)) (fun _ i _ => n - (intOf i).toNat)
  case atStart => exact ⟨0, Nat.zero_le _, by go_num, by go_num, by rw [marksTo_zero]; exact ⟨HA.out, World.grownBy.refl _ _⟩⟩
  case round =>
    obtain ⟨j, hj, rfl, rfl, hr⟩ := hrel
    by_cases hlt : j < n
    · obtain ⟨g, s, rfl, _, hc1, hf1⟩ := strs_get hr.out.1 j hlt
      have hgl : g < wr.heap.size := World.block_lt_of_cell? wr _ hc1
      have HC := Lib.hid (⟨hc1, hf1⟩ : _ ∧ _)
      clear hc1 hf1
      go_wp2_with fail
      refine (mark_any (k0 + j) (by omega) (by omega) _).mono ?_
      rintro e w2 ⟨rfl, hb2⟩
      have c2 : w2.cell? ⟨g, j, none⟩ = some (.string s) := cell_later hb2 HC.out.1
      have f2 : w2.frozen? ⟨g, j, none⟩ = false := by rw [hb2.frozen (p := ⟨g, j, none⟩) hgl]; exact HC.out.2
      have HB2 := Lib.hid hb2
      clear hb2
      generalize hmv : markV (k0 + j) = mv
      have HM := Lib.hid hmv
      clear hmv
      go_wp2_with fail
      go_roundw
      case rel =>
        refine ⟨j + 1, by omega, by go_num, by go_num, ?_, ?_⟩
        · have h2 := ownsRow_of (w' := w2) hr.out.1 (fun k hk => HB2.out.block k (hr.out.1.lt k hk).2)
          have h3 := row_set h2 j (.string mv)
          rw [← List.map_set, ← HM.out, marksTo_set _ _ _ (by rw [HL.out]; exact hlt)] at h3
          rw [← HM.out]; exact h3
        · exact grownBy_trans (grownBy_trans hr.out.2 (grownBy_below HB2.out)) (grownBy_set _)
      case measure => simp [intOf]; omega
    · have hjn : j = n := by omega
      subst hjn
      go_wp2_with fail
      go_ret
      exact ⟨rfl, hr.out⟩

theorem held_start {w : World} {a : Addr} {v : Value} (h : w.cell? a = some v) : w.drew.cell? a = some v ∧ Below w.heap.size w w.drew := ⟨h, (Below.refl _ _).drew⟩
theorem held_later {w w1 w2 : World} {a : Addr} {v : Value} (h : w1.cell? a = some v ∧ Below w.heap.size w w1) (hb : Below w1.heap.size w1 w2) : w2.cell? a = some v ∧ Below w.heap.size w w2 :=
  ⟨cell_later hb h.1, h.2.trans (hb.mono h.2.size)⟩

set_option maxHeartbeats 1000000 in
theorem held_any (a : Option Addr) (n c : Nat) (B k0 : Nat) (ss : List ByteArray) (w : World) (hn : n ≤ 1000) (hk0 : 1 ≤ k0) (hkb : k0 ≤ 1000) (ha : w.ownsRow B 9 1 (.slice a n c) n ((marksTo k0 n ss).map Value.string)) :
    Calls Try.prog 11 #[.slice a n c, .int .i64 k0] w fun e w' => e = .returned (.int .i64 (k0 + n : Nat)) ∧ Below w.heap.size w w' := by
  have HA := Lib.hid ha
  clear ha
  go_enter Try.func11, Try.ntmps11
  go_wp2_with fail
  go_loopw [1, 5] (fun k i wr => ∃ j : Nat, j ≤ n ∧ i = .int .i64 j ∧ k = .int .i64 (k0 + j : Nat) ∧ Below w.heap.size w wr) (fun _ i _ => n - (intOf i).toNat)
  case atStart => exact ⟨0, Nat.zero_le _, by go_num, by go_num, Below.refl _ _⟩
  case round =>
    obtain ⟨j, hj, rfl, rfl, hb⟩ := hrel
    by_cases hlt : j < n
    · obtain ⟨g, s, rfl, hs, hc1, _⟩ := strs_get HA.out j hlt
      rw [marksTo_get _ _ _ _ hlt] at hs
      injection hs with hs
      subst hs
      have c1 : wr.cell? ⟨g, j, none⟩ = some (.string (markV (k0 + j))) := cell_later hb hc1
      have hM := mark_any (k0 + j) (by omega) (by omega)
      have HM := Lib.hid hM
      clear hc1 hM
      generalize markV (k0 + j) = mv at *
      go_wp2_with fail
      go_region_held3 (fun w' => w'.cell? ⟨g, j, none⟩ = some (.string mv) ∧ Below wr.heap.size wr w') ((first | assumption | exact held_start (by assumption) | (apply held_later; assumption; assumption)))
        ((first | (go_at_call 20; refine (HM.out _).mono ?_; rintro e w' ⟨rfl, hb1⟩)))
      all_goals go_wp2_with fail
      all_goals
        obtain ⟨_, hw'⟩ : w'.cell? ⟨g, j, none⟩ = some (.string mv) ∧ Below wr.heap.size wr w' := by assumption
        exact ⟨⟨j + 1, by omega, by go_num, by go_num, hb.trans (hw'.mono hb.size)⟩, by simp [intOf]; omega⟩
    · have hjn : j = n := by omega
      subst hjn
      go_wp2_with fail
      go_ret
      exact ⟨rfl, hb⟩
end Go.Proofs.Ytlmppmdgajaclaa
