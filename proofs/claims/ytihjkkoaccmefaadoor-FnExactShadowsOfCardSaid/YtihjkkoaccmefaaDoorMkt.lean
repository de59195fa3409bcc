/- The laws' markText: a number's text behind 'm'; marks laid over a row's texts. Condition: numbers from 1 to 10^8. -/
import Derived.Test.YtihjkkoaccmefaaDoorRd
import Derived.Test.YtihjkkoaccmefaaDoorTxt
import Derived.Test.YtihjkkoaccmefaaDoorGrow0
namespace Go.Proofs.YtihjkkoaccmefaaDoor
open Go.RowKit Gram

theorem bytes_one {w : World} {b : Nat} {c : UInt8} {e : TypeId} (hb : w.heap[b]? = some (.cells #[.int .u8 (c.toNat : Int)] e (0, 0))) :
    ∀ j (hj : j < [c].length), w.cell? ((⟨b, 0, none⟩ : Addr).add j) = some (.int .u8 ([c][j].toNat : Int)) := fun j hj => by
  have h0 : j = 0 := by simp at hj; exact hj
  subst h0
  have hadd : (⟨b, 0, none⟩ : Addr).add 0 = ⟨b, 0, none⟩ := by unfold Addr.add; split <;> simp_all
  rw [hadd, Lib.cell_of_heap hb]
  rfl
theorem byte_str (c : UInt8) (w : World) (b : Nat) (hb : b = w.heap.size) (n : Int) (hn : (c.toNat : Int) = n) :
    (convert 35 9 (.slice (some ⟨b, 0, none⟩) 1 1)).run Tryd.prog (w.alloc (Obj.cells #[.int .u8 n] 5)) =
      .ok (.string ⟨#[c]⟩) (w.alloc (Obj.cells #[.int .u8 n] 5)) := by
  subst hb; subst hn
  exact run_convert_bytes_back (P := Tryd.prog) _ 35 9 5 ⟨w.heap.size, 0, none⟩ 1 [c] Tryd.underlying35 Tryd.underlying5 Tryd.underlying9 (bytes_one (e := 5) (heap_alloc_new _ _))

/-- decimal digits of a number, in front of others -/
def mkL (k : Nat) (o : List UInt8) : List UInt8 := if h : k = 0 then o else mkL (k / 10) (UInt8.ofNat (48 + k % 10) :: o)
termination_by k
decreasing_by omega

def markV (k : Nat) : ByteArray := ⟨#[109]⟩ ++ ⟨(mkL k []).toArray⟩

set_option maxHeartbeats 400000 in
theorem mark_any (k0 : Nat) (hk : 1 ≤ k0) (hb : k0 ≤ 100000000) (w : World) :
    Calls Tryd.prog 20 #[.int .i64 k0] w fun e w' => e = .returned (.string (markV k0)) ∧ Below w.heap.size w w' := by
  go_enter Tryd.func20, Tryd.ntmps20
  go_wp2_with fail
  go_loopw [0, 3] (fun k v wr => ∃ (j : Nat) (o : List UInt8), k = .int .i64 j ∧ v = .string ⟨o.toArray⟩ ∧ j + o.length ≤ k0 ∧ Hid (mkL j o = mkL k0 []) ∧ Below w.heap.size w wr) (fun k _ _ => (intOf k).toNat)
  case atStart => exact ⟨k0, [], rfl, rfl, by simp, rfl, Below.refl _ _⟩
  case round =>
    obtain ⟨j, o, rfl, rfl, hjo, hm, hbw⟩ := hrel
    have hsz := hbw.size
    by_cases hj : 0 < j
    · obtain ⟨c, hcd⟩ : ∃ c : UInt8, c = UInt8.ofNat (48 + j % 10) := ⟨_, rfl⟩
      have hs := byte_str c wr wr.heap.size rfl (48 + (j : Int) % 10) (by rw [hcd]; simp; omega)
      have z2 : (⟨o.toArray⟩ : ByteArray).size = o.length := by simp [ByteArray.size]
      have z1 : (⟨#[c]⟩ : ByteArray).size = 1 := rfl
      have e1 := str_sum ⟨#[c]⟩ ⟨o.toArray⟩ (by omega)
      have HC := Lib.hid hcd
      clear z1 z2 hcd
      go_wp2_with fail
      refine ⟨⟨j / 10, c :: o, by go_num, ?_, ?_, ?_, hbw.alloc hsz _⟩, ?_⟩
      · congr 1
      · simp; omega
      · show mkL _ _ = _
        rw [← hm.out, HC.out]
        conv => rhs; rw [mkL, dif_neg (by omega)]
      · simp [intOf]; omega
    · have hj0 : j = 0 := by omega
      subst hj0
      have z1 : (⟨#[109]⟩ : ByteArray).size = 1 := rfl
      have z2 : (⟨o.toArray⟩ : ByteArray).size = o.length := by simp [ByteArray.size]
      have e1 := str_sum ⟨#[109]⟩ ⟨o.toArray⟩ (by omega)
      have HO := Lib.hid (show o = mkL k0 [] by rw [← hm.out, mkL, dif_pos rfl])
      clear z1 z2 hm
      go_wp2_with fail
      go_ret
      exact ⟨by rw [markV, ← HO.out]; rfl, hbw⟩

theorem mark_int (k : Nat) (hk : 1 ≤ k) (hb : k ≤ 100000000) (i : Int) (h : i = (k : Int)) (w : World) :
    Calls Tryd.prog 20 #[.int .i64 i] w fun e w' => e = .returned (.string (markV k)) ∧ Below w.heap.size w w' := by
  subst h; exact mark_any k hk hb w

/-- the first j texts turned into marks from k0 on -/
def marksTo (k0 j : Nat) (ss : List ByteArray) : List ByteArray := (List.range j).map (fun i => markV (k0 + i)) ++ ss.drop j
theorem marksTo_zero (k0 : Nat) (ss : List ByteArray) : marksTo k0 0 ss = ss := by simp [marksTo]
theorem marksTo_len (k0 j : Nat) (ss : List ByteArray) (h : j ≤ ss.length) : (marksTo k0 j ss).length = ss.length := by simp [marksTo]; omega
theorem marksTo_set (k0 j : Nat) (ss : List ByteArray) (h : j < ss.length) : (marksTo k0 j ss).set j (markV (k0 + j)) = marksTo k0 (j + 1) ss := by
  unfold marksTo
  rw [List.set_append_right _ _ (by simp), List.range_succ]
  rw [List.drop_eq_getElem_cons h]
  simp only [List.length_map, List.length_range, Nat.sub_self, List.set_cons_zero, List.map_append, List.map_cons, List.map_nil, List.append_assoc, List.cons_append, List.nil_append]
theorem marksTo_get (k0 n : Nat) (ss : List ByteArray) (j : Nat) (h : j < n) : (marksTo k0 n ss)[j]? = some (markV (k0 + j)) := by
  unfold marksTo
  rw [List.getElem?_append_left (by simpa using h), List.getElem?_map, List.getElem?_range h]; rfl

/-- a text of a row of texts, laid flat -/
theorem rowS_get {w : World} {B : Nat} {e : TypeId} {a : Option Addr} {n c sz : Nat} {ss : List ByteArray} (h : w.ownsRow B e sz (.slice a n c) n (ss.map Value.string)) (k : Nat) (hk : k < ss.length) :
    ∃ g s, a = some ⟨g, 0, none⟩ ∧ ss[k]? = some s ∧ w.cell? ⟨g, k, none⟩ = some (.string s) ∧ w.frozen? ⟨g, k, none⟩ = false := by
  have hl : ss.length = n * sz := by have := h.1; simp at this; omega
  rcases h.2 with ⟨h1, h2⟩ | ⟨g, cap, cur, h1, _, _⟩
  · subst h2; simp at hl; subst hl; simp at hk
  · injection h1 with h3 h4 h5
    subst h3; subst h5
    have hs : ss[k]? = some ss[k] := List.getElem?_eq_getElem (by omega)
    exact ⟨g, ss[k], rfl, hs, row_cell h k _ (by rw [List.getElem?_map, hs]; rfl), row_free h k⟩
theorem rowS_at {w w2 : World} {B : Nat} {e : TypeId} {g n c sz : Nat} {ss : List ByteArray} (h : w.ownsRow B e sz (.slice (some ⟨g, 0, none⟩) n c) n (ss.map Value.string)) (hb : Below w.heap.size w w2) (k : Nat) (hk : k < ss.length) :
    ∃ s, w2.cell? ⟨g, k, none⟩ = some (.string s) ∧ w2.frozen? ⟨g, k, none⟩ = false := by
  obtain ⟨g', s, he, _, h2, h3⟩ := rowS_get h k hk
  injection he with he
  injection he with he
  subst he
  have hl := World.block_lt_of_cell? w _ h2
  exact ⟨s, by rw [hb.cell (p := ⟨g, k, none⟩) hl]; exact h2, by rw [hb.frozen (p := ⟨g, k, none⟩) hl]; exact h3⟩
/-- one more mark -/
theorem row_mark {w w2 : World} {B g n cap k0 j sz : Nat} {e : TypeId} {ss : List ByteArray} (h : w.ownsRow B e sz (.slice (some ⟨g, 0, none⟩) n cap) n ((marksTo k0 j ss).map Value.string)) (hb : Below w.heap.size w w2) (hj : j < ss.length) :
    (w2.setCell ⟨g, j, none⟩ (.string (markV (k0 + j)))).ownsRow B e sz (.slice (some ⟨g, 0, none⟩) n cap) n ((marksTo k0 (j + 1) ss).map Value.string) := by
  have h2 := ownsRow_of (w' := w2) h (fun k hk => hb.block k (h.lt k hk).2)
  have h3 := row_set h2 j (.string (markV (k0 + j)))
  rw [← List.map_set, marksTo_set _ _ _ hj] at h3
  exact h3
theorem grown_mark {w w1 w2 : World} {g : Nat} (h : w.grownBy w1 (some g)) (hb : Below w1.heap.size w1 w2) (j : Nat) (u : Value) : w.grownBy (w2.setCell ⟨g, j, none⟩ u) (some g) :=
  grownBy_trans (grownBy_trans h (grownBy_below hb)) (grownBy_set _)
theorem held_start {w : World} {a : Addr} {v : Value} (h : w.cell? a = some v) : w.drew.cell? a = some v ∧ Below w.heap.size w w.drew := ⟨h, (Below.refl _ _).drew⟩
theorem held_later {w w1 w2 : World} {a : Addr} {v : Value} (h : w1.cell? a = some v ∧ Below w.heap.size w w1) (hb : Below w1.heap.size w1 w2) : w2.cell? a = some v ∧ Below w.heap.size w w2 :=
  ⟨by rw [hb.cell (World.block_lt_of_cell? w1 _ h.1)]; exact h.1, h.2.trans (hb.mono h.2.size)⟩
end Go.Proofs.YtihjkkoaccmefaaDoor
