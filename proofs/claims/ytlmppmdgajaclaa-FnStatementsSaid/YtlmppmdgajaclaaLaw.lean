/- The law FnExactStatementsOf answers true at every text. No condition. -/
import Derived.Test.YtlmppmdgajaclaaMark
import Derived.Test.YtlmppmdgajaclaaImpl
namespace Go.Proofs.Ytlmppmdgajaclaa
open Go.RowKit Gram

def okOf (s : ByteArray) : Bool := (bodyOf s).isSome
def stmsOf (s : ByteArray) : List Stm := (bodyOf s).getD []
def txtsOf (s : ByteArray) : List ByteArray := (stmsOf s).map fun x => ⟨x.txt.toArray⟩

theorem stmVs_eq (xs : List Stm) : stmVs xs = (xs.map fun x => (⟨x.txt.toArray⟩ : ByteArray)).map Value.string := by
  simp [stmVs, strV]

/-- what both hand back, said by the text alone -/
theorem StmsTo.plain {s : ByteArray} {w w' : World} {e : Ending} (h : StmsTo s w e w') : ∃ a c, e = .returned (.tuple #[.slice a (txtsOf s).length c, .bool (okOf s)]) ∧
    w'.ownsRow w.heap.size 9 1 (.slice a (txtsOf s).length c) (txtsOf s).length ((txtsOf s).map Value.string) ∧ Below w.heap.size w w' := by
  obtain ⟨v, b, xs, he, hd, ho, hb⟩ := h
  have key : b = okOf s ∧ xs = stmsOf s := by
    rcases hd.out with ⟨h1, h2, h3⟩ | ⟨h1, h2⟩
    · exact ⟨by rw [okOf, h2, h1]; rfl, by rw [stmsOf, h2, h3]; rfl⟩
    · exact ⟨by rw [okOf, h2, h1]; rfl, by rw [stmsOf, h2]; rfl⟩
  obtain ⟨rfl, rfl⟩ := key
  have hl : (txtsOf s).length = (stmsOf s).length := by simp [txtsOf]
  rw [stmVs_eq, ← hl] at ho
  obtain ⟨a, n, c, rfl⟩ := slice_form ho
  have hn : n = (txtsOf s).length := by
    rcases ho.2 with ⟨h1, h2⟩ | ⟨g, cap, cur, h1, _⟩
    · injection h1 with _ h3; omega
    · injection h1 with _ h3
  subst hn
  exact ⟨a, c, he, ho, hb⟩

theorem txtsOf_le (s : ByteArray) : (txtsOf s).length ≤ 400 := by
  have hl : (txtsOf s).length = (stmsOf s).length := by simp [txtsOf]
  rw [hl, stmsOf]
  cases h : bodyOf s with
  | none => simp
  | some xs =>
    obtain ⟨h1, h2, _⟩ := bodyOf_some h
    have := txts_ge xs
    rw [← h2] at this
    simp at this ⊢
    omega

theorem impl_plain (s : ByteArray) (w : World) (hm : s.size ≤ 1073741824) :
    Calls Try.prog 6 #[.string s] w fun e w' => ∃ a c, e = .returned (.tuple #[.slice a (txtsOf s).length c, .bool (okOf s)]) ∧
    w'.ownsRow w.heap.size 9 1 (.slice a (txtsOf s).length c) (txtsOf s).length ((txtsOf s).map Value.string) ∧ Below w.heap.size w w' :=
  (impl_statements s w hm).mono fun _ _ h => h.plain
theorem spec_plain (s : ByteArray) (w : World) (hm : s.size ≤ 1073741824) :
    Calls Try.prog 7 #[.string s] w fun e w' => ∃ a c, e = .returned (.tuple #[.slice a (txtsOf s).length c, .bool (okOf s)]) ∧
    w'.ownsRow w.heap.size 9 1 (.slice a (txtsOf s).length c) (txtsOf s).length ((txtsOf s).map Value.string) ∧ Below w.heap.size w w' :=
  (spec_statements' s w hm).mono fun _ _ h => h.plain

theorem marks_one (a : Option Addr) (n c : Nat) (B : Nat) (ss : List ByteArray) (w : World) (hn : n ≤ 1000) (ha : w.ownsRow B 9 1 (.slice a n c) n (ss.map Value.string)) :
    Calls Try.prog 10 #[.slice a n c, .int .i64 1] w fun e w' => e = .returned (.int .i64 (1 + (n : Int))) ∧ w'.ownsRow B 9 1 (.slice a n c) n ((marksTo 1 n ss).map Value.string) ∧ w.grownBy w' (Value.slice a n c).ownBlock := by
  refine (marks_any a n c B 1 ss w hn (by omega) (by omega) ha).mono ?_
  rintro e w' ⟨h1, h2, h3⟩
  exact ⟨by rw [h1]; exact ret_int (by omega), h2, h3⟩
theorem held_one (a : Option Addr) (n c : Nat) (B : Nat) (ss : List ByteArray) (w : World) (hn : n ≤ 1000) (ha : w.ownsRow B 9 1 (.slice a n c) n ((marksTo 1 n ss).map Value.string)) :
    Calls Try.prog 11 #[.slice a n c, .int .i64 1] w fun e w' => e = .returned (.int .i64 (1 + (n : Int))) ∧ Below w.heap.size w w' := by
  refine (held_any a n c B 1 ss w hn (by omega) (by omega) ha).mono ?_
  rintro e w' ⟨h1, h2⟩
  exact ⟨by rw [h1]; exact ret_int (by omega), h2⟩

set_option maxHeartbeats 1000000 in
theorem law_long (s : ByteArray) (w : World) (hm : 1048576 < s.size) (hx : s.size ≤ maxLen) :
    Calls Try.prog 4 #[.string s] w fun e w' => e = .returned (.bool true) ∧ Below w.heap.size w w' := by
  unfold maxLen at hx
  go_enter Try.func4, Try.ntmps4
  go_wp2_with fail
  go_ret
  exact ⟨rfl, Below.refl _ _⟩

set_option maxHeartbeats 1000000 in
theorem law_short (s : ByteArray) (w : World) (hm : s.size ≤ 1048576) :
    Calls Try.prog 4 #[.string s] w fun e w' => e = .returned (.bool true) ∧ Below w.heap.size w w' := by
  have hn := txtsOf_le s
  have HI := Lib.hid (fun w => impl_plain s w (by omega))
  have HS := Lib.hid (fun w => spec_plain s w (by omega))
  generalize txtsOf s = ss at *
  generalize okOf s = ok at *
  generalize hnn : ss.length = n at *
  have HNN := Lib.hid hnn
  clear hnn
  go_enter Try.func4, Try.ntmps4
  go_wp2_with fail
  refine (HS.out _).mono ?_
  rintro e w1 ⟨a1, c1, rfl, o1, b1⟩
  have O1 := Lib.hid o1
  have B1 := Lib.hid b1
  clear o1 b1
  go_wp2_with fail
  refine (HI.out _).mono ?_
  rintro e w2 ⟨a2, c2, rfl, o2, b2⟩
  have O1' := Lib.hid (ownsRow_of O1.out (fun j hj => b2.block j (O1.out.lt j hj).2))
  have O2 := Lib.hid o2
  have B2 := Lib.hid b2
  clear o2 b2
  go_wp2_with fail
  refine (eq_true a2 a1 n c2 c1 _ _ ss w2 (by omega) O2.out O1'.out).mono ?_
  rintro e w3 ⟨rfl, h3⟩
  have H3 := Lib.hid h3
  clear h3
  -- in w3: both rows; then the marks
  have P2 := Lib.hid (ownsRow_of (w' := w3) O2.out (fun j _ => by rw [H3.out.1]))
  have P1 := Lib.hid (ownsRow_of (w' := w3) O1'.out (fun j _ => by rw [H3.out.1]))
  have hz1 := B1.out.size
  have hz2 := B2.out.size
  have hz3 := H3.out.2.size
  have hge : ∀ j, (Value.slice a2 n c2).ownBlock = some j → w1.heap.size ≤ j := fun j hj => (O2.out.lt j hj).1
  have hlo : ∀ j, (Value.slice a1 n c1).ownBlock = some j → j < w1.heap.size := fun j hj => (O1.out.lt j hj).2
  have HGE := Lib.hid hge
  have HLO := Lib.hid hlo
  clear hge hlo
  cases ok
  all_goals
    go_wp2_with fail
    refine (marks_one a2 n c2 _ ss w3 (by omega) P2.out).mono ?_
    rintro e w4 ⟨rfl, o4, g4⟩
    have O4 := Lib.hid o4
    have G4 := Lib.hid g4
    clear o4 g4
    have Q1 := Lib.hid (ownsRow_of (w' := w4) P1.out (fun j hj => G4.out.block j (P1.out.lt j hj).2 (fun he => by have := HGE.out j he.symm; have := HLO.out j hj; omega)))
    have hz4 := G4.out.size
    go_wp2_with fail
    refine (held_one a2 n c2 _ ss w4 (by omega) O4.out).mono ?_
    rintro e w5 ⟨rfl, b5⟩
    have B5 := Lib.hid b5
    clear b5
    have hz5 := B5.out.size
    have O5 := Lib.hid (ownsRow_of (w' := w5) O4.out (fun j hj => B5.out.block j (O4.out.lt j hj).2))
    have R1 := Lib.hid (ownsRow_of (w' := w5) Q1.out (fun j hj => B5.out.block j (Q1.out.lt j hj).2))
    go_wp2_with fail
    refine (HI.out _).mono ?_
    rintro e w6 ⟨a3, c3, rfl, o6, b6⟩
    have O6 := Lib.hid o6
    have B6 := Lib.hid b6
    clear o6 b6
    have hz6 := B6.out.size
    have S2 := Lib.hid (ownsRow_of (w' := w6) O5.out (fun j hj => B6.out.block j (O5.out.lt j hj).2))
    have S1 := Lib.hid (ownsRow_of (w' := w6) R1.out (fun j hj => B6.out.block j (R1.out.lt j hj).2))
    go_wp2_with fail
    refine (eq_true a3 a1 n c3 c1 _ _ ss w6 (by omega) O6.out S1.out).mono ?_
    rintro e w7 ⟨rfl, h7⟩
    have H7 := Lib.hid h7
    clear h7
    have hz7 := H7.out.2.size
    have T2 := Lib.hid (ownsRow_of (w' := w7) S2.out (fun j _ => by rw [H7.out.1]))
    go_wp2_with fail
    refine (held_one a2 n c2 _ ss w7 (by omega) T2.out).mono ?_
    rintro e w8 ⟨rfl, b8⟩
    have B8 := Lib.hid b8
    clear b8
    go_wp2_with fail
    go_ret
    refine ⟨rfl, ?_⟩
    have hg : Below w1.heap.size w3 w4 := (Below.refl _ _).grown G4.out (by omega) (fun j hj => HGE.out j hj)
    exact ((((((B1.out.trans (B2.out.mono hz1)).trans (H3.out.2.mono (by omega))).trans (hg.mono hz1)).trans (B5.out.mono (by omega))).trans (B6.out.mono (by omega))).trans (H7.out.2.mono (by omega))).trans (B8.out.mono (by omega))

theorem law_any (s : ByteArray) (w : World) (hx : s.size ≤ maxLen) :
    Calls Try.prog 4 #[.string s] w fun e w' => e = .returned (.bool true) ∧ Below w.heap.size w w' := by
  by_cases h : s.size ≤ 1048576
  · exact law_short s w h
  · exact law_long s w (by omega) hx
end Go.Proofs.Ytlmppmdgajaclaa
