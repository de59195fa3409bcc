/- The law FnExactProgramValid answers true at every text. Condition: the library's own number can be read. -/
import Derived.Test.YtmohgblcdhibeaaDoorRProg
namespace Go.Proofs.YtmohgblcdhibeaaDoor
open Go.RowKit Gram

theorem ReadPTo.cases {s : ByteArray} {w w' : World} {e : Ending} (h : ReadPTo s w e w') :
    ∃ (a : Option Addr) (n c : Nat), e = .returned (.tuple #[.slice a n c, .bool (progOf s).isSome]) ∧ Below w.heap.size w w' ∧ ∀ ps, progOf s = some ps → ∃ S qs, qs.map (·.1) = ps ∧ IsProg w' w.heap.size S qs (.slice a n c) ∧ (∀ q ∈ qs, Good q.1) := by
  obtain ⟨h1, h2⟩ := h
  cases hp : progOf s with
  | none =>
    rw [hp] at h1
    obtain ⟨a, n, c, rfl⟩ := h1
    exact ⟨a, n, c, rfl, h2, fun ps h => by cases h⟩
  | some ps =>
    rw [hp] at h1
    obtain ⟨v, S, qs, rfl, h3, h4, h5⟩ := h1
    obtain ⟨a, c, rfl⟩ := h4.form
    exact ⟨a, _, c, rfl, h2, fun ps' h => by injection h with h; subst h; exact ⟨S, qs, h3, h4, h5⟩⟩
theorem OpenTo.cases {s : ByteArray} {w w' : World} {e : Ending} (h : OpenTo s w e w') :
    ∃ (a : Option Addr) (n c : Nat) (ps : List Pr), e = .returned (.tuple #[.slice a n c, .bool (progOf s).isSome]) ∧ Below w.heap.size w w' ∧ ps.length = n ∧ w'.ownsRow w.heap.size 62 2 (.slice a n c) n (prVs ps) ∧ ∀ ps', progOf s = some ps' → ps = ps' := by
  obtain ⟨v, b, ps, rfl, h1, h2, h3⟩ := h
  obtain ⟨a, n, c, rfl⟩ := slice_form h2
  have hn : n = ps.length := by
    rcases h2.2 with ⟨h1, h2⟩ | ⟨g, cap, cur, h1, _⟩
    · injection h1 with _ h3; omega
    · injection h1 with _ h3
  subst hn
  rcases h1.out with ⟨hb, hp⟩ | ⟨hb, hp⟩
  · exact ⟨a, _, c, ps, by rw [hb, hp]; rfl, h3, rfl, h2, fun ps' h => by rw [hp] at h; cases h⟩
  · exact ⟨a, _, c, ps, by rw [hb, hp]; rfl, h3, rfl, h2, fun ps' h => by rw [hp] at h; injection h⟩

set_option maxHeartbeats 400000 in
theorem impl_valid (s : ByteArray) (w : World) (hs : s.size ≤ 1073741824) (hm : MaxCell w) :
    Calls Tryd.prog 15 #[.string s] w fun e w' => e = .returned (.bool (progOf s).isSome) ∧ Below w.heap.size w w' := by
  have HR := Lib.hid ((read_prog s w hs hm).mono fun _ _ h => h.cases)
  generalize (progOf s).isSome = b at *
  clear hm
  go_enter Tryd.func15, Tryd.ntmps15
  go_wp2_with fail
  refine HR.out.mono ?_
  rintro e w2 ⟨a, n, c, rfl, hb, _⟩
  have HB := Lib.hid hb
  clear hb
  go_wp2_with fail
  go_ret
  exact ⟨rfl, HB.out⟩
set_option maxHeartbeats 400000 in
theorem spec_valid (s : ByteArray) (w : World) (hs : s.size ≤ 1073741824) :
    Calls Tryd.prog 18 #[.string s] w fun e w' => e = .returned (.bool (progOf s).isSome) ∧ Below w.heap.size w w' := by
  have HR := Lib.hid ((open_prog s w hs).mono fun _ _ h => h.cases)
  generalize (progOf s).isSome = b at *
  go_enter Tryd.func18, Tryd.ntmps18
  go_wp2_with fail
  refine HR.out.mono ?_
  rintro e w2 ⟨a, n, c, ps, rfl, hb, _⟩
  have HB := Lib.hid hb
  clear hb
  go_wp2_with fail
  go_ret
  exact ⟨rfl, HB.out⟩

set_option maxHeartbeats 400000 in
theorem valid_long (s : ByteArray) (w : World) (hl : 1048576 < s.size) (hx : s.size ≤ maxLen) :
    Calls Tryd.prog 6 #[.string s] w fun e w' => e = .returned (.bool true) ∧ Below w.heap.size w w' := by
  unfold maxLen at hx
  go_enter Tryd.func6, Tryd.ntmps6
  go_wp2_with fail
  go_ret
  exact ⟨rfl, Below.refl _ _⟩
set_option maxHeartbeats 400000 in
theorem valid_short (s : ByteArray) (w : World) (hl : s.size ≤ 1048576) (hm : MaxCell w) :
    Calls Tryd.prog 6 #[.string s] w fun e w' => e = .returned (.bool true) ∧ Below w.heap.size w w' := by
  have HI := Lib.hid (fun w => impl_valid s w (by omega))
  have HS := Lib.hid (fun w => spec_valid s w (by omega))
  have HM := Lib.hid hm
  generalize (progOf s).isSome = b at *
  clear hm
  go_enter Tryd.func6, Tryd.ntmps6
  go_wp2_with fail
  refine (HS.out _).mono ?_
  rintro e w1 ⟨rfl, b1⟩
  have B1 := Lib.hid b1
  clear b1
  go_wp2_with fail
  refine (HI.out _ (HM.out.later B1.out)).mono ?_
  rintro e w2 ⟨rfl, b2⟩
  have B2 := Lib.hid (B1.out.trans (b2.mono B1.out.size))
  clear b2
  cases b
  all_goals
    go_wp2_with fail
    go_ret
    exact ⟨rfl, B2.out⟩
theorem valid_any (s : ByteArray) (w : World) (hx : s.size ≤ maxLen) (hm : MaxCell w) :
    Calls Tryd.prog 6 #[.string s] w fun e w' => e = .returned (.bool true) ∧ Below w.heap.size w w' := by
  by_cases h : s.size ≤ 1048576
  · exact valid_short s w h hm
  · exact valid_long s w (by omega) hx
end Go.Proofs.YtmohgblcdhibeaaDoor
