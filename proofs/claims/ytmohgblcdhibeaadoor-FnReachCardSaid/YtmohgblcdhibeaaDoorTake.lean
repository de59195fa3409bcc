/- The program's (*reader).begin, take and finish do to the reader in memory what the plain reader does; where that refuses a sign they panic. Conditions: at most 400 signs held. -/
import Derived.Test.YtmohgblcdhibeaaDoorOpen
namespace Go.Proofs.YtmohgblcdhibeaaDoor
open Go.RowKit Gram

/-- the sign sg is the byte c, or none of ASCII -/
def Sg (sg : Int) (c : UInt8) : Prop := (sg = c.toNat ∧ c.toNat < 128) ∨ (c = 128 ∧ 128 ≤ sg)

theorem Sg.ne {sg : Int} {c : UInt8} (h : Sg sg c) {d : UInt8} (hd : d.toNat < 128) (hne : c ≠ d) : (sg == (d.toNat : Int)) = false := by
  rcases h with ⟨rfl, _⟩ | ⟨_, h2⟩
  · exact ne_int hne
  · rw [beq_eq_false_iff_ne]; omega

/-- what becomes of the reader -/
def Done (B rb : Nat) (w : World) (o : Option St) (r : Ending) (w' : World) : Prop :=
  (match o with
    | some st' => r = .returned (.tuple #[]) ∧ RdS w' B rb st'
    | none => Panics r) ∧ Kept B w w'

theorem RdS.pend {w : World} {B rb : Nat} {st : St} (h : RdS w B rb st) (q : UInt8) : RdS (w.setCell ⟨rb, 1, none⟩ (.int .i32 q.toNat)) B rb { st with pend := q } ∧ Kept B w (w.setCell ⟨rb, 1, none⟩ (.int .i32 q.toNat)) := by
  obtain ⟨g, cap, e, t, S, hR, hu, ht, _⟩ := h.parts
  exact ⟨⟨_, _, _, _, hR.pend _, by simp [hu, ht]⟩, (Kept.refl B w).setCell hR.low _⟩
theorem RdS.cell1 {w : World} {B rb : Nat} {st : St} (h : RdS w B rb st) : w.cell? ⟨rb, 1, none⟩ = some (.int .i32 st.pend.toNat) := by
  obtain ⟨g, cap, e, t, S, hR, _⟩ := h.parts
  have := Lib.cell_of_heap hR.own 1
  simpa using this
theorem RdS.free1 {w : World} {B rb : Nat} {st : St} (h : RdS w B rb st) : w.frozen? ⟨rb, 1, none⟩ = false := by
  obtain ⟨g, cap, e, t, S, hR, _⟩ := h.parts
  exact Lib.frozen_of_heap hR.own 1
theorem adds_plain {w : World} {B rb : Nat} {st : St} (h : RdS w B rb st) (x : Stm) (v : Value) (hx : ∀ S, IsStm w S x v) (hl : st.rest.length ≤ 1000) (hn : st.top.list.length ≤ 1000) (hB : B ≤ w.heap.size) :
    Calls Tryd.prog 98 #[.pointer (some ⟨rb, 0, none⟩), v] w fun r w' => r = .returned (.tuple #[]) ∧ RdS w' B rb (st.add x) ∧ Kept B w w' := by
  obtain ⟨g, cap, e, t, S, hR, hu, ht, _⟩ := h.parts
  exact adds_any hR hu ht (hx S) hl hn hB

section
variable {w : World} {B rb : Nat} {st : St}

set_option maxHeartbeats 400000 in
theorem begin_lit (h : RdS w B rb st) (d : UInt8) (hd : d = 43 ∨ d = 45 ∨ d = 42 ∨ d = 67 ∨ d = 63) :
    Calls Tryd.prog 101 #[.pointer (some ⟨rb, 0, none⟩), .int .i32 d.toNat] w fun r w' => r = .returned (.tuple #[]) ∧ RdS w' B rb { st with pend := d } ∧ Kept B w w' := by
  have hc := h.cell1
  have hf := h.free1
  have H := Lib.hid (h.pend d)
  clear h
  rcases hd with rfl | rfl | rfl | rfl | rfl
  all_goals
    go_enter Tryd.func101, Tryd.ntmps101
    go_wp2_with fail
    first | go_end0 | refine bodyPost_ret (results_none rfl _ _ _) rfl ?_
    exact ⟨rfl, H.out⟩

set_option maxHeartbeats 400000 in
theorem begin_any (h : RdS w B rb st) (hp : st.pend = 0) (sg : Int) (c : UInt8) (hs : Sg sg c) (hl : st.rest.length ≤ 900) (hn : st.top.list.length ≤ 1000) (hr : ∀ u ∈ st.rest, u.list.length ≤ 1000) (hB : B ≤ w.heap.size) :
    Calls Tryd.prog 101 #[.pointer (some ⟨rb, 0, none⟩), .int .i32 sg] w (Done B rb w (st.begin c)) := by
  by_cases h1 : c = 43 ∨ c = 45 ∨ c = 42 ∨ c = 67 ∨ c = 63
  · have hsg : sg = c.toNat := by
      rcases hs with ⟨a, _⟩ | ⟨rfl, _⟩
      · exact a
      · simp at h1
    subst hsg
    refine (begin_lit h c h1).mono ?_
    rintro r w' ⟨a, b, d⟩
    exact ⟨by simp only [St.begin, if_pos h1]; exact ⟨a, b⟩, d⟩
  · have e1 : st.begin c = if c = 80 then some (st.add .prt) else if c = 93 then st.close else none := by
      rw [St.begin, if_neg h1]
    have hn0 : c ≠ 43 := fun h => h1 (.inl h)
    have hn1 : c ≠ 45 := fun h => h1 (.inr (.inl h))
    have hn2 : c ≠ 42 := fun h => h1 (.inr (.inr (.inl h)))
    have hn3 : c ≠ 67 := fun h => h1 (.inr (.inr (.inr (.inl h))))
    have hn4 : c ≠ 63 := fun h => h1 (.inr (.inr (.inr (.inr h))))
    by_cases h2 : c = 80
    · subst h2
      have hsg : sg = 80 := by
        rcases hs with ⟨a, _⟩ | ⟨a, _⟩
        · exact a
        · cases a
      subst hsg
      rw [e1, if_pos rfl]
      have HA := Lib.hid (adds_plain h .prt _ (fun S => rfl) (by omega) hn hB)
      clear h e1 hs h1 hn0 hn1 hn2 hn3 hn4 hp hr
      go_enter Tryd.func101, Tryd.ntmps101
      go_wp2_with fail
      refine HA.out.mono ?_
      rintro e w' ⟨rfl, hR, hb⟩
      go_wp2_with fail
      go_end0
      exact ⟨⟨rfl, hR⟩, hb⟩
    · by_cases h3 : c = 93
      · subst h3
        have hsg : sg = 93 := by
          rcases hs with ⟨a, _⟩ | ⟨a, _⟩
          · exact a
          · cases a
        subst hsg
        rw [e1, if_neg h2, if_pos rfl]
        have HA := close_any h hp hl hr hB
        clear h e1 hs h1 h2 hn0 hn1 hn2 hn3 hn4 hp hr
        cases hcl : st.close with
        | none =>
          rw [hcl] at HA
          have HA := Lib.hid HA
          clear hcl
          go_enter Tryd.func101, Tryd.ntmps101
          go_wp2_with fail
          refine HA.out.mono ?_
          rintro e w' ⟨⟨u, pv, rfl⟩, hb⟩
          go_wp2_with fail
          exact ⟨rfl, ⟨_, _, rfl⟩, hb⟩
        | some st' =>
          rw [hcl] at HA
          have HA := Lib.hid HA
          clear hcl
          go_enter Tryd.func101, Tryd.ntmps101
          go_wp2_with fail
          refine HA.out.mono ?_
          rintro e w' ⟨⟨rfl, hR⟩, hb⟩
          go_wp2_with fail
          go_end0
          exact ⟨⟨rfl, hR⟩, hb⟩
      · rw [e1, if_neg h2, if_neg h3]
        have g0 := hs.ne (d := 43) (by decide) hn0
        have g1 := hs.ne (d := 45) (by decide) hn1
        have g2 := hs.ne (d := 42) (by decide) hn2
        have g3 := hs.ne (d := 67) (by decide) hn3
        have g4 := hs.ne (d := 63) (by decide) hn4
        have g5 := hs.ne (d := 80) (by decide) h2
        have g6 := hs.ne (d := 93) (by decide) h3
        simp only [UInt8.reduceToNat, Int.cast_ofNat_Int] at g0 g1 g2 g3 g4 g5 g6
        clear h e1 hs h1 h2 h3 hn0 hn1 hn2 hn3 hn4 hp hr hl hn
        go_enter Tryd.func101, Tryd.ntmps101
        go_wp2_with fail
        exact ⟨rfl, ⟨_, _, rfl⟩, Kept.refl _ _⟩
end
theorem Sg.dig {sg : Int} {c : UInt8} (h : Sg sg c) (hd : isDig c = true) : sg = c.toNat ∧ (48 : Int) ≤ c.toNat ∧ (c.toNat : Int) ≤ 57 := by
  rcases h with ⟨rfl, _⟩ | ⟨rfl, _⟩
  · rw [isDig_int] at hd; simp at hd; omega
  · exact absurd hd (by decide)
theorem Sg.nodig {sg : Int} {c : UInt8} (h : Sg sg c) (hd : ¬ isDig c = true) : sg < 48 ∨ 57 < sg := by
  rcases h with ⟨rfl, _⟩ | ⟨_, h⟩
  · rw [isDig_int] at hd; simp at hd; omega
  · omega
theorem Sg.let_ {sg : Int} {c : UInt8} (h : Sg sg c) (hd : isLet c = true) : sg = c.toNat ∧ (97 : Int) ≤ c.toNat ∧ (c.toNat : Int) ≤ 122 := by
  rcases h with ⟨rfl, _⟩ | ⟨rfl, _⟩
  · rw [isLet_int] at hd; simp at hd; omega
  · exact absurd hd (by decide)
theorem Sg.nolet {sg : Int} {c : UInt8} (h : Sg sg c) (hd : ¬ isLet c = true) : sg < 97 ∨ 122 < sg := by
  rcases h with ⟨rfl, _⟩ | ⟨_, h⟩
  · rw [isLet_int] at hd; simp at hd; omega
  · omega

section
variable {w : World} {B rb : Nat} {st : St}

set_option maxHeartbeats 400000 in
theorem take_sgn43 (h : RdS w B rb st) (hp : st.pend = 43) (sg : Int) (c : UInt8) (hs : Sg sg c) (hl : st.rest.length ≤ 900) (hn : st.top.list.length ≤ 900) (hB : B ≤ w.heap.size) :
    Calls Tryd.prog 81 #[.pointer (some ⟨rb, 0, none⟩), .int .i32 sg] w (Done B rb w (st.take c)) := by
  have hc := h.cell1
  have hf := h.free1
  obtain ⟨h0, hb0⟩ := h.pend 0
  rw [hp] at hc
  by_cases hd : isDig c = true
  · obtain ⟨rfl, hlo, hhi⟩ := hs.dig hd
    have HT := Lib.hid (show st.take c = some (St.add { st with pend := 0 } (.chg 43 c)) by
      rw [St.take, hp, if_pos (by decide), if_pos hd])
    have HA := Lib.hid (adds_plain h0 (.chg 43 c) _ (fun S => rfl) (by simpa using Nat.le_trans hl (by omega)) (by simpa using Nat.le_trans hn (by omega)) (by simp [World.setCell]; omega))
    have HB := Lib.hid hb0
    clear h h0 hb0 hd hs hp
    go_enter Tryd.func81, Tryd.ntmps81
    go_wp2_with (go_at_call 99; refine (between_yes _ _ _ (by omega) (by omega) (by omega) (by omega) _).mono ?_; rintro e w' ⟨rfl, rfl⟩)
    refine HA.out.mono ?_
    rintro e w' ⟨rfl, hR, hb⟩
    go_wp2_with fail
    go_end0
    exact ⟨by rw [HT.out]; exact ⟨rfl, hR⟩, HB.out.trans hb⟩
  · have HT := Lib.hid (show st.take c = none by
      rw [St.take, hp, if_pos (by decide), if_neg hd])
    have hno := Lib.hid (hs.nodig hd)
    have HB := Lib.hid hb0
    clear h h0 hb0 hd hs hp
    go_enter Tryd.func81, Tryd.ntmps81
    go_wp2_with fail
    refine (between_no _ _ _ hno.out _).mono ?_
    rintro e w' ⟨⟨u, pv, rfl⟩, rfl⟩
    go_wp2_with fail
    exact ⟨rfl, by rw [HT.out]; exact ⟨_, _, rfl⟩, HB.out⟩

set_option maxHeartbeats 400000 in
theorem take_sgn45 (h : RdS w B rb st) (hp : st.pend = 45) (sg : Int) (c : UInt8) (hs : Sg sg c) (hl : st.rest.length ≤ 900) (hn : st.top.list.length ≤ 900) (hB : B ≤ w.heap.size) :
    Calls Tryd.prog 81 #[.pointer (some ⟨rb, 0, none⟩), .int .i32 sg] w (Done B rb w (st.take c)) := by
  have hc := h.cell1
  have hf := h.free1
  obtain ⟨h0, hb0⟩ := h.pend 0
  rw [hp] at hc
  by_cases hd : isDig c = true
  · obtain ⟨rfl, hlo, hhi⟩ := hs.dig hd
    have HT := Lib.hid (show st.take c = some (St.add { st with pend := 0 } (.chg 45 c)) by
      rw [St.take, hp, if_pos (by decide), if_pos hd])
    have HA := Lib.hid (adds_plain h0 (.chg 45 c) _ (fun S => rfl) (by simpa using Nat.le_trans hl (by omega)) (by simpa using Nat.le_trans hn (by omega)) (by simp [World.setCell]; omega))
    have HB := Lib.hid hb0
    clear h h0 hb0 hd hs hp
    go_enter Tryd.func81, Tryd.ntmps81
    go_wp2_with (go_at_call 99; refine (between_yes _ _ _ (by omega) (by omega) (by omega) (by omega) _).mono ?_; rintro e w' ⟨rfl, rfl⟩)
    refine HA.out.mono ?_
    rintro e w' ⟨rfl, hR, hb⟩
    go_wp2_with fail
    go_end0
    exact ⟨by rw [HT.out]; exact ⟨rfl, hR⟩, HB.out.trans hb⟩
  · have HT := Lib.hid (show st.take c = none by
      rw [St.take, hp, if_pos (by decide), if_neg hd])
    have hno := Lib.hid (hs.nodig hd)
    have HB := Lib.hid hb0
    clear h h0 hb0 hd hs hp
    go_enter Tryd.func81, Tryd.ntmps81
    go_wp2_with fail
    refine (between_no _ _ _ hno.out _).mono ?_
    rintro e w' ⟨⟨u, pv, rfl⟩, rfl⟩
    go_wp2_with fail
    exact ⟨rfl, by rw [HT.out]; exact ⟨_, _, rfl⟩, HB.out⟩

set_option maxHeartbeats 400000 in
theorem take_sgn42 (h : RdS w B rb st) (hp : st.pend = 42) (sg : Int) (c : UInt8) (hs : Sg sg c) (hl : st.rest.length ≤ 900) (hn : st.top.list.length ≤ 900) (hB : B ≤ w.heap.size) :
    Calls Tryd.prog 81 #[.pointer (some ⟨rb, 0, none⟩), .int .i32 sg] w (Done B rb w (st.take c)) := by
  have hc := h.cell1
  have hf := h.free1
  obtain ⟨h0, hb0⟩ := h.pend 0
  rw [hp] at hc
  by_cases hd : isDig c = true
  · obtain ⟨rfl, hlo, hhi⟩ := hs.dig hd
    have HT := Lib.hid (show st.take c = some (St.add { st with pend := 0 } (.chg 42 c)) by
      rw [St.take, hp, if_pos (by decide), if_pos hd])
    have HA := Lib.hid (adds_plain h0 (.chg 42 c) _ (fun S => rfl) (by simpa using Nat.le_trans hl (by omega)) (by simpa using Nat.le_trans hn (by omega)) (by simp [World.setCell]; omega))
    have HB := Lib.hid hb0
    clear h h0 hb0 hd hs hp
    go_enter Tryd.func81, Tryd.ntmps81
    go_wp2_with (go_at_call 99; refine (between_yes _ _ _ (by omega) (by omega) (by omega) (by omega) _).mono ?_; rintro e w' ⟨rfl, rfl⟩)
    refine HA.out.mono ?_
    rintro e w' ⟨rfl, hR, hb⟩
    go_wp2_with fail
    go_end0
    exact ⟨by rw [HT.out]; exact ⟨rfl, hR⟩, HB.out.trans hb⟩
  · have HT := Lib.hid (show st.take c = none by
      rw [St.take, hp, if_pos (by decide), if_neg hd])
    have hno := Lib.hid (hs.nodig hd)
    have HB := Lib.hid hb0
    clear h h0 hb0 hd hs hp
    go_enter Tryd.func81, Tryd.ntmps81
    go_wp2_with fail
    refine (between_no _ _ _ hno.out _).mono ?_
    rintro e w' ⟨⟨u, pv, rfl⟩, rfl⟩
    go_wp2_with fail
    exact ⟨rfl, by rw [HT.out]; exact ⟨_, _, rfl⟩, HB.out⟩

set_option maxHeartbeats 400000 in
theorem take_call (h : RdS w B rb st) (hp : st.pend = 67) (sg : Int) (c : UInt8) (hs : Sg sg c) (hl : st.rest.length ≤ 900) (hn : st.top.list.length ≤ 900) (hB : B ≤ w.heap.size) :
    Calls Tryd.prog 81 #[.pointer (some ⟨rb, 0, none⟩), .int .i32 sg] w (Done B rb w (st.take c)) := by
  have hc := h.cell1
  have hf := h.free1
  obtain ⟨h0, hb0⟩ := h.pend 0
  rw [hp] at hc
  by_cases hd : isLet c = true
  · obtain ⟨rfl, hlo, hhi⟩ := hs.let_ hd
    have HT := Lib.hid (show st.take c = some (St.add { st with pend := 0 } (.call c)) by
      rw [St.take, hp, if_neg (by decide), if_pos rfl, if_pos hd])
    have HA := Lib.hid (adds_plain h0 (.call c) _ (fun S => rfl) (by simpa using Nat.le_trans hl (by omega)) (by simpa using Nat.le_trans hn (by omega)) (by simp [World.setCell]; omega))
    have HB := Lib.hid hb0
    clear h h0 hb0 hd hs hp
    go_enter Tryd.func81, Tryd.ntmps81
    go_wp2_with (go_at_call 99; refine (between_yes _ _ _ (by omega) (by omega) (by omega) (by omega) _).mono ?_; rintro e w' ⟨rfl, rfl⟩)
    refine HA.out.mono ?_
    rintro e w' ⟨rfl, hR, hb⟩
    go_wp2_with fail
    go_end0
    exact ⟨by rw [HT.out]; exact ⟨rfl, hR⟩, HB.out.trans hb⟩
  · have HT := Lib.hid (show st.take c = none by
      rw [St.take, hp, if_neg (by decide), if_pos rfl, if_neg hd])
    have hno := Lib.hid (hs.nolet hd)
    have HB := Lib.hid hb0
    clear h h0 hb0 hd hs hp
    go_enter Tryd.func81, Tryd.ntmps81
    go_wp2_with fail
    refine (between_no _ _ _ hno.out _).mono ?_
    rintro e w' ⟨⟨u, pv, rfl⟩, rfl⟩
    go_wp2_with fail
    exact ⟨rfl, by rw [HT.out]; exact ⟨_, _, rfl⟩, HB.out⟩

set_option maxHeartbeats 400000 in
theorem take_ask (h : RdS w B rb st) (hp : st.pend = 63) (sg : Int) (c : UInt8) (hs : Sg sg c) (hl : st.rest.length ≤ 900) (hB : B ≤ w.heap.size) :
    Calls Tryd.prog 81 #[.pointer (some ⟨rb, 0, none⟩), .int .i32 sg] w (Done B rb w (st.take c)) := by
  have hc := h.cell1
  have hf := h.free1
  obtain ⟨h0, hb0⟩ := h.pend 0
  rw [hp] at hc
  by_cases hd : c = 91
  · have hsg : sg = 91 := by
      rcases hs with ⟨a, _⟩ | ⟨a, _⟩
      · rw [a, hd]; rfl
      · rw [hd] at a; cases a
    subst hsg
    have HT := Lib.hid (show st.take c = some (St.openB { st with pend := 0 } 63) by
      rw [St.take, hp, if_neg (by decide), if_neg (by decide), if_pos (by decide), if_pos hd])
    have HA := Lib.hid (push_any h0 (by simpa using hl) (by simp [World.setCell]; omega))
    have HB := Lib.hid hb0
    clear h h0 hb0 hd hs hp
    go_enter Tryd.func81, Tryd.ntmps81
    go_wp2_with (go_at_call 99; refine (between_yes _ _ _ (by omega) (by omega) (by omega) (by omega) _).mono ?_; rintro e w' ⟨rfl, rfl⟩)
    refine HA.out.mono ?_
    rintro e w' ⟨rfl, hR, hb⟩
    go_wp2_with fail
    go_end0
    exact ⟨by rw [HT.out]; exact ⟨rfl, hR⟩, HB.out.trans hb⟩
  · have HT := Lib.hid (show st.take c = none by
      rw [St.take, hp, if_neg (by decide), if_neg (by decide), if_pos (by decide), if_neg hd])
    have hno := Lib.hid (show sg < 91 ∨ 91 < sg by
      rcases hs with ⟨a, _⟩ | ⟨_, a⟩
      · have : c.toNat ≠ 91 := fun e => hd (UInt8.toNat.inj e)
        omega
      · omega)
    have HB := Lib.hid hb0
    clear h h0 hb0 hd hs hp
    go_enter Tryd.func81, Tryd.ntmps81
    go_wp2_with fail
    refine (between_no _ _ _ hno.out _).mono ?_
    rintro e w' ⟨⟨u, pv, rfl⟩, rfl⟩
    go_wp2_with fail
    exact ⟨rfl, by rw [HT.out]; exact ⟨_, _, rfl⟩, HB.out⟩

set_option maxHeartbeats 400000 in
theorem take_shut (h : RdS w B rb st) (hp : st.pend = 93) (sg : Int) (c : UInt8) (hs : Sg sg c) (hl : st.rest.length ≤ 900) (hB : B ≤ w.heap.size) :
    Calls Tryd.prog 81 #[.pointer (some ⟨rb, 0, none⟩), .int .i32 sg] w (Done B rb w (st.take c)) := by
  have hc := h.cell1
  have hf := h.free1
  obtain ⟨h0, hb0⟩ := h.pend 0
  rw [hp] at hc
  by_cases hd : c = 91
  · have hsg : sg = 91 := by
      rcases hs with ⟨a, _⟩ | ⟨a, _⟩
      · rw [a, hd]; rfl
      · rw [hd] at a; cases a
    subst hsg
    have HT := Lib.hid (show st.take c = some (St.openB { st with pend := 0 } 93) by
      rw [St.take, hp, if_neg (by decide), if_neg (by decide), if_pos (by decide), if_pos hd])
    have HA := Lib.hid (second_any h0 (by simpa using hl) (by simp [World.setCell]; omega))
    have HB := Lib.hid hb0
    clear h h0 hb0 hd hs hp
    go_enter Tryd.func81, Tryd.ntmps81
    go_wp2_with (go_at_call 99; refine (between_yes _ _ _ (by omega) (by omega) (by omega) (by omega) _).mono ?_; rintro e w' ⟨rfl, rfl⟩)
    refine HA.out.mono ?_
    rintro e w' ⟨rfl, hR, hb⟩
    go_wp2_with fail
    go_end0
    exact ⟨by rw [HT.out]; exact ⟨rfl, hR⟩, HB.out.trans hb⟩
  · have HT := Lib.hid (show st.take c = none by
      rw [St.take, hp, if_neg (by decide), if_neg (by decide), if_pos (by decide), if_neg hd])
    have hno := Lib.hid (show sg < 91 ∨ 91 < sg by
      rcases hs with ⟨a, _⟩ | ⟨_, a⟩
      · have : c.toNat ≠ 91 := fun e => hd (UInt8.toNat.inj e)
        omega
      · omega)
    have HB := Lib.hid hb0
    clear h h0 hb0 hd hs hp
    go_enter Tryd.func81, Tryd.ntmps81
    go_wp2_with fail
    refine (between_no _ _ _ hno.out _).mono ?_
    rintro e w' ⟨⟨u, pv, rfl⟩, rfl⟩
    go_wp2_with fail
    exact ⟨rfl, by rw [HT.out]; exact ⟨_, _, rfl⟩, HB.out⟩

set_option maxHeartbeats 400000 in
theorem take_zero (h : RdS w B rb st) (hp : st.pend = 0) (sg : Int) (c : UInt8) (hs : Sg sg c) (hl : st.rest.length ≤ 900) (hn : st.top.list.length ≤ 900) (hr : ∀ u ∈ st.rest, u.list.length ≤ 1000) (hB : B ≤ w.heap.size) :
    Calls Tryd.prog 81 #[.pointer (some ⟨rb, 0, none⟩), .int .i32 sg] w (Done B rb w (st.take c)) := by
  have hc := h.cell1
  have hf := h.free1
  obtain ⟨h0, hb0⟩ := h.pend 0
  rw [hp] at hc
  have est : ({ st with pend := 0 } : St) = st := by cases st; simp at hp; simp [hp]
  have HT := Lib.hid (show st.take c = st.begin c by
    rw [St.take, hp, if_neg (by decide), if_neg (by decide), if_neg (by decide), est])
  have HA := Lib.hid (begin_any h0 rfl sg c hs (by simpa using hl) (by simpa using Nat.le_trans hn (by omega)) (by simpa using hr) (by simp [World.setCell]; omega))
  rw [est] at HA
  have HB := Lib.hid hb0
  clear h h0 hb0 hs hp hr est
  cases hbe : st.begin c with
  | none =>
    rw [hbe] at HA HT
    clear hbe
    go_enter Tryd.func81, Tryd.ntmps81
    go_wp2_with fail
    refine HA.out.mono ?_
    rintro e w' ⟨⟨u, pv, rfl⟩, hb⟩
    go_wp2_with fail
    exact ⟨rfl, by rw [HT.out]; exact ⟨_, _, rfl⟩, HB.out.trans hb⟩
  | some st' =>
    rw [hbe] at HA HT
    clear hbe
    go_enter Tryd.func81, Tryd.ntmps81
    go_wp2_with fail
    refine HA.out.mono ?_
    rintro e w' ⟨⟨rfl, hR⟩, hb⟩
    go_wp2_with fail
    go_end0
    exact ⟨by rw [HT.out]; exact ⟨rfl, hR⟩, HB.out.trans hb⟩

theorem take_any (h : RdS w B rb st) (hok : st.ok) (sg : Int) (c : UInt8) (hs : Sg sg c) (hl : st.rest.length ≤ 900) (hn : st.top.list.length ≤ 900) (hr : ∀ u ∈ st.rest, u.list.length ≤ 1000) (hB : B ≤ w.heap.size) :
    Calls Tryd.prog 81 #[.pointer (some ⟨rb, 0, none⟩), .int .i32 sg] w (Done B rb w (st.take c)) := by
  rcases hok.sign with hp | hp | hp | hp | hp
  · exact take_zero h hp sg c hs hl hn hr hB
  · simp [isSgn] at hp
    rcases hp with (hp | hp) | hp
    · exact take_sgn43 h hp sg c hs hl hn hB
    · exact take_sgn45 h hp sg c hs hl hn hB
    · exact take_sgn42 h hp sg c hs hl hn hB
  · exact take_call h hp sg c hs hl hn hB
  · exact take_ask h hp sg c hs hl hB
  · exact take_shut h hp sg c hs hl hB
end
end Go.Proofs.YtmohgblcdhibeaaDoor
