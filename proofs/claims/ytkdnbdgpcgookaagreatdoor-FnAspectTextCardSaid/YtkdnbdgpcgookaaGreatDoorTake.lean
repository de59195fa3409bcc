/- The program's (*reader).begin, take and finish do to the reader in memory what the plain reader does; where that refuses a sign they panic. Conditions: at most 400 signs held. -/
import Derived.Test.YtkdnbdgpcgookaaGreatDoorKx
import Derived.Test.YtkdnbdgpcgookaaGreatDoorSgn
namespace Go.Proofs.YtkdnbdgpcgookaaGreatDoor
open Go.RowKit Gram

/-- what becomes of the reader -/
def Done (kk : Bool) (B rb : Nat) (w : World) (o : Option St) (r : Ending) (w' : World) : Prop :=
  (match o with
    | some st' => r = .returned (.tuple #[]) ∧ RdS w' kk B rb st'
    | none => Panics r) ∧ Kept B w w'

theorem RdS.pend {w : World} {kk : Bool} {B rb : Nat} {st : St} (h : RdS w kk B rb st) (q : UInt8) : RdS (w.setCell ⟨rb, 2, none⟩ (.int .i32 q.toNat)) kk B rb { st with pend := q } ∧ Kept B w (w.setCell ⟨rb, 2, none⟩ (.int .i32 q.toNat)) := by
  obtain ⟨g, cap, e, t, S, hR, hu, ht, _⟩ := h.parts
  exact ⟨⟨_, _, _, _, hR.pend _, by simp [hu, ht]⟩, (Kept.refl B w).setCell hR.low _⟩
theorem RdS.cell1 {w : World} {kk : Bool} {B rb : Nat} {st : St} (h : RdS w kk B rb st) : w.cell? ⟨rb, 2, none⟩ = some (.int .i32 st.pend.toNat) := by
  obtain ⟨g, cap, e, t, S, hR, _⟩ := h.parts
  have := Lib.cell_of_heap hR.own 2
  simpa using this
theorem RdS.free1 {w : World} {kk : Bool} {B rb : Nat} {st : St} (h : RdS w kk B rb st) : w.frozen? ⟨rb, 2, none⟩ = false := by
  obtain ⟨g, cap, e, t, S, hR, _⟩ := h.parts
  exact Lib.frozen_of_heap hR.own 2
theorem adds_plain {w : World} {kk : Bool} {B rb : Nat} {st : St} (h : RdS w kk B rb st) (x : Stm) (v : Value) (hx : ∀ S, IsStm w S x v) (hl : st.rest.length ≤ 1000) (hn : st.top.list.length ≤ 1000) (hB : B ≤ w.heap.size) :
    Calls Tryz.prog 100 #[.pointer (some ⟨rb, 0, none⟩), v] w fun r w' => r = .returned (.tuple #[]) ∧ RdS w' kk B rb (st.add x) ∧ Kept B w w' := by
  obtain ⟨g, cap, e, t, S, hR, hu, ht, _⟩ := h.parts
  exact adds_any hR hu ht (hx S) hl hn hB

section
variable {w : World} {kk : Bool} {B rb : Nat} {st : St}

theorem RdS.kept {w' : World} (h : RdS w kk B rb st) (hK : Kept w.heap.size w w') : RdS w' kk B rb st := by
  obtain ⟨g, cap, ents, S, hR, hm⟩ := h
  exact ⟨g, cap, ents, S, hR.later (fun k hk => hK.below.block k hk), hm⟩
theorem RdS.cellS (h : RdS w kk B rb st) : w.cell? ⟨rb, 0, none⟩ = some (.string (sigs kk)) := by
  obtain ⟨g, cap, e, t, S, hR, _⟩ := h.parts
  have := Lib.cell_of_heap hR.own 0
  simpa using this

set_option maxHeartbeats 400000 in
/-- a sign that begins a statement of two parts -/
theorem begin_lit (h : RdS w kk B rb st) (hB : B ≤ w.heap.size) (d : UInt8) (hd : d = 43 ∨ d = 45 ∨ d = 42 ∨ d = 67 ∨ d = 63) :
    Calls Tryz.prog 103 #[.pointer (some ⟨rb, 0, none⟩), .int .i32 d.toNat] w fun r w' => r = .returned (.tuple #[]) ∧ RdS w' kk B rb { st with pend := d } ∧ Kept B w w' := by
  have hc0 := h.cellS
  have hin : inSigs kk d = true := by rcases hd with rfl | rfl | rfl | rfl | rfl <;> cases kk <;> rfl
  have HC := Lib.hid (contains_sign kk d.toNat d (.inl ⟨rfl, by rcases hd with rfl | rfl | rfl | rfl | rfl <;> decide⟩) w)
  rw [hin] at HC
  have HH := Lib.hid h
  have HB := Lib.hid hB
  clear h hin hB
  rcases hd with rfl | rfl | rfl | rfl | rfl
  all_goals
    go_enter Tryz.func103, Tryz.ntmps103
    go_wp2_with fail
    refine HC.out.mono ?_
    rintro e w' ⟨rfl, hK⟩
    have h' := HH.out.kept hK
    have hc := h'.cell1
    have hf := h'.free1
    have HP := Lib.hid (fun q => h'.pend q)
    have HK := Lib.hid hK
    clear h' hK
    go_wp2_with fail
    first | go_end0 | refine bodyPost_ret (results_none rfl _ _ _) rfl ?_
    first | exact ⟨rfl, (HP.out 43).1, (HK.out.mono HB.out).trans (HP.out 43).2⟩ | exact ⟨rfl, (HP.out 45).1, (HK.out.mono HB.out).trans (HP.out 45).2⟩ | exact ⟨rfl, (HP.out 42).1, (HK.out.mono HB.out).trans (HP.out 42).2⟩ | exact ⟨rfl, (HP.out 67).1, (HK.out.mono HB.out).trans (HP.out 67).2⟩ | exact ⟨rfl, (HP.out 63).1, (HK.out.mono HB.out).trans (HP.out 63).2⟩

set_option maxHeartbeats 400000 in
/-- a sign that is a statement -/
theorem begin_one (h : RdS w kk B rb st) (d : UInt8) (x : Stm) (hd : d = 80 ∧ x = .prt ∨ d = 75 ∧ x = .pro ∧ kk = true) (hl : st.rest.length ≤ 1000) (hn : st.top.list.length ≤ 1000) (hB : B ≤ w.heap.size) :
    Calls Tryz.prog 103 #[.pointer (some ⟨rb, 0, none⟩), .int .i32 d.toNat] w fun r w' => r = .returned (.tuple #[]) ∧ RdS w' kk B rb (st.add x) ∧ Kept B w w' := by
  have hc0 := h.cellS
  have hin : inSigs kk d = true := by rcases hd with ⟨rfl, _⟩ | ⟨rfl, _, rfl⟩ <;> first | rfl | (cases kk <;> rfl)
  have HC := Lib.hid (contains_sign kk d.toNat d (.inl ⟨rfl, by rcases hd with ⟨rfl, _⟩ | ⟨rfl, _⟩ <;> decide⟩) w)
  rw [hin] at HC
  have HH := Lib.hid h
  have HB := Lib.hid (⟨hB, hl, hn⟩ : _ ∧ _ ∧ _)
  clear h hin hB hl hn
  rcases hd with ⟨rfl, rfl⟩ | ⟨rfl, rfl, rfl⟩
  · go_enter Tryz.func103, Tryz.ntmps103
    go_wp2_with fail
    refine HC.out.mono ?_
    rintro e w' ⟨rfl, hK⟩
    have HK := Lib.hid hK
    have HA := Lib.hid (adds_plain (HH.out.kept hK) .prt _ (fun S => rfl) HB.out.2.1 HB.out.2.2 (Nat.le_trans HB.out.1 hK.below.size))
    clear hK
    go_wp2_with fail
    refine HA.out.mono ?_
    rintro e w'' ⟨rfl, hR, hb⟩
    go_wp2_with fail
    go_end0
    exact ⟨rfl, hR, (HK.out.mono HB.out.1).trans hb⟩
  · go_enter Tryz.func103, Tryz.ntmps103
    go_wp2_with fail
    refine HC.out.mono ?_
    rintro e w' ⟨rfl, hK⟩
    have HK := Lib.hid hK
    have HA := Lib.hid (adds_plain (HH.out.kept hK) .pro _ (fun S => rfl) HB.out.2.1 HB.out.2.2 (Nat.le_trans HB.out.1 hK.below.size))
    clear hK
    go_wp2_with fail
    refine HA.out.mono ?_
    rintro e w'' ⟨rfl, hR, hb⟩
    go_wp2_with fail
    go_end0
    exact ⟨rfl, hR, (HK.out.mono HB.out.1).trans hb⟩

set_option maxHeartbeats 400000 in
/-- a sign that begins nothing -/
theorem begin_bad (h : RdS w kk B rb st) (hB : B ≤ w.heap.size) (sg : Int) (c : UInt8) (hs : Sg sg c) (h3 : (sg == 93) = false) (hin : inSigs kk c = false) :
    Calls Tryz.prog 103 #[.pointer (some ⟨rb, 0, none⟩), .int .i32 sg] w fun r w' => Panics r ∧ Kept B w w' := by
  have hc0 := h.cellS
  have HC := Lib.hid (contains_sign kk sg c hs w)
  rw [hin] at HC
  have HB := Lib.hid hB
  clear h hB hs
  go_enter Tryz.func103, Tryz.ntmps103
  go_wp2_with fail
  refine HC.out.mono ?_
  rintro e w' ⟨rfl, hK⟩
  have HK := Lib.hid hK
  clear hK
  go_wp2_with fail
  exact ⟨rfl, ⟨_, _, rfl⟩, HK.out.mono HB.out⟩

theorem begin_none {k : Bool} {st : St} {c : UInt8} (h3 : c ≠ 93) (h : inSigs k c = false) : st.begin k c = none := by
  have hne : ∀ d : UInt8, inSigs k d = true → c ≠ d := fun d h1 h2 => by rw [h2, h1] at h; cases h
  have h1 : ¬ (c = 43 ∨ c = 45 ∨ c = 42 ∨ c = 67 ∨ c = 63) := by
    rintro (h | h | h | h | h)
    all_goals exact hne _ (by cases k <;> rfl) h
  rw [St.begin, if_neg h1, if_neg (hne 80 (by cases k <;> rfl)), if_neg h3, if_neg]
  rintro ⟨h5, rfl⟩
  exact hne 75 rfl h5

set_option maxHeartbeats 400000 in
theorem begin_any (h : RdS w kk B rb st) (hp : st.pend = 0) (sg : Int) (c : UInt8) (hs : Sg sg c) (hl : st.rest.length ≤ 900) (hn : st.top.list.length ≤ 1000) (hr : ∀ u ∈ st.rest, u.list.length ≤ 1000) (hB : B ≤ w.heap.size) :
    Calls Tryz.prog 103 #[.pointer (some ⟨rb, 0, none⟩), .int .i32 sg] w (Done kk B rb w (st.begin kk c)) := by
  have lit : ∀ d : UInt8, d.toNat < 128 → c = d → sg = d.toNat := fun d hd he => by
    rcases hs with ⟨a, _⟩ | ⟨a, _⟩
    · rw [a, he]
    · rw [he] at a; rw [a] at hd; exact absurd hd (by decide)
  by_cases h1 : c = 43 ∨ c = 45 ∨ c = 42 ∨ c = 67 ∨ c = 63
  · have hsg : sg = c.toNat := lit c (by rcases h1 with rfl | rfl | rfl | rfl | rfl <;> decide) rfl
    subst hsg
    refine (begin_lit h hB c h1).mono ?_
    rintro r w' ⟨a, b, d⟩
    exact ⟨by simp only [St.begin, if_pos h1]; exact ⟨a, b⟩, d⟩
  · by_cases h2 : c = 80
    · have hsg := lit 80 (by decide) h2
      subst hsg h2
      refine (begin_one h 80 .prt (.inl ⟨rfl, rfl⟩) (by omega) hn hB).mono ?_
      rintro r w' ⟨a, b, d⟩
      exact ⟨by rw [St.begin, if_neg h1, if_pos rfl]; exact ⟨a, b⟩, d⟩
    · by_cases h3 : c = 93
      · have hsg := lit 93 (by decide) h3
        subst hsg h3
        have e1 : st.begin kk 93 = st.close := by rw [St.begin, if_neg h1, if_neg h2, if_pos rfl]
        rw [e1]
        have HA := close_any h hp hl hr hB
        clear h e1 hs h1 h2 hp hr lit
        cases hcl : st.close with
        | none =>
          rw [hcl] at HA
          have HA := Lib.hid HA
          clear hcl
          go_enter Tryz.func103, Tryz.ntmps103
          go_wp2_with fail
          refine HA.out.mono ?_
          rintro e w' ⟨⟨u, pv, rfl⟩, hb⟩
          go_wp2_with fail
          exact ⟨rfl, ⟨_, _, rfl⟩, hb⟩
        | some st' =>
          rw [hcl] at HA
          have HA := Lib.hid HA
          clear hcl
          go_enter Tryz.func103, Tryz.ntmps103
          go_wp2_with fail
          refine HA.out.mono ?_
          rintro e w' ⟨⟨rfl, hR⟩, hb⟩
          go_wp2_with fail
          go_end0
          exact ⟨⟨rfl, hR⟩, hb⟩
      · by_cases h4 : c = 75 ∧ kk = true
        · have hsg := lit 75 (by decide) h4.1
          obtain ⟨rfl, hk⟩ := h4
          subst hsg
          refine (begin_one h 75 .pro (.inr ⟨rfl, rfl, hk⟩) (by omega) hn hB).mono ?_
          rintro r w' ⟨a, b, d⟩
          exact ⟨by rw [St.begin, if_neg h1, if_neg h2, if_neg h3, if_pos ⟨rfl, hk⟩]; exact ⟨a, b⟩, d⟩
        · have hin : inSigs kk c = false := by
            rw [inSigs_eq]
            simp only [decide_eq_false_iff_not]
            rintro (h | h | h)
            · exact h1 h
            · exact h2 h
            · exact h4 h
          rw [begin_none h3 hin]
          exact begin_bad h hB sg c hs (hs.ne (d := 93) (by decide) h3) hin
end
theorem Sg.dig {sg : Int} {c : UInt8} (h : Sg sg c) (hd : isDig c = true) : sg = c.toNat ∧ (48 : Int) ≤ c.toNat ∧ (c.toNat : Int) ≤ 57 := by
  rcases h with ⟨rfl, _⟩ | ⟨rfl, _⟩
  · rw [isDig_int] at hd; simp at hd; omega
  · exact absurd hd (by decide)
theorem Sg.nodig {sg : Int} {c : UInt8} (h : Sg sg c) (hd : ¬ isDig c = true) : sg < 48 ∨ 57 < sg := by
  rcases h with ⟨rfl, _⟩ | ⟨_, h⟩
  · rw [isDig_int] at hd; simp at hd; omega
  · omega
theorem Sg.let_ {sg : Int} {c : UInt8} (h : Sg sg c) (hd : isLet c = true) : sg = c.toNat ∧ (97 : Int) ≤ c.toNat ∧ (c.toNat : Int) ≤ 122 := by
  rcases h with ⟨rfl, _⟩ | ⟨rfl, _⟩
  · rw [isLet_int] at hd; simp at hd; omega
  · exact absurd hd (by decide)
theorem Sg.nolet {sg : Int} {c : UInt8} (h : Sg sg c) (hd : ¬ isLet c = true) : sg < 97 ∨ 122 < sg := by
  rcases h with ⟨rfl, _⟩ | ⟨_, h⟩
  · rw [isLet_int] at hd; simp at hd; omega
  · omega

section
variable {w : World} {kk : Bool} {B rb : Nat} {st : St}

set_option maxHeartbeats 400000 in
theorem take_sgn43 (h : RdS w kk B rb st) (hp : st.pend = 43) (sg : Int) (c : UInt8) (hs : Sg sg c) (hl : st.rest.length ≤ 900) (hn : st.top.list.length ≤ 900) (hB : B ≤ w.heap.size) :
    Calls Tryz.prog 83 #[.pointer (some ⟨rb, 0, none⟩), .int .i32 sg] w (Done kk B rb w (st.take kk c)) := by
  have hc := h.cell1
  have hf := h.free1
  obtain ⟨h0, hb0⟩ := h.pend 0
  rw [hp] at hc
  by_cases hd : isDig c = true
  · obtain ⟨rfl, hlo, hhi⟩ := hs.dig hd
    have HT := Lib.hid (show st.take kk c = some (St.add { st with pend := 0 } (.chg 43 c)) by
      rw [St.take, hp, if_pos (by decide), if_pos hd])
    have HA := Lib.hid (adds_plain h0 (.chg 43 c) _ (fun S => rfl) (by simpa using Nat.le_trans hl (by omega)) (by simpa using Nat.le_trans hn (by omega)) (by simp [World.setCell]; omega))
    have HB := Lib.hid hb0
    clear h h0 hb0 hd hs hp
    go_enter Tryz.func83, Tryz.ntmps83
    go_wp2_with (go_at_call 101; refine (between_yes _ _ _ (by omega) (by omega) (by omega) (by omega) _).mono ?_; rintro e w' ⟨rfl, rfl⟩)
    refine HA.out.mono ?_
    rintro e w' ⟨rfl, hR, hb⟩
    go_wp2_with fail
    go_end0
    exact ⟨by rw [HT.out]; exact ⟨rfl, hR⟩, HB.out.trans hb⟩
  · have HT := Lib.hid (show st.take kk c = none by
      rw [St.take, hp, if_pos (by decide), if_neg hd])
    have hno := Lib.hid (hs.nodig hd)
    have HB := Lib.hid hb0
    clear h h0 hb0 hd hs hp
    go_enter Tryz.func83, Tryz.ntmps83
    go_wp2_with fail
    refine (between_no _ _ _ hno.out _).mono ?_
    rintro e w' ⟨⟨u, pv, rfl⟩, rfl⟩
    go_wp2_with fail
    exact ⟨rfl, by rw [HT.out]; exact ⟨_, _, rfl⟩, HB.out⟩

set_option maxHeartbeats 400000 in
theorem take_sgn45 (h : RdS w kk B rb st) (hp : st.pend = 45) (sg : Int) (c : UInt8) (hs : Sg sg c) (hl : st.rest.length ≤ 900) (hn : st.top.list.length ≤ 900) (hB : B ≤ w.heap.size) :
    Calls Tryz.prog 83 #[.pointer (some ⟨rb, 0, none⟩), .int .i32 sg] w (Done kk B rb w (st.take kk c)) := by
  have hc := h.cell1
  have hf := h.free1
  obtain ⟨h0, hb0⟩ := h.pend 0
  rw [hp] at hc
  by_cases hd : isDig c = true
  · obtain ⟨rfl, hlo, hhi⟩ := hs.dig hd
    have HT := Lib.hid (show st.take kk c = some (St.add { st with pend := 0 } (.chg 45 c)) by
      rw [St.take, hp, if_pos (by decide), if_pos hd])
    have HA := Lib.hid (adds_plain h0 (.chg 45 c) _ (fun S => rfl) (by simpa using Nat.le_trans hl (by omega)) (by simpa using Nat.le_trans hn (by omega)) (by simp [World.setCell]; omega))
    have HB := Lib.hid hb0
    clear h h0 hb0 hd hs hp
    go_enter Tryz.func83, Tryz.ntmps83
    go_wp2_with (go_at_call 101; refine (between_yes _ _ _ (by omega) (by omega) (by omega) (by omega) _).mono ?_; rintro e w' ⟨rfl, rfl⟩)
    refine HA.out.mono ?_
    rintro e w' ⟨rfl, hR, hb⟩
    go_wp2_with fail
    go_end0
    exact ⟨by rw [HT.out]; exact ⟨rfl, hR⟩, HB.out.trans hb⟩
  · have HT := Lib.hid (show st.take kk c = none by
      rw [St.take, hp, if_pos (by decide), if_neg hd])
    have hno := Lib.hid (hs.nodig hd)
    have HB := Lib.hid hb0
    clear h h0 hb0 hd hs hp
    go_enter Tryz.func83, Tryz.ntmps83
    go_wp2_with fail
    refine (between_no _ _ _ hno.out _).mono ?_
    rintro e w' ⟨⟨u, pv, rfl⟩, rfl⟩
    go_wp2_with fail
    exact ⟨rfl, by rw [HT.out]; exact ⟨_, _, rfl⟩, HB.out⟩

set_option maxHeartbeats 400000 in
theorem take_sgn42 (h : RdS w kk B rb st) (hp : st.pend = 42) (sg : Int) (c : UInt8) (hs : Sg sg c) (hl : st.rest.length ≤ 900) (hn : st.top.list.length ≤ 900) (hB : B ≤ w.heap.size) :
    Calls Tryz.prog 83 #[.pointer (some ⟨rb, 0, none⟩), .int .i32 sg] w (Done kk B rb w (st.take kk c)) := by
  have hc := h.cell1
  have hf := h.free1
  obtain ⟨h0, hb0⟩ := h.pend 0
  rw [hp] at hc
  by_cases hd : isDig c = true
  · obtain ⟨rfl, hlo, hhi⟩ := hs.dig hd
    have HT := Lib.hid (show st.take kk c = some (St.add { st with pend := 0 } (.chg 42 c)) by
      rw [St.take, hp, if_pos (by decide), if_pos hd])
    have HA := Lib.hid (adds_plain h0 (.chg 42 c) _ (fun S => rfl) (by simpa using Nat.le_trans hl (by omega)) (by simpa using Nat.le_trans hn (by omega)) (by simp [World.setCell]; omega))
    have HB := Lib.hid hb0
    clear h h0 hb0 hd hs hp
    go_enter Tryz.func83, Tryz.ntmps83
    go_wp2_with (go_at_call 101; refine (between_yes _ _ _ (by omega) (by omega) (by omega) (by omega) _).mono ?_; rintro e w' ⟨rfl, rfl⟩)
    refine HA.out.mono ?_
    rintro e w' ⟨rfl, hR, hb⟩
    go_wp2_with fail
    go_end0
    exact ⟨by rw [HT.out]; exact ⟨rfl, hR⟩, HB.out.trans hb⟩
  · have HT := Lib.hid (show st.take kk c = none by
      rw [St.take, hp, if_pos (by decide), if_neg hd])
    have hno := Lib.hid (hs.nodig hd)
    have HB := Lib.hid hb0
    clear h h0 hb0 hd hs hp
    go_enter Tryz.func83, Tryz.ntmps83
    go_wp2_with fail
    refine (between_no _ _ _ hno.out _).mono ?_
    rintro e w' ⟨⟨u, pv, rfl⟩, rfl⟩
    go_wp2_with fail
    exact ⟨rfl, by rw [HT.out]; exact ⟨_, _, rfl⟩, HB.out⟩

set_option maxHeartbeats 400000 in
theorem take_call (h : RdS w kk B rb st) (hp : st.pend = 67) (sg : Int) (c : UInt8) (hs : Sg sg c) (hl : st.rest.length ≤ 900) (hn : st.top.list.length ≤ 900) (hB : B ≤ w.heap.size) :
    Calls Tryz.prog 83 #[.pointer (some ⟨rb, 0, none⟩), .int .i32 sg] w (Done kk B rb w (st.take kk c)) := by
  have hc := h.cell1
  have hf := h.free1
  obtain ⟨h0, hb0⟩ := h.pend 0
  rw [hp] at hc
  by_cases hd : isLet c = true
  · obtain ⟨rfl, hlo, hhi⟩ := hs.let_ hd
    have HT := Lib.hid (show st.take kk c = some (St.add { st with pend := 0 } (.call c)) by
      rw [St.take, hp, if_neg (by decide), if_pos rfl, if_pos hd])
    have HA := Lib.hid (adds_plain h0 (.call c) _ (fun S => rfl) (by simpa using Nat.le_trans hl (by omega)) (by simpa using Nat.le_trans hn (by omega)) (by simp [World.setCell]; omega))
    have HB := Lib.hid hb0
    clear h h0 hb0 hd hs hp
    go_enter Tryz.func83, Tryz.ntmps83
    go_wp2_with (go_at_call 101; refine (between_yes _ _ _ (by omega) (by omega) (by omega) (by omega) _).mono ?_; rintro e w' ⟨rfl, rfl⟩)
    refine HA.out.mono ?_
    rintro e w' ⟨rfl, hR, hb⟩
    go_wp2_with fail
    go_end0
    exact ⟨by rw [HT.out]; exact ⟨rfl, hR⟩, HB.out.trans hb⟩
  · have HT := Lib.hid (show st.take kk c = none by
      rw [St.take, hp, if_neg (by decide), if_pos rfl, if_neg hd])
    have hno := Lib.hid (hs.nolet hd)
    have HB := Lib.hid hb0
    clear h h0 hb0 hd hs hp
    go_enter Tryz.func83, Tryz.ntmps83
    go_wp2_with fail
    refine (between_no _ _ _ hno.out _).mono ?_
    rintro e w' ⟨⟨u, pv, rfl⟩, rfl⟩
    go_wp2_with fail
    exact ⟨rfl, by rw [HT.out]; exact ⟨_, _, rfl⟩, HB.out⟩

set_option maxHeartbeats 400000 in
theorem take_ask (h : RdS w kk B rb st) (hp : st.pend = 63) (sg : Int) (c : UInt8) (hs : Sg sg c) (hl : st.rest.length ≤ 900) (hB : B ≤ w.heap.size) :
    Calls Tryz.prog 83 #[.pointer (some ⟨rb, 0, none⟩), .int .i32 sg] w (Done kk B rb w (st.take kk c)) := by
  have hc := h.cell1
  have hf := h.free1
  obtain ⟨h0, hb0⟩ := h.pend 0
  rw [hp] at hc
  by_cases hd : c = 91
  · have hsg : sg = 91 := by
      rcases hs with ⟨a, _⟩ | ⟨a, _⟩
      · rw [a, hd]; rfl
      · rw [hd] at a; cases a
    subst hsg
    have HT := Lib.hid (show st.take kk c = some (St.openB { st with pend := 0 } 63) by
      rw [St.take, hp, if_neg (by decide), if_neg (by decide), if_pos (by decide), if_pos hd])
    have HA := Lib.hid (push_any h0 (by simpa using hl) (by simp [World.setCell]; omega))
    have HB := Lib.hid hb0
    clear h h0 hb0 hd hs hp
    go_enter Tryz.func83, Tryz.ntmps83
    go_wp2_with (go_at_call 101; refine (between_yes _ _ _ (by omega) (by omega) (by omega) (by omega) _).mono ?_; rintro e w' ⟨rfl, rfl⟩)
    refine HA.out.mono ?_
    rintro e w' ⟨rfl, hR, hb⟩
    go_wp2_with fail
    go_end0
    exact ⟨by rw [HT.out]; exact ⟨rfl, hR⟩, HB.out.trans hb⟩
  · have HT := Lib.hid (show st.take kk c = none by
      rw [St.take, hp, if_neg (by decide), if_neg (by decide), if_pos (by decide), if_neg hd])
    have hno := Lib.hid (show sg < 91 ∨ 91 < sg by
      rcases hs with ⟨a, _⟩ | ⟨_, a⟩
      · have : c.toNat ≠ 91 := fun e => hd (UInt8.toNat.inj e)
        omega
      · omega)
    have HB := Lib.hid hb0
    clear h h0 hb0 hd hs hp
    go_enter Tryz.func83, Tryz.ntmps83
    go_wp2_with fail
    refine (between_no _ _ _ hno.out _).mono ?_
    rintro e w' ⟨⟨u, pv, rfl⟩, rfl⟩
    go_wp2_with fail
    exact ⟨rfl, by rw [HT.out]; exact ⟨_, _, rfl⟩, HB.out⟩

set_option maxHeartbeats 400000 in
theorem take_shut (h : RdS w kk B rb st) (hp : st.pend = 93) (sg : Int) (c : UInt8) (hs : Sg sg c) (hl : st.rest.length ≤ 900) (hB : B ≤ w.heap.size) :
    Calls Tryz.prog 83 #[.pointer (some ⟨rb, 0, none⟩), .int .i32 sg] w (Done kk B rb w (st.take kk c)) := by
  have hc := h.cell1
  have hf := h.free1
  obtain ⟨h0, hb0⟩ := h.pend 0
  rw [hp] at hc
  by_cases hd : c = 91
  · have hsg : sg = 91 := by
      rcases hs with ⟨a, _⟩ | ⟨a, _⟩
      · rw [a, hd]; rfl
      · rw [hd] at a; cases a
    subst hsg
    have HT := Lib.hid (show st.take kk c = some (St.openB { st with pend := 0 } 93) by
      rw [St.take, hp, if_neg (by decide), if_neg (by decide), if_pos (by decide), if_pos hd])
    have HA := Lib.hid (second_any h0 (by simpa using hl) (by simp [World.setCell]; omega))
    have HB := Lib.hid hb0
    clear h h0 hb0 hd hs hp
    go_enter Tryz.func83, Tryz.ntmps83
    go_wp2_with (go_at_call 101; refine (between_yes _ _ _ (by omega) (by omega) (by omega) (by omega) _).mono ?_; rintro e w' ⟨rfl, rfl⟩)
    refine HA.out.mono ?_
    rintro e w' ⟨rfl, hR, hb⟩
    go_wp2_with fail
    go_end0
    exact ⟨by rw [HT.out]; exact ⟨rfl, hR⟩, HB.out.trans hb⟩
  · have HT := Lib.hid (show st.take kk c = none by
      rw [St.take, hp, if_neg (by decide), if_neg (by decide), if_pos (by decide), if_neg hd])
    have hno := Lib.hid (show sg < 91 ∨ 91 < sg by
      rcases hs with ⟨a, _⟩ | ⟨_, a⟩
      · have : c.toNat ≠ 91 := fun e => hd (UInt8.toNat.inj e)
        omega
      · omega)
    have HB := Lib.hid hb0
    clear h h0 hb0 hd hs hp
    go_enter Tryz.func83, Tryz.ntmps83
    go_wp2_with fail
    refine (between_no _ _ _ hno.out _).mono ?_
    rintro e w' ⟨⟨u, pv, rfl⟩, rfl⟩
    go_wp2_with fail
    exact ⟨rfl, by rw [HT.out]; exact ⟨_, _, rfl⟩, HB.out⟩

set_option maxHeartbeats 400000 in
theorem take_zero (h : RdS w kk B rb st) (hp : st.pend = 0) (sg : Int) (c : UInt8) (hs : Sg sg c) (hl : st.rest.length ≤ 900) (hn : st.top.list.length ≤ 900) (hr : ∀ u ∈ st.rest, u.list.length ≤ 1000) (hB : B ≤ w.heap.size) :
    Calls Tryz.prog 83 #[.pointer (some ⟨rb, 0, none⟩), .int .i32 sg] w (Done kk B rb w (st.take kk c)) := by
  have hc := h.cell1
  have hf := h.free1
  obtain ⟨h0, hb0⟩ := h.pend 0
  rw [hp] at hc
  have est : ({ st with pend := 0 } : St) = st := by cases st; simp at hp; simp [hp]
  have HT := Lib.hid (show st.take kk c = st.begin kk c by
    rw [St.take, hp, if_neg (by decide), if_neg (by decide), if_neg (by decide), est])
  have HA := Lib.hid (begin_any h0 rfl sg c hs (by simpa using hl) (by simpa using Nat.le_trans hn (by omega)) (by simpa using hr) (by simp [World.setCell]; omega))
  rw [est] at HA
  have HB := Lib.hid hb0
  clear h h0 hb0 hs hp hr est
  cases hbe : st.begin kk c with
  | none =>
    rw [hbe] at HA HT
    clear hbe
    go_enter Tryz.func83, Tryz.ntmps83
    go_wp2_with fail
    refine HA.out.mono ?_
    rintro e w' ⟨⟨u, pv, rfl⟩, hb⟩
    go_wp2_with fail
    exact ⟨rfl, by rw [HT.out]; exact ⟨_, _, rfl⟩, HB.out.trans hb⟩
  | some st' =>
    rw [hbe] at HA HT
    clear hbe
    go_enter Tryz.func83, Tryz.ntmps83
    go_wp2_with fail
    refine HA.out.mono ?_
    rintro e w' ⟨⟨rfl, hR⟩, hb⟩
    go_wp2_with fail
    go_end0
    exact ⟨by rw [HT.out]; exact ⟨rfl, hR⟩, HB.out.trans hb⟩

theorem take_any (h : RdS w kk B rb st) (hok : st.ok kk) (sg : Int) (c : UInt8) (hs : Sg sg c) (hl : st.rest.length ≤ 900) (hn : st.top.list.length ≤ 900) (hr : ∀ u ∈ st.rest, u.list.length ≤ 1000) (hB : B ≤ w.heap.size) :
    Calls Tryz.prog 83 #[.pointer (some ⟨rb, 0, none⟩), .int .i32 sg] w (Done kk B rb w (st.take kk c)) := by
  rcases hok.sign with hp | hp | hp | hp | hp
  · exact take_zero h hp sg c hs hl hn hr hB
  · simp [isSgn] at hp
    rcases hp with (hp | hp) | hp
    · exact take_sgn43 h hp sg c hs hl hn hB
    · exact take_sgn45 h hp sg c hs hl hn hB
    · exact take_sgn42 h hp sg c hs hl hn hB
  · exact take_call h hp sg c hs hl hn hB
  · exact take_ask h hp sg c hs hl hB
  · exact take_shut h hp sg c hs hl hB
end
end Go.Proofs.YtkdnbdgpcgookaaGreatDoor
