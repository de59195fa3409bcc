/- What the law FnActive asks of a run: what must be active at a join point is, and what is may be. Plain lemmas; no walk. The model's DrawJoinPointsOf; the laws' wvIn: whether a byte is in a text. Condition: texts of at most 2^40 bytes. The last one that is active, as a text. Plain lemmas. The law FnActive answers true whatever bytes it is given. Condition: the library's own number can be read. -/
import Derived.Test.YtihjkkoaccmefaaGreatDoorHx
import Derived.Test.YtihjkkoaccmefaaGreatDoorQx
import Derived.Test.YtihjkkoaccmefaaGreatDoorJx
import Derived.Test.YtihjkkoaccmefaaGreatDoorNx
import Derived.Test.YtihjkkoaccmefaaGreatDoorUx
namespace Go.Proofs.YtihjkkoaccmefaaGreatDoor
open Go.RowKit Gram

theorem at_mem {P : UInt8 → Prop} {l : List UInt8} (h : AT P l) (y : UInt8) : y ∈ l ↔ P y := by
  obtain ⟨re, h1, rfl, h2⟩ := h
  rw [mem_upTo h1, h2]
theorem at_len {P : UInt8 → Prop} {l : List UInt8} (h : AT P l) : l.length ≤ 26 := by
  obtain ⟨re, _, rfl, _⟩ := h
  exact setText_len re
/-- what is active, as a way of calls -/
structure OnWay (C : UInt8 → UInt8 → Prop) (c : UInt8) (stk : List UInt8) : Prop where
  past : ∀ W : List UInt8, (∀ y ∈ stk, y ∉ W) → LeadTo C W c (topOf stk)
  each : ∀ y ∈ stk, Way C c y ∧ Way C y (topOf stk)
theorem OnWay.one (C : UInt8 → UInt8 → Prop) (c : UInt8) : OnWay C c [c] :=
  ⟨fun W h => ⟨h c (by simp), .here⟩, fun y hy => by rw [List.mem_singleton.1 hy]; exact ⟨.here, .here⟩⟩
theorem OnWay.snoc {C : UInt8 → UInt8 → Prop} {c d : UInt8} {stk : List UInt8} (h : OnWay C c stk) (hne : topOf stk ∈ stk) (hd : C (topOf stk) d) : OnWay C c (stk ++ [d]) := by
  refine ⟨fun W hW => ?_, fun y hy => ?_⟩
  · rw [top_enter]
    obtain ⟨h1, h2⟩ := h.past W fun y hy => hW y (List.mem_append_left _ hy)
    exact ⟨hW d (by simp), .next h2 ⟨h1, hd⟩⟩
  · rw [top_enter]
    rcases List.mem_append.1 hy with hy | hy
    · obtain ⟨h1, h2⟩ := h.each y hy
      exact ⟨h1, .next h2 hd⟩
    · rw [List.mem_singleton.1 hy]
      exact ⟨.next (h.each _ hne).1 hd, .here⟩
theorem top_mem {l : List UInt8} (h : 1 ≤ l.length) : topOf l ∈ l := by
  rcases List.eq_nil_or_concat l with hn | ⟨t, x, hx⟩
  · rw [hn] at h; simp at h
  · rw [hx, List.concat_eq_append, top_enter]; simp
theorem run_onway {s nm : ByteArray} {v : Int} {r : Mst × Option Fin} (h : runP s nm v = some r) : ∃ p, lookP s nm = some p ∧ ∀ k (hk : k < r.1.pts.length), OnWay (stepOf s) p.1 r.1.pts[k].stk := by
  have hsh := (run_shadow h).2
  unfold runP at h
  cases hp : progOf s with
  | none => rw [hp] at h; cases h
  | some ps =>
    cases hl : lookP s nm with
    | none => rw [hp, hl] at h; cases h
    | some p =>
      rw [hp, hl] at h
      dsimp only at h
      split at h
      · injection h with h
        obtain ⟨k1, k2, k3, k4, k5, k6⟩ := run_leads (bodyP ps) p.1 v
        rw [h] at k1 k2 k3
        have hstep : ∀ x y, y ∈ callsIn (bodyP ps x) → stepOf s x y := by
          intro x y hy
          cases hf : ps.find? (fun q => q.1 == x) with
          | none => rw [bodyP, hf] at hy; simp [callsIn] at hy
          | some q =>
            have hd : q.1 = x := by simpa using List.find?_some hf
            have hlx : isLet x = true := by rw [← hd]; exact ((prog_facts hp).2.1 q (List.mem_of_find?_eq_some hf)).2.2.2
            have hn : nameOf (txtOf [x]).data.toList = some x := by rw [txtOf_data, nameOf, if_pos hlx]
            refine ⟨q, ?_, by rw [bodyP, hf] at hy; exact hy⟩
            unfold lookP
            rw [hp, hn]
            exact hf
        refine ⟨p, rfl, ?_⟩
        intro k
        induction k using Nat.strongRecOn with
        | _ k ih =>
          intro hk
          rcases k3 k hk with h3 | ⟨j, hj, c, hc, hs⟩
          · have hh := k1 _ (List.getElem_mem hk)
            cases hsk : r.1.pts[k].stk with
            | nil => rw [hsk] at hh; cases hh
            | cons a t =>
              rw [hsk] at hh h3
              injection hh with hh
              subst hh
              cases t with
              | nil => exact OnWay.one _ _
              | cons _ _ => simp at h3
          · obtain ⟨i, hi, hij⟩ := List.mem_iff_getElem.1 hj
            have hik : i < k := by rw [List.length_take] at hi; omega
            have hil : i < r.1.pts.length := by omega
            have hji : r.1.pts[i] = j := by rw [← hij, List.getElem_take]
            have h4 := ih i hik hil
            rw [hji] at h4
            have hjm : j ∈ r.1.pts := by rw [← hji]; exact List.getElem_mem hil
            rw [hs]
            exact h4.snoc (top_mem (hsh j hjm).1) (hstep _ _ (k2 j hjm c hc))
      · cases h

/-- at a join point: what must be active is, and what is active may be -/
theorem act_facts {s nm : ByteArray} {v : Int} {r : Mst × Option Fin} (h : runP s nm v = some r) (j : Jpt) (hj : j ∈ r.1.pts) :
    (∀ y, MustOf s nm (txtOf [topOf j.stk]) y → y ∈ j.stk) ∧ ∀ y ∈ j.stk, MayOf s nm (txtOf [topOf j.stk]) y := by
  obtain ⟨p, hl, hw⟩ := run_onway h
  obtain ⟨k, hk, rfl⟩ := List.mem_iff_getElem.1 hj
  have h1 := hw k hk
  have h2 := top_mem ((run_shadow h).2 _ hj).1
  have h3 := (look_nm hl).2.2
  obtain ⟨q, hq, hq1⟩ := name_look (way_name h3 (h1.each _ h2).1)
  constructor
  · rintro y ⟨hy, p', q', e1, e2, _, hno⟩
    rw [hl] at e1; rw [hq] at e2
    injection e1 with e1; injection e2 with e2
    subst e1; subst e2
    apply Classical.byContradiction
    intro hn
    apply hno
    rw [hq1]
    exact h1.past [y] fun z hz hzy => hn (by rw [List.mem_singleton.1 hzy] at hz; exact hz)
  · intro y hy
    obtain ⟨h4, h5⟩ := h1.each y hy
    exact ⟨way_name h3 h4, p, q, hl, hq, h4, by rw [hq1]; exact h5⟩

/-- the first one and the last one must be -/
theorem ends_must {s st wi : ByteArray} {p q : Pr} (h1 : lookP s st = some p) (h2 : lookP s wi = some q) (h : Way (stepOf s) p.1 q.1) : MustOf s st wi p.1 ∧ MustOf s st wi q.1 := by
  have h3 := (look_nm h1).2.2
  refine ⟨⟨h3, p, q, h1, h2, h, ?_⟩, ⟨way_name h3 h, p, q, h1, h2, h, fun hl => hl.1 (by simp)⟩⟩
  rintro ⟨h4, h5⟩
  have key : ∀ y, Way (Past [p.1] (stepOf s)) p.1 y → y = p.1 := by
    intro y hy
    induction hy with
    | here => rfl
    | next _ hc ih => subst ih; exact absurd (by simp) hc.1
  exact h4 (by rw [key _ h5]; simp)
/-- what FnActive asks of three texts -/
structure ActT (s st wi : ByteArray) (Y M : List UInt8) : Prop where
  sub : ∀ y ∈ M, y ∈ Y
  nil : Y = [] ↔ M = []
  ends : Y ≠ [] → ∃ c d, st = txtOf [c] ∧ wi = txtOf [d] ∧ c ∈ M ∧ d ∈ M
theorem act_t {s st wi : ByteArray} {Y M : List UInt8} (hY : AT (MayOf s st wi) Y) (hM : AT (MustOf s st wi) M) : ActT s st wi Y M := by
  have hmust : Y ≠ [] → ∃ c d, st = txtOf [c] ∧ wi = txtOf [d] ∧ c ∈ M ∧ d ∈ M := by
    intro hne
    obtain ⟨y, hy⟩ := List.exists_mem_of_ne_nil _ hne
    obtain ⟨p, q, h1, h2, h3⟩ := ((at_mem hY y).1 hy).run
    obtain ⟨h4, h5⟩ := ends_must h1 h2 h3
    exact ⟨p.1, q.1, (look_nm h1).1, (look_nm h2).1, (at_mem hM _).2 h4, (at_mem hM _).2 h5⟩
  refine ⟨fun y hy => (at_mem hY y).2 ((at_mem hM y).1 hy).may, ⟨?_, ?_⟩, hmust⟩
  · rintro rfl
    apply List.eq_nil_iff_forall_not_mem.2
    intro y hy
    have := (at_mem hY y).2 ((at_mem hM y).1 hy).may
    simp at this
  · intro hm
    apply Classical.byContradiction
    intro hne
    obtain ⟨c, d, _, _, h1, _⟩ := hmust hne
    rw [hm] at h1; simp at h1
end Go.Proofs.YtihjkkoaccmefaaGreatDoor
namespace Go.Proofs.YtihjkkoaccmefaaGreatDoor
open Go.RowKit Gram

set_option maxHeartbeats 1000000 in
theorem drawJps_any (w : World) (a : Option Addr) (n c : Nat) (h : BytesAt w a n) (hn : n ≤ c) (hc : c ≤ 9223372036854775807) (hnil : a = none → n = 0) :
    Calls Tryz.prog 5 #[.slice a n c] w fun e w' => (∃ (s t : ByteArray) (v : Int), e = .returned (.tuple #[.string s, .string t, .int .i64 v]) ∧ s.size ≤ 2000 ∧ t.size ≤ 2 ∧ -9223372036854775808 ≤ v ∧ v ≤ 9223372036854775807) ∧ Below w.heap.size w w' := by
  have H := Lib.hid (open_any w a n c h hn hc hnil)
  clear h hnil
  go_enter Tryz.func5, Tryz.ntmps5
  go_wp2_with fail
  refine H.out.mono ?_
  rintro e w1 ⟨m, rfl, hr, hb⟩
  have HR := Lib.hid hr
  have HB := Lib.hid hb
  clear hr hb
  go_wp2_with fail
  refine (some_any _ w.heap.size a m c 0 HR.out (by omega)).mono ?_
  rintro e w2 ⟨s, t, v, q, rfl, hs, ht, hv1, hv2, hq, hr2, hg2⟩
  have HG2 := Lib.hid hg2
  clear hr2 hg2
  go_wp2_with fail
  go_ret3
  exact ⟨⟨s, t, v, rfl, hs, ht, hv1, hv2⟩, grown_new HB.out HG2.out⟩

set_option maxHeartbeats 400000 in
theorem wvIn_any (s : ByteArray) (c : UInt8) (hs : s.size ≤ 1099511627776) (w : World) :
    Calls Tryz.prog 12 #[.string s, .int .u8 c.toNat] w fun e w' => e = .returned (.bool (s.data.toList.contains c)) ∧ w = w' := by
  have H := Lib.hid (findI_has s.data.toList c)
  go_enter Tryz.func12, Tryz.ntmps12
  go_wp2_with fail
  go_loopw [8] (fun i wr => ∃ k : Nat, k ≤ s.size ∧ i = .int .i64 k ∧ Hid (∀ j (hj : j < s.data.toList.length), j < k → s.data.toList[j] ≠ c) ∧ w = wr) (fun i _ => s.size - (intOf i).toNat)
  case atStart => exact ⟨0, Nat.zero_le _, by go_num, fun j _ h => absurd h (Nat.not_lt_zero _), rfl⟩
  case round =>
    obtain ⟨k, hk, rfl, hno, rfl⟩ := hrel
    by_cases hlt : k < s.size
    · have hbq := Lib.hid (toNat_beq s[k] c)
      cases hb : ((s[k].toNat : Int) == (c.toNat : Int)) with
      | true =>
        have HY := Lib.hid (show s.data.toList.contains c = true by
          rw [hbq.out] at hb
          have e1 : s.data[k]'hlt = c := beq_iff_eq.1 hb
          rw [List.contains_iff_mem, ← e1]; simp)
        go_wp2_with fail
        go_ret
        exact ⟨by rw [HY.out]; rfl, rfl⟩
      | false =>
        have HY := Lib.hid (show s.data[k]'hlt ≠ c by
          rw [hbq.out] at hb
          exact beq_eq_false_iff_ne.1 hb)
        go_wp2_with fail
        go_roundw
        case rel =>
          refine ⟨k + 1, by omega, by go_num, fun j hj hlj => ?_, by first | rfl | trivial⟩
          by_cases h9 : j = k
          · subst h9; simpa using HY.out
          · exact hno.out j hj (by omega)
        case measure => simp [intOf]; omega
    · have HY := Lib.hid (show s.data.toList.contains c = false by
        rw [← H.out, decide_eq_false_iff_not, findI_none _ _ (fun j hj => hno.out j hj (by simp at hj; omega))]; decide)
      go_wp2_with fail
      go_ret
      exact ⟨by rw [HY.out]; rfl, rfl⟩
end Go.Proofs.YtihjkkoaccmefaaGreatDoor
namespace Go.Proofs.YtihjkkoaccmefaaGreatDoor
open Go.RowKit Gram

theorem last_stk {l : List UInt8} (h : 1 ≤ l.length) : (txtOf l).extract ((txtOf l).size - 1) (txtOf l).size = txtOf [topOf l] := by
  rw [show (txtOf l).size = l.length from txtOf_size _]
  apply ByteArray.ext
  apply Array.ext'
  obtain ⟨t, x, hs⟩ : ∃ t x, l = t ++ [x] := by
    rcases List.eq_nil_or_concat l with hn | ⟨t, x, hx⟩
    · rw [hn] at h; simp at h
    · exact ⟨t, x, by rw [hx]; simp⟩
  rw [hs, top_enter]
  simp [txtOf]
theorem last_stk2 {j : Jpt} (h : 1 ≤ j.stk.length) : (sT j).extract ((sT j).size - 1) (sT j).size = txtOf [topOf j.stk] := last_stk h
end Go.Proofs.YtihjkkoaccmefaaGreatDoor
namespace Go.Proofs.YtihjkkoaccmefaaGreatDoor
open Go.RowKit Gram

set_option maxHeartbeats 1000000 in
theorem pair_any (w : World) (rb : Nat) (a : Option Addr) (n c p : Nat) (h : Rdr w rb a n c p) (hp : p ≤ 60000) :
    Calls Tryz.prog 28 #[.pointer (some ⟨rb, 0, none⟩)] w fun e w' => (∃ (s t u : ByteArray), e = .returned (.tuple #[.string s, .string t, .string u]) ∧ s.size ≤ 2000 ∧ t.size ≤ 2 ∧ u.size ≤ 2) ∧ w.grownBy w' (some rb) := by
  have H := Lib.hid h
  clear h
  go_enter Tryz.func28, Tryz.ntmps28
  go_wp2_with fail
  refine (some_any _ rb a n c p H.out hp).mono ?_
  rintro e w1 ⟨s, t, v, q, rfl, hs, ht, hv1, hv2, hq, hr2, hg2⟩
  have HR := Lib.hid hr2
  have HG := Lib.hid hg2
  clear hr2 hg2
  go_wp2_with fail
  refine (name_any _ rb a n c q HR.out (by omega)).mono ?_
  rintro e w2 ⟨u, q2, rfl, hu, hq2, hr3, hg3⟩
  have HG3 := Lib.hid hg3
  clear hr3 hg3
  go_wp2_with fail
  go_ret3
  exact ⟨⟨s, t, u, rfl, hs, ht, hu⟩, HG.out.andThen HG3.out (fun j hj => .inr hj)⟩

set_option maxHeartbeats 1000000 in
theorem drawMay_any (w : World) (a : Option Addr) (n c : Nat) (h : BytesAt w a n) (hn : n ≤ c) (hc : c ≤ 9223372036854775807) (hnil : a = none → n = 0) :
    Calls Tryz.prog 13 #[.slice a n c] w fun e w' => (∃ (s t u : ByteArray), e = .returned (.tuple #[.string s, .string t, .string u]) ∧ s.size ≤ 2000 ∧ t.size ≤ 2 ∧ u.size ≤ 2) ∧ Below w.heap.size w w' := by
  have H := Lib.hid (open_any w a n c h hn hc hnil)
  clear h hnil
  go_enter Tryz.func13, Tryz.ntmps13
  go_wp2_with fail
  refine H.out.mono ?_
  rintro e w1 ⟨m, rfl, hr, hb⟩
  have HR := Lib.hid hr
  have HB := Lib.hid hb
  clear hr hb
  go_wp2_with fail
  refine (pair_any _ w.heap.size a m c 0 HR.out (by omega)).mono ?_
  rintro e w2 ⟨⟨s, t, u, rfl, hs, ht, hu⟩, hg2⟩
  have HG2 := Lib.hid hg2
  clear hg2
  go_wp2_with fail
  go_ret3
  exact ⟨⟨s, t, u, rfl, hs, ht, hu⟩, grown_new HB.out HG2.out⟩

theorem list_at {s : ByteArray} {l : List UInt8} (h : s.data.toList = l) (k : Nat) (hk : k < l.length) (hk2 : k < s.size) : s[k]'hk2 = l[k] := by subst h; rfl
theorem bytes_later {w w' : World} {a : Option Addr} {n : Nat} (h : BytesAt w a n) (hb : Below w.heap.size w w') : BytesAt w' a n := fun k hk => by
  obtain ⟨g, off, ha, b, hc⟩ := h k hk
  exact ⟨g, off, ha, b, by rw [hb.cell (p := ⟨g, off + k, none⟩) (World.block_lt_of_cell? w _ hc)]; exact hc⟩

set_option maxHeartbeats 400000 in
set_option maxRecDepth 100000 in
theorem acl_long1 (w : World) (a b : Option Addr) (n c m d : Nat) (hl : 1048576 < n) (hnc : n ≤ c) (hc : c ≤ 9223372036854775807) :
    Calls Tryz.prog 4 #[.slice a n c, .slice b m d] w fun e w' => e = .returned (.bool true) ∧ Below w.heap.size w w' := by
  go_enter Tryz.func4, Tryz.ntmps4
  go_wp2_with fail
  go_ret
  exact ⟨rfl, Below.refl _ _⟩
set_option maxHeartbeats 400000 in
set_option maxRecDepth 100000 in
theorem acl_long2 (w : World) (a b : Option Addr) (n c m d : Nat) (hs : n ≤ 1048576) (hl : 1048576 < m) (hmd : m ≤ d) (hd : d ≤ 9223372036854775807) :
    Calls Tryz.prog 4 #[.slice a n c, .slice b m d] w fun e w' => e = .returned (.bool true) ∧ Below w.heap.size w w' := by
  go_enter Tryz.func4, Tryz.ntmps4
  go_wp2_with fail
  go_ret
  exact ⟨rfl, Below.refl _ _⟩

set_option maxHeartbeats 8000000 in
set_option maxRecDepth 100000 in
theorem acl_short (w : World) (a b : Option Addr) (n0 c m0 d : Nat) (h : BytesAt w a n0) (hn : n0 ≤ 1048576) (hnc : n0 ≤ c) (hc : c ≤ 9223372036854775807) (hnil : a = none → n0 = 0)
    (h2 : BytesAt w b m0) (hn2 : m0 ≤ 1048576) (hmd : m0 ≤ d) (hd : d ≤ 9223372036854775807) (hnil2 : b = none → m0 = 0) (hm : MaxCell w) :
    Calls Tryz.prog 4 #[.slice a n0 c, .slice b m0 d] w fun e w' => e = .returned (.bool true) ∧ Below w.heap.size w w' := by
  have HD := Lib.hid (drawJps_any w a n0 c h hnc hc hnil)
  have HE := Lib.hid (fun w' (hb : Below w.heap.size w w') => drawMay_any w' b m0 d (bytes_later h2 hb) hmd hd hnil2)
  have HM := Lib.hid hm
  have hg1 : decide ((1048576 : Int) < (n0 : Int)) = false := by rw [decide_eq_false_iff_not]; omega
  have hg2 : decide ((1048576 : Int) < (m0 : Int)) = false := by rw [decide_eq_false_iff_not]; omega
  clear h hnil h2 hnil2 hm
  go_enter Tryz.func4, Tryz.ntmps4
  go_wp2_with fail
  refine HD.out.mono ?_
  rintro e w0 ⟨⟨s, nm, v, rfl, hs, hnm, hv1, hv2⟩, b0⟩
  have B0 := Lib.hid b0
  have HJ := Lib.hid (fun w => impl_pts s nm v w (by omega))
  have HMa := Lib.hid (fun wi w => impl_may s nm wi w (by omega))
  have HMu := Lib.hid (fun wi w => impl_must s nm wi w (by omega))
  have hpt : (ptsP (runP s nm v)).length ≤ 501 ∧ ∀ j ∈ ptsP (runP s nm v), 1 ≤ j.stk.length ∧ j.stk.length ≤ 20 ∧ (∀ y, MustOf s nm (txtOf [topOf j.stk]) y → y ∈ j.stk) ∧ ∀ y ∈ j.stk, MayOf s nm (txtOf [topOf j.stk]) y := by
    cases hr : runP s nm v with
    | none => exact ⟨by simp [ptsP], fun j hj => by simp [ptsP] at hj⟩
    | some r =>
      obtain ⟨h1, h2⟩ := run_shadow hr
      exact ⟨h1, fun j hj => ⟨(h2 j hj).1, (h2 j hj).2.1, act_facts hr j hj⟩⟩
  unfold PtsTo at HJ
  have HPt := Lib.hid hpt
  have hm501 := hpt.1
  clear b0 HD hs hnm hv1 hv2 hpt
  generalize (runP s nm v).isSome = ok at *
  generalize ptsP (runP s nm v) = js at *
  generalize hml : js.length = m at *
  have HMl := Lib.hid hml
  clear hml
  go_wp2_with fail
  refine (HJ.out _ (HM.out.later B0.out)).mono ?_
  rintro e w3 ⟨⟨a3, c3, rfl, q3⟩, b3⟩
  have R3 := Lib.hid q3
  have B3 := Lib.hid (B0.out.trans (b3.mono B0.out.size))
  clear b3 q3
  go_wp2_with fail
  have HC3 := Lib.hid (fun (wr : World) (hb : Below w3.heap.size w3 wr) (k : Nat) (hk : k < m) => jrow_cell (js := js) (c := c3) (T := 33) (a := a3) (B := w0.heap.size) (w := wr) (by have := row_up R3.out hb; rw [← HMl.out] at this; exact this) k (by rw [HMl.out]; exact hk))
  clear R3
  go_loopw [46] (fun i wr => ∃ k : Nat, k ≤ m ∧ i = .int .i64 k ∧ Hid (Below w3.heap.size w3 wr)) (fun i _ => m - (intOf i).toNat)
  case atStart => exact ⟨0, Nat.zero_le _, by go_num, Below.refl _ _⟩
  case round =>
    obtain ⟨kk, hkk, rfl, hbb⟩ := hrel
    obtain ⟨wj, hwj⟩ : ∃ x, x = wr := ⟨_, rfl⟩
    subst hwj
    by_cases hlm : kk < m
    · obtain ⟨g, ha3, d0, d1, d2⟩ := HC3.out wj hbb.out kk hlm
      subst ha3
      have hkl : kk < js.length := by rw [HMl.out]; exact hlm
      obtain ⟨j1, j2, j3, j4⟩ := HPt.out.2 js[kk] (List.getElem_mem hkl)
      have hlast2 : (sT js[kk]).extract ((sT js[kk]).size - 1) (sT js[kk]).size = txtOf [topOf js[kk].stk] := last_stk2 j1
      have hsz : (sT js[kk]).size = js[kk].stk.length := txtOf_size _
      have hsd : (sT js[kk]).data.toList = js[kk].stk := rfl
      have H3 := Lib.hid j3
      have H4 := Lib.hid j4
      clear j3 j4
      generalize txtOf [topOf js[kk].stk] = lt at *
      generalize kT js[kk] = kd at *
      generalize nT js[kk] = nd at *
      generalize sT js[kk] = sd at *
      generalize js[kk].stk = stk at *
      have hs1 : 1 ≤ sd.size := by omega
      have hs20 : sd.size ≤ 20 := by omega
      have e1 : IntKind.i64.wrap ((sd.size : Int) - 1) = ((sd.size - 1 : Nat) : Int) := by rw [IntWalk.i64_in _ (by omega)]; omega
      have hsi : (1 : Int) ≤ sd.size := by omega
      have HSz := Lib.hid hsz
      have HSd := Lib.hid hsd
      clear hsz hsd
      have HA := Lib.hid ((Below.refl wj.heap.size wj).alloc (Nat.le_refl _) (Obj.cells #[.string kd, .string nd, .string sd] 33))
      have HAw := Lib.hid (hbb.out.trans (HA.out.mono hbb.out.size))
      have HJb := Lib.hid (heap_alloc_new wj (Obj.cells #[.string kd, .string nd, .string sd] 33))
      by_cases h60 : 60 < kk
      · have HBt := Lib.hid (B3.out.trans (HAw.out.mono B3.out.size))
        clear hs1 hs20 e1 hsi hlast2
        go_wp2_with fail
        refine (HE.out _ HBt.out).mono ?_
        rintro e wa ⟨⟨s2, st, wi, rfl, hs2, hst2, hwi2⟩, ba⟩
        have BA := Lib.hid (HBt.out.trans (ba.mono HBt.out.size))
        have TI := Lib.hid (fun w => impl_may s2 st wi w (by omega))
        have TU := Lib.hid (fun w => impl_must s2 st wi w (by omega))
        have SI := Lib.hid (fun w => spec_may s2 st wi w (by omega))
        have SU := Lib.hid (fun w => spec_must s2 st wi w (by omega))
        clear ba hs2
        go_wp2_with fail
        refine (TI.out _ (HM.out.later BA.out)).mono ?_
        rintro e wb ⟨⟨Y, hY, rfl⟩, bb⟩
        have BB := Lib.hid (BA.out.trans (bb.mono BA.out.size))
        have HY := Lib.hid hY
        clear bb hY
        go_wp2_with fail
        refine (TU.out _ (HM.out.later BB.out)).mono ?_
        rintro e wc ⟨⟨M, hM, rfl⟩, bc⟩
        have BC := Lib.hid (BB.out.trans (bc.mono BB.out.size))
        have HMm := Lib.hid hM
        have hact := act_t HY.out hM
        have HAct := Lib.hid hact
        have hml26 := at_len hM
        have hyl26 := at_len HY.out
        clear bc hM hact TI TU
        have hmz : (txtOf M).size = M.length := rfl
        have hyz : (txtOf Y).size = Y.length := rfl
        have HWv := Lib.hid (fun c (hc : c ∈ Y) w => wvIn_any (txtOf Y) c (by rw [hyz]; omega) w)
        have HWm := Lib.hid (fun c (hc : c ∈ M) w => wvIn_any (txtOf M) c (by rw [hmz]; omega) w)
        rw [show (txtOf Y).data.toList = Y from rfl] at HWv
        rw [show (txtOf M).data.toList = M from rfl] at HWm
        have hMat : ∀ k (hk : k < M.length), (txtOf M)[k]'(by rw [hmz]; exact hk) = M[k] := fun k hk => rfl
        have HMat := Lib.hid hMat
        have hYe : (txtOf Y).toList.isEmpty = Y.isEmpty := by rw [ByteArray.toList_eq]; rfl
        have hMe : (txtOf M).toList.isEmpty = M.isEmpty := by rw [ByteArray.toList_eq]; rfl
        clear hMat
        generalize htm : txtOf M = tm at *
        generalize hty : txtOf Y = ty at *
        have HTm := Lib.hid htm
        have HTy := Lib.hid hty
        clear htm hty
        go_wp2_with fail
        go_loopw [112] (fun i wr => ∃ k : Nat, k ≤ M.length ∧ i = .int .i64 k ∧ wr = wc) (fun i _ => M.length - (intOf i).toNat)
        case atStart => exact ⟨0, Nat.zero_le _, by go_num, by first | rfl | trivial⟩
        case round =>
          obtain ⟨k4, hk4, rfl, rfl⟩ := hrel
          by_cases hl4 : k4 < M.length
          · have hidx := HMat.out k4 hl4
            have hin := HAct.out.sub _ (List.getElem_mem hl4)
            have HW := Lib.hid (HWv.out M[k4] hin)
            rw [List.contains_iff_mem.2 hin] at HW
            generalize M[k4] = c4 at *
            clear hin
            go_wp2_with fail
            refine (HW.out _).mono ?_
            rintro e w7 ⟨rfl, rfl⟩
            go_wp2_with fail
            go_roundw
            case rel => exact ⟨k4 + 1, by omega, by go_num, by first | rfl | trivial⟩
            case measure => simp [intOf]; omega
          · clear HMat
            by_cases hYn : Y = []
            · have hMn := HAct.out.nil.1 hYn
              have y1 : ty.toList.isEmpty = true := by rw [hYe, hYn]; rfl
              have m1 : tm.toList.isEmpty = true := by rw [hMe, hMn]; rfl
              have yy : (ty.toList == ty.toList) = true := by simp
              have mm : (tm.toList == tm.toList) = true := by simp
              clear hYe hMe hYn hMn
              go_wp2_with fail
              refine (SI.out _).mono ?_
              rintro e w8 ⟨⟨Y2, hY2, rfl⟩, b8⟩
              have B8 := Lib.hid (BC.out.trans (b8.mono BC.out.size))
              have hyy := hY2.same HY.out
              subst hyy
              rw [HTy.out]
              clear b8 hY2
              go_wp2_with fail
              refine (SU.out _).mono ?_
              rintro e w9 ⟨⟨M2, hM2, rfl⟩, b9⟩
              have B9 := Lib.hid (B8.out.trans (b9.mono B8.out.size))
              have hmm := hM2.same HMm.out
              subst hmm
              rw [HTm.out]
              clear b9 hM2
              go_wp2_with fail
              go_ret
              exact ⟨rfl, B9.out⟩
            · obtain ⟨ec, ed, hst, hwi, hcM, hdM⟩ := HAct.out.ends hYn
              have hMn : M ≠ [] := fun h => hYn (HAct.out.nil.2 h)
              have y1 : ty.toList.isEmpty = false := by rw [hYe]; cases Y with | nil => exact absurd rfl hYn | cons _ _ => rfl
              have m1 : tm.toList.isEmpty = false := by rw [hMe]; cases M with | nil => exact absurd rfl hMn | cons _ _ => rfl
              have yy : (ty.toList == ty.toList) = true := by simp
              have mm : (tm.toList == tm.toList) = true := by simp
              have W1 := Lib.hid (HWm.out ec hcM)
              have W2 := Lib.hid (HWm.out ed hdM)
              rw [List.contains_iff_mem.2 hcM] at W1
              rw [List.contains_iff_mem.2 hdM] at W2
              have z1 : st.size = 1 := by rw [hst]; rfl
              have z2 : wi.size = 1 := by rw [hwi]; rfl
              have i1 : st[0]'(by omega) = ec := by subst hst; rfl
              have i2 : wi[0]'(by omega) = ed := by subst hwi; rfl
              have p1 : 0 < st.size := by omega
              have p2 : 0 < wi.size := by omega
              clear hYe hMe hYn hMn hst hwi hcM hdM
              go_wp2_with fail
              refine (SI.out _).mono ?_
              rintro e w8 ⟨⟨Y2, hY2, rfl⟩, b8⟩
              have B8 := Lib.hid (BC.out.trans (b8.mono BC.out.size))
              have hyy := hY2.same HY.out
              subst hyy
              rw [HTy.out]
              clear b8 hY2
              go_wp2_with fail
              refine (SU.out _).mono ?_
              rintro e w9 ⟨⟨M2, hM2, rfl⟩, b9⟩
              have B9 := Lib.hid (B8.out.trans (b9.mono B8.out.size))
              have hmm := hM2.same HMm.out
              subst hmm
              rw [HTm.out]
              clear b9 hM2
              go_wp2_with fail
              refine (W1.out _).mono ?_
              rintro e w10 ⟨rfl, rfl⟩
              go_wp2_with fail
              refine (W2.out _).mono ?_
              rintro e w11 ⟨rfl, rfl⟩
              go_wp2_with fail
              go_ret
              exact ⟨rfl, B9.out⟩
      · have q2 : (wj.alloc (Obj.cells #[.string kd, .string nd, .string sd] 33)).cell? ⟨wj.heap.size, 2, none⟩ = some (.string sd) := by rw [Lib.cell_of_heap HJb.out]; rfl
        have HBt := Lib.hid (B3.out.trans (HAw.out.mono B3.out.size))
        go_wp2_with fail
        refine (HMu.out lt _ (HM.out.later HBt.out)).mono ?_
        rintro e wx ⟨⟨M, hM, rfl⟩, bx⟩
        have BX := Lib.hid (HBt.out.trans (bx.mono HBt.out.size))
        have BXa := Lib.hid bx
        have HMm := Lib.hid hM
        have hml26 := at_len hM
        clear bx hM
        go_wp2_with fail
        refine (HMa.out lt _ (HM.out.later BX.out)).mono ?_
        rintro e wy ⟨⟨Y, hY, rfl⟩, byy⟩
        have BYa := Lib.hid (BXa.out.trans (byy.mono BXa.out.size))
        have HYy := Lib.hid hY
        have hyl26 := at_len hY
        clear byy hY q2
        have hjb : wy.heap[wj.heap.size]? = some (Obj.cells #[.string kd, .string nd, .string sd] 33 (0, 0)) := by rw [BYa.out.block _ (by rw [alloc_size']; omega)]; exact HJb.out
        have q2 : wy.cell? ⟨wj.heap.size, 2, none⟩ = some (.string sd) := by rw [Lib.cell_of_heap hjb]; rfl
        have HBy := Lib.hid (HAw.out.trans (BYa.out.mono HAw.out.size))
        have hmz : (txtOf M).size = M.length := rfl
        have hyz : (txtOf Y).size = Y.length := rfl
        have HWs := Lib.hid (fun c w => wvIn_any sd c (by omega) w)
        have HWy := Lib.hid (fun c w => wvIn_any (txtOf Y) c (by rw [hyz]; omega) w)
        rw [show (txtOf Y).data.toList = Y from rfl] at HWy
        rw [HSd.out] at HWs
        have hMat : ∀ k (hk : k < M.length), (txtOf M)[k]'(by rw [hmz]; exact hk) = M[k] := fun k hk => rfl
        have HMat := Lib.hid hMat
        clear hMat hjb
        generalize txtOf M = tm at *
        generalize txtOf Y = ty at *
        go_wp2_with fail
        go_loopw [70] (fun i wr => ∃ k : Nat, k ≤ M.length ∧ i = .int .i64 k ∧ Hid (Below wy.heap.size wy wr)) (fun i _ => M.length - (intOf i).toNat)
        case atStart => exact ⟨0, Nat.zero_le _, by go_num, Below.refl _ _⟩
        case round =>
          obtain ⟨k2, hk2, rfl, hb2⟩ := hrel
          obtain ⟨wi2, hwi2⟩ : ∃ x, x = wr := ⟨_, rfl⟩
          subst hwi2
          have r2 := cell_later hb2.out q2
          by_cases hl2 : k2 < M.length
          · have hidx := HMat.out k2 hl2
            have hin : M[k2] ∈ stk := H3.out _ ((at_mem HMm.out _).1 (List.getElem_mem hl2))
            have HW := Lib.hid (HWs.out M[k2])
            rw [List.contains_iff_mem.2 hin] at HW
            generalize M[k2] = c2 at *
            clear hin q2
            go_wp2_with fail
            go_quiet ((go_at_call 12; exact Calls.quiet_of_same ((HW.out _).mono fun e w' h => ⟨h.1, h.2.symm⟩)))
            all_goals
              go_wp2_with fail
              go_roundw
              case rel => exact ⟨k2 + 1, by omega, by go_num, below_drewN hb2.out _⟩
              case measure => simp [intOf]; omega
          · clear q2 hlast2 e1 hsi hs1 hs20
            go_wp2_with fail
            go_loopw [84] (fun i wr => ∃ k : Nat, k ≤ sd.size ∧ i = .int .i64 k ∧ wr = wi2) (fun i _ => sd.size - (intOf i).toNat)
            case atStart => exact ⟨0, Nat.zero_le _, by go_num, by first | rfl | trivial⟩
            case round =>
              obtain ⟨k3, hk3, rfl, rfl⟩ := hrel
              by_cases hk3s : k3 < sd.size
              · have hl3 : k3 < stk.length := by have := HSz.out; omega
                have hidx := list_at HSd.out k3 hl3 hk3s
                have hin : stk[k3] ∈ Y := (at_mem HYy.out _).2 (H4.out _ (List.getElem_mem hl3))
                have HW := Lib.hid (HWy.out stk[k3])
                rw [List.contains_iff_mem.2 hin] at HW
                generalize stk[k3] = c3' at *
                clear hin
                go_wp2_with fail
                refine (HW.out _).mono ?_
                rintro e w7 ⟨rfl, rfl⟩
                go_wp2_with fail
                go_roundw
                case rel => exact ⟨k3 + 1, by omega, by go_num, by first | rfl | trivial⟩
                case measure => simp [intOf]; omega
              · go_wp2_with fail
                go_roundw
                case rel => exact ⟨kk + 1, by omega, by go_num, HBy.out.trans (hb2.out.mono HBy.out.size)⟩
                case measure => simp [intOf]; omega
    · have HBt := Lib.hid (B3.out.trans (hbb.out.mono B3.out.size))
      go_wp2_with fail
      refine (HE.out _ HBt.out).mono ?_
      rintro e wa ⟨⟨s2, st, wi, rfl, hs2, hst2, hwi2⟩, ba⟩
      have BA := Lib.hid (HBt.out.trans (ba.mono HBt.out.size))
      have TI := Lib.hid (fun w => impl_may s2 st wi w (by omega))
      have TU := Lib.hid (fun w => impl_must s2 st wi w (by omega))
      have SI := Lib.hid (fun w => spec_may s2 st wi w (by omega))
      have SU := Lib.hid (fun w => spec_must s2 st wi w (by omega))
      clear ba hs2
      go_wp2_with fail
      refine (TI.out _ (HM.out.later BA.out)).mono ?_
      rintro e wb ⟨⟨Y, hY, rfl⟩, bb⟩
      have BB := Lib.hid (BA.out.trans (bb.mono BA.out.size))
      have HY := Lib.hid hY
      clear bb hY
      go_wp2_with fail
      refine (TU.out _ (HM.out.later BB.out)).mono ?_
      rintro e wc ⟨⟨M, hM, rfl⟩, bc⟩
      have BC := Lib.hid (BB.out.trans (bc.mono BB.out.size))
      have HMm := Lib.hid hM
      have hact := act_t HY.out hM
      have HAct := Lib.hid hact
      have hml26 := at_len hM
      have hyl26 := at_len HY.out
      clear bc hM hact TI TU
      have hmz : (txtOf M).size = M.length := rfl
      have hyz : (txtOf Y).size = Y.length := rfl
      have HWv := Lib.hid (fun c (hc : c ∈ Y) w => wvIn_any (txtOf Y) c (by rw [hyz]; omega) w)
      have HWm := Lib.hid (fun c (hc : c ∈ M) w => wvIn_any (txtOf M) c (by rw [hmz]; omega) w)
      rw [show (txtOf Y).data.toList = Y from rfl] at HWv
      rw [show (txtOf M).data.toList = M from rfl] at HWm
      have hMat : ∀ k (hk : k < M.length), (txtOf M)[k]'(by rw [hmz]; exact hk) = M[k] := fun k hk => rfl
      have HMat := Lib.hid hMat
      have hYe : (txtOf Y).toList.isEmpty = Y.isEmpty := by rw [ByteArray.toList_eq]; rfl
      have hMe : (txtOf M).toList.isEmpty = M.isEmpty := by rw [ByteArray.toList_eq]; rfl
      clear hMat
      generalize htm : txtOf M = tm at *
      generalize hty : txtOf Y = ty at *
      have HTm := Lib.hid htm
      have HTy := Lib.hid hty
      clear htm hty
      go_wp2_with fail
      go_loopw [112] (fun i wr => ∃ k : Nat, k ≤ M.length ∧ i = .int .i64 k ∧ wr = wc) (fun i _ => M.length - (intOf i).toNat)
      case atStart => exact ⟨0, Nat.zero_le _, by go_num, by first | rfl | trivial⟩
      case round =>
        obtain ⟨k4, hk4, rfl, rfl⟩ := hrel
        by_cases hl4 : k4 < M.length
        · have hidx := HMat.out k4 hl4
          have hin := HAct.out.sub _ (List.getElem_mem hl4)
          have HW := Lib.hid (HWv.out M[k4] hin)
          rw [List.contains_iff_mem.2 hin] at HW
          generalize M[k4] = c4 at *
          clear hin
          go_wp2_with fail
          refine (HW.out _).mono ?_
          rintro e w7 ⟨rfl, rfl⟩
          go_wp2_with fail
          go_roundw
          case rel => exact ⟨k4 + 1, by omega, by go_num, by first | rfl | trivial⟩
          case measure => simp [intOf]; omega
        · clear HMat
          by_cases hYn : Y = []
          · have hMn := HAct.out.nil.1 hYn
            have y1 : ty.toList.isEmpty = true := by rw [hYe, hYn]; rfl
            have m1 : tm.toList.isEmpty = true := by rw [hMe, hMn]; rfl
            have yy : (ty.toList == ty.toList) = true := by simp
            have mm : (tm.toList == tm.toList) = true := by simp
            clear hYe hMe hYn hMn
            go_wp2_with fail
            refine (SI.out _).mono ?_
            rintro e w8 ⟨⟨Y2, hY2, rfl⟩, b8⟩
            have B8 := Lib.hid (BC.out.trans (b8.mono BC.out.size))
            have hyy := hY2.same HY.out
            subst hyy
            rw [HTy.out]
            clear b8 hY2
            go_wp2_with fail
            refine (SU.out _).mono ?_
            rintro e w9 ⟨⟨M2, hM2, rfl⟩, b9⟩
            have B9 := Lib.hid (B8.out.trans (b9.mono B8.out.size))
            have hmm := hM2.same HMm.out
            subst hmm
            rw [HTm.out]
            clear b9 hM2
            go_wp2_with fail
            go_ret
            exact ⟨rfl, B9.out⟩
          · obtain ⟨ec, ed, hst, hwi, hcM, hdM⟩ := HAct.out.ends hYn
            have hMn : M ≠ [] := fun h => hYn (HAct.out.nil.2 h)
            have y1 : ty.toList.isEmpty = false := by rw [hYe]; cases Y with | nil => exact absurd rfl hYn | cons _ _ => rfl
            have m1 : tm.toList.isEmpty = false := by rw [hMe]; cases M with | nil => exact absurd rfl hMn | cons _ _ => rfl
            have yy : (ty.toList == ty.toList) = true := by simp
            have mm : (tm.toList == tm.toList) = true := by simp
            have W1 := Lib.hid (HWm.out ec hcM)
            have W2 := Lib.hid (HWm.out ed hdM)
            rw [List.contains_iff_mem.2 hcM] at W1
            rw [List.contains_iff_mem.2 hdM] at W2
            have z1 : st.size = 1 := by rw [hst]; rfl
            have z2 : wi.size = 1 := by rw [hwi]; rfl
            have i1 : st[0]'(by omega) = ec := by subst hst; rfl
            have i2 : wi[0]'(by omega) = ed := by subst hwi; rfl
            have p1 : 0 < st.size := by omega
            have p2 : 0 < wi.size := by omega
            clear hYe hMe hYn hMn hst hwi hcM hdM
            go_wp2_with fail
            refine (SI.out _).mono ?_
            rintro e w8 ⟨⟨Y2, hY2, rfl⟩, b8⟩
            have B8 := Lib.hid (BC.out.trans (b8.mono BC.out.size))
            have hyy := hY2.same HY.out
            subst hyy
            rw [HTy.out]
            clear b8 hY2
            go_wp2_with fail
            refine (SU.out _).mono ?_
            rintro e w9 ⟨⟨M2, hM2, rfl⟩, b9⟩
            have B9 := Lib.hid (B8.out.trans (b9.mono B8.out.size))
            have hmm := hM2.same HMm.out
            subst hmm
            rw [HTm.out]
            clear b9 hM2
            go_wp2_with fail
            refine (W1.out _).mono ?_
            rintro e w10 ⟨rfl, rfl⟩
            go_wp2_with fail
            refine (W2.out _).mono ?_
            rintro e w11 ⟨rfl, rfl⟩
            go_wp2_with fail
            go_ret
            exact ⟨rfl, B9.out⟩
theorem acl_any (w : World) (a b : Option Addr) (n c m d : Nat) (h : BytesAt w a n) (hnc : n ≤ c) (hc : c ≤ 9223372036854775807) (hnil : a = none → n = 0)
    (h2 : BytesAt w b m) (hmd : m ≤ d) (hd : d ≤ 9223372036854775807) (hnil2 : b = none → m = 0) (hm : MaxCell w) :
    Calls Tryz.prog 4 #[.slice a n c, .slice b m d] w fun e w' => e = .returned (.bool true) ∧ Below w.heap.size w w' := by
  by_cases hl : n ≤ 1048576
  · by_cases hl2 : m ≤ 1048576
    · exact acl_short w a b n c m d h hl hnc hc hnil h2 hl2 hmd hd hnil2 hm
    · exact acl_long2 w a b n c m d hl (by omega) hmd hd
  · exact acl_long1 w a b n c m d (by omega) hnc hc
end Go.Proofs.YtihjkkoaccmefaaGreatDoor
