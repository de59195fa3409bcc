/- The law FnExactRunProgram answers true at every two texts and number. Condition: the library's own number can be read. -/
import Derived.Test.YtdalffpjfoaijaaGreatDoorRp
namespace Go.Proofs.YtdalffpjfoaijaaGreatDoor
open Go.RowKit Gram

/-- a row that lies lower than a block that has grown -/
theorem row_under {w w' : World} {B : Nat} {row : Option Nat} {e : TypeId} {sz n : Nat} {v : Value} {xs : List Value} (h : w.ownsRow B e sz v n xs) (hg : w.grownBy w' row) (hne : ∀ j, v.ownBlock = some j → row ≠ some j) : w'.ownsRow B e sz v n xs :=
  ownsRow_of h (fun j hj => hg.block j (h.lt j hj).2 (fun he => hne j hj he.symm))
theorem row_up {w w' : World} {B : Nat} {e : TypeId} {sz n : Nat} {v : Value} {xs : List Value} (h : w.ownsRow B e sz v n xs) (hb : Below w.heap.size w w') : w'.ownsRow B e sz v n xs :=
  ownsRow_of h (fun j hj => hb.block j (h.lt j hj).2)

/-- how much a run holds -/
theorem runP_small {s nm : ByteArray} {v : Int} {r : Mst × Option Fin} (h : runP s nm v = some r) : r.1.out.length ≤ 500 ∧ r.1.pts.length ≤ 501 := by
  unfold runP at h
  cases hp : progOf s with
  | none => rw [hp] at h; cases h
  | some ps =>
    cases hl : lookP s nm with
    | none => rw [hp, hl] at h; cases h
    | some p =>
      rw [hp, hl] at h
      dsimp only at h
      split at h
      · rename_i hv
        injection h with h
        have hlet : isLet p.1 = true := ((prog_facts hp).2.1 p (look_mem hp hl).1).2.2.2
        have hB : ∀ c, wfs (bodyP ps c) = true := fun c => by
          unfold bodyP
          split
          · rename_i q hq
            exact (fits_ps hp q (List.mem_of_find?_eq_some hq)).1
          · rfl
        have hk := exec_keeps hB 501 ((Mst.start v).enter p.1) (bodyP ps p.1) (start_ok hv.1 hv.2 hlet) (hB p.1)
        unfold runOf callBy at h
        cases hr : exec (bodyP ps) 501 ((Mst.start v).enter p.1) (bodyP ps p.1) with
        | mk m' o =>
          rw [hr] at h hk
          have h1 := hk.1.out
          have h2 := hk.1.steps
          have h3 := hk.1.pts
          cases o with
          | none => subst h; exact ⟨by show m'.out.length ≤ 500; dsimp only at h1 h2; omega, by show m'.pts.length ≤ 501; dsimp only at h3 h2; omega⟩
          | some f => subst h; exact ⟨by show m'.out.length ≤ 500; dsimp only at h1 h2; omega, by show m'.pts.length ≤ 501; dsimp only at h3 h2; omega⟩
      · cases h
theorem outP_small (s nm : ByteArray) (v : Int) : (outP (runP s nm v)).2.1.length ≤ 500 := by
  cases h : runP s nm v with
  | none => simp [outP]
  | some r => exact (runP_small h).1

set_option maxHeartbeats 400000 in
theorem rpl_long1 (s nm : ByteArray) (v : Int) (w : World) (hl : 1048576 < s.size) (hx : s.size ≤ maxLen) :
    Calls Tryz.prog 3 #[.string s, .string nm, .int .i64 v] w fun e w' => e = .returned (.bool true) ∧ Below w.heap.size w w' := by
  unfold maxLen at hx
  go_enter Tryz.func3, Tryz.ntmps3
  go_wp2_with fail
  go_ret
  exact ⟨rfl, Below.refl _ _⟩
set_option maxHeartbeats 400000 in
theorem rpl_long2 (s nm : ByteArray) (v : Int) (w : World) (hs : s.size ≤ 1048576) (hl : 1048576 < nm.size) (hx : nm.size ≤ maxLen) :
    Calls Tryz.prog 3 #[.string s, .string nm, .int .i64 v] w fun e w' => e = .returned (.bool true) ∧ Below w.heap.size w w' := by
  unfold maxLen at hx
  go_enter Tryz.func3, Tryz.ntmps3
  go_wp2_with fail
  go_ret
  exact ⟨rfl, Below.refl _ _⟩

set_option maxHeartbeats 4000000 in
set_option maxRecDepth 100000 in
theorem rpl_short (s nm : ByteArray) (v : Int) (w : World) (hl : s.size ≤ 1048576) (hl2 : nm.size ≤ 1048576) (hm : MaxCell w) :
    Calls Tryz.prog 3 #[.string s, .string nm, .int .i64 v] w fun e w' => e = .returned (.bool true) ∧ Below w.heap.size w w' := by
  have HI := Lib.hid (fun w => impl_run s nm v w (by omega))
  have HS := Lib.hid (fun w => spec_run s nm v w (by omega))
  have HM := Lib.hid hm
  have hsm := outP_small s nm v
  unfold OutTo at HI HS
  generalize (outP (runP s nm v)).1 = ov at *
  generalize (outP (runP s nm v)).2.2.1 = oe at *
  generalize (outP (runP s nm v)).2.2.2 = os at *
  generalize (outP (runP s nm v)).2.1 = oz at *
  generalize (runP s nm v).isSome = ok at *
  generalize hnn : oz.length = n at *
  have HNn := Lib.hid hnn
  have HQ := Lib.hid (fun w a a' c c' B B' (h1 : w.ownsRow B 3 1 (.slice a n c) n (intVs oz)) (h2 : w.ownsRow B' 3 1 (.slice a' n c') n (intVs oz)) => eqOut_any w ov a a' n c c' oz oe os (ints_of h1) (ints_of h2) (by omega))
  have HMk := Lib.hid (fun w a c B (h1 : w.ownsRow B 3 1 (.slice a n c) n (intVs oz)) => markO_one a n c B oz ov oe os w (by omega) h1)
  have HHd := Lib.hid (fun w a c B (h1 : w.ownsRow B 3 1 (.slice a n c) n (intVs (nums 1 n oz))) => heldO_one a n c B oz ov oe os w (by omega) h1)
  unfold oV at HI HS HQ HMk HHd
  clear hm hnn
  go_enter Tryz.func3, Tryz.ntmps3
  go_wp2_with fail
  refine (HS.out _).mono ?_
  rintro e w1 ⟨⟨a1, c1, rfl, q1⟩, b1⟩
  have Q1 := Lib.hid q1
  have B1 := Lib.hid b1
  clear q1 b1
  go_wp2_with fail
  have hx1 : Below w1.heap.size w1 (w1.alloc (Obj.cells #[.int .i64 ov, .slice a1 n c1, .string oe, .int .i64 os] 24)) := (Below.refl _ _).alloc (Nat.le_refl _) _
  have P1 := Lib.hid (⟨heap_alloc_new w1 _⟩ : OAt (w1.alloc (Obj.cells #[.int .i64 ov, .slice a1 n c1, .string oe, .int .i64 os] 24)) w1.heap.size ov (.slice a1 n c1) oe os)
  have QX1 := Lib.hid (row_up Q1.out hx1)
  have BX1 := Lib.hid (B1.out.trans (hx1.mono B1.out.size))
  clear hx1 Q1
  refine (HI.out _ (HM.out.later BX1.out)).mono ?_
  rintro e w2 ⟨⟨a2, c2, rfl, o2⟩, b2⟩
  have hne2 := Lib.hid (fun j (hj : (Value.slice a2 n c2).ownBlock = some j) => show w1.heap.size + 1 ≤ j from by have := (row_block o2 hj).1; rw [alloc_size'] at this; exact this)
  have hne3 := Lib.hid (fun j (hj : (Value.slice a2 n c2).ownBlock = some j) => show j < w2.heap.size from (o2.lt j hj).2)
  have P2a := Lib.hid (P1.out.later b2)
  have hne1 := Lib.hid (fun j (hj : (Value.slice a1 n c1).ownBlock = some j) => show j < w1.heap.size + 1 from by have := (QX1.out.lt j hj).2; rw [alloc_size'] at this; exact this)
  have P2 := Lib.hid (P1.out.later b2)
  have Q2 := Lib.hid (row_up QX1.out b2)
  have O2 := Lib.hid o2
  have B2 := Lib.hid (BX1.out.trans (b2.mono BX1.out.size))
  clear b2 o2 P1 QX1 BX1
  have hx2 : Below w2.heap.size w2 (w2.alloc (Obj.cells #[.int .i64 ov, .slice a2 n c2, .string oe, .int .i64 os] 24)) := (Below.refl _ _).alloc (Nat.le_refl _) _
  have G3 := Lib.hid (⟨heap_alloc_new w2 _⟩ : OAt (w2.alloc (Obj.cells #[.int .i64 ov, .slice a2 n c2, .string oe, .int .i64 os] 24)) w2.heap.size ov (.slice a2 n c2) oe os)
  have P3 := Lib.hid (P2.out.later hx2)
  have Q3 := Lib.hid (row_up Q2.out hx2)
  have O3 := Lib.hid (row_up O2.out hx2)
  have B3 := Lib.hid (B2.out.trans (hx2.mono B2.out.size))
  clear hx2 P2 Q2 O2
  obtain ⟨g0, g1, g2, g3, _⟩ := G3.out.read
  obtain ⟨p0, p1, p2, p3, _⟩ := P3.out.read
  go_wp2_with fail
  refine (HQ.out _ _ _ _ _ _ _ O3.out Q3.out).mono ?_
  rintro e w4 ⟨rfl, b4⟩
  have G4 := Lib.hid (G3.out.later b4)
  have P4 := Lib.hid (P3.out.later b4)
  have Q4 := Lib.hid (row_up Q3.out b4)
  have O4 := Lib.hid (row_up O3.out b4)
  have B4 := Lib.hid (B3.out.trans (b4.mono B3.out.size))
  clear b4 g0 g1 g2 g3 p0 p1 p2 p3 G3 P3 Q3 O3 B3
  obtain ⟨g0, g1, g2, g3, _⟩ := G4.out.read
  cases ok
  all_goals
    go_wp2_with fail
    refine (HMk.out _ _ _ _ O4.out).mono ?_
    rintro e w5 ⟨rfl, o5, hg5⟩
    have hb1 : w1.heap.size + 1 ≤ w2.heap.size := by have := heap_lt P2a.out.own; omega
    have G5 := Lib.hid (⟨by rw [hg5.block _ (heap_lt G4.out.own) (fun he => by have := hne3.out _ he.symm; omega)]; exact G4.out.own⟩ : OAt w5 w2.heap.size ov (.slice a2 n c2) oe os)
    have P5 := Lib.hid (⟨by rw [hg5.block _ (heap_lt P4.out.own) (fun he => by have := hne2.out _ he.symm; omega)]; exact P4.out.own⟩ : OAt w5 w1.heap.size ov (.slice a1 n c1) oe os)
    have Q5 := Lib.hid (row_under Q4.out hg5 (fun j hj h => by have := hne1.out _ hj; have := hne2.out _ h; omega))
    have O5 := Lib.hid o5
    have B5 := Lib.hid (B4.out.grown hg5 B4.out.size (fun j hj => by have := hne2.out _ hj; have := B1.out.size; omega))
    clear hg5 o5 g0 g1 g2 g3 G4 P4 Q4 O4 B4
    obtain ⟨g0, g1, g2, g3, _⟩ := G5.out.read
    go_wp2_with fail
    refine (HHd.out _ _ _ _ O5.out).mono ?_
    rintro e w6 ⟨rfl, b6⟩
    have G6 := Lib.hid (G5.out.later b6)
    have P6 := Lib.hid (P5.out.later b6)
    have Q6 := Lib.hid (row_up Q5.out b6)
    have O6 := Lib.hid (row_up O5.out b6)
    have B6 := Lib.hid (B5.out.trans (b6.mono B5.out.size))
    clear b6 g0 g1 g2 g3 G5 P5 Q5 O5 B5
    go_wp2_with fail
    refine (HI.out _ (HM.out.later B6.out)).mono ?_
    rintro e w7 ⟨⟨a3, c3, rfl, o7⟩, b7⟩
    have hx7 : Below w7.heap.size w7 (w7.alloc (Obj.cells #[.int .i64 ov, .slice a3 n c3, .string oe, .int .i64 os] 24)) := (Below.refl _ _).alloc (Nat.le_refl _) _
    have H8 := Lib.hid (⟨heap_alloc_new w7 _⟩ : OAt (w7.alloc (Obj.cells #[.int .i64 ov, .slice a3 n c3, .string oe, .int .i64 os] 24)) w7.heap.size ov (.slice a3 n c3) oe os)
    have G8 := Lib.hid ((G6.out.later b7).later hx7)
    have P8 := Lib.hid ((P6.out.later b7).later hx7)
    have Q8 := Lib.hid (row_up (row_up Q6.out b7) hx7)
    have O8 := Lib.hid (row_up (row_up O6.out b7) hx7)
    have R8 := Lib.hid (row_up o7 hx7)
    have B8 := Lib.hid (B6.out.trans ((b7.mono B6.out.size).trans (hx7.mono (Nat.le_trans B6.out.size b7.size))))
    clear b7 hx7 o7 G6 P6 Q6 O6 B6
    obtain ⟨h0, h1, h2, h3, _⟩ := H8.out.read
    obtain ⟨p0, p1, p2, p3, _⟩ := P8.out.read
    go_wp2_with fail
    refine (HQ.out _ _ _ _ _ _ _ R8.out Q8.out).mono ?_
    rintro e w9 ⟨rfl, b9⟩
    have G9 := Lib.hid (G8.out.later b9)
    have O9 := Lib.hid (row_up O8.out b9)
    have B9 := Lib.hid (B8.out.trans (b9.mono B8.out.size))
    clear b9 h0 h1 h2 h3 p0 p1 p2 p3 G8 P8 Q8 O8 R8 B8 H8
    obtain ⟨g0, g1, g2, g3, _⟩ := G9.out.read
    go_wp2_with fail
    refine (HHd.out _ _ _ _ O9.out).mono ?_
    rintro e w10 ⟨rfl, b10⟩
    have B10 := Lib.hid (B9.out.trans (b10.mono B9.out.size))
    clear b10
    go_wp2_with fail
    go_ret
    exact ⟨rfl, B10.out⟩

theorem rpl_any (s nm : ByteArray) (v : Int) (w : World) (hx : s.size ≤ maxLen) (hx2 : nm.size ≤ maxLen) (hm : MaxCell w) :
    Calls Tryz.prog 3 #[.string s, .string nm, .int .i64 v] w fun e w' => e = .returned (.bool true) ∧ Below w.heap.size w w' := by
  by_cases h : s.size ≤ 1048576
  · by_cases h2 : nm.size ≤ 1048576
    · exact rpl_short s nm v w h h2 hm
    · exact rpl_long2 s nm v w h (by omega) hx2
  · exact rpl_long1 s nm v w (by omega) hx
end Go.Proofs.YtdalffpjfoaijaaGreatDoor
