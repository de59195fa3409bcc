/- ParseAspect of the program. Conditions: texts of at most 2^30 bytes; the errors lie where start-up laid them; the library's own number can be read. -/
import Derived.Test.YtkdnbdgpcgookaaGreatDoorOnly
import Derived.Test.YtkdnbdgpcgookaaGreatDoorCutw
import Derived.Test.YtkdnbdgpcgookaaGreatDoorShelf
import Derived.BigRegion
namespace Go.Proofs.YtkdnbdgpcgookaaGreatDoor
open Go.RowKit Gram

/-- the library's own number can be read -/
def MaxCell (w : World) : Prop := ∃ m, w.cell? ⟨5, 0, none⟩ = some (.int .i64 m)
theorem MaxCell.later {w w' : World} (h : MaxCell w) (hb : Below w.heap.size w w') : MaxCell w' := by
  obtain ⟨m, h⟩ := h
  exact ⟨m, cell_stays hb h⟩

/-- a text's parts at its first two spaces, if it has two -/
def twoCuts (s : ByteArray) : Option (ByteArray × ByteArray × ByteArray) :=
  let c1 := Lib.cut s.data.toList [32]
  let c2 := Lib.cut c1.2.1 [32]
  if c2.2.2 = true then some (strL c1.1, strL c2.1, strL c2.2.1) else none
/-- the aspect that a text tells -/
def parA (s : ByteArray) : Option (ByteArray × ByteArray × ByteArray) := match twoCuts s with
  | some (k, c, b) => if (aspOf k c b).isSome = true then some (k, c, b) else none
  | none => none
theorem cut_le (l : List UInt8) (x : List UInt8) : (Lib.cut l x).1.length ≤ l.length ∧ (Lib.cut l x).2.1.length ≤ l.length := by
  unfold Lib.cut
  split
  · simp; omega
  · simp

theorem two_is (s : ByteArray) (a1 r1 a2 b2 : List UInt8) (f1 f2 : Bool) (h1 : Lib.cut s.data.toList [32] = (a1, r1, f1)) (h2 : Lib.cut r1 [32] = (a2, b2, f2)) :
    twoCuts s = if f2 = true then some (strL a1, strL a2, strL b2) else none := by
  simp only [twoCuts, h1, h2]

set_option maxHeartbeats 2000000 in
set_option maxRecDepth 100000 in
theorem par_any (s : ByteArray) (w : World) (ek ec eb el ep : Addr) (h : Errs w ek ec eb el ep) (hm : MaxCell w) (hs : s.size ≤ 1073741824) :
    Calls Tryz.prog 11 #[.string s] w fun e w' => e = .returned (parV (parA s)) ∧ Below w.heap.size w w' := by
  obtain ⟨a1, r1, f1, h1⟩ : ∃ a1 r1 f1, Lib.cut s.data.toList [32] = (a1, r1, f1) := ⟨_, _, _, rfl⟩
  obtain ⟨a2, b2, f2, h2⟩ : ∃ a2 b2 f2, Lib.cut r1 [32] = (a2, b2, f2) := ⟨_, _, _, rfl⟩
  have hl1 := cut_le s.data.toList [32]
  have hl2 := cut_le r1 [32]
  rw [h1] at hl1
  rw [h2] at hl2
  simp only at hl1 hl2
  have hs' : s.data.toList.length ≤ 1073741824 := by simpa using hs
  have HC1 := Lib.hid (fun w' (hw : Below w.heap.size w w') => (hm.later hw).elim fun m hm => Tryz.strings_Cut s ⟨#[32]⟩ m w' (by omega) hm)
  have HC2 := Lib.hid (fun w' (hw : Below w.heap.size w w') => (hm.later hw).elim fun m hm => Tryz.strings_Cut (strL r1) ⟨#[32]⟩ m w' (by rw [strL_size]; omega) hm)
  have HO := Lib.hid (fun w' (hw : Below w.heap.size w w') => only_any (strL a1) (strL a2) (strL b2) w' ek ec eb el ep (h.later hw) (by rw [strL_size]; omega) (by rw [strL_size]; omega))
  have ht := two_is s a1 r1 a2 b2 f1 f2 h1 h2
  have e32 : (⟨#[32]⟩ : ByteArray).data.toList = [32] := rfl
  rw [e32, h1] at HC1
  rw [e32, strL_data, h2] at HC2
  simp only at HC1 HC2
  obtain ⟨q, hq⟩ : ∃ q, q = parV (parA s) := ⟨_, rfl⟩
  rw [← hq]
  unfold parA at hq
  rw [ht] at hq
  have HQ := Lib.hid hq
  have HR := Lib.hid (Cell3.new w (.string ⟨#[]⟩) (.string ⟨#[]⟩) (.string ⟨#[]⟩))
  have HB0 := Lib.hid ((Below.refl _ w).alloc (Nat.le_refl _) (.cells #[.string ⟨#[]⟩, .string ⟨#[]⟩, .string ⟨#[]⟩] 24))
  clear h hm hs hs' hl1 hl2 h1 h2 ht e32 hq
  unfold onlyV aspV strL at *
  go_enter Tryz.func11, Tryz.ntmps11
  go_wp2_with fail
  refine (HC1.out _ HB0.out).mono ?_
  rintro e w1 ⟨rfl, n1, hw1⟩
  have hb1 : Below w.heap.size w w1 := by rw [hw1]; exact HB0.out.trans ⟨rfl, rfl, rfl, Nat.le_refl _, fun _ _ => rfl⟩
  have HB1 := Lib.hid hb1
  have HR1 := Lib.hid (show Cell3 w1 w.heap.size (.string ⟨#[]⟩) (.string ⟨#[]⟩) (.string ⟨#[]⟩) by rw [hw1]; exact HR.out)
  clear hb1 hw1
  go_wp2_with fail
  refine (HC2.out _ HB1.out).mono ?_
  rintro e w2 ⟨rfl, n2, hw2⟩
  have hb2 : Below w.heap.size w w2 := by rw [hw2]; exact HB1.out.trans ⟨rfl, rfl, rfl, Nat.le_refl _, fun _ _ => rfl⟩
  have HB2 := Lib.hid hb2
  have HR2 := Lib.hid (show Cell3 w2 w.heap.size (.string ⟨#[]⟩) (.string ⟨#[]⟩) (.string ⟨#[]⟩) by rw [hw2]; exact HR1.out)
  clear hb2 hw2
  obtain ⟨q0, q1, q2, g0, g1, g2⟩ := HR2.out.read
  cases f2 with
  | false =>
    have HV := Lib.hid (show q = .tuple #[.agg #[.string ⟨#[]⟩, .string ⟨#[]⟩, .string ⟨#[]⟩], .bool false] from HQ.out)
    go_wp2_with fail
    obtain ⟨r0, r1', r2, _⟩ := (HR2.out.put (.string ⟨#[]⟩) (.string ⟨#[]⟩) (.string ⟨#[]⟩)).read
    refine bodyPost_ret (v := .tuple #[.agg #[.string ⟨#[]⟩, .string ⟨#[]⟩, .string ⟨#[]⟩], .bool false]) ?_ rfl ⟨by rw [HV.out], ((HB2.out.setCell (Nat.le_refl _) _).setCell (Nat.le_refl _) _).setCell (Nat.le_refl _) _⟩
    simp [results, Tryz.results11, go_sem, r0, r1', r2]
  | true =>
    have HV := Lib.hid (show q = if (aspOf ⟨a1.toArray⟩ ⟨a2.toArray⟩ ⟨b2.toArray⟩).isSome = true then .tuple #[.agg #[.string ⟨a1.toArray⟩, .string ⟨a2.toArray⟩, .string ⟨b2.toArray⟩], .bool true] else .tuple #[.agg #[.string ⟨#[]⟩, .string ⟨#[]⟩, .string ⟨#[]⟩], .bool false] from by
      rw [HQ.out, if_pos rfl]
      dsimp only
      split
      · rfl
      · rfl)
    have hk0 : (aspOf ⟨a1.toArray⟩ ⟨a2.toArray⟩ ⟨b2.toArray⟩).isSome = true → (⟨a1.toArray⟩ : ByteArray).toList.isEmpty = false := fun h => by
      obtain ⟨⟨n, xs⟩, h⟩ := Option.isSome_iff_exists.1 h
      obtain ⟨hk, _⟩ := aspOf_some h
      rcases kindOf_cases hk with ⟨_, h⟩ | ⟨_, h, _⟩ | ⟨_, h, _⟩
      all_goals (rw [eq_of_beq h]; rfl)
    have HK := Lib.hid hk0
    clear hk0 HQ HC1 HC2
    generalize (⟨a1.toArray⟩ : ByteArray) = kk at *
    generalize (⟨a2.toArray⟩ : ByteArray) = cc at *
    generalize (⟨b2.toArray⟩ : ByteArray) = bb at *
    generalize (⟨r1.toArray⟩ : ByteArray) = rr at *
    generalize (aspOf kk cc bb).isSome = t at *
    cases t with
    | false =>
      rw [if_neg (by decide)] at HV
      go_wp2_with fail
      refine (HO.out _ HB2.out).mono ?_
      rintro e w3 ⟨h3, hb3⟩
      rw [if_neg (by decide)] at h3
      subst h3
      have HB3 := Lib.hid (HB2.out.trans (hb3.mono HB2.out.size))
      have HR3 := Lib.hid (HR2.out.later hb3)
      clear hb3 q0 q1 q2 g0 g1 g2
      obtain ⟨q0, q1, q2, g0, g1, g2⟩ := (HR3.out.later ((Below.refl _ _).alloc (Nat.le_refl _) (.cells #[.string ⟨#[]⟩, .string ⟨#[]⟩, .string ⟨#[]⟩] 24))).read
      have HR4 := Lib.hid (HR3.out.later ((Below.refl _ _).alloc (Nat.le_refl _) (.cells #[.string ⟨#[]⟩, .string ⟨#[]⟩, .string ⟨#[]⟩] 24)))
      have HB4 := Lib.hid (HB3.out.alloc HB3.out.size (.cells #[.string ⟨#[]⟩, .string ⟨#[]⟩, .string ⟨#[]⟩] 24))
      have l0 := fun v => (cell3_beside w3 w.heap.size (heap_lt HR3.out) (.string ⟨#[]⟩) (.string ⟨#[]⟩) (.string ⟨#[]⟩) v v v).1
      have l1 := fun v v' => (cell3_beside w3 w.heap.size (heap_lt HR3.out) (.string ⟨#[]⟩) (.string ⟨#[]⟩) (.string ⟨#[]⟩) v v' v).2.1
      have l2 := fun v v' v'' => (cell3_beside w3 w.heap.size (heap_lt HR3.out) (.string ⟨#[]⟩) (.string ⟨#[]⟩) (.string ⟨#[]⟩) v v' v'').2.2
      go_wp2_with fail
      go_region
      all_goals
        go_wp2_with fail
        obtain ⟨r0, r1', r2, _⟩ := (HR4.out.put (.string ⟨#[]⟩) (.string ⟨#[]⟩) (.string ⟨#[]⟩)).read
        refine bodyPost_ret (v := .tuple #[.agg #[.string ⟨#[]⟩, .string ⟨#[]⟩, .string ⟨#[]⟩], .bool false]) ?_ rfl ⟨by rw [HV.out], (((HB4.out.setCell (Nat.le_refl _) _).setCell (Nat.le_refl _) _).setCell (Nat.le_refl _) _).drew⟩
        simp [results, Tryz.results11, go_sem, r0, r1', r2]
    | true =>
      rw [if_pos rfl] at HV
      have hk1 := HK.out rfl
      go_wp2_with fail
      refine (HO.out _ HB2.out).mono ?_
      rintro e w3 ⟨h3, hb3⟩
      rw [if_pos (by trivial)] at h3
      subst h3
      have HB3 := Lib.hid (HB2.out.trans (hb3.mono HB2.out.size))
      have HR3 := Lib.hid (HR2.out.later hb3)
      clear hb3 q0 q1 q2 g0 g1 g2
      obtain ⟨q0, q1, q2, g0, g1, g2⟩ := (HR3.out.later ((Below.refl _ _).alloc (Nat.le_refl _) (.cells #[.string kk, .string cc, .string bb] 24))).read
      have HR4 := Lib.hid (HR3.out.later ((Below.refl _ _).alloc (Nat.le_refl _) (.cells #[.string kk, .string cc, .string bb] 24)))
      have HB4 := Lib.hid (HB3.out.alloc HB3.out.size (.cells #[.string kk, .string cc, .string bb] 24))
      have l0 := fun v => (cell3_beside w3 w.heap.size (heap_lt HR3.out) (.string kk) (.string cc) (.string bb) v v v).1
      have l1 := fun v v' => (cell3_beside w3 w.heap.size (heap_lt HR3.out) (.string kk) (.string cc) (.string bb) v v' v).2.1
      have l2 := fun v v' v'' => (cell3_beside w3 w.heap.size (heap_lt HR3.out) (.string kk) (.string cc) (.string bb) v v' v'').2.2
      go_wp2_with fail
      go_region
      all_goals
        go_wp2_with fail
        obtain ⟨r0, r1', r2, _⟩ := (HR4.out.put (.string kk) (.string cc) (.string bb)).read
        refine bodyPost_ret (v := .tuple #[.agg #[.string kk, .string cc, .string bb], .bool true]) ?_ rfl ⟨by rw [HV.out], (((HB4.out.setCell (Nat.le_refl _) _).setCell (Nat.le_refl _) _).setCell (Nat.le_refl _) _).drew⟩
        simp [results, Tryz.results11, go_sem, r0, r1', r2]
end Go.Proofs.YtkdnbdgpcgookaaGreatDoor
