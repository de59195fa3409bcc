/- CallTree of the model. Conditions: texts of at most 2^30 bytes. -/
import Derived.Test.YtomodlllmbkndaaGreatDoorJz
import Derived.Test.YtomodlllmbkndaaGreatDoorTre
import Derived.Test.YtomodlllmbkndaaGreatDoorPto
namespace Go.Proofs.YtomodlllmbkndaaGreatDoor
open Go.RowKit Gram

/-- the text of a run's tree, the model's way -/
def txT (nm : List UInt8) (pts : List Jpt) : List UInt8 := (treeFold (nm, 1) pts).1 ++ List.replicate ((treeFold (nm, 1) pts).2 - 1) 41
def noT : Value := .tuple #[.string ⟨#[]⟩, .bool false]
/-- what CallTree says -/
def treV (s nm : ByteArray) (v : Int) : Value := match runP s nm v with
  | none => noT
  | some r => if 300 < (txT nm.data.toList r.1.pts).length then noT else .tuple #[.string (txtOf (txT nm.data.toList r.1.pts)), .bool true]

theorem tstr_add (x y : ByteArray) (h : x.size + y.size ≤ 9223372036854775807) (w : World) : (Op.stringOp .add x y).run Tryz.prog w = .ok (.string (x ++ y)) w := run_string_add_sum w x y h
theorem treeStep_pos {o : List UInt8 × Nat} (h : 1 ≤ o.2) (c : UInt8) (n : Nat) : 1 ≤ (treeStep o c n).2 := by
  unfold treeStep
  split
  · show 1 ≤ o.2 + 1; omega
  · show 1 ≤ min o.2 (n + 1); omega
theorem treeFold_pos : ∀ (F : List Jpt) (o : List UInt8 × Nat), 1 ≤ o.2 → 1 ≤ (treeFold o F).2
  | [], _, h => h
  | j :: F, o, h => by
    rw [treeFold]
    refine treeFold_pos F _ ?_
    cases j.nm with
    | none => exact h
    | some c => exact treeStep_pos h _ _

theorem txtOf_toList (l : List UInt8) : (txtOf l).data.toList = l := by simp [txtOf]
theorem add_toList {t u : ByteArray} {l m : List UInt8} (h : t.data.toList = l) (h' : u.data.toList = m) : (t ++ u).data.toList = l ++ m := by
  rw [← h, ← h']; simp

set_option maxHeartbeats 4000000 in
set_option maxRecDepth 100000 in
theorem spec_tree (s nm : ByteArray) (v : Int) (w : World) (hs : s.size ≤ 1073741824) (hn : nm.size ≤ 1073741824) :
    Calls Tryz.prog 11 #[.string s, .string nm, .int .i64 v] w fun e w' => e = .returned (treV s nm v) ∧ Below w.heap.size w w' := by
  have HP := Lib.hid (spec_pts s nm v w hs)
  unfold PtsTo at HP
  cases hr : runP s nm v with
  | none =>
    rw [hr] at HP
    have HX := Lib.hid (show treV s nm v = noT by unfold treV; rw [hr])
    simp only [ptsP, Option.isSome_none, List.length_nil] at HP
    clear hr
    go_enter Tryz.func11, Tryz.ntmps11
    go_wp2_with fail
    refine HP.out.mono ?_
    rintro e w1 ⟨⟨a, c, rfl, _⟩, hb⟩
    have HB := Lib.hid hb
    clear hb
    go_wp2_with fail
    go_ret2
    exact ⟨by rw [HX.out]; rfl, HB.out⟩
  | some r =>
    rw [hr] at HP
    have hx : treV s nm v = if 300 < (txT nm.data.toList r.1.pts).length then noT else .tuple #[.string (txtOf (txT nm.data.toList r.1.pts)), .bool true] := by unfold treV; rw [hr]
    simp only [ptsP, Option.isSome_some] at HP
    have hpl := (runP_small hr).2
    have hstk : ∀ k (h : k < r.1.pts.length), r.1.pts[k].stk.length ≤ 20 := fun k h => ((j_facts hr).stk k h).2
    clear hr
    generalize r.1.pts = pts at *
    have HX := Lib.hid hx
    have HT := Lib.hid (fun k (h : k < pts.length) => treeFold_take pts k h (nm.data.toList, 1))
    have HSm := Lib.hid (fun k (h : k ≤ pts.length) => show (treeFold (nm.data.toList, 1) (pts.take k)).1.length + (treeFold (nm.data.toList, 1) (pts.take k)).2 ≤ nm.size + 1 + 3 * k by
      have h1 := treeFold_small (pts.take k) (nm.data.toList, 1)
      rw [List.length_take, Nat.min_eq_left h] at h1
      have h2 : nm.data.toList.length = nm.size := by simp
      simp only [h2] at h1
      exact h1)
    have HStk := Lib.hid hstk
    have HPo := Lib.hid (fun k => treeFold_pos (pts.take k) (nm.data.toList, 1) (Nat.le_refl _))
    clear hx
    go_enter Tryz.func11, Tryz.ntmps11
    go_wp2_with fail
    refine HP.out.mono ?_
    rintro e w1 ⟨⟨a, c, rfl, hrow⟩, hb⟩
    have HB := Lib.hid hb
    have HRow := Lib.hid hrow
    clear hb hrow
    go_wp2_with fail
    go_loopw [10, 11, 26] (fun t d i wr => ∃ (k D : Nat) (tx : ByteArray), k ≤ pts.length ∧ i = .int .i64 k ∧ t = .string tx ∧ d = .int .i64 D ∧ 1 ≤ D ∧ tx.size + D ≤ nm.size + 1 + 3 * k ∧ Hid (tx.data.toList = (treeFold (nm.data.toList, 1) (pts.take k)).1) ∧ Hid (D = (treeFold (nm.data.toList, 1) (pts.take k)).2) ∧ Hid (Below w1.heap.size w1 wr)) (fun _ _ i _ => pts.length - (intOf i).toNat)
    case atStart => exact ⟨0, 1, nm, Nat.zero_le _, by go_num, rfl, by go_num, Nat.le_refl _, by omega, rfl, rfl, Below.refl _ _⟩
    case round =>
      obtain ⟨k, D, tx, hk, rfl, rfl, rfl, hD1, htz, hT, hD, hW⟩ := hrel
      by_cases hlt : k < pts.length
      · obtain ⟨g, rfl, c0, c1, c2⟩ := jrow_cell (row_up HRow.out hW.out) k hlt
        have HTk := HT.out k hlt
        have hszr := hW.out.size
        have hsk := HStk.out k hlt
        generalize pts[k] = j at *
        obtain ⟨jn, js⟩ := j
        have N5 := Lib.hid (Jc3.new wr (kT ⟨jn, js⟩) (nT ⟨jn, js⟩) (sT ⟨jn, js⟩))
        have B5 := Lib.hid (hW.out.alloc hszr (.cells #[.string (kT ⟨jn, js⟩), .string (nT ⟨jn, js⟩), .string (sT ⟨jn, js⟩)] 49))
        cases jn with
        | none =>
          have HK2 := Lib.hid (show treeFold (nm.data.toList, 1) (pts.take (k + 1)) = treeFold (nm.data.toList, 1) (pts.take k) from HTk)
          clear HTk
          have hk0 : ((kT ⟨none, js⟩).toList != [99, 97, 108, 108]) = true := by rw [ByteArray.toList_eq]; rfl
          have hk1 : ((kT ⟨none, js⟩).toList == [99, 97, 108, 108]) = false := by rw [ByteArray.toList_eq]; rfl
          generalize kT ⟨none, js⟩ = kd at *
          obtain ⟨W5, hW5⟩ : ∃ W5, wr.alloc (.cells #[.string kd, .string (nT ⟨none, js⟩), .string (sT ⟨none, js⟩)] 49) = W5 := ⟨_, rfl⟩
          generalize sT ⟨none, js⟩ = st at *
          generalize nT ⟨none, js⟩ = nt at *
          rw [hW5] at N5 B5
          obtain ⟨d0, d1, d2⟩ := N5.out.read
          go_wp2_with fail
          exact ⟨⟨k + 1, D, tx, by omega, by go_num, rfl, rfl, hD1, by omega, by rw [HK2.out]; exact hT.out, by rw [HK2.out]; exact hD.out, B5.out⟩, by simp [intOf]; omega⟩
        | some cl =>
          have HK2 := Lib.hid (show treeFold (nm.data.toList, 1) (pts.take (k + 1)) = treeStep (treeFold (nm.data.toList, 1) (pts.take k)) cl js.length from HTk)
          clear HTk
          have hk0 : ((kT ⟨some cl, js⟩).toList != [99, 97, 108, 108]) = false := by rw [ByteArray.toList_eq]; rfl
          have hk1 : ((kT ⟨some cl, js⟩).toList == [99, 97, 108, 108]) = true := by rw [ByteArray.toList_eq]; rfl
          generalize kT ⟨some cl, js⟩ = kd at *
          obtain ⟨W5, hW5⟩ : ∃ W5, wr.alloc (.cells #[.string kd, .string (nT ⟨some cl, js⟩), .string (sT ⟨some cl, js⟩)] 49) = W5 := ⟨_, rfl⟩
          have hst : (sT ⟨some cl, js⟩).size = js.length := txtOf_size js
          have hnt : (nT ⟨some cl, js⟩).data.toList = [cl] := txtOf_toList [cl]
          have hnz : (nT ⟨some cl, js⟩).size = 1 := rfl
          generalize sT ⟨some cl, js⟩ = st at *
          generalize nT ⟨some cl, js⟩ = nt at *
          have HNt := Lib.hid hnt
          rw [hW5] at N5 B5
          obtain ⟨d0, d1, d2⟩ := N5.out.read
          clear hnt
          by_cases hde : js.length = D
          · have hq : ((st.size : Int) == (D : Int)) = true := by rw [beq_iff_eq]; omega
            have e1 := tstr_add tx ⟨#[40]⟩ (by show tx.size + 1 ≤ _; omega)
            have hz1 : (tx ++ ⟨#[40]⟩).size = tx.size + 1 := ByteArray.size_append
            have e2 := tstr_add (tx ++ ⟨#[40]⟩) nt (by omega)
            have hz2 : (tx ++ ⟨#[40]⟩ ++ nt).size = tx.size + 2 := by rw [ByteArray.size_append]; omega
            have HZ2 := Lib.hid hz2
            have HL2 := Lib.hid (add_toList (add_toList (u := ⟨#[40]⟩) hT.out rfl) HNt.out)
            have HK3 := Lib.hid (show treeStep (treeFold (nm.data.toList, 1) (pts.take k)) cl js.length = ((treeFold (nm.data.toList, 1) (pts.take k)).1 ++ [40, cl], D + 1) by
              unfold treeStep
              rw [if_pos (by rw [← hD.out]; exact hde), ← hD.out])
            clear hz1 hz2 hde hst
            go_wp2_with fail
            exact ⟨⟨k + 1, D + 1, _, by omega, by go_num, rfl, by go_num, by omega, by have := HZ2.out; omega, Lib.hid (by rw [HK2.out, HK3.out]; simpa using HL2.out), Lib.hid (by rw [HK2.out, HK3.out]), B5.out⟩, by simp [intOf]; omega⟩
          · have hq : ((st.size : Int) == (D : Int)) = false := by rw [beq_eq_false_iff_ne]; omega
            have HK3 := Lib.hid (show treeStep (treeFold (nm.data.toList, 1) (pts.take k)) cl js.length = ((treeFold (nm.data.toList, 1) (pts.take k)).1 ++ List.replicate (D - (js.length + 1)) 41 ++ [cl], min D (js.length + 1)) by
              unfold treeStep
              rw [if_neg (by rw [← hD.out]; exact hde), ← hD.out])
            have HST := Lib.hid hst
            have hstb : st.size ≤ 20 := by have : js.length ≤ 20 := hsk; omega
            clear hst
            go_wp2_with fail
            go_loopw [10, 11] (fun t d wr2 => ∃ (E : Nat) (ty : ByteArray), t = .string ty ∧ d = .int .i64 E ∧ E ≤ D ∧ (st.size + 1 ≤ E ∨ E = D) ∧ ty.size + E ≤ nm.size + 1 + 3 * k ∧ Hid (ty.data.toList = (treeFold (nm.data.toList, 1) (pts.take k)).1 ++ List.replicate (D - E) 41) ∧ wr2 = W5) (fun _ d _ => (intOf d).toNat)
            case atStart => exact ⟨D, tx, rfl, rfl, Nat.le_refl _, .inr rfl, htz, Lib.hid (by rw [Nat.sub_self]; simpa using hT.out), rfl⟩
            case round =>
              obtain ⟨E, ty, rfl, rfl, hED, hor, hyz, hyt, rfl⟩ := hrel
              by_cases hgo : st.size + 1 < E
              · have hgi : (st.size : Int) + 1 < (E : Int) := by omega
                have e1 := tstr_add ty ⟨#[41]⟩ (by show ty.size + 1 ≤ _; omega)
                have hz1 : (ty ++ ⟨#[41]⟩).size = ty.size + 1 := ByteArray.size_append
                have HL2 := Lib.hid (add_toList (u := ⟨#[41]⟩) hyt.out rfl)
                have HZ1 := Lib.hid hz1
                clear hz1
                go_wp2_with fail
                exact ⟨⟨E - 1, _, rfl, by go_num, by omega, .inl (by omega), by have := HZ1.out; omega, Lib.hid (by rw [HL2.out, List.append_assoc]; congr 1; rw [show D - (E - 1) = D - E + 1 by omega, List.replicate_succ']), by first | rfl | trivial⟩, by simp [intOf]; omega⟩
              · have hgi : ¬ (st.size : Int) + 1 < (E : Int) := by omega
                have e2 := tstr_add ty nt (by omega)
                have hz2 : (ty ++ nt).size = ty.size + 1 := by rw [ByteArray.size_append]; omega
                have HZ2 := Lib.hid hz2
                have HL2 := Lib.hid (add_toList hyt.out HNt.out)
                clear hz2
                go_wp2_with fail
                have hst := HST.out
                have hEm : E = min D (js.length + 1) := by omega
                exact ⟨⟨k + 1, E, _, by omega, by go_num, rfl, by go_num, by omega, by have := HZ2.out; omega, Lib.hid (by rw [HK2.out, HK3.out, HL2.out, show D - E = D - (js.length + 1) by omega]), Lib.hid (by rw [HK2.out, HK3.out]; exact hEm), B5.out⟩, by simp [intOf]; omega⟩
      · have hkn : k = pts.length := by omega
        subst hkn
        rw [List.take_length] at hT hD
        have HW := Lib.hid hW.out
        have hTz : ∀ t : ByteArray, t.data.toList = txT nm.data.toList pts → t.size = (txT nm.data.toList pts).length ∧ txtOf (txT nm.data.toList pts) = t := fun t ht => by
          refine ⟨by rw [← ht]; simp, ?_⟩
          rw [← ht]; unfold txtOf; simp
        have HTZ := Lib.hid hTz
        clear hTz hW
        go_wp2_with fail
        obtain ⟨w5, h5⟩ : ∃ x, x = wr := ⟨_, rfl⟩
        subst h5
        go_loopw [10, 11] (fun t d wr2 => ∃ (E : Nat) (ty : ByteArray), t = .string ty ∧ d = .int .i64 E ∧ E ≤ D ∧ 1 ≤ E ∧ ty.size + E ≤ nm.size + 1 + 3 * pts.length ∧ Hid (ty.data.toList = (treeFold (nm.data.toList, 1) pts).1 ++ List.replicate (D - E) 41) ∧ wr2 = w5) (fun _ d _ => (intOf d).toNat)
        case atStart => exact ⟨D, tx, rfl, rfl, Nat.le_refl _, hD1, htz, Lib.hid (by rw [Nat.sub_self]; simpa using hT.out), rfl⟩
        case round =>
          obtain ⟨E, ty, rfl, rfl, hED, hE1, hyz, hyt, rfl⟩ := hrel
          by_cases hgo : 1 < E
          · have hgi : (1 : Int) < (E : Int) := by omega
            have e1 := tstr_add ty ⟨#[41]⟩ (by show ty.size + 1 ≤ _; omega)
            have hz1 : (ty ++ ⟨#[41]⟩).size = ty.size + 1 := ByteArray.size_append
            have HL2 := Lib.hid (add_toList (u := ⟨#[41]⟩) hyt.out rfl)
            have HZ1 := Lib.hid hz1
            clear hz1
            go_wp2_with fail
            exact ⟨⟨E - 1, _, rfl, by go_num, by omega, by omega, by have := HZ1.out; omega, Lib.hid (by rw [HL2.out, List.append_assoc]; congr 1; rw [show D - (E - 1) = D - E + 1 by omega, List.replicate_succ']), by first | rfl | trivial⟩, by simp [intOf]; omega⟩
          · have hE : E = 1 := by omega
            subst hE
            obtain ⟨hz9, ht9⟩ := HTZ.out ty (by rw [hyt.out, hD.out]; rfl)
            have HT9 := Lib.hid ht9
            have HZ9 := Lib.hid hz9
            clear hz9 ht9
            by_cases hbig : 300 < ty.size
            · have hbi : (300 : Int) < (ty.size : Int) := by omega
              go_wp2_with fail
              go_ret2
              exact ⟨by rw [HX.out, if_pos (by rw [← HZ9.out]; exact hbig)]; rfl, HB.out.trans (HW.out.mono HB.out.size)⟩
            · have hbi : ¬ (300 : Int) < (ty.size : Int) := by omega
              go_wp2_with fail
              go_ret2
              exact ⟨by rw [HX.out, if_neg (by rw [← HZ9.out]; exact hbig), HT9.out]; rfl, HB.out.trans (HW.out.mono HB.out.size)⟩
end Go.Proofs.YtomodlllmbkndaaGreatDoor
