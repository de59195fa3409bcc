/- The model's DrawJoinPointsOf; the laws' wvIn: whether a byte is in a text. Condition: texts of at most 2^40 bytes. The last one that is active, as a text. Plain lemmas. The law FnShadows answers true whatever bytes it is given. Condition: the library's own number can be read. -/
import Derived.Test.YtihjkkoaccmefaaGreatDoorJx
import Derived.Test.YtihjkkoaccmefaaGreatDoorHx
import Derived.Test.YtihjkkoaccmefaaGreatDoorNx
import Derived.Test.YtihjkkoaccmefaaGreatDoorQx
namespace Go.Proofs.YtihjkkoaccmefaaGreatDoor
open Go.RowKit Gram

set_option maxHeartbeats 1000000 in
theorem drawJps_any (w : World) (a : Option Addr) (n c : Nat) (h : BytesAt w a n) (hn : n ≤ c) (hc : c ≤ 9223372036854775807) (hnil : a = none → n = 0) :
    Calls Tryz.prog 5 #[.slice a n c] w fun e w' => (∃ (s t : ByteArray) (v : Int), e = .returned (.tuple #[.string s, .string t, .int .i64 v]) ∧ s.size ≤ 2000 ∧ t.size ≤ 2 ∧ -9223372036854775808 ≤ v ∧ v ≤ 9223372036854775807) ∧ Below w.heap.size w w' := by
  have H := Lib.hid (open_any w a n c h hn hc hnil)
  clear h hnil
  go_enter Tryz.func5, Tryz.ntmps5
  go_wp2_with fail
  refine H.out.mono ?_
  rintro e w1 ⟨m, rfl, hr, hb⟩
  have HR := Lib.hid hr
  have HB := Lib.hid hb
  clear hr hb
  go_wp2_with fail
  refine (some_any _ w.heap.size a m c 0 HR.out (by omega)).mono ?_
  rintro e w2 ⟨s, t, v, q, rfl, hs, ht, hv1, hv2, hq, hr2, hg2⟩
  have HG2 := Lib.hid hg2
  clear hr2 hg2
  go_wp2_with fail
  go_ret3
  exact ⟨⟨s, t, v, rfl, hs, ht, hv1, hv2⟩, grown_new HB.out HG2.out⟩

set_option maxHeartbeats 400000 in
theorem wvIn_any (s : ByteArray) (c : UInt8) (hs : s.size ≤ 1099511627776) (w : World) :
    Calls Tryz.prog 12 #[.string s, .int .u8 c.toNat] w fun e w' => e = .returned (.bool (s.data.toList.contains c)) ∧ w = w' := by
  have H := Lib.hid (findI_has s.data.toList c)
  go_enter Tryz.func12, Tryz.ntmps12
  go_wp2_with fail
  go_loopw [8] (fun i wr => ∃ k : Nat, k ≤ s.size ∧ i = .int .i64 k ∧ Hid (∀ j (hj : j < s.data.toList.length), j < k → s.data.toList[j] ≠ c) ∧ w = wr) (fun i _ => s.size - (intOf i).toNat)
  case atStart => exact ⟨0, Nat.zero_le _, by go_num, fun j _ h => absurd h (Nat.not_lt_zero _), rfl⟩
  case round =>
    obtain ⟨k, hk, rfl, hno, rfl⟩ := hrel
    by_cases hlt : k < s.size
    · have hbq := Lib.hid (toNat_beq s[k] c)
      cases hb : ((s[k].toNat : Int) == (c.toNat : Int)) with
      | true =>
        have HY := Lib.hid (show s.data.toList.contains c = true by
          rw [hbq.out] at hb
          have e1 : s.data[k]'hlt = c := beq_iff_eq.1 hb
          rw [List.contains_iff_mem, ← e1]; simp)
        go_wp2_with fail
        go_ret
        exact ⟨by rw [HY.out]; rfl, rfl⟩
      | false =>
        have HY := Lib.hid (show s.data[k]'hlt ≠ c by
          rw [hbq.out] at hb
          exact beq_eq_false_iff_ne.1 hb)
        go_wp2_with fail
        go_roundw
        case rel =>
          refine ⟨k + 1, by omega, by go_num, fun j hj hlj => ?_, by first | rfl | trivial⟩
          by_cases h9 : j = k
          · subst h9; simpa using HY.out
          · exact hno.out j hj (by omega)
        case measure => simp [intOf]; omega
    · have HY := Lib.hid (show s.data.toList.contains c = false by
        rw [← H.out, decide_eq_false_iff_not, findI_none _ _ (fun j hj => hno.out j hj (by simp at hj; omega))]; decide)
      go_wp2_with fail
      go_ret
      exact ⟨by rw [HY.out]; rfl, rfl⟩
end Go.Proofs.YtihjkkoaccmefaaGreatDoor
namespace Go.Proofs.YtihjkkoaccmefaaGreatDoor
open Go.RowKit Gram

theorem last_stk {l : List UInt8} (h : 1 ≤ l.length) : (txtOf l).extract ((txtOf l).size - 1) (txtOf l).size = txtOf [topOf l] := by
  rw [show (txtOf l).size = l.length from txtOf_size _]
  apply ByteArray.ext
  apply Array.ext'
  obtain ⟨t, x, hs⟩ : ∃ t x, l = t ++ [x] := by
    rcases List.eq_nil_or_concat l with hn | ⟨t, x, hx⟩
    · rw [hn] at h; simp at h
    · exact ⟨t, x, by rw [hx]; simp⟩
  rw [hs, top_enter]
  simp [txtOf]
theorem last_stk2 {j : Jpt} (h : 1 ≤ j.stk.length) : (sT j).extract ((sT j).size - 1) (sT j).size = txtOf [topOf j.stk] := last_stk h
end Go.Proofs.YtihjkkoaccmefaaGreatDoor
namespace Go.Proofs.YtihjkkoaccmefaaGreatDoor
open Go.RowKit Gram

/-- one of the first shadows is the join point's -/
def hitJ (h j : Jpt) : Bool := ((kT h).toList == (kT j).toList) && ((nT h).toList == (nT j).toList) && ((sT h).toList == (txtOf [topOf j.stk]).toList)
def hitTo (ss : List Jpt) (j : Jpt) (i : Nat) : Bool := (ss.take i).any fun h => hitJ h j
theorem hitTo_step (ss : List Jpt) (j : Jpt) (i : Nat) (h : i < ss.length) : hitTo ss j (i + 1) = (hitTo ss j i || hitJ ss[i] j) := by
  rw [hitTo, List.take_succ_eq_append_getElem h, List.any_append]; simp [hitTo]
theorem hitTo_all (ss : List Jpt) (j : Jpt) (h : (⟨j.nm, [topOf j.stk]⟩ : Jpt) ∈ ss) : hitTo ss j ss.length = true := by
  rw [hitTo, List.take_length, List.any_eq_true]
  exact ⟨_, h, by simp [hitJ, kT, nT, sT]⟩
theorem shOn_size (c : UInt8) (l : List Stm) : (shOn c l).length ≤ l.length := List.length_filterMap_le ..
theorem shAll_size : ∀ (ps : List Pr), (shAll ps).length ≤ sizeSum ps
  | [] => by simp [shAll, sizeSum]
  | p :: t => by
    have h1 := shAll_size t
    have h2 := shOn_size p.1 (flats p.2)
    simp only [shAll, List.flatMap_cons, List.length_append, sizeSum, List.map_cons, List.sum_cons, shOf] at h1 h2 ⊢
    omega

theorem if3_same (a b c a' b' c' : ByteArray) (h1 : a = a') (h2 : b = b') (h3 : c = c') : (Value.agg #[.string a, .string b, .string c]) = .agg #[.string a', .string b', .string c'] := by rw [h1, h2, h3]

set_option maxHeartbeats 400000 in
theorem sfl_long (w : World) (a : Option Addr) (n c : Nat) (hl : 1048576 < n) (hnc : n ≤ c) (hc : c ≤ 9223372036854775807) :
    Calls Tryz.prog 3 #[.slice a n c] w fun e w' => e = .returned (.bool true) ∧ Below w.heap.size w w' := by
  go_enter Tryz.func3, Tryz.ntmps3
  go_wp2_with fail
  go_ret
  exact ⟨rfl, Below.refl _ _⟩

set_option maxHeartbeats 8000000 in
set_option maxRecDepth 100000 in
theorem sfl_short (w : World) (a : Option Addr) (n0 c : Nat) (h : BytesAt w a n0) (hn : n0 ≤ 1048576) (hnc : n0 ≤ c) (hc : c ≤ 9223372036854775807) (hnil : a = none → n0 = 0) (hm : MaxCell w) :
    Calls Tryz.prog 3 #[.slice a n0 c] w fun e w' => e = .returned (.bool true) ∧ Below w.heap.size w w' := by
  have HD := Lib.hid (drawJps_any w a n0 c h hnc hc hnil)
  have HM := Lib.hid hm
  clear h hnil hm
  go_enter Tryz.func3, Tryz.ntmps3
  go_wp2_with fail
  refine HD.out.mono ?_
  rintro e w0 ⟨⟨s, nm, v, rfl, hs, hnm, hv1, hv2⟩, b0⟩
  have B0 := Lib.hid b0
  have HI := Lib.hid (fun w => impl_sh2 s w (by omega))
  have HS := Lib.hid (fun w => spec_sh2 s w (by omega))
  have HJ := Lib.hid (fun w => impl_pts s nm v w (by omega))
  have HZ := Lib.hid (fun w => impl_size s w (by omega))
  have hsm := shP_small s
  have hpt : (ptsP (runP s nm v)).length ≤ 501 ∧ ∀ j ∈ ptsP (runP s nm v), 1 ≤ j.stk.length ∧ j.stk.length ≤ 20 ∧ (⟨j.nm, [topOf j.stk]⟩ : Jpt) ∈ shP s := by
    cases hr : runP s nm v with
    | none => exact ⟨by simp [ptsP], fun j hj => by simp [ptsP] at hj⟩
    | some r => exact run_shadow hr
  have hsz : (runP s nm v).isSome = true → ((shP s).length : Int) ≤ sizeP s := by
    intro hr
    unfold runP at hr
    unfold shP sizeP
    cases hp : progOf s with
    | none => rw [hp] at hr; cases hr
    | some ps => exact Int.ofNat_le.2 (shAll_size ps)
  unfold PtsTo at HJ
  have HPt := Lib.hid hpt
  have HSz := Lib.hid hsz
  clear b0 HD hsz hs hnm hv1 hv2
  have hm501 := hpt.1
  clear hpt
  generalize sizeP s = sz at *
  generalize (runP s nm v).isSome = ok at *
  generalize ptsP (runP s nm v) = js at *
  generalize shP s = ss at *
  generalize hml : js.length = m at *
  generalize hnl : ss.length = n at *
  have HMl := Lib.hid hml
  have HNl := Lib.hid hnl
  clear hml hnl
  go_wp2_with fail
  refine (HI.out _ (HM.out.later B0.out)).mono ?_
  rintro e w1 ⟨⟨a1, c1, rfl, q1⟩, b1⟩
  have Q1 := Lib.hid q1
  have B1 := Lib.hid (B0.out.trans (b1.mono B0.out.size))
  clear b1 q1
  go_wp2_with fail
  refine (HS.out _).mono ?_
  rintro e w2 ⟨⟨a2, c2, rfl, q2⟩, b2⟩
  have P2 := Lib.hid (row_up Q1.out b2)
  have Q2 := Lib.hid q2
  have B2 := Lib.hid (B1.out.trans (b2.mono B1.out.size))
  clear b2 q2
  go_wp2_with fail
  refine (HJ.out _ (HM.out.later B2.out)).mono ?_
  rintro e w3 ⟨⟨a3, c3, rfl, q3⟩, b3⟩
  have P3 := Lib.hid (row_up P2.out b3)
  have Q3 := Lib.hid (row_up Q2.out b3)
  have R3 := Lib.hid q3
  have B3 := Lib.hid (B2.out.trans (b3.mono B2.out.size))
  clear b3 q3 P2 Q2 Q1
  have HC1 := Lib.hid (fun (wr : World) (hb : Below w3.heap.size w3 wr) (k : Nat) (hk : k < n) => jrow_cell (js := ss) (c := c1) (T := 31) (a := a1) (B := w0.heap.size) (w := wr) (by have := row_up P3.out hb; rw [← HNl.out] at this; exact this) k (by rw [HNl.out]; exact hk))
  have HC2 := Lib.hid (fun (wr : World) (hb : Below w3.heap.size w3 wr) (k : Nat) (hk : k < n) => jrow_cell (js := ss) (c := c2) (T := 31) (a := a2) (B := w1.heap.size) (w := wr) (by have := row_up Q3.out hb; rw [← HNl.out] at this; exact this) k (by rw [HNl.out]; exact hk))
  have HC3 := Lib.hid (fun (wr : World) (hb : Below w3.heap.size w3 wr) (k : Nat) (hk : k < m) => jrow_cell (js := js) (c := c3) (T := 33) (a := a3) (B := w2.heap.size) (w := wr) (by have := row_up R3.out hb; rw [← HMl.out] at this; exact this) k (by rw [HMl.out]; exact hk))
  clear P3 Q3 R3
  have hnn : ((n : Int) != (n : Int)) = false := by simp
  go_wp2_with fail
  go_loopw [43] (fun i wr => ∃ k : Nat, k ≤ n ∧ i = .int .i64 k ∧ Hid (Below w3.heap.size w3 wr)) (fun i _ => n - (intOf i).toNat)
  case atStart => exact ⟨0, Nat.zero_le _, by go_num, Below.refl _ _⟩
  case round =>
    obtain ⟨k, hk, rfl, hb⟩ := hrel
    by_cases hlt : k < n
    · obtain ⟨g, ha1, d0, d1, d2⟩ := HC1.out wr hb.out k hlt
      obtain ⟨g', ha2, d0', d1', d2'⟩ := HC2.out wr hb.out k hlt
      subst ha1
      subst ha2
      have hks : k < ss.length := by rw [HNl.out]; exact hlt
      generalize kT ss[k] = x at *
      generalize nT ss[k] = y at *
      generalize sT ss[k] = z at *
      go_wp2_with fail
      go_quiet (fail)
      all_goals
        go_wp2_with fail
        go_roundw
        case rel => exact ⟨k + 1, by omega, by go_num, below_drewN hb.out _⟩
        case measure => simp [intOf]; omega
    · clear hnn HC2
      obtain ⟨wl, hwl⟩ : ∃ x, x = wr := ⟨_, rfl⟩
      subst hwl
      go_wp2_with fail
      go_loopw [58] (fun i wr => ∃ k : Nat, k ≤ m ∧ i = .int .i64 k ∧ Hid (Below w3.heap.size w3 wr)) (fun i _ => m - (intOf i).toNat)
      case atStart => exact ⟨0, Nat.zero_le _, by go_num, hb.out⟩
      case round =>
        obtain ⟨kk, hkk, rfl, hbb⟩ := hrel
        obtain ⟨wj, hwj⟩ : ∃ x, x = wr := ⟨_, rfl⟩
        subst hwj
        by_cases hlm : kk < m
        · obtain ⟨g, ha3, d0, d1, d2⟩ := HC3.out wj hbb.out kk hlm
          subst ha3
          have hkl : kk < js.length := by rw [HMl.out]; exact hlm
          obtain ⟨j1, j2, j3⟩ := HPt.out.2 js[kk] (List.getElem_mem hkl)
          have hall := hitTo_all ss js[kk] j3
          rw [HNl.out] at hall
          have hlast := last_stk j1
          have h0 : hitTo ss js[kk] 0 = false := by simp [hitTo]
          have hsz : (sT js[kk]).size = js[kk].stk.length := txtOf_size _
          have HSt := Lib.hid (fun i (hi : i < n) => hitTo_step ss js[kk] i (by rw [HNl.out]; exact hi))
          have HAl := Lib.hid hall
          have hlast2 : (sT js[kk]).extract ((sT js[kk]).size - 1) (sT js[kk]).size = txtOf [topOf js[kk].stk] := hlast
          unfold hitJ at HSt
          clear hall hlast j3
          generalize txtOf [topOf js[kk].stk] = lt at *
          generalize hitTo ss js[kk] = hit at *
          generalize kT js[kk] = kd at *
          generalize nT js[kk] = nd at *
          generalize sT js[kk] = sd at *
          have hs1 : 1 ≤ sd.size := by omega
          have hs20 : sd.size ≤ 20 := by omega
          have e1 : IntKind.i64.wrap ((sd.size : Int) - 1) = ((sd.size - 1 : Nat) : Int) := by rw [IntWalk.i64_in _ (by omega)]; omega
          have hsi : (1 : Int) ≤ sd.size := by omega
          have HA := Lib.hid ((Below.refl wj.heap.size wj).alloc (Nat.le_refl _) (Obj.cells #[.string kd, .string nd, .string sd] 33))
          have HJb := Lib.hid (heap_alloc_new wj (Obj.cells #[.string kd, .string nd, .string sd] 33))
          clear hsz j1 j2
          go_wp2_with fail
          go_loopw [13, 64] (fun x i wr => ∃ i' : Nat, i' ≤ n ∧ i = .int .i64 i' ∧ x = .bool (hit i') ∧ Hid (Below (wj.alloc (Obj.cells #[.string kd, .string nd, .string sd] 33)).heap.size (wj.alloc (Obj.cells #[.string kd, .string nd, .string sd] 33)) wr)) (fun _ i _ => n - (intOf i).toNat)
          case atStart => exact ⟨0, Nat.zero_le _, by go_num, by rw [h0], Below.refl _ _⟩
          case round =>
            obtain ⟨i', hi', rfl, rfl, hbi⟩ := hrel
            obtain ⟨wi, hwi⟩ : ∃ x, x = wr := ⟨_, rfl⟩
            subst hwi
            have hbw := hbb.out.trans ((HA.out.trans (hbi.out.mono HA.out.size)).mono hbb.out.size)
            by_cases hlti : i' < n
            · obtain ⟨g1, ha1, x0, x1, x2⟩ := HC1.out wi hbw i' hlti
              subst ha1
              have hst := HSt.out i' hlti
              have his : i' < ss.length := by rw [HNl.out]; exact hlti
              generalize kT ss[i'] = xk at *
              generalize nT ss[i'] = xn at *
              generalize sT ss[i'] = xs at *
              have hjb : wi.heap[wj.heap.size]? = some (Obj.cells #[.string kd, .string nd, .string sd] 33 (0, 0)) := by
                rw [hbi.out.block _ (by rw [alloc_size']; omega)]; exact HJb.out
              have hjb2 : (wi.alloc (Obj.cells #[.string xk, .string xn, .string xs] 31)).heap[wj.heap.size]? = some (Obj.cells #[.string kd, .string nd, .string sd] 33 (0, 0)) := by
                rw [Lib.alloc_old _ _ _ (heap_lt hjb)]; exact hjb
              have q0 : (wi.alloc (Obj.cells #[.string xk, .string xn, .string xs] 31)).cell? ⟨wj.heap.size, 0, none⟩ = some (.string kd) := by rw [Lib.cell_of_heap hjb2]; rfl
              have q1 : (wi.alloc (Obj.cells #[.string xk, .string xn, .string xs] 31)).cell? ⟨wj.heap.size, 1, none⟩ = some (.string nd) := by rw [Lib.cell_of_heap hjb2]; rfl
              have q2 : (wi.alloc (Obj.cells #[.string xk, .string xn, .string xs] 31)).cell? ⟨wj.heap.size, 2, none⟩ = some (.string sd) := by rw [Lib.cell_of_heap hjb2]; rfl
              have HB2 := Lib.hid (fun nq => below_drewN (hbi.out.alloc hbi.out.size (Obj.cells #[.string xk, .string xn, .string xs] 31)) nq)
              clear hjb hjb2 hbw
              generalize hsm : hit i' = sm at *
              cases sm with
              | true =>
                have HN := Lib.hid (by rw [hst, Bool.true_or] : hit (i' + 1) = true)
                clear hst
                go_wp2_with fail
                go_quiet (fail)
                all_goals
                  go_wp2_with fail
                  go_roundw
                  case rel => exact ⟨i' + 1, by omega, by go_num, by rw [HN.out], HB2.out _⟩
                  case measure => simp [intOf]; omega
              | false =>
                cases hb1 : (xk.toList == kd.toList) with
                | false =>
                  have HN := Lib.hid (by rw [hst, hb1]; rfl : hit (i' + 1) = false)
                  clear hst
                  go_wp2_with fail
                  go_quiet (fail)
                  all_goals
                    go_wp2_with fail
                    go_roundw
                    case rel => exact ⟨i' + 1, by omega, by go_num, by rw [HN.out], HB2.out _⟩
                    case measure => simp [intOf]; omega
                | true =>
                  cases hb2 : (xn.toList == nd.toList) with
                  | false =>
                    have HN := Lib.hid (by rw [hst, hb1, hb2]; rfl : hit (i' + 1) = false)
                    clear hst
                    go_wp2_with fail
                    go_quiet (fail)
                    all_goals
                      go_wp2_with fail
                      go_roundw
                      case rel => exact ⟨i' + 1, by omega, by go_num, by rw [HN.out], HB2.out _⟩
                      case measure => simp [intOf]; omega
                  | true =>
                    cases hb3 : (xs.toList == lt.toList) with
                    | false =>
                      have HN := Lib.hid (by rw [hst, hb1, hb2, hb3]; rfl : hit (i' + 1) = false)
                      clear hst
                      go_wp2_with fail
                      go_quiet (fail)
                      all_goals
                        go_wp2_with fail
                        go_roundw
                        case rel => exact ⟨i' + 1, by omega, by go_num, by rw [HN.out], HB2.out _⟩
                        case measure => simp [intOf]; omega
                    | true =>
                      have HN := Lib.hid (by rw [hst, hb1, hb2, hb3]; rfl : hit (i' + 1) = true)
                      clear hst
                      go_wp2_with fail
                      go_quiet (fail)
                      all_goals
                        go_wp2_with fail
                        go_roundw
                        case rel => exact ⟨i' + 1, by omega, by go_num, by rw [HN.out], HB2.out _⟩
                        case measure => simp [intOf]; omega
            · have hin : i' = n := by omega
              subst hin
              rw [HAl.out]
              have HB3 := Lib.hid hbw
              clear hbw
              go_wp2_with fail
              go_roundw
              case rel => exact ⟨kk + 1, by omega, by go_num, HB3.out⟩
              case measure => simp [intOf]; omega
        · have HB4 := Lib.hid (B3.out.trans (hbb.out.mono B3.out.size))
          have HMx := Lib.hid (HM.out.later HB4.out)
          cases ok with
          | false =>
            go_wp2_with fail
            go_ret
            exact ⟨rfl, HB4.out⟩
          | true =>
            have hle : ((n : Int) ≤ sz) = True := eq_true (HSz.out rfl)
            go_wp2_with fail
            refine (HZ.out _ HMx.out).mono ?_
            rintro e w9 ⟨rfl, hb9⟩
            have HB9 := Lib.hid (HB4.out.trans (hb9.mono HB4.out.size))
            clear hb9
            go_wp2_with fail
            go_ret
            exact ⟨by simp [hle], HB9.out⟩
theorem sfl_any (w : World) (a : Option Addr) (n c : Nat) (h : BytesAt w a n) (hnc : n ≤ c) (hc : c ≤ 9223372036854775807) (hnil : a = none → n = 0) (hm : MaxCell w) :
    Calls Tryz.prog 3 #[.slice a n c] w fun e w' => e = .returned (.bool true) ∧ Below w.heap.size w w' := by
  by_cases hl : n ≤ 1048576
  · exact sfl_short w a n c h hl hnc hc hnil hm
  · exact sfl_long w a n c (by omega) hnc hc
end Go.Proofs.YtihjkkoaccmefaaGreatDoor
