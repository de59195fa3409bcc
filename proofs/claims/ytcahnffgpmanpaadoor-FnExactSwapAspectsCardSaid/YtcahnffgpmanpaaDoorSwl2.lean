/- The law FnExactSwapAspects answers true at every list and index. Condition: the errors lie where start-up laid them. -/
import Derived.Test.YtcahnffgpmanpaaDoorSwt
namespace Go.Proofs.YtcahnffgpmanpaaDoor
open Go.RowKit Gram

theorem marksA_one (a : Option Addr) (n c : Nat) (B : Nat) (ss : List ByteArray) (w : World) (hn : n ≤ 1048576) (ha : w.ownsRow B 35 3 (.slice a n c) n (ss.map Value.string)) :
    Calls Tryd.prog 9 #[.slice a n c, .int .i64 1] w fun e w' => e = .returned (.int .i64 (1 + ((n * 3 : Nat) : Int))) ∧ w'.ownsRow B 35 3 (.slice a n c) n ((marksTo 1 (n * 3) ss).map Value.string) ∧ w.grownBy w' (Value.slice a n c).ownBlock := by
  refine (marksA_any a n c B 1 ss w hn (by omega) (by omega) ha).mono ?_
  rintro e w' ⟨h1, h2, h3⟩
  exact ⟨by rw [h1]; exact ret_int (by omega), h2, h3⟩
theorem heldA_one (a : Option Addr) (n c : Nat) (B : Nat) (ss : List ByteArray) (w : World) (hn : n ≤ 1048576) (hl : ss.length = n * 3) (ha : w.ownsRow B 35 3 (.slice a n c) n ((marksTo 1 (n * 3) ss).map Value.string)) :
    Calls Tryd.prog 10 #[.slice a n c, .int .i64 1] w fun e w' => e = .returned (.int .i64 (1 + ((n * 3 : Nat) : Int))) ∧ Below w.heap.size w w' := by
  refine (heldA_any a n c B 1 ss w hn (by omega) (by omega) hl ha).mono ?_
  rintro e w' ⟨h1, h2⟩
  exact ⟨by rw [h1]; exact ret_int (by omega), h2⟩

/-- a row that lies lower than a block that has grown -/
theorem row_under {w w' : World} {B : Nat} {row : Option Nat} {e : TypeId} {sz n : Nat} {v : Value} {xs : List Value} (h : w.ownsRow B e sz v n xs) (hg : w.grownBy w' row) (hne : ∀ j, v.ownBlock = some j → row ≠ some j) : w'.ownsRow B e sz v n xs :=
  ownsRow_of h (fun j hj => hg.block j (h.lt j hj).2 (fun he => hne j hj he.symm))
theorem row_up {w w' : World} {B : Nat} {e : TypeId} {sz n : Nat} {v : Value} {xs : List Value} (h : w.ownsRow B e sz v n xs) (hb : Below w.heap.size w w') : w'.ownsRow B e sz v n xs :=
  ownsRow_of h (fun j hj => hb.block j (h.lt j hj).2)

set_option maxHeartbeats 4000000 in
set_option maxRecDepth 100000 in
theorem swl_any (w : World) (a : Option Addr) (n c : Nat) (zs : List As) (i : Int) (hA : Asps w a n zs) (hn : n ≤ maxLen) (hz : ∀ p ∈ zs, p.1.size ≤ maxLen ∧ p.2.1.size ≤ maxLen ∧ p.2.2.size ≤ maxLen) (ek ec eb el ep : Addr) (he : Errs w ek ec eb el ep) :
    Calls Tryd.prog 3 #[.slice a n c, .int .i64 i] w fun e w' => e = .returned (.bool true) ∧ Below w.heap.size w w' := by
  have HZ := Lib.hid (szs_any w a n c zs hA hn hz)
  have HA := Lib.hid hA
  have HR := Lib.hid he
  unfold maxLen at hn
  clear hA hz he
  go_enter Tryd.func3, Tryd.ntmps3
  go_wp2_with fail
  refine HZ.out.mono ?_
  rintro e w1 ⟨⟨r, rfl, hr⟩, hb1⟩
  have HB1 := Lib.hid hb1
  clear hb1 HZ
  rcases hr with rfl | ⟨hr0, hr1, ht⟩
  · go_wp2_with fail
    go_ret
    exact ⟨rfl, HB1.out⟩
  · have HT := Lib.hid ht
    have hn' : n ≤ 1048576 := by omega
    clear ht
    have HC := Lib.hid (fun w' (hb : Below w.heap.size w w') => tos_any w' a n c zs (HA.out.later hb) hn')
    have HC2 := Lib.hid (fun w' (hb : Below w.heap.size w w') => tos_heap w' a n c zs (HA.out.later hb) hn')
    have HS := Lib.hid (fun w' b (hB : Arow w' 0 b n n zs) => spec_sw w' 0 b n n zs i hB HA.out.len HT.out)
    have HI := Lib.hid (fun w' b (hB : Arow w' 0 b n n zs) (hb : Below w.heap.size w w') => impl_sw w' 0 b n n zs i hB HA.out.len HT.out ek ec eb el ep (HR.out.later hb))
    have HE := Lib.hid (fun w' b d b' d' (hB : Asps w' b n zs) (hB' : Asps w' b' n zs) => eqs_any w' b b' n d d' zs hB hB' hn')
    have hm := swZ_len zs i
    unfold SwTo at HS HI
    generalize swZ zs i = zq at *
    generalize swOk zs i = ok at *
    generalize hmm : zq.length = m at *
    have HM := Lib.hid hmm
    have HFL := Lib.hid (show (asF zq).length = m * 3 by rw [asF_len, hmm])
    clear hmm
    have HQ := Lib.hid (fun w' b d b' d' (hB : Asps w' b m zq) (hB' : Asps w' b' m zq) => eqs_any w' b b' m d d' zq hB hB' (by omega))
    go_wp2_with fail
    refine (HC2.out _ HB1.out).mono ?_
    rintro e w2 ⟨g2, hg2, rfl, hA2, hb2, arr2, harr2, hasz2⟩
    have HA2 := Lib.hid (row_of_asps (B := 0) hA2 harr2 hasz2 (by unfold maxLen; omega) (Nat.zero_le _))
    clear harr2 hasz2
    have HB2 := Lib.hid (HB1.out.trans (hb2.mono HB1.out.size))
    clear hA2 hb2 hg2
    go_wp2_with fail
    refine (HS.out _ _ HA2.out).mono ?_
    rintro e w3 ⟨⟨a1, c1, rfl, o1⟩, hb3⟩
    have O1 := Lib.hid o1
    have HB3 := Lib.hid (HB2.out.trans (hb3.mono HB2.out.size))
    clear hb3 o1
    go_wp2_with fail
    refine (HC2.out _ HB3.out).mono ?_
    rintro e w4 ⟨g4, hg4, rfl, hA4, hb4, arr, harr, hasz⟩
    have HA4 := Lib.hid hA4
    have X4 := Lib.hid (row_of_asps hA4 harr hasz (by unfold maxLen; omega) hg4)
    have X40 := Lib.hid (row_of_asps (B := 0) hA4 harr hasz (by unfold maxLen; omega) (Nat.zero_le _))
    have HB4 := Lib.hid (HB3.out.trans (hb4.mono HB3.out.size))
    have P1 := Lib.hid (row_up O1.out hb4)
    have hne1 := Lib.hid (fun j (hj : (Value.slice a1 m c1).ownBlock = some j) => show j < g4 from Nat.lt_of_lt_of_le (O1.out.lt j hj).2 hg4)
    have hg4l := heap_lt harr
    clear hA4 hb4 harr hasz O1
    go_wp2_with fail
    refine (HI.out _ _ X40.out HB4.out).mono ?_
    rintro e w5 ⟨⟨a2, c2, rfl, o2⟩, hb5⟩
    have O2 := Lib.hid o2
    have HA5 := Lib.hid (HA4.out.later hb5)
    have X5 := Lib.hid (row_up X4.out hb5)
    have Q1 := Lib.hid (row_up P1.out hb5)
    have HB5 := Lib.hid (HB4.out.trans (hb5.mono HB4.out.size))
    have hne2 := Lib.hid (fun j (hj : (Value.slice a2 m c2).ownBlock = some j) => show g4 < j from Nat.lt_of_lt_of_le hg4l (o2.lt j hj).1)
    have hg5l : g4 < w5.heap.size := Nat.lt_of_lt_of_le hg4l hb5.size
    clear hb5 o2 X4 P1 HA4
    go_wp2_with fail
    refine (HQ.out _ _ _ _ _ (asps_of_row O2.out) (asps_of_row Q1.out)).mono ?_
    rintro e w6 ⟨rfl, hb6⟩
    have HA6 := Lib.hid (HA5.out.later hb6)
    have X6 := Lib.hid (row_up X5.out hb6)
    have Q6 := Lib.hid (row_up Q1.out hb6)
    have O6 := Lib.hid (row_up O2.out hb6)
    have HB6 := Lib.hid (HB5.out.trans (hb6.mono HB5.out.size))
    clear hb6 X5 Q1 O2 HA5
    cases ok
    all_goals
      go_wp2_with fail
      refine (HC.out _ HB6.out).mono ?_
      rintro e w7 ⟨g7, hg7, rfl, hA7, hb7⟩
      have HA7 := Lib.hid hA7
      have HA67 := Lib.hid (HA6.out.later hb7)
      have X7 := Lib.hid (row_up X6.out hb7)
      have Q7 := Lib.hid (row_up Q6.out hb7)
      have O7 := Lib.hid (row_up O6.out hb7)
      have HB7 := Lib.hid (HB6.out.trans (hb7.mono HB6.out.size))
      clear hA7 hb7 hg7 X6 Q6 O6 HA6
      go_wp2_with fail
      refine (HE.out _ _ _ _ _ HA67.out HA7.out).mono ?_
      rintro e w8 ⟨rfl, hb8⟩
      have X8 := Lib.hid (row_up X7.out hb8)
      have Q8 := Lib.hid (row_up Q7.out hb8)
      have O8 := Lib.hid (row_up O7.out hb8)
      have HB8 := Lib.hid (HB7.out.trans (hb8.mono HB7.out.size))
      clear hb8 X7 Q7 O7 HA67 HA7
      go_wp2_with fail
      refine (marksA_one _ n n _ _ w8 hn' X8.out).mono ?_
      rintro e w9 ⟨rfl, _, hg9⟩
      have hg9 : w8.grownBy w9 (some g4) := hg9
      have Q9 := Lib.hid (row_under Q8.out hg9 (fun j hj h => by injection h with h; have := hne1.out _ hj; omega))
      have O9 := Lib.hid (row_under O8.out hg9 (fun j hj h => by injection h with h; have := hne2.out _ hj; omega))
      have HB9 := Lib.hid (HB8.out.grown hg9 HB8.out.size (fun j hj => by injection hj with hj; have := HB3.out.size; omega))
      clear hg9 Q8 O8 X8
      go_wp2_with fail
      refine (HQ.out _ _ _ _ _ (asps_of_row O9.out) (asps_of_row Q9.out)).mono ?_
      rintro e w10 ⟨rfl, hb10⟩
      have Q10 := Lib.hid (row_up Q9.out hb10)
      have O10 := Lib.hid (row_up O9.out hb10)
      have HB10 := Lib.hid (HB9.out.trans (hb10.mono HB9.out.size))
      clear hb10 Q9 O9
      go_wp2_with fail
      refine (marksA_one _ m c2 _ _ w10 (by omega) O10.out).mono ?_
      rintro e w11 ⟨rfl, o11, hg11⟩
      have Q11 := Lib.hid (row_under Q10.out hg11 (fun j hj h => by have := hne1.out _ hj; have := hne2.out _ h; omega))
      have O11 := Lib.hid o11
      have HB11 := Lib.hid (HB10.out.grown hg11 HB10.out.size (fun j hj => by have := hne2.out _ hj; have := HB3.out.size; omega))
      clear hg11 o11 Q10 O10
      go_wp2_with fail
      refine (heldA_one _ m c2 _ _ w11 (by omega) HFL.out O11.out).mono ?_
      rintro e w12 ⟨rfl, hb12⟩
      have Q12 := Lib.hid (row_up Q11.out hb12)
      have O12 := Lib.hid (row_up O11.out hb12)
      have HB12 := Lib.hid (HB11.out.trans (hb12.mono HB11.out.size))
      clear hb12 Q11 O11
      go_wp2_with fail
      refine (HC2.out _ HB12.out).mono ?_
      rintro e w13 ⟨g13, hg13, rfl, hA13, hb13, arr13, harr13, hasz13⟩
      have HA13 := Lib.hid (row_of_asps (B := 0) hA13 harr13 hasz13 (by unfold maxLen; omega) (Nat.zero_le _))
      clear harr13 hasz13
      have Q13 := Lib.hid (row_up Q12.out hb13)
      have O13 := Lib.hid (row_up O12.out hb13)
      have HB13 := Lib.hid (HB12.out.trans (hb13.mono HB12.out.size))
      clear hb13 hA13 hg13 Q12 O12
      go_wp2_with fail
      refine (HI.out _ _ HA13.out HB13.out).mono ?_
      rintro e w14 ⟨⟨a3, c3, rfl, o14⟩, hb14⟩
      have R14 := Lib.hid o14
      have Q14 := Lib.hid (row_up Q13.out hb14)
      have O14 := Lib.hid (row_up O13.out hb14)
      have HB14 := Lib.hid (HB13.out.trans (hb14.mono HB13.out.size))
      clear hb14 o14 Q13 O13 HA13
      go_wp2_with fail
      refine (HQ.out _ _ _ _ _ (asps_of_row R14.out) (asps_of_row Q14.out)).mono ?_
      rintro e w15 ⟨rfl, hb15⟩
      have O15 := Lib.hid (row_up O14.out hb15)
      have HB15 := Lib.hid (HB14.out.trans (hb15.mono HB14.out.size))
      clear hb15 Q14 O14 R14
      go_wp2_with fail
      refine (heldA_one _ m c2 _ _ w15 (by omega) HFL.out O15.out).mono ?_
      rintro e w16 ⟨rfl, hb16⟩
      have HB16 := Lib.hid (HB15.out.trans (hb16.mono HB15.out.size))
      clear hb16 O15
      go_wp2_with fail
      go_ret
      exact ⟨rfl, HB16.out⟩
end Go.Proofs.YtcahnffgpmanpaaDoor
