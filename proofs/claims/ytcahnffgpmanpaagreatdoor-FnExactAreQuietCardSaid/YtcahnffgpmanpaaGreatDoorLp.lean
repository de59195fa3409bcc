/- The model's l2Parts and l4Proceeds: how often the statements of a text proceed, as the plain dds says. Condition: texts of at most 400 bytes. -/
import Derived.Test.YtcahnffgpmanpaaGreatDoorSasp
import Derived.Test.YtcahnffgpmanpaaGreatDoorTxt
import Derived.Test.YtcahnffgpmanpaaGreatDoorDdc
namespace Go.Proofs.YtcahnffgpmanpaaGreatDoor
open Go.RowKit Gram

theorem cho_from (a b : List Stm) : from_ (txtOf (Stm.cho a b).txt) 1 = 91 :: (txts a ++ 93 :: 91 :: (txts b ++ [93])) := by
  simp [from_, txtOf, Stm.txt]
theorem cho_size (a b : List Stm) : (txtOf (Stm.cho a b).txt).size = (txts a).length + (txts b).length + 5 := by
  show (Stm.cho a b).txt.toArray.size = _
  simp [Stm.txt]; omega
theorem cho_end (a b : List Stm) (ha : wfs a = true) : endI (txtOf (Stm.cho a b).txt) (pK (from_ (txtOf (Stm.cho a b).txt) 1)) = ((txts a).length + 3 : Nat) := by
  have h := (parse_complete ((txts a).length + (txts b).length + 5)).2.1 a (91 :: (txts b ++ [93])) ha (by omega)
  rw [cho_from, ← pK_eq ((txts a).length + (txts b).length + 5) _ (by simp; omega), h]
  simp only [endI, cho_size]
  simp; omega

set_option maxHeartbeats 1000000 in
set_option maxRecDepth 100000 in
theorem parts_any (a b : List Stm) (ha : wfs a = true) (hl : (Stm.cho a b).txt.length ≤ 400) (w : World) :
    Calls Tryz.prog 44 #[.string (txtOf (Stm.cho a b).txt)] w fun e w' => e = .returned (.tuple #[.string (txtOf (txts a)), .string (txtOf (txts b))]) ∧ Below w.heap.size w w' := by
  have hsz := cho_size a b
  have hl2 : (txts a).length + (txts b).length + 5 ≤ 400 := by rw [← hsz]; exact hl
  have HB := Lib.hid (fun w => (both_all ((txtOf (Stm.cho a b).txt).size + 1)).2 (txtOf (Stm.cho a b).txt) 1 1 w rfl (by omega) (by omega) (by omega))
  rw [cho_end a b ha] at HB
  have h1 : (txtOf (Stm.cho a b).txt).extract 2 ((txts a).length + 2) = txtOf (txts a) := by
    rw [extract_from]
    simp [from_, txtOf, Stm.txt]
  have h2 : (txtOf (Stm.cho a b).txt).extract ((txts a).length + 4) ((txts a).length + (txts b).length + 4) = txtOf (txts b) := by
    rw [extract_from]
    have : from_ (txtOf (Stm.cho a b).txt) ((txts a).length + 4) = txts b ++ [93] := by
      simp [from_, txtOf, Stm.txt]
    rw [this]
    have h3 : (txts a).length + (txts b).length + 4 - ((txts a).length + 4) = (txts b).length := by omega
    rw [h3]; simp [txtOf]
  have HA := Lib.hid (⟨h1, h2⟩ : _ ∧ _)
  clear h1 h2 ha hl
  generalize txtOf (Stm.cho a b).txt = s at *
  go_enter Tryz.func44, Tryz.ntmps44
  go_wp2_with fail
  refine (HB.out _).mono ?_
  rintro e w1 ⟨rfl, rfl⟩
  have w1' : IntKind.i64.wrap ((((txts a).length + 3 : Nat) : Int) - 1) = (((txts a).length + 2 : Nat) : Int) := by rw [IntKind.wrap_i64]; omega
  have w2' : IntKind.i64.wrap ((((txts a).length + 3 : Nat) : Int) + 1) = (((txts a).length + 4 : Nat) : Int) := by rw [IntKind.wrap_i64]; omega
  have w3' : IntKind.i64.wrap ((s.size : Int) - 1) = (((txts a).length + (txts b).length + 4 : Nat) : Int) := by rw [IntKind.wrap_i64]; omega
  have z1 : (((txts a).length + 2 : Nat) : Int) ≤ s.size := by omega
  have z2 : (2 : Int) ≤ (((txts a).length + 2 : Nat) : Int) := by omega
  have z3 : (((txts a).length + (txts b).length + 4 : Nat) : Int) ≤ s.size := by omega
  have z4 : (((txts a).length + 4 : Nat) : Int) ≤ (((txts a).length + (txts b).length + 4 : Nat) : Int) := by omega
  have y1 : (txts a).length + 2 ≤ s.size := by omega
  have y2 : 2 ≤ (txts a).length + 2 := by omega
  have y3 : (txts a).length + (txts b).length + 4 ≤ s.size := by omega
  have y4 : (txts a).length + 4 ≤ (txts a).length + (txts b).length + 4 := by omega
  have y5 : (txts a).length + 4 ≤ s.size := by omega
  generalize ((txts a).length + 3 : Nat) = e3 at *
  generalize ((txts a).length + 2 : Nat) = e2 at *
  generalize ((txts a).length + (txts b).length + 4 : Nat) = e5 at *
  generalize ((txts a).length + 4 : Nat) = e4 at *
  have hs1 : ∀ w, (Instr.slice 9 (.string s) (some (.int .i64 2)) (some (.int .i64 e2)) none).run Tryz.prog w = .ok (.string (txtOf (txts a))) w := fun w => by
    rw [run_slice_string w _ _ _ _ _ _ Tryz.underlying9 (by omega) z2 z1, ← HA.out.1]; rfl
  have hs2 : ∀ w, (Instr.slice 9 (.string s) (some (.int .i64 e4)) (some (.int .i64 e5)) none).run Tryz.prog w = .ok (.string (txtOf (txts b))) w := fun w => by
    rw [run_slice_string w _ _ _ _ _ _ Tryz.underlying9 (by omega) z4 z3, ← HA.out.2]; rfl
  clear z1 z2 z3 z4 y1 y2 y3 y4 y5 hsz hl2
  go_wp2_with fail
  go_quiet (fail)
  go_wp2_with fail
  go_ret2
  exact ⟨rfl, ⟨rfl, rfl, rfl, Nat.le_refl _, fun _ _ => rfl⟩⟩

def isPro : Stm → Bool
  | .pro => true
  | _ => false
def isCho : Stm → Bool
  | .cho _ _ => true
  | _ => false
/-- the first sign of a statement: whether it proceeds, whether it asks -/
theorem first_sign (x : Stm) (h : x.wf = true) : 0 < (txtOf x.txt).size ∧ ∀ hz : 0 < (txtOf x.txt).size,
    ((((txtOf x.txt)[0]'hz).toNat : Int) == 75) = isPro x ∧ ((((txtOf x.txt)[0]'hz).toNat : Int) == 63) = isCho x := by
  cases x with
  | chg g d =>
    simp only [Stm.wf, Bool.and_eq_true] at h
    rcases sgn_cases h.1 with rfl | rfl | rfl <;> exact ⟨by show 0 < 2; omega, fun _ => ⟨rfl, rfl⟩⟩
  | prt => exact ⟨by show 0 < 1; omega, fun _ => ⟨rfl, rfl⟩⟩
  | pro => exact ⟨by show 0 < 1; omega, fun _ => ⟨rfl, rfl⟩⟩
  | call c => exact ⟨by show 0 < 2; omega, fun _ => ⟨rfl, rfl⟩⟩
  | cho a b => exact ⟨by rw [cho_size]; omega, fun _ => ⟨rfl, rfl⟩⟩

theorem txts_ge' (xs : List Stm) : xs.length ≤ (txts xs).length := by
  induction xs with
  | nil => simp [txts]
  | cons x xs ih => have := x.txt_len; simp [txts]; omega

def SaidLp (n : Nat) : Prop := ∀ (xs : List Stm) (w : World), (txts xs).length ≤ n → n ≤ 400 → wfs xs = true →
  Calls Tryz.prog 32 #[.string (txtOf (txts xs))] w fun e w' => e = .returned (.tuple #[.int .i64 (dds xs).least, .int .i64 (dds xs).most]) ∧ Below w.heap.size w w'

set_option maxHeartbeats 4000000 in
set_option maxRecDepth 100000 in
theorem lp_loop (n : Nat) (ih : ∀ m, m < n → SaidLp m) (xs : List Stm) (w : World) (hx : (txts xs).length ≤ n) (hn : n ≤ 400) (hw : wfs xs = true) :
    Calls Tryz.prog 32 #[.string (txtOf (txts xs))] w fun e w' => e = .returned (.tuple #[.int .i64 (dds xs).least, .int .i64 (dds xs).most]) ∧ Below w.heap.size w w' := by
  have HSp := Lib.hid (split_any (txtOf (txts xs)) w (by rw [txtOf_size]; omega))
  have HpA := Lib.hid (show pA (from_ (txtOf (txts xs)) 0) = some xs from by rw [from_zero]; exact (pA_iff _ _).2 ⟨rfl, hw⟩)
  have H := Lib.hid ih
  have HX := Lib.hid hx
  have HW := Lib.hid hw
  clear ih hx hw
  go_enter Tryz.func32, Tryz.ntmps32
  go_wp2_with fail
  refine HSp.out.mono ?_
  rintro e w1 ⟨v, ok, ys, rfl, hr, hown, hb⟩
  obtain rfl : ys = xs := by
    rcases hr.out with ⟨_, h2, _⟩ | ⟨_, h2⟩
    · rw [HpA.out] at h2; cases h2
    · rw [HpA.out] at h2; exact (Option.some.inj h2).symm
  have HO := Lib.hid hown
  have HB := Lib.hid hb
  obtain ⟨ad, ln, cp, rfl⟩ := slice_form hown
  clear hr hown hb
  go_wp2_with fail
  have hln : ln = ys.length := by
    rcases HO.out.2 with ⟨h1, h2⟩ | ⟨g, cap, cur, h1, _⟩
    · injection h1 with _ h3 _; rw [h3, h2]
    · injection h1 with _ h3 _
  have HL := Lib.hid hln
  have hle := txts_ge' ys
  have HX2 := HX.out
  have hlb : ln ≤ 400 := by omega
  clear hln hle HX2
  go_loopw [4, 5, 23] (fun lo hi i wr => ∃ k : Nat, k ≤ ln ∧ lo = .int .i64 (dds (ys.take k)).least ∧ hi = .int .i64 (dds (ys.take k)).most ∧ i = .int .i64 k ∧ Hid (Below w1.heap.size w1 wr)) (fun _ _ i _ => ln - (intOf i).toNat)
  case atStart => exact ⟨0, Nat.zero_le _, rfl, rfl, rfl, Below.refl _ _⟩
  case round =>
    obtain ⟨k, hk, rfl, rfl, rfl, hbr⟩ := hrel
    by_cases hlt : k < ln
    · obtain ⟨x, hxk⟩ : ∃ x, ys[k]? = some x := ⟨_, List.getElem?_eq_getElem (by rw [← HL.out]; exact hlt)⟩
      have hvk : (stmVs ys)[k]? = some (.string (txtOf x.txt)) := by
        rw [stmVs, List.getElem?_map, hxk]; rfl
      obtain ⟨g, hga, hc1⟩ : ∃ g, ad = some ⟨g, 0, none⟩ ∧ wr.cell? ⟨g, k, none⟩ = some (.string (txtOf x.txt)) := by
        rcases HO.out.2 with ⟨h1, h2⟩ | ⟨g, cap, cur, h1, hg⟩
        · injection h1 with h3 h4; omega
        · injection h1 with h3 h4 h5
          subst h3; subst h4; subst h5
          have hg2 := (HO.out.lt g rfl).2
          have := row_cell HO.out k _ hvk
          exact ⟨g, rfl, by rw [← this]; exact World.cell?_of_block (a := ⟨g, k, none⟩) (hbr.out.block g hg2)⟩
      subst hga
      obtain ⟨hb1, hb2⟩ := txts_take ys k x hxk
      obtain ⟨hw1, hw2⟩ := wfs_get HW.out hxk
      have hx2 := HX.out
      obtain ⟨hl1, hl2⟩ := dd_bound (ys.take k) hw2 (by omega)
      obtain ⟨hz, hq⟩ := first_sign x hw1
      obtain ⟨q75, q63⟩ := hq hz
      have HT := Lib.hid (show dds (ys.take (k + 1)) = (dds (ys.take k)).plus x.dd by rw [hb2, dds_snoc])
      have HN := Lib.hid (show x.txt.length ≤ n by omega)
      have HWx := Lib.hid hw1
      clear hb1 hb2 hw1 hw2 hx2 hxk hvk hq
      generalize dds (ys.take k) = d at *
      cases x with
      | pro =>
        generalize txtOf Stm.pro.txt = t at *
        simp only [isPro, isCho] at q75 q63
        go_wp2_with fail
        go_roundw
        case rel =>
          refine ⟨k + 1, by omega, ?_, ?_, by go_num, hbr.out⟩
          all_goals
            rw [HT.out]
            go_num
        case measure => simp [intOf]; omega
      | chg g0 e0 =>
        generalize txtOf (Stm.chg g0 e0).txt = t at *
        simp only [isPro, isCho] at q75 q63
        go_wp2_with fail
        go_roundw
        case rel =>
          refine ⟨k + 1, by omega, ?_, ?_, by go_num, hbr.out⟩
          all_goals rw [HT.out]; rfl
        case measure => simp [intOf]; omega
      | prt =>
        generalize txtOf (Stm.prt).txt = t at *
        simp only [isPro, isCho] at q75 q63
        go_wp2_with fail
        go_roundw
        case rel =>
          refine ⟨k + 1, by omega, ?_, ?_, by go_num, hbr.out⟩
          all_goals rw [HT.out]; rfl
        case measure => simp [intOf]; omega
      | call c0 =>
        generalize txtOf (Stm.call c0).txt = t at *
        simp only [isPro, isCho] at q75 q63
        go_wp2_with fail
        go_roundw
        case rel =>
          refine ⟨k + 1, by omega, ?_, ?_, by go_num, hbr.out⟩
          all_goals rw [HT.out]; rfl
        case measure => simp [intOf]; omega
      | cho a b =>
        simp only [isPro, isCho] at q75 q63
        have hwx := HWx.out
        simp only [Stm.wf, Bool.and_eq_true] at hwx
        have hnx := HN.out
        have hcs := cho_size a b
        rw [txtOf_size] at hcs
        have HPp := Lib.hid (fun w' => parts_any a b hwx.1 (by omega) w')
        have HPa := Lib.hid (fun w' => H.out (txts a).length (by omega) a w' (Nat.le_refl _) (by omega) hwx.1)
        have HPb := Lib.hid (fun w' => H.out (txts b).length (by omega) b w' (Nat.le_refl _) (by omega) hwx.2)
        obtain ⟨la1, la2⟩ := dd_bound a hwx.1 (by omega)
        obtain ⟨lb1, lb2⟩ := dd_bound b hwx.2 (by omega)
        clear hwx hnx hcs
        have e0 : IntKind.i64.wrap ((d.least : Int) + min ((dds a).least : Int) ((dds b).least : Int)) = ((d.least + min (dds a).least (dds b).least : Nat) : Int) := by
          rw [IntKind.wrap_i64]; omega
        have e1 : IntKind.i64.wrap ((d.most : Int) + max ((dds a).most : Int) ((dds b).most : Int)) = ((d.most + max (dds a).most (dds b).most : Nat) : Int) := by
          rw [IntKind.wrap_i64]; omega
        have HT2 := Lib.hid (show (d.plus (Stm.cho a b).dd).least = d.least + min (dds a).least (dds b).least ∧ (d.plus (Stm.cho a b).dd).most = d.most + max (dds a).most (dds b).most from ⟨rfl, rfl⟩)
        generalize dds a = da at *
        generalize dds b = db at *
        generalize txtOf (Stm.cho a b).txt = t at *
        generalize txtOf (txts a) = ta at *
        generalize txtOf (txts b) = tb at *
        go_wp2_with fail
        refine (HPp.out _).mono ?_
        rintro e w2 ⟨rfl, hb2⟩
        have HB2 := Lib.hid (hbr.out.trans (hb2.mono hbr.out.size))
        clear hb2
        go_wp2_with fail
        refine (HPa.out _).mono ?_
        rintro e w3 ⟨rfl, hb3⟩
        have HB3 := Lib.hid (HB2.out.trans (hb3.mono HB2.out.size))
        clear hb3
        go_wp2_with fail
        refine (HPb.out _).mono ?_
        rintro e w4 ⟨rfl, hb4⟩
        have HB4 := Lib.hid (HB3.out.trans (hb4.mono HB3.out.size))
        clear hb4
        go_wp2_with fail
        go_roundw
        case rel =>
          refine ⟨k + 1, by omega, ?_, ?_, by go_num, HB4.out⟩
          · rw [HT.out, HT2.out.1]; go_num
          · rw [HT.out, HT2.out.2]; go_num
        case measure => simp [intOf]; omega
    · have hall : ys.take k = ys := List.take_of_length_le (by rw [← HL.out]; omega)
      rw [hall] at *
      go_wp2_with fail
      go_ret2
      exact ⟨rfl, HB.out.trans (hbr.out.mono HB.out.size)⟩

theorem lp_all (n : Nat) : SaidLp n := by
  induction n using Nat.strongRecOn with
  | _ n ih => exact fun xs w hx hn hw => lp_loop n ih xs w hx hn hw
theorem lp_any (xs : List Stm) (w : World) (hx : (txts xs).length ≤ 400) (hw : wfs xs = true) :
    Calls Tryz.prog 32 #[.string (txtOf (txts xs))] w fun e w' => e = .returned (.tuple #[.int .i64 (dds xs).least, .int .i64 (dds xs).most]) ∧ Below w.heap.size w w' :=
  lp_all 400 xs w hx (Nat.le_refl _) hw
end Go.Proofs.YtcahnffgpmanpaaGreatDoor
