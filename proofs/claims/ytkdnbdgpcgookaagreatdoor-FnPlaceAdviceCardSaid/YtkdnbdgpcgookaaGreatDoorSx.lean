/- The model's AroundOf, as the plain ardA says. Condition: texts of at most 2^30 bytes less one. AllAround of the program, as the plain allZ says. Conditions as in Asps. AllAround of the model, as the plain allZ says. Conditions as in Asps. -/
import Derived.Test.YtkdnbdgpcgookaaGreatDoorSasp
import Derived.Test.YtkdnbdgpcgookaaGreatDoorCx
import Derived.Test.YtkdnbdgpcgookaaGreatDoorZx
namespace Go.Proofs.YtkdnbdgpcgookaaGreatDoor
open Go.RowKit Gram

set_option maxHeartbeats 4000000 in
set_option maxRecDepth 100000 in
theorem sard_road (k c b B : ByteArray) (bef aft : Bool) (hbef : isBefore k = bef) (haft : isAfter k = aft) (hB : B = bodyA bef aft b) (w : World) (hc : c.size ≤ 1073741824) (hb : b.size ≤ 1073741823) :
    Calls Tryz.prog 76 #[aspV k c b] w fun e w' => e = .returned (parV (if (aspOf k c b).isSome = true then (if (aspOf aroundS c B).isSome = true then some (aroundS, c, B) else none) else none)) ∧ Below w.heap.size w w' := by
  have hBs : B.size ≤ 1073741824 := by
    have z : (⟨#[75]⟩ : ByteArray).size = 1 := rfl
    rw [hB]; unfold bodyA; split
    · rw [ByteArray.size_append]; omega
    · split
      · rw [ByteArray.size_append]; omega
      · omega
  have HA := Lib.hid (fun w' => spec_asp k c b w' hc (by omega))
  have HO := Lib.hid (fun w' => spec_asp aroundS c B w' hc hBs)
  have e1 := str_sum b ⟨#[75]⟩ (by have z : (⟨#[75]⟩ : ByteArray).size = 1 := rfl; omega)
  have e2 := str_sum ⟨#[75]⟩ b (by have z : (⟨#[75]⟩ : ByteArray).size = 1 := rfl; omega)
  obtain ⟨w2, hw2⟩ : ∃ w2, w2 = ((w.alloc (.cells #[.string k, .string c, .string b] 24)).alloc (.cells #[.string ⟨#[]⟩, .string ⟨#[]⟩, .string ⟨#[]⟩] 24)).alloc (.cells #[.string aroundS, .string c, .string B] 24) := ⟨_, rfl⟩
  have Z1 : (w.alloc (.cells #[.string k, .string c, .string b] 24)).heap.size = w.heap.size + 1 := alloc_size' _ _
  have Z2 : ((w.alloc (.cells #[.string k, .string c, .string b] 24)).alloc (.cells #[.string ⟨#[]⟩, .string ⟨#[]⟩, .string ⟨#[]⟩] 24)).heap.size = w.heap.size + 1 + 1 := by rw [alloc_size', Z1]
  have HR2 := Lib.hid (show Cell3 w2 (w.heap.size + 1) (.string ⟨#[]⟩) (.string ⟨#[]⟩) (.string ⟨#[]⟩) by
    rw [hw2, ← Z1]; exact (Cell3.new _ _ _ _).later ((Below.refl _ _).alloc (Nat.le_refl _) _))
  have HN2 := Lib.hid (show Cell3 w2 (w.heap.size + 1 + 1) (.string aroundS) (.string c) (.string B) by rw [hw2, ← Z2]; exact Cell3.new _ _ _ _)
  have HW2 := Lib.hid (show Below w.heap.size w w2 by rw [hw2]; exact (((Below.refl _ w).alloc (Nat.le_refl _) _).alloc (by simp) _).alloc (by simp; omega) _)
  have HE := Lib.hid hw2
  clear hc hb hBs Z1 Z2 hw2
  obtain ⟨rv, hrv⟩ : ∃ rv, rv = parV (if (aspOf k c b).isSome = true then (if (aspOf aroundS c B).isSome = true then some (aroundS, c, B) else none) else none) := ⟨_, rfl⟩
  rw [← hrv]
  have HV := Lib.hid hrv
  clear hrv
  unfold parV at HV
  unfold aspV aroundS at *
  obtain ⟨a0, b0⟩ := word_is k _ _ hbef
  obtain ⟨a1, b1⟩ := word_is k _ _ haft
  clear hbef haft
  generalize (aspOf k c b).isSome = p at *
  generalize (aspOf ⟨#[97, 114, 111, 117, 110, 100]⟩ c B).isSome = q at *
  have h3 : (bef = true ∧ B = b ++ ⟨#[75]⟩) ∨ (bef = false ∧ aft = true ∧ B = ⟨#[75]⟩ ++ b) ∨ (bef = false ∧ aft = false ∧ B = b) := by
    cases bef with
    | true => exact .inl ⟨rfl, hB⟩
    | false => cases aft with
      | true => exact .inr (.inl ⟨rfl, rfl, hB⟩)
      | false => exact .inr (.inr ⟨rfl, rfl, hB⟩)
  clear hB
  rcases h3 with ⟨rfl, rfl⟩ | ⟨rfl, rfl, rfl⟩ | ⟨rfl, rfl, rfl⟩
  all_goals
    go_enter Tryz.func76, Tryz.ntmps76
    go_wp2_with fail
    rw [← HE.out]
    refine (HA.out _).mono ?_
    rintro e w3 ⟨rfl, hb3⟩
    have HR3 := Lib.hid (HR2.out.later hb3)
    have HN3 := Lib.hid (HN2.out.later hb3)
    have HW3 := Lib.hid (HW2.out.trans (hb3.mono HW2.out.size))
    clear hb3
    cases p with
    | false =>
      have HV0 := Lib.hid (show rv = .tuple #[.agg #[.string ⟨#[]⟩, .string ⟨#[]⟩, .string ⟨#[]⟩], .bool false] from HV.out)
      obtain ⟨q0, q1, q2, f0, f1, f2⟩ := HR3.out.read
      go_wp2_with fail
      obtain ⟨r0, r1, r2, _⟩ := (HR3.out.put (.string ⟨#[]⟩) (.string ⟨#[]⟩) (.string ⟨#[]⟩)).read
      refine bodyPost_ret (v := .tuple #[.agg #[.string ⟨#[]⟩, .string ⟨#[]⟩, .string ⟨#[]⟩], .bool false]) ?_ rfl ⟨by rw [HV0.out], ((HW3.out.setCell (by simp) _).setCell (by simp) _).setCell (by simp) _⟩
      simp [results, Tryz.results76, go_sem, r0, r1, r2]
    | true =>
      obtain ⟨q0, q1, q2, f0, f1, f2⟩ := HN3.out.read
      go_wp2_with fail
      refine (HO.out _).mono ?_
      rintro e w4 ⟨rfl, hb4⟩
      have HR4 := Lib.hid (HR3.out.later hb4)
      have HN4 := Lib.hid (HN3.out.later hb4)
      have HW4 := Lib.hid (HW3.out.trans (hb4.mono HW3.out.size))
      clear hb4 q0 q1 q2 f0 f1 f2
      obtain ⟨q0, q1, q2, f0, f1, f2⟩ := HN4.out.read
      obtain ⟨x0, x1, x2, y0, y1, y2⟩ := HR4.out.read
      cases q with
      | false =>
        have HV0 := Lib.hid (show rv = .tuple #[.agg #[.string ⟨#[]⟩, .string ⟨#[]⟩, .string ⟨#[]⟩], .bool false] from HV.out)
        go_wp2_with fail
        obtain ⟨r0, r1, r2, _⟩ := (HR4.out.put (.string ⟨#[]⟩) (.string ⟨#[]⟩) (.string ⟨#[]⟩)).read
        refine bodyPost_ret (v := .tuple #[.agg #[.string ⟨#[]⟩, .string ⟨#[]⟩, .string ⟨#[]⟩], .bool false]) ?_ rfl ⟨by rw [HV0.out], ((HW4.out.setCell (by simp) _).setCell (by simp) _).setCell (by simp) _⟩
        simp [results, Tryz.results76, go_sem, r0, r1, r2]
      | true =>
        first
        | (have HV0 := Lib.hid (show rv = .tuple #[.agg #[.string ⟨#[97, 114, 111, 117, 110, 100]⟩, .string c, .string (b ++ ⟨#[75]⟩)], .bool true] from HV.out)
           go_wp2_with fail
           obtain ⟨r0, r1, r2, _⟩ := (HR4.out.put (.string ⟨#[97, 114, 111, 117, 110, 100]⟩) (.string c) (.string (b ++ ⟨#[75]⟩))).read
           refine bodyPost_ret (v := .tuple #[.agg #[.string ⟨#[97, 114, 111, 117, 110, 100]⟩, .string c, .string (b ++ ⟨#[75]⟩)], .bool true]) ?_ rfl ⟨by rw [HV0.out], ((HW4.out.setCell (by simp) _).setCell (by simp) _).setCell (by simp) _⟩)
        | (have HV0 := Lib.hid (show rv = .tuple #[.agg #[.string ⟨#[97, 114, 111, 117, 110, 100]⟩, .string c, .string (⟨#[75]⟩ ++ b)], .bool true] from HV.out)
           go_wp2_with fail
           obtain ⟨r0, r1, r2, _⟩ := (HR4.out.put (.string ⟨#[97, 114, 111, 117, 110, 100]⟩) (.string c) (.string (⟨#[75]⟩ ++ b))).read
           refine bodyPost_ret (v := .tuple #[.agg #[.string ⟨#[97, 114, 111, 117, 110, 100]⟩, .string c, .string (⟨#[75]⟩ ++ b)], .bool true]) ?_ rfl ⟨by rw [HV0.out], ((HW4.out.setCell (by simp) _).setCell (by simp) _).setCell (by simp) _⟩)
        | (have HV0 := Lib.hid (show rv = .tuple #[.agg #[.string ⟨#[97, 114, 111, 117, 110, 100]⟩, .string c, .string B], .bool true] from HV.out)
           go_wp2_with fail
           obtain ⟨r0, r1, r2, _⟩ := (HR4.out.put (.string ⟨#[97, 114, 111, 117, 110, 100]⟩) (.string c) (.string B)).read
           refine bodyPost_ret (v := .tuple #[.agg #[.string ⟨#[97, 114, 111, 117, 110, 100]⟩, .string c, .string B], .bool true]) ?_ rfl ⟨by rw [HV0.out], ((HW4.out.setCell (by simp) _).setCell (by simp) _).setCell (by simp) _⟩)
        simp [results, Tryz.results76, go_sem, r0, r1, r2]

theorem spec_ard (k c b : ByteArray) (w : World) (hc : c.size ≤ 1073741824) (hb : b.size ≤ 1073741823) :
    Calls Tryz.prog 76 #[aspV k c b] w fun e w' => e = .returned (parV (ardA k c b)) ∧ Below w.heap.size w w' := by
  rw [ardA_is]
  exact sard_road k c b _ _ _ rfl rfl rfl w hc hb
end Go.Proofs.YtkdnbdgpcgookaaGreatDoor
namespace Go.Proofs.YtkdnbdgpcgookaaGreatDoor
open Go.RowKit Gram

def ardP (p : As) : Option As := ardA p.1 p.2.1 p.2.2
def ardOk (p : As) : Bool := (ardP p).isSome
def ardQ (zs : List As) : List As := zs.filterMap ardP
/-- whether AllAround tells a list, and which -/
def allOk (zs : List As) : Bool := aspsP zs && zs.all ardOk
def allZ (zs : List As) : List As := if allOk zs = true then ardQ zs else []
theorem ardQ_take (zs : List As) (k : Nat) (h : k < zs.length) {q : As} (hq : ardP zs[k] = some q) : ardQ (zs.take (k + 1)) = ardQ (zs.take k) ++ [q] := by
  unfold ardQ; rw [List.take_succ_eq_append_getElem h, List.filterMap_append]; simp [hq]
theorem ardQ_len (zs : List As) (h : zs.all ardOk = true) : (ardQ zs).length = zs.length := by
  induction zs with
  | nil => rfl
  | cons p t ih =>
    rw [List.all_cons, Bool.and_eq_true] at h
    obtain ⟨q, hq⟩ := Option.isSome_iff_exists.1 h.1
    have := ih h.2
    unfold ardQ at this ⊢
    rw [List.filterMap_cons, hq]; simp [this]
theorem ardOk_take (zs : List As) (k : Nat) (h : k < zs.length) : (zs.take (k + 1)).all ardOk = ((zs.take k).all ardOk && ardOk zs[k]) := by
  rw [List.take_succ_eq_append_getElem h, List.all_append]; simp
theorem ardOk_not (zs : List As) (k : Nat) (h : k < zs.length) (hn : ardOk zs[k] = false) : zs.all ardOk = false := by
  rw [List.all_eq_false]; exact ⟨zs[k], List.getElem_mem h, by rw [hn]; decide⟩

/-- what AllAround hands back -/
def AllTo (zs : List As) (w : World) (e : Ending) (w' : World) : Prop :=
  (∃ a c, e = .returned (.tuple #[.slice a (allZ zs).length c, .bool (allOk zs)]) ∧ w'.ownsRow w.heap.size 24 3 (.slice a (allZ zs).length c) (allZ zs).length ((asF (allZ zs)).map Value.string)) ∧ Below w.heap.size w w'
theorem allTo_none {zs : List As} {w w' : World} {a : Option Addr} {c : Nat} (h : allOk zs = false) (ho : w'.ownsRow w.heap.size 24 3 (.slice a 0 c) 0 []) (hb : Below w.heap.size w w') : AllTo zs w (.returned (.tuple #[.slice a 0 c, .bool false])) w' := by
  have hz : allZ zs = [] := by unfold allZ; rw [h]; rfl
  exact ⟨⟨a, c, by rw [hz, h]; rfl, by rw [hz]; exact ho⟩, hb⟩
theorem allTo_some {zs : List As} {w w' : World} {a : Option Addr} {k c : Nat} (h : allOk zs = true) (hl : (ardQ zs).length = k) (ho : w'.ownsRow w.heap.size 24 3 (.slice a k c) k ((asF (ardQ zs)).map Value.string)) (hb : Below w.heap.size w w') : AllTo zs w (.returned (.tuple #[.slice a k c, .bool true])) w' := by
  have hz : allZ zs = ardQ zs := by unfold allZ; rw [h]; rfl
  subst hl
  exact ⟨⟨a, c, by rw [hz, h], by rw [hz]; exact ho⟩, hb⟩
theorem row_nil (w : World) (B : Nat) (e : TypeId) (sz : Nat) : w.ownsRow B e sz (.slice none 0 0) 0 [] := ⟨by simp, .inl ⟨rfl, rfl⟩⟩

theorem news_two {w : World} {o : Obj} {x y z : Value} : ∀ (j : Nat) (u : Value), ([x, y, z] : List Value)[j]? = some u → ((w.alloc o).alloc (.cells #[x, y, z] 24)).cell? ((⟨w.heap.size + 1, 0, none⟩ : Addr).add j) = some u := by
  rw [← alloc_size' w o]; exact World.news_of_block (cs := #[x, y, z]) (heap_alloc_new _ _)

set_option maxHeartbeats 4000000 in
set_option maxRecDepth 100000 in
theorem impl_all (w : World) (a : Option Addr) (n c : Nat) (zs : List As) (hA : Asps w a n zs) (hn : n + asT zs ≤ 1048576) (ek ec eb el ep : Addr) (he : Errs w ek ec eb el ep) :
    Calls Tryz.prog 69 #[.slice a n c] w (AllTo zs w) := by
  have HV := Lib.hid (impls_any w a n c zs hA hn ek ec eb el ep he)
  cases hp : aspsP zs with
  | false =>
    have HT := Lib.hid (show allOk zs = false by unfold allOk; rw [hp]; rfl)
    rw [hp] at HV
    clear hp
    go_enter Tryz.func69, Tryz.ntmps69
    go_wp2_with fail
    refine HV.out.mono ?_
    rintro e w1 ⟨rfl, hb⟩
    have HB := Lib.hid hb
    clear hb
    go_wp2_with fail
    go_ret2
    exact allTo_none HT.out (row_nil _ _ _ _) HB.out
  | true =>
    have hok : zs.all asOk = true ∧ zs.length ≤ 5 := by unfold aspsP at hp; rw [Bool.and_eq_true, decide_eq_true_eq] at hp; exact hp
    obtain ⟨i0, hi, hz0, hz1, hz2⟩ := info_parts info_asp
    have HP := Lib.hid hp
    have HA := Lib.hid hA
    have HN := Lib.hid hn
    have HR := Lib.hid he
    have hn5 : n ≤ 5 := by rw [← hA.len]; exact hok.2
    rw [hp] at HV
    clear hp hA hn hok he
    go_enter Tryz.func69, Tryz.ntmps69
    go_wp2_with fail
    refine HV.out.mono ?_
    rintro e w1 ⟨rfl, hb⟩
    have HB := Lib.hid hb
    have hsz1 := hb.size
    clear hb
    go_wp2_with (at_make; refine wpList_make_own _ rfl _ _ 31 rfl w.heap.size 24 i0 (aspV ⟨#[]⟩ ⟨#[]⟩ ⟨#[]⟩) 3 Tryz.underlying31 hi hz0 hz1 _ _ _ n rfl rfl (by omega) ?c1 ?c2 ?c3 ?_)
    case c1 => rw [hz2]; omega
    case c2 => unfold maxLen; omega
    case c3 => exact hsz1
    intro w2 hown hgrow
    have HO := Lib.hid hown
    have hb2 := Lib.hid (show Below w.heap.size w w2 from HB.out.grown hgrow hsz1 (fun k hk => by cases hk))
    clear hown hgrow
    go_wp2_with fail
    go_loopw [4, 17] (fun v i wr => ∃ (k : Nat) (a' : Option Addr) (c' : Nat), k ≤ n ∧ i = .int .i64 k ∧ v = .slice a' k c' ∧ Hid (wr.ownsRow w.heap.size 24 3 (.slice a' k c') k ((asF (ardQ (zs.take k))).map Value.string) ∧ (zs.take k).all ardOk = true) ∧ Hid (Below w.heap.size w wr)) (fun _ i _ => n - (intOf i).toNat)
    case atStart => exact ⟨0, _, _, Nat.zero_le _, by go_num, rfl, ⟨HO.out, by simp⟩, hb2.out⟩
    case round =>
      obtain ⟨k, a', c', hk, rfl, rfl, hH, hW⟩ := hrel
      by_cases hlt : k < n
      · have hz : k < zs.length := by rw [HA.out.len]; exact hlt
        obtain ⟨g, off, rfl, c0, c1, c2⟩ := (HA.out.later hW.out).at_ k hz
        have HE := Lib.hid (fun w' (hb : Below w.heap.size w w') => impl_ard zs[k].1 zs[k].2.1 zs[k].2.2 w' ek ec eb el ep (HR.out.later hb) (by have h1 := asT_le zs k hz; have h2 := HN.out; unfold asZ at h1; omega) (by have h1 := asT_le zs k hz; have h2 := HN.out; unfold asZ at h1; omega))
        unfold aspV at HE
        have HT := Lib.hid (ardOk_take zs k hz)
        have HF := Lib.hid (ardOk_not zs k hz)
        have HQ := Lib.hid (fun q => ardQ_take zs k hz (q := q))
        cases hq : ardA zs[k].1 zs[k].2.1 zs[k].2.2 with
        | none =>
          have HX := Lib.hid (show allOk zs = false by unfold allOk; rw [HF.out (by unfold ardOk ardP; rw [hq]; rfl)]; simp)
          rw [hq] at HE
          unfold parV aspV at HE
          clear hq HT HF HQ
          generalize zs[k] = p at *
          obtain ⟨x, y, z⟩ := p
          have HB0 := Lib.hid (hW.out.alloc hW.out.size (Obj.cells #[.string x, .string y, .string z] 24))
          go_wp2_with fail
          refine (HE.out _ HB0.out).mono ?_
          rintro e w5 ⟨rfl, hb5⟩
          have HB5 := Lib.hid (HB0.out.trans (hb5.mono HB0.out.size))
          clear hb5
          go_wp2_with fail
          go_ret2
          exact allTo_none HX.out (row_nil _ _ _ _) (HB5.out.alloc HB5.out.size _)
        | some q =>
          have hqq : ardP zs[k] = some q := hq
          have HX := Lib.hid (show (zs.take (k + 1)).all ardOk = true by rw [HT.out, hH.out.2]; unfold ardOk; rw [hqq]; rfl)
          have HY := Lib.hid (HQ.out q hqq)
          rw [hq] at HE
          unfold parV aspV at HE
          clear hq hqq HT HF HQ
          generalize zs[k] = p at *
          obtain ⟨x, y, z⟩ := p
          obtain ⟨X, Y, Z⟩ := q
          have HB0 := Lib.hid (hW.out.alloc hW.out.size (Obj.cells #[.string x, .string y, .string z] 24))
          simp only at HE c0 c1 c2
          go_wp2_with fail
          refine (HE.out _ HB0.out).mono ?_
          rintro e w5 ⟨rfl, hb5⟩
          have HB5 := Lib.hid (HB0.out.trans (hb5.mono HB0.out.size))
          have HR5 := Lib.hid (show w5.ownsRow w.heap.size 24 3 (.slice a' k c') k ((asF (ardQ (zs.take k))).map Value.string) from ownsRow_of (hH.out.1.alloc (Obj.cells #[.string x, .string y, .string z] 24)) (fun j hj => hb5.block j ((hH.out.1.alloc (Obj.cells #[.string x, .string y, .string z] 24)).lt j hj).2))
          clear hb5
          go_wp2_with (at_builtin; go_loud (refine wpList_append_lies _ rfl _ _ 31 rfl w.heap.size 24 i0 (aspV ⟨#[]⟩ ⟨#[]⟩ ⟨#[]⟩) 3 48 Tryz.underlying31 hi hz0 hz1 hz2 rfl (by decide) (.slice a' k c') k ((asF (ardQ (zs.take k))).map Value.string) rfl ((HR5.out.alloc _).alloc _) ⟨w5.heap.size + 1, 0, none⟩ 1 1 [.string X, .string Y, .string Z] rfl rfl news_two (by intro u hu; simp at hu; rcases hu with rfl | rfl | rfl <;> rfl) (by decide) (by unfold maxLen; omega) (by omega) (by have := HB5.out.size; rw [alloc_size', alloc_size']; omega) _ rfl ?_); intro g' cap' w6 hown' hgrow hat hlt')
          have HO6 := Lib.hid hown'
          have HB6 := Lib.hid (show Below w.heap.size w w6 from ((HB5.out.alloc HB5.out.size _).alloc (by have := HB5.out.size; rw [alloc_size']; omega) _).grown hgrow (by have := HB5.out.size; rw [alloc_size', alloc_size']; omega) (fun j hj => (HR5.out.lt j hj).1))
          clear hown' hgrow hat hlt'
          go_wp2_with fail
          exact ⟨⟨k + 1, _, _, by omega, by go_num, rfl, ⟨by rw [HY.out, asF_snoc, List.map_append]; exact HO6.out, HX.out⟩, HB6.out⟩, by simp [intOf]; omega⟩
      · have hkn : k = n := by omega
        subst hkn
        have h2 : zs.take k = zs := List.take_of_length_le (by rw [HA.out.len]; omega)
        have HX := Lib.hid (show zs.all ardOk = true by rw [← h2]; exact hH.out.2)
        have HO := Lib.hid (show wr.ownsRow w.heap.size 24 3 (.slice a' k c') k ((asF (ardQ zs)).map Value.string) by have h1 := hH.out.1; rw [h2] at h1; exact h1)
        have HL := Lib.hid (show (ardQ zs).length = k by rw [ardQ_len zs HX.out, HA.out.len])
        clear h2
        go_wp2_with fail
        go_ret2
        exact allTo_some (by unfold allOk; rw [HP.out, HX.out]; rfl) HL.out HO.out hW.out
end Go.Proofs.YtkdnbdgpcgookaaGreatDoor
namespace Go.Proofs.YtkdnbdgpcgookaaGreatDoor
open Go.RowKit Gram

theorem row_made (w : World) (B : Nat) (e : TypeId) (sz : Nat) (hb : B ≤ w.heap.size) : (w.alloc (.cells #[] e)).ownsRow B e sz (.slice (some ⟨w.heap.size, 0, none⟩) 0 0) 0 [] :=
  ⟨by simp, .inr ⟨w.heap.size, 0, #[], rfl, hb, heap_alloc_new _ _, Nat.le_refl _, Nat.zero_le _, by simp, by simp⟩⟩

set_option maxHeartbeats 4000000 in
set_option maxRecDepth 100000 in
theorem spec_all (w : World) (a : Option Addr) (n c : Nat) (zs : List As) (hA : Asps w a n zs) (hn : n + asT zs ≤ 1048576) :
    Calls Tryz.prog 75 #[.slice a n c] w (AllTo zs w) := by
  have HV := Lib.hid (fun w' (hb : Below w.heap.size w w') => specs_any w' a n c zs (hA.later hb) hn)
  obtain ⟨i0, hi, hz0, hz1, hz2⟩ := info_parts info_asp
  have HA := Lib.hid hA
  have HN := Lib.hid hn
  have hn1 : n ≤ 1048576 := by omega
  clear hA hn
  go_enter Tryz.func75, Tryz.ntmps75
  go_wp2_with fail
  have HO := Lib.hid (row_made w w.heap.size 24 3 (Nat.le_refl _))
  have hb2 := Lib.hid ((Below.refl w.heap.size w).alloc (Nat.le_refl _) (.cells #[] 24))
  go_loopw [4, 12] (fun v i wr => ∃ (k : Nat) (a' : Option Addr) (c' : Nat), k ≤ n ∧ i = .int .i64 k ∧ v = .slice a' k c' ∧ Hid (wr.ownsRow w.heap.size 24 3 (.slice a' k c') k ((asF (ardQ (zs.take k))).map Value.string) ∧ (zs.take k).all ardOk = true) ∧ Hid (Below w.heap.size w wr)) (fun _ i _ => n - (intOf i).toNat)
  case atStart => exact ⟨0, _, _, Nat.zero_le _, by go_num, rfl, ⟨HO.out, by simp⟩, hb2.out⟩
  case round =>
    obtain ⟨k, a', c', hk, rfl, rfl, hH, hW⟩ := hrel
    by_cases hlt : k < n
    · have hz : k < zs.length := by rw [HA.out.len]; exact hlt
      obtain ⟨g, off, rfl, c0, c1, c2⟩ := (HA.out.later hW.out).at_ k hz
      have HE := Lib.hid (fun w' => spec_ard zs[k].1 zs[k].2.1 zs[k].2.2 w' (by have h1 := asT_le zs k hz; have h2 := HN.out; unfold asZ at h1; omega) (by have h1 := asT_le zs k hz; have h2 := HN.out; unfold asZ at h1; omega))
      unfold aspV at HE
      have HT := Lib.hid (ardOk_take zs k hz)
      have HF := Lib.hid (ardOk_not zs k hz)
      have HQ := Lib.hid (fun q => ardQ_take zs k hz (q := q))
      cases hq : ardA zs[k].1 zs[k].2.1 zs[k].2.2 with
      | none =>
        have HX := Lib.hid (show allOk zs = false by unfold allOk; rw [HF.out (by unfold ardOk ardP; rw [hq]; rfl)]; simp)
        rw [hq] at HE
        unfold parV aspV at HE
        clear hq HT HF HQ
        generalize zs[k] = p at *
        obtain ⟨x, y, z⟩ := p
        have HB0 := Lib.hid (hW.out.alloc hW.out.size (Obj.cells #[.string x, .string y, .string z] 24))
        go_wp2_with fail
        refine (HE.out _).mono ?_
        rintro e w5 ⟨rfl, hb5⟩
        have HB5 := Lib.hid (HB0.out.trans (hb5.mono HB0.out.size))
        clear hb5
        go_wp2_with fail
        go_ret2
        have hs := HB5.out.size
        have hr := row_made (w5.alloc (Obj.cells #[.string ⟨#[]⟩, .string ⟨#[]⟩, .string ⟨#[]⟩] 24)) w.heap.size 24 3 (by rw [alloc_size']; omega)
        rw [alloc_size'] at hr
        exact allTo_none HX.out hr ((HB5.out.alloc hs _).alloc (by rw [alloc_size']; omega) _)
      | some q =>
        have hqq : ardP zs[k] = some q := hq
        have HX := Lib.hid (show (zs.take (k + 1)).all ardOk = true by rw [HT.out, hH.out.2]; unfold ardOk; rw [hqq]; rfl)
        have HY := Lib.hid (HQ.out q hqq)
        rw [hq] at HE
        unfold parV aspV at HE
        clear hq hqq HT HF HQ
        generalize zs[k] = p at *
        obtain ⟨x, y, z⟩ := p
        obtain ⟨X, Y, Z⟩ := q
        have HB0 := Lib.hid (hW.out.alloc hW.out.size (Obj.cells #[.string x, .string y, .string z] 24))
        simp only at HE c0 c1 c2
        go_wp2_with fail
        refine (HE.out _).mono ?_
        rintro e w5 ⟨rfl, hb5⟩
        have HB5 := Lib.hid (HB0.out.trans (hb5.mono HB0.out.size))
        have HR5 := Lib.hid (show w5.ownsRow w.heap.size 24 3 (.slice a' k c') k ((asF (ardQ (zs.take k))).map Value.string) from ownsRow_of (hH.out.1.alloc (Obj.cells #[.string x, .string y, .string z] 24)) (fun j hj => hb5.block j ((hH.out.1.alloc (Obj.cells #[.string x, .string y, .string z] 24)).lt j hj).2))
        clear hb5
        go_wp2_with (at_builtin; go_loud (refine wpList_append_lies _ rfl _ _ 31 rfl w.heap.size 24 i0 (aspV ⟨#[]⟩ ⟨#[]⟩ ⟨#[]⟩) 3 48 Tryz.underlying31 hi hz0 hz1 hz2 rfl (by decide) (.slice a' k c') k ((asF (ardQ (zs.take k))).map Value.string) rfl ((HR5.out.alloc _).alloc _) ⟨w5.heap.size + 1, 0, none⟩ 1 1 [.string X, .string Y, .string Z] rfl rfl news_two (by intro u hu; simp at hu; rcases hu with rfl | rfl | rfl <;> rfl) (by decide) (by unfold maxLen; omega) (by omega) (by have := HB5.out.size; rw [alloc_size', alloc_size']; omega) _ rfl ?_); intro g' cap' w6 hown' hgrow hat hlt')
        have HO6 := Lib.hid hown'
        have HB6 := Lib.hid (show Below w.heap.size w w6 from ((HB5.out.alloc HB5.out.size _).alloc (by have := HB5.out.size; rw [alloc_size']; omega) _).grown hgrow (by have := HB5.out.size; rw [alloc_size', alloc_size']; omega) (fun j hj => (HR5.out.lt j hj).1))
        clear hown' hgrow hat hlt'
        go_wp2_with fail
        exact ⟨⟨k + 1, _, _, by omega, by go_num, rfl, ⟨by rw [HY.out, asF_snoc, List.map_append]; exact HO6.out, HX.out⟩, HB6.out⟩, by simp [intOf]; omega⟩
    · have hkn : k = n := by omega
      subst hkn
      have h2 : zs.take k = zs := List.take_of_length_le (by rw [HA.out.len]; omega)
      have HX := Lib.hid (show zs.all ardOk = true by rw [← h2]; exact hH.out.2)
      have HO := Lib.hid (show wr.ownsRow w.heap.size 24 3 (.slice a' k c') k ((asF (ardQ zs)).map Value.string) by have h1 := hH.out.1; rw [h2] at h1; exact h1)
      have HL := Lib.hid (show (ardQ zs).length = k by rw [ardQ_len zs HX.out, HA.out.len])
      have HVV := Lib.hid (HV.out wr hW.out)
      clear h2 HV
      cases hp : aspsP zs with
      | false =>
        have HT := Lib.hid (show allOk zs = false by unfold allOk; rw [hp]; rfl)
        rw [hp] at HVV
        clear hp
        go_wp2_with fail
        refine HVV.out.mono ?_
        rintro e w1 ⟨rfl, hb⟩
        have HB := Lib.hid (hW.out.trans (hb.mono hW.out.size))
        clear hb
        go_wp2_with fail
        go_ret2
        exact allTo_none HT.out (row_made w1 w.heap.size 24 3 HB.out.size) (HB.out.alloc HB.out.size _)
      | true =>
        have HP := Lib.hid hp
        rw [hp] at HVV
        clear hp
        go_wp2_with fail
        refine HVV.out.mono ?_
        rintro e w1 ⟨rfl, hb⟩
        have HB := Lib.hid (hW.out.trans (hb.mono hW.out.size))
        have HO1 := Lib.hid (ownsRow_of (w' := w1) HO.out (fun j hj => hb.block j (HO.out.lt j hj).2))
        clear hb
        go_wp2_with fail
        go_ret2
        exact allTo_some (by unfold allOk; rw [HP.out, HX.out]; rfl) HL.out HO1.out HB.out
end Go.Proofs.YtkdnbdgpcgookaaGreatDoor
