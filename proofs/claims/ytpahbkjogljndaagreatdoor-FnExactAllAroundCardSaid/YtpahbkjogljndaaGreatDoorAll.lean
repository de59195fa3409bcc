/- AllAround of the program, as the plain allZ says. Conditions as in Asps. -/
import Derived.Test.YtpahbkjogljndaaGreatDoorAmk
import Derived.Test.YtpahbkjogljndaaGreatDoorArof
import Derived.Test.YtpahbkjogljndaaGreatDoorSarof
namespace Go.Proofs.YtpahbkjogljndaaGreatDoor
open Go.RowKit Gram

def ardP (p : As) : Option As := ardA p.1 p.2.1 p.2.2
def ardOk (p : As) : Bool := (ardP p).isSome
def ardQ (zs : List As) : List As := zs.filterMap ardP
/-- whether AllAround tells a list, and which -/
def allOk (zs : List As) : Bool := aspsP zs && zs.all ardOk
def allZ (zs : List As) : List As := if allOk zs = true then ardQ zs else []
theorem ardQ_take (zs : List As) (k : Nat) (h : k < zs.length) {q : As} (hq : ardP zs[k] = some q) : ardQ (zs.take (k + 1)) = ardQ (zs.take k) ++ [q] := by
  unfold ardQ; rw [List.take_succ_eq_append_getElem h, List.filterMap_append]; simp [hq]
theorem ardQ_len (zs : List As) (h : zs.all ardOk = true) : (ardQ zs).length = zs.length := by
  induction zs with
  | nil => rfl
  | cons p t ih =>
    rw [List.all_cons, Bool.and_eq_true] at h
    obtain ⟨q, hq⟩ := Option.isSome_iff_exists.1 h.1
    have := ih h.2
    unfold ardQ at this ⊢
    rw [List.filterMap_cons, hq]; simp [this]
theorem ardOk_take (zs : List As) (k : Nat) (h : k < zs.length) : (zs.take (k + 1)).all ardOk = ((zs.take k).all ardOk && ardOk zs[k]) := by
  rw [List.take_succ_eq_append_getElem h, List.all_append]; simp
theorem ardOk_not (zs : List As) (k : Nat) (h : k < zs.length) (hn : ardOk zs[k] = false) : zs.all ardOk = false := by
  rw [List.all_eq_false]; exact ⟨zs[k], List.getElem_mem h, by rw [hn]; decide⟩

/-- what AllAround hands back -/
def AllTo (zs : List As) (w : World) (e : Ending) (w' : World) : Prop :=
  (∃ a c, e = .returned (.tuple #[.slice a (allZ zs).length c, .bool (allOk zs)]) ∧ w'.ownsRow w.heap.size 34 3 (.slice a (allZ zs).length c) (allZ zs).length ((asF (allZ zs)).map Value.string)) ∧ Below w.heap.size w w'
theorem allTo_none {zs : List As} {w w' : World} {a : Option Addr} {c : Nat} (h : allOk zs = false) (ho : w'.ownsRow w.heap.size 34 3 (.slice a 0 c) 0 []) (hb : Below w.heap.size w w') : AllTo zs w (.returned (.tuple #[.slice a 0 c, .bool false])) w' := by
  have hz : allZ zs = [] := by unfold allZ; rw [h]; rfl
  exact ⟨⟨a, c, by rw [hz, h]; rfl, by rw [hz]; exact ho⟩, hb⟩
theorem allTo_some {zs : List As} {w w' : World} {a : Option Addr} {k c : Nat} (h : allOk zs = true) (hl : (ardQ zs).length = k) (ho : w'.ownsRow w.heap.size 34 3 (.slice a k c) k ((asF (ardQ zs)).map Value.string)) (hb : Below w.heap.size w w') : AllTo zs w (.returned (.tuple #[.slice a k c, .bool true])) w' := by
  have hz : allZ zs = ardQ zs := by unfold allZ; rw [h]; rfl
  subst hl
  exact ⟨⟨a, c, by rw [hz, h], by rw [hz]; exact ho⟩, hb⟩
theorem row_nil (w : World) (B : Nat) (e : TypeId) (sz : Nat) : w.ownsRow B e sz (.slice none 0 0) 0 [] := ⟨by simp, .inl ⟨rfl, rfl⟩⟩

theorem news_two {w : World} {o : Obj} {x y z : Value} : ∀ (j : Nat) (u : Value), ([x, y, z] : List Value)[j]? = some u → ((w.alloc o).alloc (.cells #[x, y, z] 34)).cell? ((⟨w.heap.size + 1, 0, none⟩ : Addr).add j) = some u := by
  rw [← alloc_size' w o]; exact World.news_of_block (cs := #[x, y, z]) (heap_alloc_new _ _)

set_option maxHeartbeats 4000000 in
set_option maxRecDepth 100000 in
theorem impl_all (w : World) (a : Option Addr) (n c : Nat) (zs : List As) (hA : Asps w a n zs) (hn : n + asT zs ≤ 1048576) (ek ec eb el ep : Addr) (he : Errs w ek ec eb el ep) :
    Calls Tryz.prog 9 #[.slice a n c] w (AllTo zs w) := by
  have HV := Lib.hid (impls_any w a n c zs hA hn ek ec eb el ep he)
  cases hp : aspsP zs with
  | false =>
    have HT := Lib.hid (show allOk zs = false by unfold allOk; rw [hp]; rfl)
    rw [hp] at HV
    clear hp
    go_enter Tryz.func9, Tryz.ntmps9
    go_wp2_with fail
    refine HV.out.mono ?_
    rintro e w1 ⟨rfl, hb⟩
    have HB := Lib.hid hb
    clear hb
    go_wp2_with fail
    go_ret2
    exact allTo_none HT.out (row_nil _ _ _ _) HB.out
  | true =>
    have hok : zs.all asOk = true ∧ zs.length ≤ 5 := by unfold aspsP at hp; rw [Bool.and_eq_true, decide_eq_true_eq] at hp; exact hp
    obtain ⟨i0, hi, hz0, hz1, hz2⟩ := info_parts info_asp
    have HP := Lib.hid hp
    have HA := Lib.hid hA
    have HN := Lib.hid hn
    have HR := Lib.hid he
    have hn5 : n ≤ 5 := by rw [← hA.len]; exact hok.2
    rw [hp] at HV
    clear hp hA hn hok he
    go_enter Tryz.func9, Tryz.ntmps9
    go_wp2_with fail
    refine HV.out.mono ?_
    rintro e w1 ⟨rfl, hb⟩
    have HB := Lib.hid hb
    have hsz1 := hb.size
    clear hb
    go_wp2_with (at_make; refine wpList_make_own _ rfl _ _ 24 rfl w.heap.size 34 i0 (aspV ⟨#[]⟩ ⟨#[]⟩ ⟨#[]⟩) 3 Tryz.underlying24 hi hz0 hz1 _ _ _ n rfl rfl (by omega) ?c1 ?c2 ?c3 ?_)
    case c1 => rw [hz2]; omega
    case c2 => unfold maxLen; omega
    case c3 => exact hsz1
    intro w2 hown hgrow
    have HO := Lib.hid hown
    have hb2 := Lib.hid (show Below w.heap.size w w2 from HB.out.grown hgrow hsz1 (fun k hk => by cases hk))
    clear hown hgrow
    go_wp2_with fail
    go_loopw [4, 17] (fun v i wr => ∃ (k : Nat) (a' : Option Addr) (c' : Nat), k ≤ n ∧ i = .int .i64 k ∧ v = .slice a' k c' ∧ Hid (wr.ownsRow w.heap.size 34 3 (.slice a' k c') k ((asF (ardQ (zs.take k))).map Value.string) ∧ (zs.take k).all ardOk = true) ∧ Hid (Below w.heap.size w wr)) (fun _ i _ => n - (intOf i).toNat)
    case atStart => exact ⟨0, _, _, Nat.zero_le _, by go_num, rfl, ⟨HO.out, by simp⟩, hb2.out⟩
    case round =>
      obtain ⟨k, a', c', hk, rfl, rfl, hH, hW⟩ := hrel
      by_cases hlt : k < n
      · have hz : k < zs.length := by rw [HA.out.len]; exact hlt
        obtain ⟨g, off, rfl, c0, c1, c2⟩ := (HA.out.later hW.out).at_ k hz
        have HE := Lib.hid (fun w' (hb : Below w.heap.size w w') => impl_ard zs[k].1 zs[k].2.1 zs[k].2.2 w' ek ec eb el ep (HR.out.later hb) (by have h1 := asT_le zs k hz; have h2 := HN.out; unfold asZ at h1; omega) (by have h1 := asT_le zs k hz; have h2 := HN.out; unfold asZ at h1; omega))
        unfold aspV at HE
        have HT := Lib.hid (ardOk_take zs k hz)
        have HF := Lib.hid (ardOk_not zs k hz)
        have HQ := Lib.hid (fun q => ardQ_take zs k hz (q := q))
        cases hq : ardA zs[k].1 zs[k].2.1 zs[k].2.2 with
        | none =>
          have HX := Lib.hid (show allOk zs = false by unfold allOk; rw [HF.out (by unfold ardOk ardP; rw [hq]; rfl)]; simp)
          rw [hq] at HE
          unfold parV aspV at HE
          clear hq HT HF HQ
          generalize zs[k] = p at *
          obtain ⟨x, y, z⟩ := p
          have HB0 := Lib.hid (hW.out.alloc hW.out.size (Obj.cells #[.string x, .string y, .string z] 34))
          go_wp2_with fail
          refine (HE.out _ HB0.out).mono ?_
          rintro e w5 ⟨rfl, hb5⟩
          have HB5 := Lib.hid (HB0.out.trans (hb5.mono HB0.out.size))
          clear hb5
          go_wp2_with fail
          go_ret2
          exact allTo_none HX.out (row_nil _ _ _ _) (HB5.out.alloc HB5.out.size _)
        | some q =>
          have hqq : ardP zs[k] = some q := hq
          have HX := Lib.hid (show (zs.take (k + 1)).all ardOk = true by rw [HT.out, hH.out.2]; unfold ardOk; rw [hqq]; rfl)
          have HY := Lib.hid (HQ.out q hqq)
          rw [hq] at HE
          unfold parV aspV at HE
          clear hq hqq HT HF HQ
          generalize zs[k] = p at *
          obtain ⟨x, y, z⟩ := p
          obtain ⟨X, Y, Z⟩ := q
          have HB0 := Lib.hid (hW.out.alloc hW.out.size (Obj.cells #[.string x, .string y, .string z] 34))
          simp only at HE c0 c1 c2
          go_wp2_with fail
          refine (HE.out _ HB0.out).mono ?_
          rintro e w5 ⟨rfl, hb5⟩
          have HB5 := Lib.hid (HB0.out.trans (hb5.mono HB0.out.size))
          have HR5 := Lib.hid (show w5.ownsRow w.heap.size 34 3 (.slice a' k c') k ((asF (ardQ (zs.take k))).map Value.string) from ownsRow_of (hH.out.1.alloc (Obj.cells #[.string x, .string y, .string z] 34)) (fun j hj => hb5.block j ((hH.out.1.alloc (Obj.cells #[.string x, .string y, .string z] 34)).lt j hj).2))
          clear hb5
          go_wp2_with (at_builtin; go_loud (refine wpList_append_lies _ rfl _ _ 24 rfl w.heap.size 34 i0 (aspV ⟨#[]⟩ ⟨#[]⟩ ⟨#[]⟩) 3 48 Tryz.underlying24 hi hz0 hz1 hz2 rfl (by decide) (.slice a' k c') k ((asF (ardQ (zs.take k))).map Value.string) rfl ((HR5.out.alloc _).alloc _) ⟨w5.heap.size + 1, 0, none⟩ 1 1 [.string X, .string Y, .string Z] rfl rfl news_two (by intro u hu; simp at hu; rcases hu with rfl | rfl | rfl <;> rfl) (by decide) (by unfold maxLen; omega) (by omega) (by have := HB5.out.size; rw [alloc_size', alloc_size']; omega) _ rfl ?_); intro g' cap' w6 hown' hgrow hat hlt')
          have HO6 := Lib.hid hown'
          have HB6 := Lib.hid (show Below w.heap.size w w6 from ((HB5.out.alloc HB5.out.size _).alloc (by have := HB5.out.size; rw [alloc_size']; omega) _).grown hgrow (by have := HB5.out.size; rw [alloc_size', alloc_size']; omega) (fun j hj => (HR5.out.lt j hj).1))
          clear hown' hgrow hat hlt'
          go_wp2_with fail
          exact ⟨⟨k + 1, _, _, by omega, by go_num, rfl, ⟨by rw [HY.out, asF_snoc, List.map_append]; exact HO6.out, HX.out⟩, HB6.out⟩, by simp [intOf]; omega⟩
      · have hkn : k = n := by omega
        subst hkn
        have h2 : zs.take k = zs := List.take_of_length_le (by rw [HA.out.len]; omega)
        have HX := Lib.hid (show zs.all ardOk = true by rw [← h2]; exact hH.out.2)
        have HO := Lib.hid (show wr.ownsRow w.heap.size 34 3 (.slice a' k c') k ((asF (ardQ zs)).map Value.string) by have h1 := hH.out.1; rw [h2] at h1; exact h1)
        have HL := Lib.hid (show (ardQ zs).length = k by rw [ardQ_len zs HX.out, HA.out.len])
        clear h2
        go_wp2_with fail
        go_ret2
        exact allTo_some (by unfold allOk; rw [HP.out, HX.out]; rfl) HL.out HO.out hW.out
end Go.Proofs.YtpahbkjogljndaaGreatDoor
