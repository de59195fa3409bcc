/- What PlaceAdvice says, plainly, as the law FnPlaceAdvice asks it. No walk, no condition. -/
import Derived.Test.YtkdnbdgpcgookaaGreatDoorPlq
import Derived.Test.YtkdnbdgpcgookaaGreatDoorFz
namespace Go.Proofs.YtkdnbdgpcgookaaGreatDoor
open Go.RowKit Gram

mutual
theorem stm_plug_nk (ys : List Stm) (hy : nks ys = true) (x : Stm) : nks (x.plug ys) = true := by
  match x with
  | .chg g d => simp [Stm.plug, nks, Stm.nk]
  | .prt => simp [Stm.plug, nks, Stm.nk]
  | .pro => simpa [Stm.plug] using hy
  | .call c => simp [Stm.plug, nks, Stm.nk]
  | .cho a b => simp [Stm.plug, nks, Stm.nk, plugs_nk ys hy a, plugs_nk ys hy b]
theorem plugs_nk (ys : List Stm) (hy : nks ys = true) (xs : List Stm) : nks (plugs ys xs) = true := by
  match xs with
  | [] => rfl
  | x :: xs =>
    have ha := stm_plug_nk ys hy x
    have hb := plugs_nk ys hy xs
    rw [plugs]
    generalize x.plug ys = l at *
    induction l with
    | nil => simpa using hb
    | cons z l ih =>
      simp only [nks, Bool.and_eq_true] at ha
      simp only [List.cons_append, nks, Bool.and_eq_true]
      exact ⟨ha.1, ih ha.2⟩
end
theorem plS_good {bs : List (List Stm)} {x : Stm} {o : List Stm} (hb : ∀ b ∈ bs, wfs b = true ∧ (txts b).length ≤ 60) (hw : wfs [x] = true) (hn : nks [x] = true) (h : plS bs [x] = some o) : wfs o = true ∧ nks o = true := by
  induction bs generalizing o with
  | nil => simp only [plS, Option.some.injEq] at h; subst h; exact ⟨hw, hn⟩
  | cons b bs ih =>
    simp only [plS] at h
    cases hp : plS bs [x] with
    | none => rw [hp] at h; cases h
    | some q =>
      rw [hp] at h
      obtain ⟨h1, h2⟩ := ih (fun b hb' => hb b (List.mem_cons_of_mem _ hb')) hp
      simp only at h
      split at h
      · cases h
      · injection h with h
        subst h
        exact ⟨plugs_wf q h1 b (hb b (List.mem_cons_self ..)).1, plugs_nk q h2 b⟩
theorem body_made {t : ByteArray} {o : List Stm} (ht : t.data.toList = txts o) (hw : wfs o = true) (hn : nks o = true) (hl : t.size ≤ 400) : bodyOf t = some o := by
  have ht' : t = txtOf (txts o) := by apply ByteArray.ext; apply Array.ext'; rw [ht]; simp [txtOf]
  subst ht'
  rw [bodyOf, if_pos hl]
  exact reads_complete false o hw (by rw [fks_false]; exact hn)
theorem asT_tail (z : As) (zs : List As) : asT zs ≤ asT (z :: zs) := by
  unfold asT; rw [List.map_cons, List.sum_cons]; omega
theorem allOk_tail {z : As} {zs : List As} (h : allOk (z :: zs) = true) : allOk zs = true ∧ ardOk z = true := by
  unfold allOk aspsP at *
  simp only [Bool.and_eq_true, List.all_cons, decide_eq_true_eq, List.length_cons] at *
  exact ⟨⟨⟨h.1.1.2, by omega⟩, h.2.2⟩, h.2.1⟩

/-- what is known of an answer that tells statements -/
structure Pld (s : ByteArray) (zs : List As) (t : ByteArray) : Prop where
  pos : 0 < s.size
  small : s.size ≤ 400
  few : zs.length ≤ 5
  fit : t.size ≤ 400
  body : ∃ o, bodyOf t = some o ∧ o.length ≤ t.size
  valid : ∀ i (h : i < zs.length), 0 ≤ (pof zs[i].1 zs[i].2.1 zs[i].2.2).2 ∧ (pof zs[i].1 zs[i].2.1 zs[i].2.2).2 ≤ 1000
  none_ : zs = [] → t = s
  step : ∀ z zs', zs = z :: zs' → ∃ (o' : ByteArray) (K C B : ByteArray), plV s zs' = .tuple #[.string o', .bool true] ∧ parV (ardA z.1 z.2.1 z.2.2) = .tuple #[.agg #[.string K, .string C, .string B], .bool true] ∧ B.size ≤ 60 ∧ o'.size ≤ 400 ∧ t.data.toList = putK B.data.toList o'.data.toList

theorem pof_in {z : As} (h : ardOk z = true) : 0 ≤ (pof z.1 z.2.1 z.2.2).2 ∧ (pof z.1 z.2.1 z.2.2).2 ≤ 1000 := by
  unfold ardOk ardP ardA at h
  cases ho : aspOf z.1 z.2.1 z.2.2 with
  | none => rw [ho] at h; cases h
  | some q =>
    obtain ⟨n, xs⟩ := q
    have hx := aspOf_some ho
    obtain ⟨h3, h4, h5, _⟩ := advOf_some hx.2.2.1
    have hb := dd_bound xs h5 (by rw [← h4]; simp; omega)
    have hp : pof z.1 z.2.1 z.2.2 = pofN n xs := by unfold pof; rw [ho]
    rw [hp]
    unfold pofN
    by_cases h2 : n = 2
    · rw [if_pos h2]; exact ⟨by show (0 : Int) ≤ ((dds xs).most : Int); omega, by show ((dds xs).most : Int) ≤ 1000; omega⟩
    · rw [if_neg h2]; exact ⟨by decide, by decide⟩

theorem pl_says {s : ByteArray} {zs : List As} {t : ByteArray} (h : plV s zs = .tuple #[.string t, .bool true]) : Pld s zs t := by
  have hd : plD s = true := by
    cases hd : plD s with
    | true => rfl
    | false => unfold plV plN at h; rw [hd] at h; simp at h
  have hok : allOk zs = true := by
    cases hok : allOk zs with
    | true => rfl
    | false => unfold plV plN at h; rw [hd, hok] at h; simp at h
  have hxs : ∃ x, bodyOf s = some [x] := by
    unfold plD at hd
    split at hd
    · rename_i hb; exact ⟨_, hb⟩
    · rename_i hb; exact ⟨_, hb⟩
    · cases hd
  obtain ⟨x, hbo⟩ := hxs
  obtain ⟨h0, h4, _⟩ := one_first hbo
  obtain ⟨hs4, htx, hwx, hnx⟩ := bodyOf_some hbo
  have hall : zs.all ardOk = true := by unfold allOk at hok; rw [Bool.and_eq_true] at hok; exact hok.2
  have h5 : zs.length ≤ 5 := by unfold allOk aspsP at hok; simp only [Bool.and_eq_true, decide_eq_true_eq] at hok; exact hok.1.2
  have hp := plV_plS s zs x hbo hd hok
  rw [h] at hp
  cases hq : plS (bsOf (allZ zs)) [x] with
  | none => rw [hq] at hp; unfold plN at hp; simp at hp
  | some o =>
    rw [hq] at hp
    simp only [Value.tuple.injEq] at hp
    have ht : t = txtOf (txts o) := by simpa using hp
    have hxl : (txts [x]).length ≤ 400 := by rw [← htx]; simpa using hs4
    have hle := plS_le _ _ _ hxl hq
    obtain ⟨hw, hn⟩ := plS_good (allZ_bodies zs hok) hwx hnx hq
    have htl : t.data.toList = txts o := by rw [ht]; simp [txtOf]
    have hts : t.size = (txts o).length := by rw [ht]; rfl
    refine ⟨h0, hs4, h5, by omega, ⟨o, body_made htl hw hn (by omega), by rw [hts]; exact len_txts o⟩, fun i hi => pof_in (List.all_eq_true.1 hall _ (List.getElem_mem hi)), ?_, ?_⟩
    · rintro rfl
      have hz : allZ [] = [] := by unfold allZ; split <;> rfl
      rw [hz] at hq
      have : plS [] [x] = some o := hq
      simp only [plS, Option.some.injEq] at this
      subst this
      apply ByteArray.ext; apply Array.ext'
      show t.data.toList = s.data.toList
      rw [htl, htx]
    · rintro z zs' rfl
      obtain ⟨hok', hz⟩ := allOk_tail hok
      obtain ⟨K, C, hpv⟩ := ard_val z hz
      have hu := plU_plS (z :: zs') [x] hall
      have hzz : allZ (z :: zs') = ardQ (z :: zs') := by unfold allZ; rw [hok]; rfl
      rw [← hzz, hq] at hu
      simp only [plU, Option.map_some] at hu
      cases hu' : plU zs' (txts [x]) with
      | none => rw [hu'] at hu; cases hu
      | some u =>
        rw [hu'] at hu
        simp only at hu
        split at hu
        · cases hu
        · injection hu with hu
          have hul := plU_le zs' _ u hxl hu'
          refine ⟨txtOf u, K, C, ardB z, ?_, hpv, ardB_le z, by show (txtOf u).size ≤ 400; rw [show (txtOf u).size = u.length from rfl]; exact hul, by rw [htl, ← hu]; simp [txtOf]⟩
          unfold plV
          rw [hd, hok', htx, hu']
          rfl
end Go.Proofs.YtkdnbdgpcgookaaGreatDoor
