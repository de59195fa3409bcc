/- WithBody of the model where it refuses. Condition: texts of at most 2^20 bytes. WithBody of the model, as the plain withV says; the law FnExactWithBody answers true at all texts. Conditions: texts of at most 2^20 bytes; the library's own number can be read. -/
import Derived.Test.YthkokokeppoieaaGreatDoorSwl
import Derived.Test.YthkokokeppoieaaGreatDoorSwA
import Derived.Test.YthkokokeppoieaaGreatDoorSwB
import Derived.Test.YthkokokeppoieaaGreatDoorSwC
namespace Go.Proofs.YthkokokeppoieaaGreatDoor
open Go.RowKit Gram

theorem name_cases (nm : ByteArray) : (∃ t, nameOf nm.data.toList = some t ∧ nm = ⟨#[t]⟩ ∧ isLet t = true) ∨ (nameOf nm.data.toList = none ∧ nm.size ≠ 1) ∨ (∃ t, nameOf nm.data.toList = none ∧ nm = ⟨#[t]⟩ ∧ isLet t = false) := by
  by_cases h : nm.size = 1
  · obtain ⟨t, ht⟩ : ∃ t, nm.data.toList = [t] := by
      have : nm.data.toList.length = 1 := by simpa using h
      exact List.length_eq_one_iff.1 this
    have hn : nm = ⟨#[t]⟩ := by apply ByteArray.ext; apply Array.ext'; rw [ht]
    rw [ht, nameOf]
    cases hl : isLet t with
    | true => exact .inl ⟨t, by simp, hn, hl⟩
    | false => exact .inr (.inr ⟨t, by simp, hn, hl⟩)
  · refine .inr (.inl ⟨?_, h⟩)
    have hl : nm.data.toList.length ≠ 1 := by simpa using h
    match hm : nm.data.toList with
    | [] => rfl
    | [a] => rw [hm] at hl; exact absurd rfl hl
    | a :: b :: r => rfl

set_option maxHeartbeats 4000000 in
set_option maxRecDepth 100000 in
theorem swith_none (s nm bt : ByteArray) (w : World) (hs : s.size ≤ 1048576) (hb : bt.size ≤ 1048576) (hno : ((progOf s).isSome && ((nameOf nm.data.toList).isSome && (bodyOf bt).isSome)) = false) :
    Calls Tryz.prog 7 #[.string s, .string nm, .string bt] w fun e w' => e = .returned (.tuple #[.string ⟨#[]⟩, .bool false]) ∧ Below w.heap.size w w' := by
  have HP := Lib.hid ((open_prog s w (by omega)).mono fun _ _ h => h.cases)
  have HS := Lib.hid (fun w' => spec_statements bt w' (by omega))
  have hnc := name_cases nm
  have HB : ∀ (b3 : Bool) (xs3 : List Stm), (b3 = false ∧ bodyOf bt = none ∧ xs3 = [] ∨ b3 = true ∧ bodyOf bt = some xs3) → b3 = (bodyOf bt).isSome := by
    rintro b3 xs3 (⟨rfl, h, _⟩ | ⟨rfl, h⟩) <;> rw [h] <;> rfl
  have HBB := Lib.hid HB
  clear hs hb HB
  generalize (progOf s).isSome = p at *
  obtain ⟨b, hbb⟩ : ∃ b, b = (bodyOf bt).isSome := ⟨_, rfl⟩
  rw [← hbb] at hno HBB
  clear hbb
  generalize (nameOf nm.data.toList) = no at *
  have HL := Lib.hid (fun (t : UInt8) (h : isLet t = false) w' => letter_is t false h w')
  go_enter Tryz.func7, Tryz.ntmps7
  go_wp2_with fail
  refine HP.out.mono ?_
  rintro e w2 ⟨a, n, c, ps', rfl, hb2, hn, _, _⟩
  have HB2 := Lib.hid hb2
  clear hb2 hn
  go_wp2_with fail
  refine (HS.out _).mono ?_
  rintro e w3 ⟨v3, b3, xs3, rfl, hx, _, hb3⟩
  obtain rfl := HBB.out b3 xs3 hx.out
  have HB3 := Lib.hid (HB2.out.trans (hb3.mono HB2.out.size))
  clear hb3 hx
  clear HBB
  cases p with
  | false =>
    clear hno hnc
    go_wp2_with fail
    go_ret2
    exact ⟨rfl, HB3.out⟩
  | true =>
    cases b3 with
    | false =>
      clear hno hnc
      go_wp2_with fail
      go_ret2
      exact ⟨rfl, HB3.out⟩
    | true =>
      rcases hnc with ⟨t, h, _⟩ | ⟨_, hsz⟩ | ⟨t, _, rfl, hl⟩
      · rw [h] at hno; cases hno
      · have hne : ((nm.size : Int) == 1) = false := by rw [beq_eq_false_iff_ne]; omega
        clear hno
        go_wp2_with fail
        go_ret2
        exact ⟨rfl, HB3.out⟩
      · have h0 : (⟨#[t]⟩ : ByteArray)[0]'(show 0 < (⟨#[t]⟩ : ByteArray).size from Nat.zero_lt_one) = t := rfl
        have hz : (⟨#[t]⟩ : ByteArray).size = 1 := rfl
        have HLL := Lib.hid (HL.out t hl)
        clear hno hl
        go_wp2_with fail
        refine (HLL.out _).mono ?_
        rintro e w4 ⟨rfl, rfl⟩
        go_wp2_with fail
        go_ret2
        exact ⟨rfl, HB3.out⟩
end Go.Proofs.YthkokokeppoieaaGreatDoor
namespace Go.Proofs.YthkokokeppoieaaGreatDoor
open Go.RowKit Gram

theorem spec_with (s nm bt : ByteArray) (w : World) (hs : s.size ≤ 1048576) (hb : bt.size ≤ 1048576) :
    Calls Tryz.prog 7 #[.string s, .string nm, .string bt] w fun e w' => e = .returned (withV s nm bt) ∧ Below w.heap.size w w' := by
  by_cases h : ((progOf s).isSome && ((nameOf nm.data.toList).isSome && (bodyOf bt).isSome)) = true
  · simp only [Bool.and_eq_true, Option.isSome_iff_exists] at h
    obtain ⟨⟨ps, hp⟩, ⟨t, hno⟩, xs, hbo⟩ := h
    have hV : withV s nm bt = validT (if (namesOf ps).contains t then putT ps t xs else insT ps t xs) := by simp only [withV, hp, hno, hbo]
    obtain ⟨hnm, ht⟩ : nm = ⟨#[t]⟩ ∧ isLet t = true := by
      rcases name_cases nm with ⟨t', h1, h2, h3⟩ | ⟨h1, _⟩ | ⟨_, h1, _⟩
      · rw [hno] at h1; injection h1 with h1; subst h1; exact ⟨h2, h3⟩
      · rw [hno] at h1; cases h1
      · rw [hno] at h1; cases h1
    have hf := prog_facts hp
    have hasc : asc (namesOf ps) := procs_asc _ _ _ hf.2.2.2 (by simp [asc, namesOf])
    have hnl : (namesOf ps).length = ps.length := by simp [namesOf]
    rw [hV]
    cases hc : (namesOf ps).contains t with
    | true =>
      obtain ⟨hr, _⟩ := (rank_has _ t hasc).1 hc
      have hq : putT ps t xs = txtOf (joinP (ps.take (rank (namesOf ps) t) ++ [(t, xs)] ++ ps.drop (rank (namesOf ps) t + 1))) := by
        rw [putT, List.set_eq_take_append_cons_drop, if_pos (by rw [← hnl]; exact hr)]; simp
      rw [if_pos rfl, hq]
      exact swith_put s nm bt w hs hb ps t xs hp hnm ht hbo _ _ rfl rfl hc
    | false =>
      rw [if_neg (by decide)]
      by_cases hl : rank (namesOf ps) t < (namesOf ps).length
      · exact swith_ins s nm bt w hs hb ps t xs hp hnm ht hbo _ _ rfl rfl hc hl
      · exact swith_end s nm bt w hs hb ps t xs hp hnm ht hbo _ _ rfl rfl (by omega) (by
          have := (prog_text hp).2
          exact List.length_pos_iff.2 this)
  · have h2 : ((progOf s).isSome && ((nameOf nm.data.toList).isSome && (bodyOf bt).isSome)) = false := by simpa using h
    have hV : withV s nm bt = .tuple #[.string ⟨#[]⟩, .bool false] := by
      unfold withV
      split
      · rename_i hp hno hbo
        rw [hp, hno, hbo] at h
        exact absurd rfl h
      · rfl
    rw [hV]
    exact swith_none s nm bt w hs hb h2

theorem validT_form (T : ByteArray) : ∃ V b, validT T = .tuple #[.string V, .bool b] := by
  unfold validT
  split <;> exact ⟨_, _, rfl⟩
theorem withV_form (s nm bt : ByteArray) : ∃ V b, withV s nm bt = .tuple #[.string V, .bool b] := by
  unfold withV
  split
  · exact validT_form _
  · exact ⟨_, _, rfl⟩

end Go.Proofs.YthkokokeppoieaaGreatDoor
