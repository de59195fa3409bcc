/- findProc; the laws FnExactBodyOf and FnExactCallsOf answer true at every pair of texts. Condition: the library's own number can be read. -/
import Derived.Test.YtfmmpahbjkiomaaGreatDoorFind
namespace Go.Proofs.YtfmmpahbjkiomaaGreatDoor
open Go.RowKit Gram

/-- the procedure of a name, if there is one -/
def lookP (s nm : ByteArray) : Option Pr := match progOf s, nameOf nm.data.toList with
  | some ps, some c => ps.find? fun p => p.1 == c
  | _, _ => none

theorem find_q (qs : List Qr) (c : UInt8) (h : asc (namesQ qs)) : (qs.map (·.1)).find? (fun p => p.1 == c) = (if hc : (namesQ qs).contains c = true then some (qs[rank (namesQ qs) c]'(by have := ((rank_has _ _ h).1 hc).1; simpa [namesQ] using this)).1 else none) := by
  split
  case isTrue hc =>
    obtain ⟨hr, he⟩ := (rank_has _ _ h).1 hc
    have hrq : rank (namesQ qs) c < qs.length := by simpa [namesQ] using hr
    rw [List.find?_eq_some_iff_getElem]
    have hnq : (namesQ qs)[rank (namesQ qs) c] = qs[rank (namesQ qs) c].1.1 := by simp [namesQ]
    rw [hnq] at he
    refine ⟨by simpa using he, rank (namesQ qs) c, by simpa using hrq, by simp, ?_⟩
    intro j hj
    have h1 := rank_iff _ c h j (by simp [namesQ]; omega)
    have h2 : (namesQ qs)[j]'(by simp [namesQ]; omega) = qs[j].1.1 := by simp [namesQ]
    rw [h2] at h1
    have h3 := h1.2 hj
    simp only [List.getElem_map, Bool.not_eq_true', beq_eq_false_iff_ne]
    intro h4; rw [h4] at h3; omega
  case isFalse hc =>
    rw [List.find?_eq_none]
    intro p hp
    simp only [beq_iff_eq]
    intro he
    apply hc
    rw [List.contains_iff_mem, ← he]
    obtain ⟨q, hq, rfl⟩ := List.mem_map.1 hp
    exact List.mem_map.2 ⟨q, hq, rfl⟩

/-- what findProc hands back -/
def FindTo (s nm : ByteArray) (w : World) (e : Ending) (w' : World) : Prop :=
  (match lookP s nm with
    | some p => ∃ (a : Option Addr) (n c k : Nat) (S : Nat → Prop) (qs : List Qr) (hk : k < qs.length), e = .returned (.tuple #[.slice a n c, .int .i64 k, .bool true]) ∧ progOf s = some (qs.map (·.1)) ∧ IsProg w' w.heap.size S qs (.slice a n c) ∧ (∀ q ∈ qs, Good q.1) ∧ qs[k].1 = p ∧ qs.length = n ∧ n ≤ 401 ∧ nm.data.toList = [p.1]
    | none => ∃ (a : Option Addr) (n c k : Nat), e = .returned (.tuple #[.slice a n c, .int .i64 k, .bool false])) ∧ Below w.heap.size w w'

theorem nameOf_some {l : List UInt8} {c : UInt8} (h : nameOf l = some c) : l = [c] ∧ isLet c = true := by
  unfold nameOf at h
  split at h
  · split at h
    · injection h with h; subst h; exact ⟨rfl, by assumption⟩
    · cases h
  · cases h

set_option maxHeartbeats 1000000 in
set_option maxRecDepth 100000 in
theorem find_proc (s nm : ByteArray) (w : World) (hs : s.size ≤ 1073741824) (hm : MaxCell w) :
    Calls Tryz.prog 26 #[.string s, .string nm] w (FindTo s nm w) := by
  have HR := Lib.hid ((read_prog s w hs hm).mono fun _ _ h => h.cases)
  have HL := Lib.hid (fun w => letter_of nm w)
  clear hm
  cases hp : progOf s with
  | none =>
    rw [hp] at HR
    have HZ := Lib.hid (by rw [lookP, hp] : lookP s nm = none)
    clear hp
    cases hno : nameOf nm.data.toList with
    | none =>
      rw [hno] at HL
      clear hno
      go_enter Tryz.func26, Tryz.ntmps26
      go_wp2_with fail
      refine HR.out.mono ?_
      rintro e w2 ⟨a, n, c, rfl, hb, _⟩
      have HB := Lib.hid hb
      clear hb
      go_wp2_with fail
      refine (HL.out _).mono ?_
      rintro e w3 ⟨rfl, rfl⟩
      go_wp2_with fail
      go_ret3
      refine ⟨?_, HB.out⟩
      rw [HZ.out]; exact ⟨_, _, _, 0, rfl⟩
    | some c =>
      rw [hno] at HL
      clear hno
      go_enter Tryz.func26, Tryz.ntmps26
      go_wp2_with fail
      refine HR.out.mono ?_
      rintro e w2 ⟨a, n, c, rfl, hb, _⟩
      have HB := Lib.hid hb
      clear hb
      go_wp2_with fail
      refine (HL.out _).mono ?_
      rintro e w3 ⟨rfl, rfl⟩
      go_wp2_with fail
      go_ret3
      refine ⟨?_, HB.out⟩
      rw [HZ.out]; exact ⟨_, _, _, 0, rfl⟩
  | some ps =>
    rw [hp] at HR
    have hf := prog_facts hp
    cases hno : nameOf nm.data.toList with
    | none =>
      rw [hno] at HL
      have HZ := Lib.hid (by rw [lookP, hp, hno] : lookP s nm = none)
      clear hno hp
      go_enter Tryz.func26, Tryz.ntmps26
      go_wp2_with fail
      refine HR.out.mono ?_
      rintro e w2 ⟨a, n, c, rfl, hb, _⟩
      have HB := Lib.hid hb
      clear hb
      go_wp2_with fail
      refine (HL.out _).mono ?_
      rintro e w3 ⟨rfl, rfl⟩
      go_wp2_with fail
      go_ret3
      refine ⟨?_, HB.out⟩
      rw [HZ.out]; exact ⟨_, _, _, 0, rfl⟩
    | some t =>
      rw [hno] at HL
      have hz : lookP s nm = ps.find? fun p => p.1 == t := by rw [lookP, hp, hno]
      have HNm := Lib.hid (nameOf_some hno)
      have HP := Lib.hid hp
      clear hno hp
      go_enter Tryz.func26, Tryz.ntmps26
      go_wp2_with fail
      refine HR.out.mono ?_
      rintro e w2 ⟨a, n, c, rfl, hb, hq⟩
      obtain ⟨S, qs, hqp, hIP, hG⟩ := hq ps rfl
      have hnq : n = qs.length := by
        obtain ⟨a', c', h⟩ := hIP.form
        injection h
      have hln : n ≤ 401 := by rw [hnq, ← List.length_map (f := fun q : Qr => q.1), hqp]; exact hf.1
      have hnm : namesQ qs = namesOf ps := by rw [← hqp, namesOf, List.map_map]; rfl
      have hasc : asc (namesQ qs) := by rw [hnm]; exact procs_asc _ _ _ hf.2.2.2 (by simp [asc, namesOf])
      have HF := fun w3 (hb3 : Below w2.heap.size w2 w3) => find_in (hIP.kept fun k hk => hb3.block k hk) hnq.symm hln hasc t
      rw [← hqp, find_q qs t hasc] at hz
      cases hcb : (namesQ qs).contains t with
      | false =>
        rw [hcb] at HF
        rw [dif_neg (by rw [hcb]; decide)] at hz
        have HZ := Lib.hid hz
        have HB := Lib.hid hb
        have HF2 := Lib.hid HF
        clear hz HF hnq hqp hIP hG hb hq hnm hf hcb hasc
        generalize rank (namesQ qs) t = r at *
        go_wp2_with fail
        refine (HL.out _).mono ?_
        rintro e w3 ⟨rfl, rfl⟩
        go_wp2_with fail
        refine (HF2.out _ (Below.refl _ _)).mono ?_
        rintro e w4 ⟨rfl, hb4⟩
        have HB4 := Lib.hid (HB.out.trans (hb4.mono HB.out.size))
        clear hb4
        go_wp2_with fail
        go_ret3
        refine ⟨?_, HB4.out⟩
        rw [HZ.out]; exact ⟨_, _, _, _, rfl⟩
      | true =>
        obtain ⟨hr, hre⟩ := (rank_has _ _ hasc).1 hcb
        have hrq : rank (namesQ qs) t < qs.length := by simpa [namesQ] using hr
        have hrt : qs[rank (namesQ qs) t].1.1 = t := by
          have : (namesQ qs)[rank (namesQ qs) t] = qs[rank (namesQ qs) t].1.1 := by simp [namesQ]
          rw [← this]; exact hre
        rw [hcb] at HF
        rw [dif_pos hcb] at hz
        have hz2 : lookP s nm = some (qs[rank (namesQ qs) t]'hrq).1 := hz
        have HZ := Lib.hid hz2
        clear hz2
        have HRt := Lib.hid hrt
        have HN := Lib.hid hnq
        have HQ := Lib.hid hqp
        have HI := Lib.hid hIP
        have HG := Lib.hid hG
        have HB := Lib.hid hb
        have HF2 := Lib.hid HF
        clear hz HF hnq hqp hIP hG hb hq hnm hf hcb hrt hr hre hasc
        generalize rank (namesQ qs) t = r at *
        go_wp2_with fail
        refine (HL.out _).mono ?_
        rintro e w3 ⟨rfl, rfl⟩
        go_wp2_with fail
        refine (HF2.out _ (Below.refl _ _)).mono ?_
        rintro e w4 ⟨rfl, hb4⟩
        have HB4 := Lib.hid hb4
        clear hb4
        go_wp2_with fail
        go_ret3
        refine ⟨?_, HB.out.trans (HB4.out.mono HB.out.size)⟩
        rw [HZ.out]
        exact ⟨_, _, _, r, S, qs, hrq, rfl, by rw [HP.out, HQ.out], HI.out.kept fun k hk => HB4.out.block k hk, HG.out, rfl, HN.out.symm, hln, by rw [HRt.out]; exact HNm.out.1⟩
end Go.Proofs.YtfmmpahbjkiomaaGreatDoor
