/- find: where a letter stands among the names of a program, or would be put; findProc. Condition: a program as readProgram lays it. findProc; the laws FnExactBodyOf and FnExactCallsOf answer true at every pair of texts. Condition: the library's own number can be read. Lists of numbers: copies and comparisons. Condition: lists of at most 2^40 numbers. -/
import Derived.Test.YtomodlllmbkndaaGreatDoorA4
import Derived.Test.YtomodlllmbkndaaGreatDoorA1
import Derived.WalkKit
import Derived.WalkSpells
import Derived.WalkLawsBesides
import Derived.Lib.Hide
import Derived.Deep.OwnRows
import Derived.Deep.RegionHeld3
import Derived.Deep.RegionWith
import Derived.Deep.QuietTactic
import Derived.BigQuiet
namespace Go.Proofs.YtomodlllmbkndaaGreatDoor
open Go.RowKit Gram

def rank (l : List UInt8) (t : UInt8) : Nat := l.countP fun c => decide (c.toNat < t.toNat)
theorem rank_le (l : List UInt8) (t : UInt8) : rank l t ≤ l.length := List.countP_le_length
theorem rank_iff (l : List UInt8) (t : UInt8) (h : asc l) : ∀ k (hk : k < l.length), (l[k].toNat < t.toNat ↔ k < rank l t) := by
  induction l with
  | nil => intro k hk; simp at hk
  | cons a s ih =>
    rw [asc, List.pairwise_cons] at h
    intro k hk
    by_cases ha : a.toNat < t.toNat
    · have hr : rank (a :: s) t = rank s t + 1 := by rw [rank, List.countP_cons_of_pos (by simpa using ha)]; rfl
      rw [hr]
      cases k with
      | zero => simp [ha]
      | succ k => simpa using ih h.2 k (by simpa using hk)
    · have hr : rank (a :: s) t = 0 := by
        rw [rank, List.countP_eq_zero]
        intro d hd
        rcases List.mem_cons.1 hd with rfl | hd
        · simpa using ha
        · have := h.1 d hd; simp; omega
      rw [hr]
      cases k with
      | zero => simp [ha]
      | succ k =>
        have := h.1 _ (List.getElem_mem (show k < s.length by simpa using hk))
        simp; omega
theorem rank_has (l : List UInt8) (t : UInt8) (h : asc l) : l.contains t = true ↔ ∃ hr : rank l t < l.length, l[rank l t] = t := by
  rw [List.contains_iff_mem]
  constructor
  · intro hm
    obtain ⟨k, hk, he⟩ := List.mem_iff_getElem.1 hm
    have h1 := rank_iff l t h k hk
    rw [he] at h1
    have h2 : rank l t ≤ k := by omega
    have h3 : rank l t < l.length := by omega
    refine ⟨h3, ?_⟩
    have h4 := rank_iff l t h _ h3
    rcases Nat.lt_or_ge (rank l t) k with h5 | h5
    · have := List.pairwise_iff_getElem.1 h _ _ h3 hk h5
      rw [he] at this
      omega
    · have : rank l t = k := by omega
      simp only [this]; exact he
  · rintro ⟨hr, he⟩
    exact he ▸ List.getElem_mem hr

set_option maxHeartbeats 400000 in
theorem cmp_any (c t : UInt8) (ba : Option Addr) (bn bc : Nat) (w : World) :
    Calls Tryz.prog 105 #[.agg #[.int .u8 c.toNat, .slice ba bn bc], .int .u8 t.toNat] w fun e w' => e = .returned (.int .i64 ((c.toNat : Int) - t.toNat)) ∧ Below w.heap.size w w' := by
  have h1 := c.toNat_lt
  have h2 := t.toNat_lt
  have e1 : IntKind.i64.wrap ((c.toNat : Int) - t.toNat) = (c.toNat : Int) - t.toNat := IntWalk.i64_in _ (by omega)
  go_enter Tryz.func105, Tryz.ntmps105
  go_wp2_with fail
  go_ret
  exact ⟨rfl, (Below.refl _ _).alloc (Nat.le_refl _) _⟩

set_option maxHeartbeats 2000000 in
set_option maxRecDepth 100000 in
theorem search_any {w : World} {B : Nat} {S : Nat → Prop} {qs : List Qr} {a : Option Addr} {n c : Nat} (h : IsProg w B S qs (.slice a n c)) (hn : qs.length = n) (hl : n ≤ 401) (ha : asc (namesQ qs)) (t : UInt8) :
    Calls Tryz.prog 104 #[.slice a n c, .int .u8 t.toNat, .func (.func 105) #[] #[]] w fun e w' =>
      e = .returned (.tuple #[.int .i64 (rank (namesQ qs) t : Nat), .bool ((namesQ qs).contains t)]) ∧ Below w.heap.size w w' := by
  have H := Lib.hid h
  have HN := Lib.hid hn
  have HA := Lib.hid ha
  have hlen : (namesQ qs).length = n := by simp [namesQ, hn]
  have hrl := rank_le (namesQ qs) t
  rw [hlen] at hrl
  have HR := Lib.hid (rank_iff (namesQ qs) t ha)
  have HH := Lib.hid (rank_has (namesQ qs) t ha)
  have HLen := Lib.hid hlen
  clear h hn ha hlen
  generalize hr : rank (namesQ qs) t = r at *
  have HRr := Lib.hid hr
  clear hr
  generalize (namesQ qs).contains t = cb at *
  go_enter Tryz.func104, Tryz.ntmps104
  go_wp2_with fail
  go_loopw [9, 10] (fun x y wr => ∃ lo hi : Nat, x = .int .i64 lo ∧ y = .int .i64 hi ∧ lo ≤ r ∧ r ≤ hi ∧ hi ≤ n ∧ Hid (Below w.heap.size w wr)) (fun x y _ => (intOf y - intOf x).toNat)
  case atStart => exact ⟨0, n, by go_num, rfl, Nat.zero_le _, hrl, Nat.le_refl _, Below.refl _ _⟩
  case round =>
    obtain ⟨lo, hi, rfl, rfl, h1, h2, h3, hb⟩ := hrel
    by_cases hlt : lo < hi
    · obtain ⟨m, em, hm1, hm2⟩ : ∃ m : Nat, ((lo : Int) + hi) / 2 = m ∧ lo ≤ m ∧ m < hi := ⟨(lo + hi) / 2, by omega, by omega, by omega⟩
      have hmn : m < n := by omega
      have hmq : m < qs.length := by rw [HN.out]; exact hmn
      obtain ⟨g, rfl, _, c0, c1⟩ := H.out.get m hmq
      obtain ⟨ba, bn, bc, hbv⟩ := (prog_body H.out m hmq).form
      rw [hbv] at c1
      have hgl : g < w.heap.size := World.block_lt_of_cell? w _ c0
      have d0 : wr.cell? ⟨g, m * 2, none⟩ = some (.int .u8 qs[m].1.1.toNat) := by rw [hb.out.cell (p := ⟨g, m * 2, none⟩) hgl]; exact c0
      have d1 : wr.cell? ⟨g, m * 2 + 1, none⟩ = some (.slice ba bn bc) := by rw [hb.out.cell (p := ⟨g, m * 2 + 1, none⟩) hgl]; exact c1
      have HC := Lib.hid (fun w => cmp_any qs[m].1.1 t ba bn bc w)
      have hri := HR.out m (by rw [HLen.out]; exact hmn)
      rw [show (namesQ qs)[m]'(by rw [HLen.out]; exact hmn) = qs[m].1.1 from by simp [namesQ]] at hri
      clear c0 c1 hgl hbv
      generalize qs[m].1.1 = ch at *
      by_cases hct : ch.toNat < t.toNat
      · have hrm : m < r := hri.1 hct
        have hneg : ((ch.toNat : Int) - t.toNat) < 0 := by omega
        clear hri
        go_wp2_with fail
        refine (HC.out _).mono ?_
        rintro e w2 ⟨rfl, hb2⟩
        have HB2 := Lib.hid (hb.out.trans (hb2.mono hb.out.size))
        clear hb2
        go_wp2_with fail
        go_roundw
        case rel => exact ⟨m + 1, hi, by go_num, rfl, by omega, by omega, by omega, HB2.out⟩
        case measure => simp [intOf]; omega
      · have hrm : r ≤ m := by
          rcases Nat.lt_or_ge m r with h | h
          · exact absurd (hri.2 h) hct
          · exact h
        have hneg : ¬ ((ch.toNat : Int) - t.toNat) < 0 := by omega
        clear hri
        go_wp2_with fail
        refine (HC.out _).mono ?_
        rintro e w2 ⟨rfl, hb2⟩
        have HB2 := Lib.hid (hb.out.trans (hb2.mono hb.out.size))
        clear hb2
        go_wp2_with fail
        go_roundw
        case rel => exact ⟨lo, m, rfl, by go_num, by omega, by omega, by omega, HB2.out⟩
        case measure => simp [intOf]; omega
    · have hlo : lo = r := by omega
      have hhi : hi = r := by omega
      subst hlo
      subst hhi
      by_cases hrn : hi < n
      · have hmq : hi < qs.length := by rw [HN.out]; exact hrn
        obtain ⟨g, rfl, _, c0, c1⟩ := H.out.get hi hmq
        obtain ⟨ba, bn, bc, hbv⟩ := (prog_body H.out hi hmq).form
        rw [hbv] at c1
        have hgl : g < w.heap.size := World.block_lt_of_cell? w _ c0
        have d0 : wr.cell? ⟨g, hi * 2, none⟩ = some (.int .u8 qs[hi].1.1.toNat) := by rw [hb.out.cell (p := ⟨g, hi * 2, none⟩) hgl]; exact c0
        have d1 : wr.cell? ⟨g, hi * 2 + 1, none⟩ = some (.slice ba bn bc) := by rw [hb.out.cell (p := ⟨g, hi * 2 + 1, none⟩) hgl]; exact c1
        have HC := Lib.hid (fun w => cmp_any qs[hi].1.1 t ba bn bc w)
        have hnq : (namesQ qs)[hi]'(by rw [HLen.out]; exact hrn) = qs[hi].1.1 := by simp [namesQ]
        have HEq := Lib.hid (by
          rw [Bool.eq_iff_iff, HH.out, beq_iff_eq]
          constructor
          · intro h; exact ⟨by rw [HLen.out]; exact hrn, by rw [hnq]; exact UInt8.toNat.inj (by omega)⟩
          · rintro ⟨_, h⟩; rw [hnq] at h; rw [h]; omega : (((qs[hi].1.1.toNat : Int) - t.toNat) == 0) = cb)
        clear c0 c1 hgl hbv hnq
        generalize qs[hi].1.1 = ch at *
        go_wp2_with fail
        refine (HC.out _).mono ?_
        rintro e w2 ⟨rfl, hb2⟩
        have HB2 := Lib.hid (hb.out.trans (hb2.mono hb.out.size))
        clear hb2
        have heq := HEq.out
        go_wp2_with fail
        go_ret2
        exact ⟨rfl, HB2.out⟩
      · have hcb : cb = false := by
          cases cb with
          | false => rfl
          | true =>
            obtain ⟨h, _⟩ := HH.out.1 rfl
            rw [HLen.out] at h
            exact absurd h hrn
        subst hcb
        go_wp2_with fail
        go_ret2
        exact ⟨rfl, hb.out⟩

set_option maxHeartbeats 400000 in
theorem find_in {w : World} {B : Nat} {S : Nat → Prop} {qs : List Qr} {a : Option Addr} {n c : Nat} (h : IsProg w B S qs (.slice a n c)) (hn : qs.length = n) (hl : n ≤ 401) (ha : asc (namesQ qs)) (t : UInt8) :
    Calls Tryz.prog 86 #[.slice a n c, .int .u8 t.toNat] w fun e w' =>
      e = .returned (.tuple #[.int .i64 (rank (namesQ qs) t : Nat), .bool ((namesQ qs).contains t)]) ∧ Below w.heap.size w w' := by
  have HS := Lib.hid (search_any h hn hl ha t)
  generalize rank (namesQ qs) t = r at *
  generalize (namesQ qs).contains t = cb at *
  clear h hn ha
  go_enter Tryz.func86, Tryz.ntmps86
  go_wp2_with fail
  refine HS.out.mono ?_
  rintro e w2 ⟨rfl, hb2⟩
  have HB2 := Lib.hid hb2
  clear hb2
  go_wp2_with fail
  go_ret2
  exact ⟨rfl, HB2.out⟩
end Go.Proofs.YtomodlllmbkndaaGreatDoor
namespace Go.Proofs.YtomodlllmbkndaaGreatDoor
open Go.RowKit Gram

/-- the procedure of a name, if there is one -/
def lookP (s nm : ByteArray) : Option Pr := match progOf s, nameOf nm.data.toList with
  | some ps, some c => ps.find? fun p => p.1 == c
  | _, _ => none

theorem find_q (qs : List Qr) (c : UInt8) (h : asc (namesQ qs)) : (qs.map (·.1)).find? (fun p => p.1 == c) = (if hc : (namesQ qs).contains c = true then some (qs[rank (namesQ qs) c]'(by have := ((rank_has _ _ h).1 hc).1; simpa [namesQ] using this)).1 else none) := by
  split
  case isTrue hc =>
    obtain ⟨hr, he⟩ := (rank_has _ _ h).1 hc
    have hrq : rank (namesQ qs) c < qs.length := by simpa [namesQ] using hr
    rw [List.find?_eq_some_iff_getElem]
    have hnq : (namesQ qs)[rank (namesQ qs) c] = qs[rank (namesQ qs) c].1.1 := by simp [namesQ]
    rw [hnq] at he
    refine ⟨by simpa using he, rank (namesQ qs) c, by simpa using hrq, by simp, ?_⟩
    intro j hj
    have h1 := rank_iff _ c h j (by simp [namesQ]; omega)
    have h2 : (namesQ qs)[j]'(by simp [namesQ]; omega) = qs[j].1.1 := by simp [namesQ]
    rw [h2] at h1
    have h3 := h1.2 hj
    simp only [List.getElem_map, Bool.not_eq_true', beq_eq_false_iff_ne]
    intro h4; rw [h4] at h3; omega
  case isFalse hc =>
    rw [List.find?_eq_none]
    intro p hp
    simp only [beq_iff_eq]
    intro he
    apply hc
    rw [List.contains_iff_mem, ← he]
    obtain ⟨q, hq, rfl⟩ := List.mem_map.1 hp
    exact List.mem_map.2 ⟨q, hq, rfl⟩

/-- what findProc hands back -/
def FindTo (s nm : ByteArray) (w : World) (e : Ending) (w' : World) : Prop :=
  (match lookP s nm with
    | some p => ∃ (a : Option Addr) (n c k : Nat) (S : Nat → Prop) (qs : List Qr) (hk : k < qs.length), e = .returned (.tuple #[.slice a n c, .int .i64 k, .bool true]) ∧ progOf s = some (qs.map (·.1)) ∧ IsProg w' w.heap.size S qs (.slice a n c) ∧ (∀ q ∈ qs, Good q.1) ∧ qs[k].1 = p ∧ qs.length = n ∧ n ≤ 401 ∧ nm.data.toList = [p.1]
    | none => ∃ (a : Option Addr) (n c k : Nat), e = .returned (.tuple #[.slice a n c, .int .i64 k, .bool false])) ∧ Below w.heap.size w w'

theorem nameOf_some {l : List UInt8} {c : UInt8} (h : nameOf l = some c) : l = [c] ∧ isLet c = true := by
  unfold nameOf at h
  split at h
  · split at h
    · injection h with h; subst h; exact ⟨rfl, by assumption⟩
    · cases h
  · cases h

set_option maxHeartbeats 1000000 in
set_option maxRecDepth 100000 in
theorem find_proc (s nm : ByteArray) (w : World) (hs : s.size ≤ 1073741824) (hm : MaxCell w) :
    Calls Tryz.prog 65 #[.string s, .string nm] w (FindTo s nm w) := by
  have HR := Lib.hid ((read_prog s w hs hm).mono fun _ _ h => h.cases)
  have HL := Lib.hid (fun w => letter_of nm w)
  clear hm
  cases hp : progOf s with
  | none =>
    rw [hp] at HR
    have HZ := Lib.hid (by rw [lookP, hp] : lookP s nm = none)
    clear hp
    cases hno : nameOf nm.data.toList with
    | none =>
      rw [hno] at HL
      clear hno
      go_enter Tryz.func65, Tryz.ntmps65
      go_wp2_with fail
      refine HR.out.mono ?_
      rintro e w2 ⟨a, n, c, rfl, hb, _⟩
      have HB := Lib.hid hb
      clear hb
      go_wp2_with fail
      refine (HL.out _).mono ?_
      rintro e w3 ⟨rfl, rfl⟩
      go_wp2_with fail
      go_ret3
      refine ⟨?_, HB.out⟩
      rw [HZ.out]; exact ⟨_, _, _, 0, rfl⟩
    | some c =>
      rw [hno] at HL
      clear hno
      go_enter Tryz.func65, Tryz.ntmps65
      go_wp2_with fail
      refine HR.out.mono ?_
      rintro e w2 ⟨a, n, c, rfl, hb, _⟩
      have HB := Lib.hid hb
      clear hb
      go_wp2_with fail
      refine (HL.out _).mono ?_
      rintro e w3 ⟨rfl, rfl⟩
      go_wp2_with fail
      go_ret3
      refine ⟨?_, HB.out⟩
      rw [HZ.out]; exact ⟨_, _, _, 0, rfl⟩
  | some ps =>
    rw [hp] at HR
    have hf := prog_facts hp
    cases hno : nameOf nm.data.toList with
    | none =>
      rw [hno] at HL
      have HZ := Lib.hid (by rw [lookP, hp, hno] : lookP s nm = none)
      clear hno hp
      go_enter Tryz.func65, Tryz.ntmps65
      go_wp2_with fail
      refine HR.out.mono ?_
      rintro e w2 ⟨a, n, c, rfl, hb, _⟩
      have HB := Lib.hid hb
      clear hb
      go_wp2_with fail
      refine (HL.out _).mono ?_
      rintro e w3 ⟨rfl, rfl⟩
      go_wp2_with fail
      go_ret3
      refine ⟨?_, HB.out⟩
      rw [HZ.out]; exact ⟨_, _, _, 0, rfl⟩
    | some t =>
      rw [hno] at HL
      have hz : lookP s nm = ps.find? fun p => p.1 == t := by rw [lookP, hp, hno]
      have HNm := Lib.hid (nameOf_some hno)
      have HP := Lib.hid hp
      clear hno hp
      go_enter Tryz.func65, Tryz.ntmps65
      go_wp2_with fail
      refine HR.out.mono ?_
      rintro e w2 ⟨a, n, c, rfl, hb, hq⟩
      obtain ⟨S, qs, hqp, hIP, hG⟩ := hq ps rfl
      have hnq : n = qs.length := by
        obtain ⟨a', c', h⟩ := hIP.form
        injection h
      have hln : n ≤ 401 := by rw [hnq, ← List.length_map (f := fun q : Qr => q.1), hqp]; exact hf.1
      have hnm : namesQ qs = namesOf ps := by rw [← hqp, namesOf, List.map_map]; rfl
      have hasc : asc (namesQ qs) := by rw [hnm]; exact procs_asc _ _ _ hf.2.2.2 (by simp [asc, namesOf])
      have HF := fun w3 (hb3 : Below w2.heap.size w2 w3) => find_in (hIP.kept fun k hk => hb3.block k hk) hnq.symm hln hasc t
      rw [← hqp, find_q qs t hasc] at hz
      cases hcb : (namesQ qs).contains t with
      | false =>
        rw [hcb] at HF
        rw [dif_neg (by rw [hcb]; decide)] at hz
        have HZ := Lib.hid hz
        have HB := Lib.hid hb
        have HF2 := Lib.hid HF
        clear hz HF hnq hqp hIP hG hb hq hnm hf hcb hasc
        generalize rank (namesQ qs) t = r at *
        go_wp2_with fail
        refine (HL.out _).mono ?_
        rintro e w3 ⟨rfl, rfl⟩
        go_wp2_with fail
        refine (HF2.out _ (Below.refl _ _)).mono ?_
        rintro e w4 ⟨rfl, hb4⟩
        have HB4 := Lib.hid (HB.out.trans (hb4.mono HB.out.size))
        clear hb4
        go_wp2_with fail
        go_ret3
        refine ⟨?_, HB4.out⟩
        rw [HZ.out]; exact ⟨_, _, _, _, rfl⟩
      | true =>
        obtain ⟨hr, hre⟩ := (rank_has _ _ hasc).1 hcb
        have hrq : rank (namesQ qs) t < qs.length := by simpa [namesQ] using hr
        have hrt : qs[rank (namesQ qs) t].1.1 = t := by
          have : (namesQ qs)[rank (namesQ qs) t] = qs[rank (namesQ qs) t].1.1 := by simp [namesQ]
          rw [← this]; exact hre
        rw [hcb] at HF
        rw [dif_pos hcb] at hz
        have hz2 : lookP s nm = some (qs[rank (namesQ qs) t]'hrq).1 := hz
        have HZ := Lib.hid hz2
        clear hz2
        have HRt := Lib.hid hrt
        have HN := Lib.hid hnq
        have HQ := Lib.hid hqp
        have HI := Lib.hid hIP
        have HG := Lib.hid hG
        have HB := Lib.hid hb
        have HF2 := Lib.hid HF
        clear hz HF hnq hqp hIP hG hb hq hnm hf hcb hrt hr hre hasc
        generalize rank (namesQ qs) t = r at *
        go_wp2_with fail
        refine (HL.out _).mono ?_
        rintro e w3 ⟨rfl, rfl⟩
        go_wp2_with fail
        refine (HF2.out _ (Below.refl _ _)).mono ?_
        rintro e w4 ⟨rfl, hb4⟩
        have HB4 := Lib.hid hb4
        clear hb4
        go_wp2_with fail
        go_ret3
        refine ⟨?_, HB.out.trans (HB4.out.mono HB.out.size)⟩
        rw [HZ.out]
        exact ⟨_, _, _, r, S, qs, hrq, rfl, by rw [HP.out, HQ.out], HI.out.kept fun k hk => HB4.out.block k hk, HG.out, rfl, HN.out.symm, hln, by rw [HRt.out]; exact HNm.out.1⟩
end Go.Proofs.YtomodlllmbkndaaGreatDoor
namespace Go.Proofs.YtomodlllmbkndaaGreatDoor
open Go.RowKit

/-- the numbers of a slice -/
structure Ints (w : World) (a : Option Addr) (n : Nat) (zs : List Int) : Prop where
  len : zs.length = n
  at_ : ∀ i (h : i < zs.length), ∃ g off, a = some ⟨g, off, none⟩ ∧ w.cell? ⟨g, off + i, none⟩ = some (.int .i64 zs[i])
theorem Ints.later {w w' : World} {a : Option Addr} {n : Nat} {zs : List Int} (h : Ints w a n zs) (hb : Below w.heap.size w w') : Ints w' a n zs :=
  ⟨h.len, fun i hi => by
    obtain ⟨g, off, ha, hc⟩ := h.at_ i hi
    exact ⟨g, off, ha, by rw [hb.cell (p := ⟨g, off + i, none⟩) (World.block_lt_of_cell? w _ hc)]; exact hc⟩⟩

theorem Ints.set {w : World} {g n b j : Nat} {zs : List Int} {u : Value} (h : Ints w (some ⟨g, 0, none⟩) n zs) (hne : b < g) : Ints (w.setCell ⟨b, j, none⟩ u) (some ⟨g, 0, none⟩) n zs :=
  ⟨h.len, fun i hi => by
    obtain ⟨g', off, ha, hc⟩ := h.at_ i hi
    injection ha with ha; injection ha with e1 e2; subst e1; subst e2
    exact ⟨_, _, rfl, by rw [World.cell?_of_block (a := ⟨g, 0 + i, none⟩) (heap_set_other (show g ≠ b by omega) u)]; exact hc⟩⟩
def intVs (zs : List Int) : List Value := zs.map (.int .i64)
theorem intVs_len (zs : List Int) : (intVs zs).length = zs.length := by simp [intVs]

theorem take_eq (zs ws : List Int) (k : Nat) (h1 : k < zs.length) (h2 : k < ws.length) : (zs.take (k + 1) = ws.take (k + 1)) ↔ (zs.take k = ws.take k ∧ zs[k] = ws[k]) := by
  rw [List.take_succ_eq_append_getElem h1, List.take_succ_eq_append_getElem h2]
  constructor
  · intro h
    have hl : (zs.take k).length = (ws.take k).length := by simp; omega
    obtain ⟨a, b⟩ := List.append_inj h hl
    exact ⟨a, by simpa using b⟩
  · rintro ⟨a, b⟩; rw [a, b]


set_option maxHeartbeats 1000000 in
set_option maxRecDepth 100000 in
theorem eqInts_any (w : World) (a b : Option Addr) (n c m d : Nat) (zs ws : List Int) (hA : Ints w a n zs) (hB : Ints w b m ws) (hn : n ≤ 1099511627776) (hm : m ≤ 1099511627776) :
    Calls Tryz.prog 19 #[.slice a n c, .slice b m d] w fun e w' => e = .returned (.bool (zs == ws)) ∧ Below w.heap.size w w' := by
  have HA := Lib.hid hA
  have HB := Lib.hid hB
  by_cases hl : n = m
  · subst hl
    clear hA hB
    go_enter Tryz.func19, Tryz.ntmps19
    go_wp2_with fail
    go_loopw [5] (fun i wr => ∃ k : Nat, k ≤ n ∧ i = .int .i64 k ∧ Hid (zs.take k = ws.take k) ∧ Hid (Below w.heap.size w wr)) (fun i _ => n - (intOf i).toNat)
    case atStart => exact ⟨0, Nat.zero_le _, by go_num, rfl, Below.refl _ _⟩
    case round =>
      obtain ⟨k, hk, rfl, hE, hW⟩ := hrel
      by_cases hlt : k < n
      · have hz : k < zs.length := by rw [HA.out.len]; exact hlt
        have hw : k < ws.length := by rw [HB.out.len]; exact hlt
        obtain ⟨g, off, rfl, q1⟩ := HA.out.at_ k hz
        obtain ⟨g', off', rfl, q2⟩ := HB.out.at_ k hw
        have c1 : wr.cell? ⟨g, off + k, none⟩ = some (.int .i64 zs[k]) := by rw [hW.out.cell (p := ⟨g, off + k, none⟩) (World.block_lt_of_cell? w _ q1)]; exact q1
        have c2 : wr.cell? ⟨g', off' + k, none⟩ = some (.int .i64 ws[k]) := by rw [hW.out.cell (p := ⟨g', off' + k, none⟩) (World.block_lt_of_cell? w _ q2)]; exact q2
        have HT := Lib.hid (take_eq zs ws k hz hw)
        clear q1 q2
        have HNe := Lib.hid (fun (h : zs[k] ≠ ws[k]) => show (zs == ws) = false by
          rw [beq_eq_false_iff_ne]; rintro rfl; exact h rfl)
        generalize zs[k] = x at *
        generalize ws[k] = y at *
        cases hxy : (x == y) with
        | true =>
          have HX := Lib.hid (by simpa using hxy : x = y)
          go_wp2_with fail
          go_quiet (fail)
          go_wp2_with fail
          go_roundw
          case rel => exact ⟨k + 1, by omega, by go_num, HT.out.2 ⟨hE.out, HX.out⟩, hW.out.trans ⟨rfl, rfl, rfl, Nat.le_refl _, fun _ _ => rfl⟩⟩
          case measure => simp [intOf]; omega
        | false =>
          have HX := Lib.hid (HNe.out (by simpa using hxy))
          go_wp2_with fail
          go_quiet (fail)
          go_wp2_with fail
          go_ret
          exact ⟨ret_bool HX.out.symm, hW.out.trans ⟨rfl, rfl, rfl, Nat.le_refl _, fun _ _ => rfl⟩⟩
      · have HEq := Lib.hid (show (zs == ws) = true by
          have h := hE.out
          rw [List.take_of_length_le (by rw [HA.out.len]; omega), List.take_of_length_le (by rw [HB.out.len]; omega)] at h
          rw [h]; simp)
        go_wp2_with fail
        go_ret
        exact ⟨ret_bool HEq.out.symm, hW.out⟩
  · have hne : ((n : Int) == (m : Int)) = false := by rw [beq_eq_false_iff_ne]; omega
    have HN := Lib.hid (show (zs == ws) = false by
      rw [beq_eq_false_iff_ne]
      intro e
      have h1 := hA.len
      have h2 := hB.len
      rw [e] at h1
      omega)
    clear hA hB
    go_enter Tryz.func19, Tryz.ntmps19
    go_wp2_with fail
    go_ret
    exact ⟨by rw [HN.out]; rfl, Below.refl _ _⟩
theorem info_int : (Tryz.prog.info? 3).map (fun i => (i.zero, i.size, i.bytes)) = some (some (.int .i64 0), 1, 8) := by kernel_rfl

/-- the copy so far -/
def Copied (w : World) (g n k : Nat) (zs : List Int) (wr : World) : Prop := ∃ arr : Array Value, wr.heap[g]? = some (.cells arr 3 (0, 0)) ∧ arr.size = n ∧ (∀ i (h : i < zs.length), i < k → arr[i]? = some (.int .i64 zs[i])) ∧ Below w.heap.size w wr

theorem copied_step {w wr : World} {n k : Nat} {zs : List Int} {arr : Array Value} (harr : wr.heap[w.heap.size]? = some (.cells arr 3 (0, 0))) (hsz : arr.size = n) (hin : ∀ i (h : i < zs.length), i < k → arr[i]? = some (.int .i64 zs[i])) (hB : Below w.heap.size w wr) (hz : k < zs.length) (hk : k < n) :
    Copied w w.heap.size n (k + 1) zs (wr.setCell ⟨w.heap.size, k, none⟩ (.int .i64 zs[k])) := by
  refine ⟨_, heap_set_same harr _, by simp [hsz], fun i h hi => ?_, hB.setCell (p := ⟨w.heap.size, k, none⟩) (Nat.le_refl _) _⟩
  by_cases he : i = k
  · subst he
    rw [Array.getElem?_setIfInBounds, if_pos rfl, if_pos (by omega)]
  · rw [Array.getElem?_setIfInBounds, if_neg (by omega)]
    exact hin i h (by omega)

end Go.Proofs.YtomodlllmbkndaaGreatDoor
