/- find: where a letter stands among the names of a program, or would be put; findProc. Condition: a program as readProgram lays it. -/
import Derived.Test.YtfmmpahbjkiomaaGreatDoorFacts
namespace Go.Proofs.YtfmmpahbjkiomaaGreatDoor
open Go.RowKit Gram

def rank (l : List UInt8) (t : UInt8) : Nat := l.countP fun c => decide (c.toNat < t.toNat)
theorem rank_le (l : List UInt8) (t : UInt8) : rank l t ≤ l.length := List.countP_le_length
theorem rank_iff (l : List UInt8) (t : UInt8) (h : asc l) : ∀ k (hk : k < l.length), (l[k].toNat < t.toNat ↔ k < rank l t) := by
  induction l with
  | nil => intro k hk; simp at hk
  | cons a s ih =>
    rw [asc, List.pairwise_cons] at h
    intro k hk
    by_cases ha : a.toNat < t.toNat
    · have hr : rank (a :: s) t = rank s t + 1 := by rw [rank, List.countP_cons_of_pos (by simpa using ha)]; rfl
      rw [hr]
      cases k with
      | zero => simp [ha]
      | succ k => simpa using ih h.2 k (by simpa using hk)
    · have hr : rank (a :: s) t = 0 := by
        rw [rank, List.countP_eq_zero]
        intro d hd
        rcases List.mem_cons.1 hd with rfl | hd
        · simpa using ha
        · have := h.1 d hd; simp; omega
      rw [hr]
      cases k with
      | zero => simp [ha]
      | succ k =>
        have := h.1 _ (List.getElem_mem (show k < s.length by simpa using hk))
        simp; omega
theorem rank_has (l : List UInt8) (t : UInt8) (h : asc l) : l.contains t = true ↔ ∃ hr : rank l t < l.length, l[rank l t] = t := by
  rw [List.contains_iff_mem]
  constructor
  · intro hm
    obtain ⟨k, hk, he⟩ := List.mem_iff_getElem.1 hm
    have h1 := rank_iff l t h k hk
    rw [he] at h1
    have h2 : rank l t ≤ k := by omega
    have h3 : rank l t < l.length := by omega
    refine ⟨h3, ?_⟩
    have h4 := rank_iff l t h _ h3
    rcases Nat.lt_or_ge (rank l t) k with h5 | h5
    · have := List.pairwise_iff_getElem.1 h _ _ h3 hk h5
      rw [he] at this
      omega
    · have : rank l t = k := by omega
      simp only [this]; exact he
  · rintro ⟨hr, he⟩
    exact he ▸ List.getElem_mem hr

set_option maxHeartbeats 400000 in
theorem cmp_any (c t : UInt8) (ba : Option Addr) (bn bc : Nat) (w : World) :
    Calls Tryz.prog 82 #[.agg #[.int .u8 c.toNat, .slice ba bn bc], .int .u8 t.toNat] w fun e w' => e = .returned (.int .i64 ((c.toNat : Int) - t.toNat)) ∧ Below w.heap.size w w' := by
  have h1 := c.toNat_lt
  have h2 := t.toNat_lt
  have e1 : IntKind.i64.wrap ((c.toNat : Int) - t.toNat) = (c.toNat : Int) - t.toNat := IntWalk.i64_in _ (by omega)
  go_enter Tryz.func82, Tryz.ntmps82
  go_wp2_with fail
  go_ret
  exact ⟨rfl, (Below.refl _ _).alloc (Nat.le_refl _) _⟩

set_option maxHeartbeats 2000000 in
set_option maxRecDepth 100000 in
theorem search_any {w : World} {B : Nat} {S : Nat → Prop} {qs : List Qr} {a : Option Addr} {n c : Nat} (h : IsProg w B S qs (.slice a n c)) (hn : qs.length = n) (hl : n ≤ 401) (ha : asc (namesQ qs)) (t : UInt8) :
    Calls Tryz.prog 81 #[.slice a n c, .int .u8 t.toNat, .func (.func 82) #[] #[]] w fun e w' =>
      e = .returned (.tuple #[.int .i64 (rank (namesQ qs) t : Nat), .bool ((namesQ qs).contains t)]) ∧ Below w.heap.size w w' := by
  have H := Lib.hid h
  have HN := Lib.hid hn
  have HA := Lib.hid ha
  have hlen : (namesQ qs).length = n := by simp [namesQ, hn]
  have hrl := rank_le (namesQ qs) t
  rw [hlen] at hrl
  have HR := Lib.hid (rank_iff (namesQ qs) t ha)
  have HH := Lib.hid (rank_has (namesQ qs) t ha)
  have HLen := Lib.hid hlen
  clear h hn ha hlen
  generalize hr : rank (namesQ qs) t = r at *
  have HRr := Lib.hid hr
  clear hr
  generalize (namesQ qs).contains t = cb at *
  go_enter Tryz.func81, Tryz.ntmps81
  go_wp2_with fail
  go_loopw [9, 10] (fun x y wr => ∃ lo hi : Nat, x = .int .i64 lo ∧ y = .int .i64 hi ∧ lo ≤ r ∧ r ≤ hi ∧ hi ≤ n ∧ Hid (Below w.heap.size w wr)) (fun x y _ => (intOf y - intOf x).toNat)
  case atStart => exact ⟨0, n, by go_num, rfl, Nat.zero_le _, hrl, Nat.le_refl _, Below.refl _ _⟩
  case round =>
    obtain ⟨lo, hi, rfl, rfl, h1, h2, h3, hb⟩ := hrel
    by_cases hlt : lo < hi
    · obtain ⟨m, em, hm1, hm2⟩ : ∃ m : Nat, ((lo : Int) + hi) / 2 = m ∧ lo ≤ m ∧ m < hi := ⟨(lo + hi) / 2, by omega, by omega, by omega⟩
      have hmn : m < n := by omega
      have hmq : m < qs.length := by rw [HN.out]; exact hmn
      obtain ⟨g, rfl, _, c0, c1⟩ := H.out.get m hmq
      obtain ⟨ba, bn, bc, hbv⟩ := (prog_body H.out m hmq).form
      rw [hbv] at c1
      have hgl : g < w.heap.size := World.block_lt_of_cell? w _ c0
      have d0 : wr.cell? ⟨g, m * 2, none⟩ = some (.int .u8 qs[m].1.1.toNat) := by rw [hb.out.cell (p := ⟨g, m * 2, none⟩) hgl]; exact c0
      have d1 : wr.cell? ⟨g, m * 2 + 1, none⟩ = some (.slice ba bn bc) := by rw [hb.out.cell (p := ⟨g, m * 2 + 1, none⟩) hgl]; exact c1
      have HC := Lib.hid (fun w => cmp_any qs[m].1.1 t ba bn bc w)
      have hri := HR.out m (by rw [HLen.out]; exact hmn)
      rw [show (namesQ qs)[m]'(by rw [HLen.out]; exact hmn) = qs[m].1.1 from by simp [namesQ]] at hri
      clear c0 c1 hgl hbv
      generalize qs[m].1.1 = ch at *
      by_cases hct : ch.toNat < t.toNat
      · have hrm : m < r := hri.1 hct
        have hneg : ((ch.toNat : Int) - t.toNat) < 0 := by omega
        clear hri
        go_wp2_with fail
        refine (HC.out _).mono ?_
        rintro e w2 ⟨rfl, hb2⟩
        have HB2 := Lib.hid (hb.out.trans (hb2.mono hb.out.size))
        clear hb2
        go_wp2_with fail
        go_roundw
        case rel => exact ⟨m + 1, hi, by go_num, rfl, by omega, by omega, by omega, HB2.out⟩
        case measure => simp [intOf]; omega
      · have hrm : r ≤ m := by
          rcases Nat.lt_or_ge m r with h | h
          · exact absurd (hri.2 h) hct
          · exact h
        have hneg : ¬ ((ch.toNat : Int) - t.toNat) < 0 := by omega
        clear hri
        go_wp2_with fail
        refine (HC.out _).mono ?_
        rintro e w2 ⟨rfl, hb2⟩
        have HB2 := Lib.hid (hb.out.trans (hb2.mono hb.out.size))
        clear hb2
        go_wp2_with fail
        go_roundw
        case rel => exact ⟨lo, m, rfl, by go_num, by omega, by omega, by omega, HB2.out⟩
        case measure => simp [intOf]; omega
    · have hlo : lo = r := by omega
      have hhi : hi = r := by omega
      subst hlo
      subst hhi
      by_cases hrn : hi < n
      · have hmq : hi < qs.length := by rw [HN.out]; exact hrn
        obtain ⟨g, rfl, _, c0, c1⟩ := H.out.get hi hmq
        obtain ⟨ba, bn, bc, hbv⟩ := (prog_body H.out hi hmq).form
        rw [hbv] at c1
        have hgl : g < w.heap.size := World.block_lt_of_cell? w _ c0
        have d0 : wr.cell? ⟨g, hi * 2, none⟩ = some (.int .u8 qs[hi].1.1.toNat) := by rw [hb.out.cell (p := ⟨g, hi * 2, none⟩) hgl]; exact c0
        have d1 : wr.cell? ⟨g, hi * 2 + 1, none⟩ = some (.slice ba bn bc) := by rw [hb.out.cell (p := ⟨g, hi * 2 + 1, none⟩) hgl]; exact c1
        have HC := Lib.hid (fun w => cmp_any qs[hi].1.1 t ba bn bc w)
        have hnq : (namesQ qs)[hi]'(by rw [HLen.out]; exact hrn) = qs[hi].1.1 := by simp [namesQ]
        have HEq := Lib.hid (by
          rw [Bool.eq_iff_iff, HH.out, beq_iff_eq]
          constructor
          · intro h; exact ⟨by rw [HLen.out]; exact hrn, by rw [hnq]; exact UInt8.toNat.inj (by omega)⟩
          · rintro ⟨_, h⟩; rw [hnq] at h; rw [h]; omega : (((qs[hi].1.1.toNat : Int) - t.toNat) == 0) = cb)
        clear c0 c1 hgl hbv hnq
        generalize qs[hi].1.1 = ch at *
        go_wp2_with fail
        refine (HC.out _).mono ?_
        rintro e w2 ⟨rfl, hb2⟩
        have HB2 := Lib.hid (hb.out.trans (hb2.mono hb.out.size))
        clear hb2
        have heq := HEq.out
        go_wp2_with fail
        go_ret2
        exact ⟨rfl, HB2.out⟩
      · have hcb : cb = false := by
          cases cb with
          | false => rfl
          | true =>
            obtain ⟨h, _⟩ := HH.out.1 rfl
            rw [HLen.out] at h
            exact absurd h hrn
        subst hcb
        go_wp2_with fail
        go_ret2
        exact ⟨rfl, hb.out⟩

set_option maxHeartbeats 400000 in
theorem find_in {w : World} {B : Nat} {S : Nat → Prop} {qs : List Qr} {a : Option Addr} {n c : Nat} (h : IsProg w B S qs (.slice a n c)) (hn : qs.length = n) (hl : n ≤ 401) (ha : asc (namesQ qs)) (t : UInt8) :
    Calls Tryz.prog 49 #[.slice a n c, .int .u8 t.toNat] w fun e w' =>
      e = .returned (.tuple #[.int .i64 (rank (namesQ qs) t : Nat), .bool ((namesQ qs).contains t)]) ∧ Below w.heap.size w w' := by
  have HS := Lib.hid (search_any h hn hl ha t)
  generalize rank (namesQ qs) t = r at *
  generalize (namesQ qs).contains t = cb at *
  clear h hn ha
  go_enter Tryz.func49, Tryz.ntmps49
  go_wp2_with fail
  refine HS.out.mono ?_
  rintro e w2 ⟨rfl, hb2⟩
  have HB2 := Lib.hid hb2
  clear hb2
  go_wp2_with fail
  go_ret2
  exact ⟨rfl, HB2.out⟩
end Go.Proofs.YtfmmpahbjkiomaaGreatDoor
