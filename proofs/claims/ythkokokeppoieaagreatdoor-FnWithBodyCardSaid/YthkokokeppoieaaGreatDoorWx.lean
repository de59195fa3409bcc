/- WithBody of the program: where it refuses. Condition: the library's own number can be read. ProgramValid of the program and of the model. Condition: for the program's, the library's own number can be read. WithBody of the program: where the procedure is there. Condition: the library's own number can be read. WithBody of the program: where the procedure is new. Condition: the library's own number can be read. WithBody of the program, in one contract. Condition: the library's own number can be read. -/
import Derived.Test.YthkokokeppoieaaGreatDoorKx
import Derived.Test.YthkokokeppoieaaGreatDoorPtext
import Derived.Test.YthkokokeppoieaaGreatDoorIx
import Derived.Test.YthkokokeppoieaaGreatDoorFacts
namespace Go.Proofs.YthkokokeppoieaaGreatDoor
open Go.RowKit Gram

theorem ReadTo.flag {o : Option (List Stm)} {w w' : World} {r : Ending} (h : ReadTo o w r w') : ∃ v, r = .returned (.tuple #[v, .bool o.isSome]) ∧ Below w.heap.size w w' := by
  obtain ⟨h1, h2⟩ := h
  cases o with
  | none => exact ⟨_, h1, h2⟩
  | some xs => obtain ⟨v, S, h3, _⟩ := h1; exact ⟨v, h3, h2⟩

set_option maxHeartbeats 2000000 in
set_option maxRecDepth 100000 in
theorem with_refused (s nm bt : ByteArray) (w : World) (hs : s.size ≤ 1073741824) (hb : bt.size ≤ 1073741824) (hm : MaxCell w) (h : ((progOf s).isSome && ((nameOf nm.data.toList).isSome && (bodyOf bt).isSome)) = false) :
    Calls Tryz.prog 6 #[.string s, .string nm, .string bt] w fun e w' => e = .returned (.tuple #[.string ⟨#[]⟩, .bool false]) ∧ Below w.heap.size w w' := by
  have HR := Lib.hid ((read_prog s w hs hm).mono fun _ _ h => h.cases)
  have HL := Lib.hid (fun w => letter_of nm w)
  have HB := Lib.hid (fun w => (body_any bt w hb).mono fun _ _ h => h.flag)
  clear hm hs hb
  generalize (progOf s).isSome = b1 at *
  generalize (nameOf nm.data.toList).isSome = b2 at *
  generalize (bodyOf bt).isSome = b3 at *
  cases b1 <;> cases b2 <;> cases b3 <;> first | (cases h; done) | skip
  all_goals
    go_enter Tryz.func6, Tryz.ntmps6
    go_wp2_with fail
    refine HR.out.mono ?_
    rintro e w2 ⟨a, n, c, rfl, hb, _⟩
    have HB2 := Lib.hid hb
    clear hb
    go_wp2_with fail
    refine (HL.out _).mono ?_
    rintro e w3 ⟨rfl, rfl⟩
    go_wp2_with fail
    refine (HB.out _).mono ?_
    rintro e w4 ⟨v, rfl, hb⟩
    have HB4 := Lib.hid (HB2.out.trans (hb.mono HB2.out.size))
    clear hb
    go_wp2_with fail
    first | go_ret | go_ret2 | go_ret3
    exact ⟨rfl, HB4.out⟩
end Go.Proofs.YthkokokeppoieaaGreatDoor
namespace Go.Proofs.YthkokokeppoieaaGreatDoor
open Go.RowKit Gram

set_option maxHeartbeats 400000 in
theorem impl_valid (s : ByteArray) (w : World) (hs : s.size ≤ 1073741824) (hm : MaxCell w) :
    Calls Tryz.prog 11 #[.string s] w fun e w' => e = .returned (.bool (progOf s).isSome) ∧ Below w.heap.size w w' := by
  have HR := Lib.hid ((read_prog s w hs hm).mono fun _ _ h => h.cases)
  generalize (progOf s).isSome = b at *
  clear hm
  go_enter Tryz.func11, Tryz.ntmps11
  go_wp2_with fail
  refine HR.out.mono ?_
  rintro e w2 ⟨a, n, c, rfl, hb, _⟩
  have HB := Lib.hid hb
  clear hb
  go_wp2_with fail
  go_ret
  exact ⟨rfl, HB.out⟩
set_option maxHeartbeats 400000 in
theorem spec_valid (s : ByteArray) (w : World) (hs : s.size ≤ 1073741824) :
    Calls Tryz.prog 60 #[.string s] w fun e w' => e = .returned (.bool (progOf s).isSome) ∧ Below w.heap.size w w' := by
  have HR := Lib.hid ((open_prog s w hs).mono fun _ _ h => h.cases)
  generalize (progOf s).isSome = b at *
  go_enter Tryz.func60, Tryz.ntmps60
  go_wp2_with fail
  refine HR.out.mono ?_
  rintro e w2 ⟨a, n, c, ps, rfl, hb, _⟩
  have HB := Lib.hid hb
  clear hb
  go_wp2_with fail
  go_ret
  exact ⟨rfl, HB.out⟩
end Go.Proofs.YthkokokeppoieaaGreatDoor
namespace Go.Proofs.YthkokokeppoieaaGreatDoor
open Go.RowKit Gram

/-- the text with another body for a name that is there -/
def putT (ps : List Pr) (t : UInt8) (xs : List Stm) : ByteArray := txtOf (joinP (ps.set (rank (namesOf ps) t) (t, xs)))
/-- what WithBody hands back of a text -/
def validT (T : ByteArray) : Value := if (progOf T).isSome then .tuple #[.string T, .bool true] else .tuple #[.string ⟨#[]⟩, .bool false]

set_option maxHeartbeats 2000000 in
set_option maxRecDepth 100000 in
theorem with_put (s nm bt : ByteArray) (w : World) (hs : s.size ≤ 1073741824) (hb : bt.size ≤ 1073741824) (hm : MaxCell w) (ps : List Pr) (t : UInt8) (xs : List Stm) (hp : progOf s = some ps) (hno : nameOf nm.data.toList = some t) (hbo : bodyOf bt = some xs) (hc : (namesOf ps).contains t = true) :
    Calls Tryz.prog 6 #[.string s, .string nm, .string bt] w fun e w' => e = .returned (validT (putT ps t xs)) ∧ Below w.heap.size w w' := by
  have HR := Lib.hid ((read_prog s w hs hm).mono fun _ _ h => h.cases)
  have HL := Lib.hid (fun w => letter_of nm w)
  have HB := Lib.hid (fun w => body_any bt w hb)
  rw [hp] at HR
  rw [hno] at HL
  rw [hbo] at HB
  have hf := prog_facts hp
  have HX := Lib.hid (bodyOf_some hbo)
  have HM := Lib.hid hm
  clear hm hs hb hp hno hbo
  obtain ⟨T, hT⟩ : ∃ T, T = putT ps t xs := ⟨_, rfl⟩
  rw [← hT]
  have HPT := Lib.hid (show T = txtOf (joinP (ps.set (rank (namesOf ps) t) (t, xs))) from hT)
  clear hT
  go_enter Tryz.func6, Tryz.ntmps6
  go_wp2_with fail
  refine HR.out.mono ?_
  rintro e w2 ⟨a, n, c, rfl, hb, hq⟩
  obtain ⟨S, qs, hqp, hIP, hG⟩ := hq ps rfl
  have hnq : n = qs.length := by
    obtain ⟨a', c', h⟩ := hIP.form
    injection h
  have hln : n ≤ 401 := by rw [hnq, ← List.length_map (f := fun q : Qr => q.1), hqp]; exact hf.1
  have hnm : namesQ qs = namesOf ps := by rw [← hqp, namesOf, List.map_map]; rfl
  have hasc : asc (namesQ qs) := by rw [hnm]; exact procs_asc _ _ _ hf.2.2.2 (by simp [asc, namesOf])
  have HF := fun w3 (hb3 : Below w2.heap.size w2 w3) => find_in (hIP.kept fun k hk => hb3.block k hk) hnq.symm hln hasc t
  rw [hnm, hc] at HF
  have HRk := Lib.hid ((rank_has _ _ hasc).1 (by rw [hnm]; exact hc))
  rw [hnm] at HRk
  have HF2 := Lib.hid HF
  have HB2 := Lib.hid hb
  have HIP := Lib.hid hIP
  have HG := Lib.hid hG
  have HNQ := Lib.hid hnq
  have HQP := Lib.hid hqp
  have hrl : rank (namesOf ps) t < n := by
    obtain ⟨h, _⟩ := HRk.out
    rw [← hnm] at h ⊢
    simpa [namesQ, ← hnq] using h
  clear HF hb hIP hG hnq hqp hq hnm hasc hf hc
  generalize hrk : rank (namesOf ps) t = r at *
  clear hrk
  obtain ⟨g, rfl⟩ : ∃ g, a = some ⟨g, 0, none⟩ := by
    rcases HIP.out.row.2 with ⟨h1, h2⟩ | ⟨g, cap, cur, h1, _⟩
    · have := HNQ.out; omega
    · injection h1 with h3; exact ⟨g, h3⟩
  go_wp2_with fail
  refine (HL.out _).mono ?_
  rintro e w3 ⟨rfl, rfl⟩
  simp only [letN, Option.isSome] 
  go_wp2_with fail
  refine (HB.out _).mono ?_
  rintro e w4 ⟨⟨v, S2, rfl, hB4, hS2⟩, hb4⟩
  obtain ⟨ba, bn, bc, hbf⟩ := hB4.form
  subst hbf
  have HB4 := Lib.hid hb4
  have HBo := Lib.hid hB4
  have HS2 := Lib.hid hS2
  clear hb4 hB4 hS2
  go_wp2_with fail
  refine (HF2.out _ HB4.out).mono ?_
  rintro e w5 ⟨rfl, hb5⟩
  have HB5 := Lib.hid hb5
  have HIP5 := Lib.hid ((HIP.out.kept fun k hk => HB4.out.block k hk).kept fun k hk => hb5.block k hk)
  have hrq : r < qs.length := by rw [← HNQ.out]; exact hrl
  obtain ⟨g2, hg2, hgB, c0, c1⟩ := IsProg.get (a := some ⟨g, 0, none⟩) (n := n) (c := c) HIP5.out r hrq
  injection hg2 with hg2
  injection hg2 with hg2
  subst hg2
  have hri : (r : Int) < (n : Int) := by omega
  have hr0 : (0 : Int) ≤ (r : Int) := Int.natCast_nonneg _
  obtain ⟨_, curg, hcurg⟩ := HIP5.out.row_block (g := g) rfl
  have fz1 : w5.frozen? ⟨g, r * 2 + 1, none⟩ = false := Lib.frozen_of_heap hcurg _
  have HBo5 := Lib.hid (HBo.out.kept (S' := S2) (fun k hk => hb5.block k (by obtain ⟨_, cur, fz, hc⟩ := HS2.out k hk; exact heap_lt hc)) (fun _ h => h))
  have HS5 := Lib.hid (fun k (hk : S2 k) => show w.heap.size ≤ k ∧ ∃ cur fz, w5.heap[k]? = some (.cells cur 110 fz) by
    obtain ⟨h1, cur, fz, hc⟩ := HS2.out k hk
    exact ⟨Nat.le_trans HB2.out.size h1, cur, fz, (hb5.block k (heap_lt hc)).trans hc⟩)
  have HP6 := Lib.hid (IsProg.put r hrq xs (.slice ba bn bc) HIP5.out HBo5.out HS5.out)
  have HB6 := Lib.hid (show Below w.heap.size w (w5.setCell ⟨g, r * 2 + 1, none⟩ (.slice ba bn bc)) from ((HB2.out.trans (HB4.out.mono HB2.out.size)).trans (HB5.out.mono (Nat.le_trans HB2.out.size HB4.out.size))).setCell (p := ⟨g, r * 2 + 1, none⟩) hgB _)
  have hqr : qs[r].1.1 = t := by
    obtain ⟨h1, h2⟩ := HRk.out
    rw [← h2]
    have : namesQ qs = namesOf ps := by rw [← HQP.out, namesOf, List.map_map]; rfl
    simp [← this, namesQ]
  have hmap : (qs.set r ((qs[r].1.1, xs), Value.slice ba bn bc)).map (·.1) = ps.set r (t, xs) := by
    rw [List.map_set, HQP.out, hqr]
  have hgd : ∀ q ∈ qs.set r ((qs[r].1.1, xs), Value.slice ba bn bc), (txts q.1.2).length ≤ 1000 := by
    intro q hq
    rcases List.mem_or_eq_of_mem_set hq with hq | rfl
    · have := (HG.out q hq).2.2.1; omega
    · have h1 := HX.out.1
      have h2 := congrArg List.length HX.out.2.1
      show (txts xs).length ≤ 1000
      rw [← h2, Array.length_toList]
      exact Nat.le_trans h1 (by omega)
  have HPL := Lib.hid (parts_loop HP6.out (by rw [List.length_set]; exact HNQ.out.symm) hln hgd)
  have hTs : T.size ≤ 1073741824 := by
    rw [HPT.out, ← hmap, txtOf_size]
    have h1 := joinP_le ((qs.set r ((qs[r].1.1, xs), Value.slice ba bn bc)).map (·.1)) (fun p hp => by
      obtain ⟨q, hq, rfl⟩ := List.mem_map.1 hp
      have := hgd q hq
      show (_ :: 58 :: txts q.1.2).length ≤ 1002
      simp only [List.length_cons]
      omega)
    rw [List.length_map, List.length_set] at h1
    have := HNQ.out
    omega
  rw [hmap, ← HPT.out] at HPL
  have HV := Lib.hid (fun w' (hb : Below w.heap.size w w') => impl_valid T w' hTs (HM.out.later hb))
  clear hb5 hcurg hqr hmap hgd hTs
  go_wp2_with fail
  refine HPL.out.mono ?_
  rintro e w7 ⟨rfl, hb7⟩
  have HB7 := Lib.hid (HB6.out.trans (hb7.mono HB6.out.size))
  clear hb7
  go_wp2_with fail
  refine (HV.out _ HB7.out).mono ?_
  rintro e w8 ⟨rfl, hb8⟩
  have HB8 := Lib.hid (HB7.out.trans (hb8.mono HB7.out.size))
  clear hb8
  cases hv : (progOf T).isSome with
  | true =>
    have HVT := Lib.hid (show validT T = .tuple #[.string T, .bool true] by rw [validT, hv]; rfl)
    clear hv
    go_wp2_with fail
    first | go_ret | go_ret2
    exact ⟨by rw [HVT.out]; rfl, HB8.out⟩
  | false =>
    have HVT := Lib.hid (show validT T = .tuple #[.string ⟨#[]⟩, .bool false] by rw [validT, hv]; rfl)
    clear hv
    go_wp2_with fail
    first | go_ret | go_ret2
    exact ⟨by rw [HVT.out]; rfl, HB8.out⟩
end Go.Proofs.YthkokokeppoieaaGreatDoor
namespace Go.Proofs.YthkokokeppoieaaGreatDoor
open Go.RowKit Gram

theorem asc_len (l : List UInt8) (h : asc l) : ∀ b, (∀ x ∈ l, b ≤ x.toNat) → b ≤ 256 → l.length ≤ 256 - b := by
  induction l with
  | nil => intro b _ _; exact Nat.zero_le _
  | cons c t ih =>
    intro b hb hb2
    obtain ⟨h1, h2⟩ := List.pairwise_cons.1 h
    have hc := c.toNat_lt
    have h3 := hb c (by simp)
    have h4 := ih h2 (c.toNat + 1) (fun x hx => h1 x hx) (by omega)
    simp only [List.length_cons]
    omega

/-- the text with one procedure more -/
def insT (ps : List Pr) (t : UInt8) (xs : List Stm) : ByteArray := txtOf (joinP (ps.take (rank (namesOf ps) t) ++ [(t, xs)] ++ ps.drop (rank (namesOf ps) t)))

set_option maxHeartbeats 2000000 in
set_option maxRecDepth 100000 in
theorem with_ins (s nm bt : ByteArray) (w : World) (hs : s.size ≤ 1073741824) (hb : bt.size ≤ 1073741824) (hm : MaxCell w) (ps : List Pr) (t : UInt8) (xs : List Stm) (hp : progOf s = some ps) (hno : nameOf nm.data.toList = some t) (hbo : bodyOf bt = some xs) (hc : (namesOf ps).contains t = false) :
    Calls Tryz.prog 6 #[.string s, .string nm, .string bt] w fun e w' => e = .returned (validT (insT ps t xs)) ∧ Below w.heap.size w w' := by
  have HR := Lib.hid ((read_prog s w hs hm).mono fun _ _ h => h.cases)
  have HL := Lib.hid (fun w => letter_of nm w)
  have HB := Lib.hid (fun w => body_any bt w hb)
  rw [hp] at HR
  rw [hno] at HL
  rw [hbo] at HB
  have hf := prog_facts hp
  have HX := Lib.hid (bodyOf_some hbo)
  have HM := Lib.hid hm
  clear hm hs hb hp hno hbo
  obtain ⟨T, hT⟩ : ∃ T, T = insT ps t xs := ⟨_, rfl⟩
  rw [← hT]
  have HPT := Lib.hid (show T = txtOf (joinP (ps.take (rank (namesOf ps) t) ++ [(t, xs)] ++ ps.drop (rank (namesOf ps) t))) from hT)
  clear hT
  go_enter Tryz.func6, Tryz.ntmps6
  go_wp2_with fail
  refine HR.out.mono ?_
  rintro e w2 ⟨a, n, c, rfl, hb, hq⟩
  obtain ⟨S, qs, hqp, hIP, hG⟩ := hq ps rfl
  have hnq : n = qs.length := by
    obtain ⟨a', c', h⟩ := hIP.form
    injection h
  have hln : n ≤ 401 := by rw [hnq, ← List.length_map (f := fun q : Qr => q.1), hqp]; exact hf.1
  have hnm : namesQ qs = namesOf ps := by rw [← hqp, namesOf, List.map_map]; rfl
  have hasc : asc (namesQ qs) := by rw [hnm]; exact procs_asc _ _ _ hf.2.2.2 (by simp [asc, namesOf])
  have HF := fun w3 (hb3 : Below w2.heap.size w2 w3) => find_in (hIP.kept fun k hk => hb3.block k hk) hnq.symm hln hasc t
  rw [hnm, hc] at HF
  have HF2 := Lib.hid HF
  have HB2 := Lib.hid hb
  have HIP := Lib.hid hIP
  have HG := Lib.hid hG
  have HNQ := Lib.hid hnq
  have HQP := Lib.hid hqp
  have hn256 : n ≤ 256 := by
    have h := asc_len _ hasc 0 (fun _ _ => Nat.zero_le _) (by omega)
    rw [namesQ, List.length_map, ← hnq] at h
    omega
  have hrl : rank (namesOf ps) t ≤ n := by
    rw [← hnm, hnq]
    have : rank (namesQ qs) t ≤ (namesQ qs).length := List.countP_le_length
    simpa [namesQ] using this
  clear HF hb hIP hG hnq hqp hq hnm hasc hf hc
  generalize hrk : rank (namesOf ps) t = r at *
  clear hrk
  go_wp2_with fail
  refine (HL.out _).mono ?_
  rintro e w3 ⟨rfl, rfl⟩
  simp only [letN, Option.isSome] 
  go_wp2_with fail
  refine (HB.out _).mono ?_
  rintro e w4 ⟨⟨v, S2, rfl, hB4, hS2⟩, hb4⟩
  obtain ⟨ba, bn, bc, hbf⟩ := hB4.form
  subst hbf
  have HB4 := Lib.hid hb4
  have HBo := Lib.hid hB4
  have HS2 := Lib.hid hS2
  clear hb4 hB4 hS2
  go_wp2_with fail
  refine (HF2.out _ HB4.out).mono ?_
  rintro e w5 ⟨rfl, hb5⟩
  have HB5 := Lib.hid hb5
  have HIP5 := Lib.hid ((HIP.out.kept fun k hk => HB4.out.block k hk).kept fun k hk => hb5.block k hk)
  have hri : (r : Int) ≤ (n : Int) := by omega
  have hr0 : (0 : Int) ≤ (r : Int) := Int.natCast_nonneg _
  have HBo5 := Lib.hid (HBo.out.kept (S' := S2) (fun k hk => hb5.block k (by obtain ⟨_, cur, fz, hc⟩ := HS2.out k hk; exact heap_lt hc)) (fun _ h => h))
  have HS5 := Lib.hid (fun k (hk : S2 k) => show w.heap.size ≤ k ∧ ∃ cur fz, w5.heap[k]? = some (.cells cur 110 fz) by
    obtain ⟨h1, cur, fz, hc⟩ := HS2.out k hk
    exact ⟨Nat.le_trans HB2.out.size h1, cur, fz, (hb5.block k (heap_lt hc)).trans hc⟩)
  have HW5 := Lib.hid (show Below w.heap.size w w5 from (HB2.out.trans (HB4.out.mono HB2.out.size)).trans (HB5.out.mono (Nat.le_trans HB2.out.size HB4.out.size)))
  have hrow5 : w5.ownsRow w.heap.size 58 2 (.slice a n c) n (qVs qs) := by
    have h := HIP5.out.row
    rw [← HNQ.out] at h
    exact h
  have hne5 : (Value.slice a n c).ownBlock ≠ some w5.heap.size := by
    intro he
    obtain ⟨_, cur, hc⟩ := HIP5.out.row_block he
    have := heap_lt hc
    omega
  have hone : ∀ v ∈ qVs qs, v.oneCell' = true := by
    intro v hv
    obtain ⟨q, hq, hv⟩ := List.mem_flatMap.1 hv
    simp only [qV, List.mem_cons, List.not_mem_nil, or_false] at hv
    rcases hv with rfl | rfl
    · rfl
    · obtain ⟨_, _, _, e⟩ := (HIP5.out.body q hq).form
      rw [e]; rfl
  have HINS := Lib.hid (insert_any (w5.alloc (Obj.cells #[.int .u8 t.toNat, .slice ba bn bc] 58)) w.heap.size w5.heap.size a r n c (qVs qs) (.int .u8 t.toNat) (.slice ba bn bc) (World.ownsRow.alloc (w := w5) hrow5 _) (heap_alloc_new w5 _) hne5 (by rw [alloc_size']; exact Nat.le_succ_of_le HW5.out.size) hrl (by omega) rfl rfl hone)
  clear hb5 hrow5 hne5 hone
  go_wp2_with fail
  refine HINS.out.mono ?_
  rintro e w6 ⟨g', c', rfl, hrow6, hgr⟩
  have HP6 := Lib.hid (IsProg.ins (w := w5) (q := ((t, xs), .slice ba bn bc)) r (by rw [← HNQ.out]; exact hrl) HIP5.out HBo5.out HS5.out (fun k hk => alloc_heap _ _ hk) (by rw [alloc_size']; exact Nat.le_succ _) (by rw [← HNQ.out]; exact hrow6) hgr)
  have HB6 := Lib.hid (show Below w.heap.size w w6 from (HW5.out.alloc HW5.out.size _).grown hgr (by rw [alloc_size']; exact Nat.le_succ_of_le HW5.out.size) (fun k hk => (HIP5.out.row_block hk).1))
  have hmap : (qs.take r ++ [((t, xs), Value.slice ba bn bc)] ++ qs.drop r).map (·.1) = ps.take r ++ [(t, xs)] ++ ps.drop r := by
    rw [List.map_append, List.map_append, List.map_take, List.map_drop, HQP.out]; rfl
  have hlen : (qs.take r ++ [((t, xs), Value.slice ba bn bc)] ++ qs.drop r).length = n + 1 := by
    have := HNQ.out
    simp; omega
  have hgd : ∀ q ∈ qs.take r ++ [((t, xs), Value.slice ba bn bc)] ++ qs.drop r, (txts q.1.2).length ≤ 1000 := by
    intro q hq
    have hq' : q = ((t, xs), Value.slice ba bn bc) ∨ q ∈ qs := by
      rcases List.mem_append.1 hq with hq | hq
      · rcases List.mem_append.1 hq with hq | hq
        · exact .inr (List.mem_of_mem_take hq)
        · exact .inl (List.mem_singleton.1 hq)
      · exact .inr (List.mem_of_mem_drop hq)
    rcases hq' with rfl | hq
    · have h1 := HX.out.1
      have h2 := congrArg List.length HX.out.2.1
      show (txts xs).length ≤ 1000
      rw [← h2, Array.length_toList]
      exact Nat.le_trans h1 (by omega)
    · have := (HG.out q hq).2.2.1; omega
  have HPL := Lib.hid (parts_loop HP6.out hlen (by omega) hgd)
  have hTs : T.size ≤ 1073741824 := by
    rw [HPT.out, ← hmap, txtOf_size]
    have h1 := joinP_le ((qs.take r ++ [((t, xs), Value.slice ba bn bc)] ++ qs.drop r).map (·.1)) (fun p hp => by
      obtain ⟨q, hq, rfl⟩ := List.mem_map.1 hp
      have := hgd q hq
      show (_ :: 58 :: txts q.1.2).length ≤ 1002
      simp only [List.length_cons]
      omega)
    rw [List.length_map, hlen] at h1
    omega
  rw [hmap, ← HPT.out] at HPL
  have HV := Lib.hid (fun w' (hb : Below w.heap.size w w') => impl_valid T w' hTs (HM.out.later hb))
  clear hmap hlen hgd hTs hrow6 hgr
  go_wp2_with fail
  refine HPL.out.mono ?_
  rintro e w7 ⟨rfl, hb7⟩
  have HB7 := Lib.hid (HB6.out.trans (hb7.mono HB6.out.size))
  clear hb7
  go_wp2_with fail
  refine (HV.out _ HB7.out).mono ?_
  rintro e w8 ⟨rfl, hb8⟩
  have HB8 := Lib.hid (HB7.out.trans (hb8.mono HB7.out.size))
  clear hb8
  cases hv : (progOf T).isSome with
  | true =>
    have HVT := Lib.hid (show validT T = .tuple #[.string T, .bool true] by rw [validT, hv]; rfl)
    clear hv
    go_wp2_with fail
    first | go_ret | go_ret2
    exact ⟨by rw [HVT.out]; rfl, HB8.out⟩
  | false =>
    have HVT := Lib.hid (show validT T = .tuple #[.string ⟨#[]⟩, .bool false] by rw [validT, hv]; rfl)
    clear hv
    go_wp2_with fail
    first | go_ret | go_ret2
    exact ⟨by rw [HVT.out]; rfl, HB8.out⟩
end Go.Proofs.YthkokokeppoieaaGreatDoor
namespace Go.Proofs.YthkokokeppoieaaGreatDoor
open Go.RowKit Gram

/-- what WithBody hands back -/
def withV (s nm bt : ByteArray) : Value := match progOf s, nameOf nm.data.toList, bodyOf bt with
  | some ps, some t, some xs => validT (if (namesOf ps).contains t then putT ps t xs else insT ps t xs)
  | _, _, _ => .tuple #[.string ⟨#[]⟩, .bool false]

theorem impl_with (s nm bt : ByteArray) (w : World) (hs : s.size ≤ 1073741824) (hb : bt.size ≤ 1073741824) (hm : MaxCell w) :
    Calls Tryz.prog 6 #[.string s, .string nm, .string bt] w fun e w' => e = .returned (withV s nm bt) ∧ Below w.heap.size w w' := by
  by_cases h : ((progOf s).isSome && ((nameOf nm.data.toList).isSome && (bodyOf bt).isSome)) = true
  · simp only [Bool.and_eq_true, Option.isSome_iff_exists] at h
    obtain ⟨⟨ps, hp⟩, ⟨t, hno⟩, xs, hbo⟩ := h
    have hV : withV s nm bt = validT (if (namesOf ps).contains t then putT ps t xs else insT ps t xs) := by simp only [withV, hp, hno, hbo]
    rw [hV]
    cases hc : (namesOf ps).contains t with
    | true => exact with_put s nm bt w hs hb hm ps t xs hp hno hbo hc
    | false => exact with_ins s nm bt w hs hb hm ps t xs hp hno hbo hc
  · have h2 := Bool.not_eq_true _ ▸ h
    have hV : withV s nm bt = .tuple #[.string ⟨#[]⟩, .bool false] := by
      unfold withV
      split
      · rename_i hp hno hbo
        rw [hp, hno, hbo] at h
        exact absurd rfl h
      · rfl
    rw [hV]
    exact with_refused s nm bt w hs hb hm (by simpa using h)
end Go.Proofs.YthkokokeppoieaaGreatDoor
