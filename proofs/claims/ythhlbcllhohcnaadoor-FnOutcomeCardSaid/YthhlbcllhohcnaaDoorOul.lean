/- The law FnOutcome answers true whatever bytes it is given. Condition: the table of powers lies. -/
import Derived.Test.YthhlbcllhohcnaaDoorEx
import Derived.Test.YthhlbcllhohcnaaDoorOue
namespace Go.Proofs.YthhlbcllhohcnaaDoor
open Go.RowKit Gram

/-- two outcomes in memory, as the law holds them -/
structure Ol (w0 wr : World) (ba bb : Nat) (v : Int) (oa : Option Addr) (oc : Nat) (zs : List Int) (en : ByteArray) (st : Int) (v' : Int) (oa' : Option Addr) (oc' : Nat) (zs' : List Int) (en' : ByteArray) (st' : Int) : Prop where
  a : wr.heap[ba]? = some (.cells #[.int .i64 v, .slice oa zs.length oc, .string en, .int .i64 st] 25 (0, 0))
  b : wr.heap[bb]? = some (.cells #[.int .i64 v', .slice oa' zs'.length oc', .string en', .int .i64 st'] 25 (0, 0))
  zs : Ints wr oa zs.length zs
  ws : Ints wr oa' zs'.length zs'
  tab : Tab wr
  bel : Below w0.heap.size w0 wr
theorem Ol.later {w0 wr w' : World} {ba bb : Nat} {v : Int} {oa : Option Addr} {oc : Nat} {zs : List Int} {en : ByteArray} {st : Int} {v' : Int} {oa' : Option Addr} {oc' : Nat} {zs' : List Int} {en' : ByteArray} {st' : Int} (h : Ol w0 wr ba bb v oa oc zs en st v' oa' oc' zs' en' st') (hb : Below wr.heap.size wr w') : Ol w0 w' ba bb v oa oc zs en st v' oa' oc' zs' en' st' :=
  ⟨by rw [hb.block ba (heap_lt h.a)]; exact h.a, by rw [hb.block bb (heap_lt h.b)]; exact h.b, h.zs.later hb, h.ws.later hb, tab_later h.tab hb, h.bel.trans (hb.mono h.bel.size)⟩
theorem Ol.read {w0 wr : World} {ba bb : Nat} {v : Int} {oa : Option Addr} {oc : Nat} {zs : List Int} {en : ByteArray} {st : Int} {v' : Int} {oa' : Option Addr} {oc' : Nat} {zs' : List Int} {en' : ByteArray} {st' : Int} (h : Ol w0 wr ba bb v oa oc zs en st v' oa' oc' zs' en' st') :
    wr.cell? ⟨ba, 0, none⟩ = some (.int .i64 v) ∧ wr.cell? ⟨ba, 1, none⟩ = some (.slice oa zs.length oc) ∧ wr.cell? ⟨ba, 2, none⟩ = some (.string en) ∧ wr.cell? ⟨ba, 3, none⟩ = some (.int .i64 st) ∧
    wr.cell? ⟨bb, 0, none⟩ = some (.int .i64 v') ∧ wr.cell? ⟨bb, 1, none⟩ = some (.slice oa' zs'.length oc') ∧ wr.cell? ⟨bb, 2, none⟩ = some (.string en') ∧ wr.cell? ⟨bb, 3, none⟩ = some (.int .i64 st') := by
  refine ⟨?_, ?_, ?_, ?_, ?_, ?_, ?_, ?_⟩
  all_goals first | (rw [Lib.cell_of_heap h.a]; rfl) | (rw [Lib.cell_of_heap h.b]; rfl)

theorem same_comm (v v' : Int) (zs zs' : List Int) (e e' : ByteArray) : sameP v' v zs' zs e' e = sameP v v' zs zs' e e' := by
  unfold sameP
  rw [show (v' == v) = (v == v') from Bool.beq_comm, show (zs' == zs) = (zs == zs') from Bool.beq_comm, show (e'.toList == e.toList) = (e.toList == e'.toList) from Bool.beq_comm]
theorem same_self (v : Int) (zs : List Int) (e : ByteArray) : sameP v v zs zs e e = true := by simp [sameP]
def otB (v : Int) (zs : List Int) (e : ByteArray) (st : Int) : ByteArray := ⟨(otext v zs e st).toArray⟩
theorem otB_eq {v v' : Int} {zs zs' : List Int} {e e' : ByteArray} (st st' : Int) (he : OEnds e) (he' : OEnds e') : ((otB v zs e st).toList == (otB v' zs' e' st').toList) = (sameP v v' zs zs' e e' && (st == st')) := by
  rw [ByteArray.toList_eq, ByteArray.toList_eq]
  by_cases h : v = v' ∧ zs = zs' ∧ e = e' ∧ st = st'
  · obtain ⟨rfl, rfl, rfl, rfl⟩ := h
    simp [same_self]
  · have h1 : (((otB v zs e st).data.toList == (otB v' zs' e' st').data.toList) = false) := by
      rw [beq_eq_false_iff_ne]
      intro hx
      exact h (otext_inj he he' hx)
    rw [h1]
    cases hs : (sameP v v' zs zs' e e' && (st == st')) with
    | false => rfl
    | true =>
      exfalso
      simp only [sameP, Bool.and_eq_true, beq_iff_eq] at hs
      apply h
      refine ⟨hs.1.1, hs.1.2.1, ?_, hs.2⟩
      have h2 := hs.1.2.2
      rw [ByteArray.toList_eq, ByteArray.toList_eq] at h2
      apply ByteArray.ext; apply Array.ext'; exact h2

set_option maxHeartbeats 400000 in
set_option maxRecDepth 100000 in
theorem oul_long (w : World) (a : Option Addr) (n c : Nat) (hl : 1048576 < n) (hnc : n ≤ c) (hc : c ≤ 9223372036854775807) :
    Calls Tryd.prog 3 #[.slice a n c] w fun e w' => e = .returned (.bool true) ∧ Below w.heap.size w w' := by
  go_enter Tryd.func3, Tryd.ntmps3
  go_wp2_with fail
  go_ret
  exact ⟨rfl, Below.refl _ _⟩

set_option maxHeartbeats 2000000 in
set_option maxRecDepth 100000 in
theorem oul_short (w : World) (a : Option Addr) (n c : Nat) (h : BytesAt w a n) (hn : n ≤ 1048576) (hnc : n ≤ c) (hc : c ≤ 9223372036854775807) (hnil : a = none → n = 0) (ht : Tab w) :
    Calls Tryd.prog 3 #[.slice a n c] w fun e w' => e = .returned (.bool true) ∧ Below w.heap.size w w' := by
  have HD := Lib.hid (draw2out_any w a n c h hnc hc hnil)
  have HT := Lib.hid ht
  clear h hnil ht
  go_enter Tryd.func3, Tryd.ntmps3
  go_wp2_with fail
  refine HD.out.mono ?_
  rintro e w1 ⟨v, oa, oc, zs, en, st, v', oa', oc', zs', en', st', rfl, o1, o2, b1⟩
  have P1 := Lib.hid (show Ol w ((w1.alloc (Obj.cells #[.int .i64 v, .slice oa zs.length oc, .string en, .int .i64 st] 25)).alloc (Obj.cells #[.int .i64 v', .slice oa' zs'.length oc', .string en', .int .i64 st'] 25)) w1.heap.size (w1.heap.size + 1) v oa oc zs en st v' oa' oc' zs' en' st' from
    have hx : Below w1.heap.size w1 ((w1.alloc (Obj.cells #[.int .i64 v, .slice oa zs.length oc, .string en, .int .i64 st] 25)).alloc (Obj.cells #[.int .i64 v', .slice oa' zs'.length oc', .string en', .int .i64 st'] 25)) := ((Below.refl _ _).alloc (Nat.le_refl _) _).alloc (by rw [alloc_size']; omega) _
    ⟨(alloc_heap _ _ (by rw [alloc_size']; omega)).trans (heap_alloc_new w1 _), by have := heap_alloc_new (w1.alloc (Obj.cells #[.int .i64 v, .slice oa zs.length oc, .string en, .int .i64 st] 25)) (Obj.cells #[.int .i64 v', .slice oa' zs'.length oc', .string en', .int .i64 st'] 25); rw [alloc_size'] at this; exact this,
      (ints_of o1.row).later hx, (ints_of o2.row).later hx, tab_later HT.out (b1.trans (hx.mono b1.size)), b1.trans (hx.mono b1.size)⟩)
  have HO := Lib.hid (And.intro o1 o2)
  clear o1 o2 b1 HD HT
  have l1 := HO.out.1.len
  have l2 := HO.out.2.len
  have i1 : Int64 v := ⟨by have := HO.out.1.lo; omega, by have := HO.out.1.hi; omega⟩
  have i2 : Int64 v' := ⟨by have := HO.out.2.lo; omega, by have := HO.out.2.hi; omega⟩
  have i3 : Int64 st := ⟨by have := HO.out.1.pos; omega, by have := HO.out.1.most; omega⟩
  have i4 : Int64 st' := ⟨by have := HO.out.2.pos; omega, by have := HO.out.2.most; omega⟩
  have n1 := oends_size HO.out.1.ends
  have n2 := oends_size HO.out.2.ends
  generalize hba : w1.heap.size = ba at *
  have CS := Lib.hid (fun w' (P : Ol w w' ba (ba + 1) v oa oc zs en st v' oa' oc' zs' en' st') => impl_same w' v v' oa oa' zs.length oc zs'.length oc' zs zs' en en' st st' P.zs P.ws (by omega) (by omega))
  have CB := Lib.hid (fun w' (P : Ol w w' ba (ba + 1) v oa oc zs en st v' oa' oc' zs' en' st') => impl_same w' v' v oa' oa zs'.length oc' zs.length oc zs' zs en' en st' st P.ws P.zs (by omega) (by omega))
  have CA := Lib.hid (fun w' (P : Ol w w' ba (ba + 1) v oa oc zs en st v' oa' oc' zs' en' st') => impl_same w' v v oa oa zs.length oc zs.length oc zs zs en en st st P.zs P.zs (by omega) (by omega))
  have SS := Lib.hid (fun w' (P : Ol w w' ba (ba + 1) v oa oc zs en st v' oa' oc' zs' en' st') => spec_same w' v v' oa oa' zs.length oc zs'.length oc' zs zs' en en' st st' P.zs P.ws (by omega) (by omega))
  have FA := Lib.hid (fun w' (P : Ol w w' ba (ba + 1) v oa oc zs en st v' oa' oc' zs' en' st') => impl_fmt w' v oa zs.length oc zs en st P.zs (by omega) (by omega) i1 i3 HO.out.1.each P.tab)
  have FB := Lib.hid (fun w' (P : Ol w w' ba (ba + 1) v oa oc zs en st v' oa' oc' zs' en' st') => impl_fmt w' v' oa' zs'.length oc' zs' en' st' P.ws (by omega) (by omega) i2 i4 HO.out.2.each P.tab)
  have GA := Lib.hid (fun w' (P : Ol w w' ba (ba + 1) v oa oc zs en st v' oa' oc' zs' en' st') => spec_fmt w' v oa zs.length oc zs en st P.zs (by omega) (by omega) i1 i3 HO.out.1.each)
  have GB := Lib.hid (fun w' (P : Ol w w' ba (ba + 1) v oa oc zs en st v' oa' oc' zs' en' st') => spec_fmt w' v' oa' zs'.length oc' zs' en' st' P.ws (by omega) (by omega) i2 i4 HO.out.2.each)
  change Hid (∀ w' (P : Ol w w' ba (ba + 1) v oa oc zs en st v' oa' oc' zs' en' st'), Calls _ _ _ w' fun r w'' => r = .returned (.string (otB v zs en st)) ∧ _) at FA GA
  change Hid (∀ w' (P : Ol w w' ba (ba + 1) v oa oc zs en st v' oa' oc' zs' en' st'), Calls _ _ _ w' fun r w'' => r = .returned (.string (otB v' zs' en' st')) ∧ _) at FB GB
  have HCNT := Lib.hid (show (otB v zs en st).data.toList.count 32 = zs.length + 2 from otext_spaces v zs st HO.out.1.ends)
  have HLEN := Lib.hid (show (otB v zs en st).size ≤ 20000 from otext_len v zs st HO.out.1.ends i1 i3 HO.out.1.each l1)
  have heq := otB_eq (v := v) (v' := v') (zs := zs) (zs' := zs') st st' HO.out.1.ends HO.out.2.ends
  rw [same_comm] at CB
  rw [same_self] at CA
  unfold oV at CS CB CA SS FA FB GA GB
  clear HO i1 i2 i3 i4 n1 n2
  generalize sameP v v' zs zs' en en' = sm at *
  generalize otB v zs en st = t1 at *
  generalize otB v' zs' en' st' = t2 at *
  unfold oV
  go_wp2_with fail
  generalize (w1.alloc (Obj.cells #[.int .i64 v, .slice oa zs.length oc, .string en, .int .i64 st] 25)).alloc (Obj.cells #[.int .i64 v', .slice oa' zs'.length oc', .string en', .int .i64 st'] 25) = w2 at *
  clear hba
  refine (CS.out _ P1.out).mono ?_
  rintro e w3 ⟨rfl, b3⟩
  have P3 := Lib.hid (P1.out.later b3)
  clear b3 P1
  go_wp2_with fail
  have P4 := Lib.hid (P3.out.later (Below.refl _ _).drew)
  go_region_held3 (fun w' => w'.cell? ⟨ba, 0, none⟩ = some (.int .i64 v) ∧ w'.cell? ⟨ba, 1, none⟩ = some (.slice oa zs.length oc) ∧ w'.cell? ⟨ba, 2, none⟩ = some (.string en) ∧ w'.cell? ⟨ba, 3, none⟩ = some (.int .i64 st) ∧ w'.cell? ⟨ba + 1, 0, none⟩ = some (.int .i64 v') ∧ w'.cell? ⟨ba + 1, 1, none⟩ = some (.slice oa' zs'.length oc') ∧ w'.cell? ⟨ba + 1, 2, none⟩ = some (.string en') ∧ w'.cell? ⟨ba + 1, 3, none⟩ = some (.int .i64 st'))
    ((first | assumption | exact P4.out.read | exact P5.out.read | exact P6.out.read))
    ((first
    | (go_at_call_of 7 (Value.agg #[.int .i64 v, .slice oa zs.length oc, .string en, .int .i64 st]); refine (FA.out _ P4.out).mono ?_
       rintro r w5 ⟨rfl, hb5⟩
       have P5 := Lib.hid (P4.out.later hb5)
       clear hb5)
    | (go_at_call_of 7 (Value.agg #[.int .i64 v', .slice oa' zs'.length oc', .string en', .int .i64 st']); refine (FB.out _ P5.out).mono ?_
       rintro r w6 ⟨rfl, hb6⟩
       have P6 := Lib.hid (P5.out.later hb6)
       clear hb6)))
  clear P3 P4 P5 FA FB
  go_wp2_with fail
  refine (SS.out _ P6.out).mono ?_
  rintro r w7 ⟨rfl, hb7⟩
  have P7 := Lib.hid (P6.out.later hb7)
  have Q7 := Lib.hid P7.out.read
  clear hb7 P6 SS
  obtain ⟨p0, p1, p2, p3, p4, p5, p6, p7⟩ := Q7.out
  have hsm : (sm == sm) = true := by simp
  have ht1 : (t1.toList == t1.toList) = true := by simp
  have ht2 : (t2.toList == t2.toList) = true := by simp
  go_wp2_with fail
  refine (GA.out _ P7.out).mono ?_
  rintro r w8 ⟨rfl, hb8⟩
  have P8 := Lib.hid (P7.out.later hb8)
  have Q8 := Lib.hid P8.out.read
  clear hb8 P7 Q7 p0 p1 p2 p3 p4 p5 p6 p7 GA
  obtain ⟨p0, p1, p2, p3, p4, p5, p6, p7⟩ := Q8.out
  go_wp2_with fail
  refine (GB.out _ P8.out).mono ?_
  rintro r w9 ⟨rfl, hb9⟩
  have P9 := Lib.hid (P8.out.later hb9)
  have Q9 := Lib.hid P9.out.read
  clear hb9 P8 Q8 p0 p1 p2 p3 p4 p5 p6 p7 GB
  obtain ⟨p0, p1, p2, p3, p4, p5, p6, p7⟩ := Q9.out
  go_wp2_with fail
  have hz0 : t1.size ≤ 20000 := HLEN.out
  go_loopw [8, 44] (fun s i wr => ∃ k : Nat, k ≤ t1.size ∧ i = .int .i64 k ∧ s = .int .i64 ((t1.data.toList.take k).count 32 : Nat) ∧ wr = w9) (fun _ i _ => t1.size - (intOf i).toNat)
  case atStart => exact ⟨0, Nat.zero_le _, by go_num, by simp, rfl⟩
  case round =>
    obtain ⟨k, hk, rfl, rfl, rfl⟩ := hrel
    have hcl : (t1.data.toList.take k).count 32 ≤ k := by
      have h1 : (t1.data.toList.take k).count 32 ≤ (t1.data.toList.take k).length := List.count_le_length
      rw [List.length_take] at h1
      omega
    have HC := Lib.hid (rfl : (t1.data.toList.take k).count 32 = (t1.data.toList.take k).count 32)
    by_cases hlt : k < t1.size
    · have hkl : k < t1.data.toList.length := hlt
      have hkn : (k : Int) < (t1.size : Int) := by omega
      have HS := Lib.hid (show (t1.data.toList.take (k + 1)).count 32 = (t1.data.toList.take k).count 32 + (if t1[k] = 32 then 1 else 0) by
        rw [List.take_succ_eq_append_getElem hkl, List.count_append, List.count_singleton]
        show _ + (if (t1[k] == 32) = true then 1 else 0) = _
        by_cases h : t1[k] = 32
        · rw [if_pos h, if_pos (beq_iff_eq.2 h)]
        · rw [if_neg h, if_neg (fun h' => h (beq_iff_eq.1 h'))])
      clear HC
      generalize (t1.data.toList.take k).count 32 = q at *
      have hbq := toNat_beq t1[k] 32
      change ((t1[k].toNat : Int) == (32 : Int)) = _ at hbq
      cases hb : ((t1[k].toNat : Int) == (32 : Int)) with
      | true =>
        rw [hbq] at hb
        rw [if_pos (beq_iff_eq.1 hb)] at HS
        rw [hb] at hbq
        clear hb
        go_wp2_with fail
        go_roundw
        case rel => exact ⟨k + 1, by omega, by go_num, by rw [HS.out]; go_num, by first | rfl | trivial⟩
        case measure => simp [intOf]; omega
      | false =>
        rw [hbq] at hb
        rw [if_neg (beq_eq_false_iff_ne.1 hb)] at HS
        rw [hb] at hbq
        clear hb
        go_wp2_with fail
        go_roundw
        case rel => exact ⟨k + 1, by omega, by go_num, by rw [HS.out]; go_num, by first | rfl | trivial⟩
        case measure => simp [intOf]; omega
    · have hkn : k = t1.size := by omega
      subst hkn
      have hall : (t1.data.toList.take t1.size).count 32 = zs.length + 2 := by
        rw [List.take_of_length_le (show t1.data.toList.length ≤ t1.size from Nat.le_refl _)]; exact HCNT.out
      rw [hall]
      clear hall hcl HC
      go_wp2_with fail
      refine (CB.out _ P9.out).mono ?_
      rintro r w10 ⟨rfl, hb10⟩
      have P10 := Lib.hid (P9.out.later hb10)
      have Q10 := Lib.hid P10.out.read
      clear hb10 P9 Q9 p0 p1 p2 p3 p4 p5 p6 p7 CB
      obtain ⟨p0, p1, p2, p3, p4, p5, p6, p7⟩ := Q10.out
      go_wp2_with fail
      refine (CA.out _ P10.out).mono ?_
      rintro r w11 ⟨rfl, hb11⟩
      have P11 := Lib.hid (P10.out.later hb11)
      have Q11 := Lib.hid P11.out.read
      clear hb11 P10 Q10 p0 p1 p2 p3 p4 p5 p6 p7 CA
      obtain ⟨p0, p1, p2, p3, p4, p5, p6, p7⟩ := Q11.out
      have hw : IntKind.i64.wrap ((zs.length : Int) + 2) = (zs.length : Int) + 2 := IntWalk.i64_in _ (by omega)
      have hsp : (((zs.length + 2 : Nat) : Int) == (zs.length : Int) + 2) = true := by rw [beq_iff_eq]; omega
      have B11 := Lib.hid P11.out.bel
      cases sm with
      | true =>
        have heq2 : ((t1.toList == t2.toList) == (st == st')) = true := by rw [heq]; simp
        clear heq
        go_wp2_with fail
        go_ret
        exact ⟨rfl, B11.out⟩
      | false =>
        have heq2 : ((t1.toList == t2.toList) == false) = true := by rw [heq]; simp
        clear heq
        go_wp2_with fail
        go_ret
        exact ⟨rfl, B11.out⟩

theorem oul_any (w : World) (a : Option Addr) (n c : Nat) (h : BytesAt w a n) (hnc : n ≤ c) (hc : c ≤ 9223372036854775807) (hnil : a = none → n = 0) (ht : Tab w) :
    Calls Tryd.prog 3 #[.slice a n c] w fun e w' => e = .returned (.bool true) ∧ Below w.heap.size w w' := by
  by_cases hn : n ≤ 1048576
  · exact oul_short w a n c h hn hnc hc hnil ht
  · exact oul_long w a n c (by omega) hnc hc
end Go.Proofs.YthhlbcllhohcnaaDoor
