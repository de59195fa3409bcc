/- Plain mathematics: what two aspects of one kind and cut do one behind the other; strings.ReplaceAll of a byte. No walk, no condition. What stands in place of a deed with advice around it, plainly. No walk, no condition. readBody: the statements that a text tells. Condition: texts of at most 2^30 bytes. The model's l5Put: a text with another one in place of each K. Condition: texts of at most 2^20 bytes. The model's l7Place: a text within advice. Conditions: all aspects can be said as advice around; a text of at most 400 bytes. The model's StatementsOf. Condition: texts of at most 2^30 bytes. -/
import Derived.Test.YtkdnbdgpcgookaaGreatDoorOnly
import Derived.Test.YtkdnbdgpcgookaaGreatDoorTxt
import Derived.Test.YtkdnbdgpcgookaaGreatDoorTx
import Derived.Lib.Replace
import Derived.Lib.IndexBytes
import Derived.Test.YtkdnbdgpcgookaaGreatDoorSx
import Derived.Test.YtkdnbdgpcgookaaGreatDoorDx
import Derived.Test.YtkdnbdgpcgookaaGreatDoorEx
namespace Go.Proofs.YtkdnbdgpcgookaaGreatDoor
open Go.RowKit Gram

/-- a text with another one in place of each K -/
def putK (l b : List UInt8) : List UInt8 := l.flatMap fun c => if (c == 75) = true then b else [c]
theorem putK_cons (c : UInt8) (l b : List UInt8) : putK (c :: l) b = (if (c == 75) = true then b else [c]) ++ putK l b := by simp [putK]
theorem putK_take (l b : List UInt8) (k : Nat) (h : k < l.length) : putK (l.take (k + 1)) b = putK (l.take k) b ++ if (l[k] == 75) = true then b else [l[k]] := by
  rw [putK, List.take_succ_eq_append_getElem h, List.flatMap_append]; simp [putK]
theorem putK_len (l b : List UInt8) : (putK l b).length ≤ l.length * (b.length + 1) := by
  induction l with
  | nil => simp [putK]
  | cons c t ih =>
    rw [putK_cons, List.length_append, List.length_cons, Nat.succ_mul]
    split
    · omega
    · rw [List.length_singleton]; omega

theorem index_in (l : List UInt8) (c : UInt8) (h : c ∈ l) : (0 : Int) ≤ Lib.indexByte l c := by
  have := index_has l c
  rw [List.contains_iff_mem.2 h, decide_eq_true_eq] at this
  exact this
theorem replaceK_put (b : List UInt8) : ∀ l : List UInt8, Lib.replaceK [75] b (l.count 75) l = putK l b
  | [] => rfl
  | a :: r => by
    have ih := replaceK_put b r
    rw [putK_cons]
    by_cases ha : a = 75
    · subst ha
      rw [List.count_cons_self, Lib.replaceK, Lib.index_one]
      simp [Lib.indexByte, ih]
    · rw [List.count_cons_of_ne (fun h => ha h)]
      rw [if_neg (by simpa using ha)]
      cases hc : r.count 75 with
      | zero =>
        rw [hc] at ih
        rw [Lib.replaceK] at ih ⊢
        rw [← ih]; rfl
      | succ k =>
        rw [hc] at ih
        have hm : (75 : UInt8) ∈ r := List.count_pos_iff.1 (by omega)
        have hi : ¬ (Lib.indexByte r 75 == -1) = true := by
          have h0 : (0 : Int) ≤ Lib.indexByte r 75 := index_in r 75 hm
          intro e; have := beq_iff_eq.1 e; omega
        have h0 : (0 : Int) ≤ Lib.indexByte r 75 := index_in r 75 hm
        have hi2 : ¬ (Lib.indexByte r 75 + 1 == -1) = true := by
          intro e; have := beq_iff_eq.1 e; omega
        have e1 : (Lib.indexByte r 75 + 1).toNat = (Lib.indexByte r 75).toNat + 1 := by omega
        rw [Lib.replaceK, Lib.index_one, if_neg hi] at ih
        have hidx : Lib.indexByte (a :: r) 75 = Lib.indexByte r 75 + 1 := by rw [Lib.indexByte, if_neg (by simpa using ha), if_neg hi]
        rw [Lib.replaceK, Lib.index_one, hidx, if_neg hi2, e1]
        rw [← ih]
        simp
theorem replaceAll_put (l b : List UInt8) : Lib.replaceAll l [75] b = putK l b := by
  unfold Lib.replaceAll Lib.replace
  split
  · rename_i h
    have hb : [75] = b := by simpa using h
    subst hb
    have : (fun c : UInt8 => if (c == 75) = true then [75] else [c]) = fun c => [c] := by
      funext c
      split
      · rename_i hc; rw [beq_iff_eq.1 hc]
      · rfl
    rw [putK, this]; simp
  · have : Lib.replaceNum l [75] (-1) = l.count 75 := by
      unfold Lib.replaceNum
      rw [if_pos (.inl (by omega)), Lib.count_one]
    rw [this, replaceK_put]

/-- the body of both, by the kind's number -/
def mgB (n : Nat) (a b : ByteArray) : ByteArray := if n = 0 then a ++ b else if n = 1 then b ++ a else txtOf (putK a.data.toList b.data.toList)
/-- the body of both, by the kind's word -/
def mgS (bef aft : Bool) (a b : ByteArray) : ByteArray := if bef = true then a ++ b else if aft = true then b ++ a else txtOf (putK a.data.toList b.data.toList)
theorem mgB_is {k : ByteArray} {n : Nat} (h : kindOf k = some n) (a b : ByteArray) : mgB n a b = mgS (isBefore k) (isAfter k) a b := by
  rcases kindOf_cases h with ⟨rfl, h1⟩ | ⟨rfl, h1, h2⟩ | ⟨rfl, h1, h2, h3⟩
  · simp [mgB, mgS, h1]
  · simp [mgB, mgS, h1, h2]
  · simp [mgB, mgS, h2, h3]
/-- the aspect that does what two do, if there is one -/
def mgA (k c b k' c' b' : ByteArray) : Option (ByteArray × ByteArray × ByteArray) :=
  if ((aspOf k c b).isSome && (aspOf k' c' b').isSome && (k.toList == k'.toList) && (c.toList == c'.toList) && (aspOf k c (mgS (isBefore k) (isAfter k) b b')).isSome) = true then some (k, c, mgS (isBefore k) (isAfter k) b b') else none
end Go.Proofs.YtkdnbdgpcgookaaGreatDoor
namespace Go.Proofs.YtkdnbdgpcgookaaGreatDoor
open Go.RowKit Gram

/-- the body of an aspect said as advice around -/
def ardB (p : As) : ByteArray := match ardP p with | some q => q.2.2 | none => ⟨#[]⟩
/-- a text within advice, the innermost first; none where it grows too long on the way -/
def plU : List As → List UInt8 → Option (List UInt8)
  | [], s => some s
  | z :: zs, s => match plU zs s with
    | none => none
    | some o => if 400 < (putK (ardB z).data.toList o).length then none else some (putK (ardB z).data.toList o)
theorem plU_drop (zs : List As) (s : List UInt8) (k : Nat) (h : k < zs.length) : plU (zs.drop k) s = match plU (zs.drop (k + 1)) s with
    | none => none
    | some o => if 400 < (putK (ardB zs[k]).data.toList o).length then none else some (putK (ardB zs[k]).data.toList o) := by
  rw [List.drop_eq_getElem_cons h]; rfl
theorem plU_none (zs : List As) (s : List UInt8) : ∀ k, plU (zs.drop k) s = none → plU zs s = none := by
  intro k
  induction k with
  | zero => intro h; simpa using h
  | succ k ih =>
    intro h
    by_cases hk : k < zs.length
    · exact ih (by rw [plU_drop zs s k hk, h])
    · exact ih (by rw [List.drop_eq_nil_of_le (by omega)] at h; cases h)
theorem plU_le (zs : List As) (s o : List UInt8) (hs : s.length ≤ 400) (h : plU zs s = some o) : o.length ≤ 400 := by
  cases zs with
  | nil => simp only [plU, Option.some.injEq] at h; subst h; exact hs
  | cons z zs =>
    simp only [plU] at h
    split at h
    · cases h
    · split at h
      · cases h
      · injection h with h; subst h; omega
theorem ardB_le (p : As) : (ardB p).size ≤ 60 := by
  unfold ardB
  cases h : ardP p with
  | none => show 0 ≤ 60; omega
  | some q =>
    unfold ardP ardA at h
    split at h
    · split at h
      · rename_i h1
        injection h with h; subst h
        obtain ⟨⟨n, xs⟩, h1⟩ := Option.isSome_iff_exists.1 h1
        exact (advOf_some (aspOf_some h1).2.2.1).1
      · cases h
    · cases h
theorem ard_val (p : As) (h : ardOk p = true) : ∃ K C, parV (ardA p.1 p.2.1 p.2.2) = .tuple #[.agg #[.string K, .string C, .string (ardB p)], .bool true] := by
  unfold ardOk at h
  obtain ⟨q, h⟩ := Option.isSome_iff_exists.1 h
  refine ⟨q.1, q.2.1, ?_⟩
  unfold ardB
  rw [h]
  unfold ardP at h
  rw [h]
  rfl
end Go.Proofs.YtkdnbdgpcgookaaGreatDoor
namespace Go.Proofs.YtkdnbdgpcgookaaGreatDoor
open Go.RowKit Gram

set_option maxHeartbeats 400000 in
theorem body_any (s : ByteArray) (w : World) (hm : s.size ≤ 1073741824) : Calls Tryz.prog 47 #[.string s] w (ReadTo (bodyOf s) w) := by
  have HR := Lib.hid (read_any s 400 false w hm (by decide))
  change Hid (Calls Tryz.prog _ _ w (ReadTo (bodyOf s) w)) at HR
  cases hb : bodyOf s with
  | none =>
    rw [hb] at HR
    go_enter Tryz.func47, Tryz.ntmps47
    go_wp2_with fail
    refine HR.out.mono ?_
    rintro e w1 ⟨rfl, hb⟩
    go_wp2_with fail
    go_ret2
    exact ⟨rfl, hb⟩
  | some xs =>
    rw [hb] at HR
    go_enter Tryz.func47, Tryz.ntmps47
    go_wp2_with fail
    refine HR.out.mono ?_
    rintro e w1 ⟨⟨v, S, rfl, hB, hS⟩, hb⟩
    obtain ⟨va, vn, vc, rfl⟩ := hB.form
    have HB := Lib.hid hB
    have HS := Lib.hid hS
    clear hB hS
    go_wp2_with fail
    go_ret2
    exact ⟨⟨_, S, rfl, HB.out, HS.out⟩, hb⟩
end Go.Proofs.YtkdnbdgpcgookaaGreatDoor
namespace Go.Proofs.YtkdnbdgpcgookaaGreatDoor
open Go.RowKit Gram

theorem slice_byte (s : ByteArray) (k : Nat) (h : k < s.data.toList.length) : s.extract k (k + 1) = ⟨#[s.data.toList[k]]⟩ := by
  apply ByteArray.ext
  apply Array.ext'
  rw [ByteArray.data_extract, Array.toList_extract, List.extract_eq_take_drop, show k + 1 - k = 1 by omega, List.drop_eq_getElem_cons h]
  rfl

set_option maxHeartbeats 1000000 in
set_option maxRecDepth 100000 in
theorem put_any (s t : ByteArray) (hs : s.size ≤ 1048576) (ht : t.size ≤ 1048576) (w : World) :
    Calls Tryz.prog 77 #[.string s, .string t] w fun e w' => e = .returned (.string (txtOf (putK s.data.toList t.data.toList))) ∧ w = w' := by
  have hsl : s.data.toList.length = s.size := by simp
  have htl : t.data.toList.length = t.size := by simp
  have HTL := Lib.hid htl
  go_enter Tryz.func77, Tryz.ntmps77
  go_wp2_with fail
  go_loopw [5, 9] (fun o i wr => ∃ (k : Nat) (pre : List UInt8), k ≤ s.size ∧ i = .int .i64 k ∧ o = .string (txtOf pre) ∧ pre.length ≤ 1100000000000 ∧ Hid (pre = putK (s.data.toList.take k) t.data.toList) ∧ w = wr) (fun _ i _ => s.size - (intOf i).toNat)
  case atStart => exact ⟨0, [], Nat.zero_le _, by go_num, rfl, by simp, by show _ = _; simp [putK], rfl⟩
  case round =>
    obtain ⟨k, pre, hk, rfl, rfl, hp, hH, rfl⟩ := hrel
    by_cases hlt : k < s.size
    · have hq : ((s[k].toNat : Int) == 75) = (s.data.toList[k] == 75) := toNat_beq s[k] 75
      have HK := Lib.hid (putK_take s.data.toList t.data.toList k (by omega))
      have hbd : (putK (s.data.toList.take (k + 1)) t.data.toList).length ≤ 1100000000000 := by
        refine Nat.le_trans (putK_len _ _) ?_
        rw [List.length_take, htl]
        exact Nat.le_trans (Nat.mul_le_mul (show min (k + 1) s.data.toList.length ≤ 1048576 by omega) (show t.size + 1 ≤ 1048577 by omega)) (by decide)
      have hx := slice_byte s k (by omega)
      have e1 := str_sum (txtOf pre) (s.extract k (k + 1)) (by rw [hx, txtOf_size, show (⟨#[s.data.toList[k]]⟩ : ByteArray).size = 1 from rfl]; omega)
      have e2 := str_sum (txtOf pre) t (by rw [txtOf_size]; omega)
      cases hb : (s.data.toList[k] == 75) with
      | false =>
        rw [hb] at hq HK
        rw [if_neg (by decide), ← hH.out] at HK
        rw [HK.out] at hbd
        have HE := Lib.hid (show txtOf pre ++ s.extract k (k + 1) = txtOf (pre ++ [s.data.toList[k]]) by rw [hx]; apply ByteArray.ext; apply Array.ext'; simp [txtOf])
        clear hb hx
        generalize s.data.toList[k] = ch at *
        go_wp2_with fail
        exact ⟨⟨k + 1, pre ++ [ch], by omega, by go_num, by rw [← HE.out], hbd, HK.out.symm, trivial⟩, by simp [intOf]; omega⟩
      | true =>
        rw [hb] at hq HK
        rw [if_pos rfl, ← hH.out] at HK
        rw [HK.out] at hbd
        have HE := Lib.hid (show txtOf pre ++ t = txtOf (pre ++ t.data.toList) by apply ByteArray.ext; apply Array.ext'; simp [txtOf])
        clear hb hx
        go_wp2_with fail
        exact ⟨⟨k + 1, pre ++ t.data.toList, by omega, by go_num, by rw [← HE.out], hbd, HK.out.symm, trivial⟩, by simp [intOf]; omega⟩
    · have HE := Lib.hid (show putK s.data.toList t.data.toList = pre by
        have h1 := hH.out
        rw [List.take_of_length_le (by omega)] at h1
        exact h1.symm)
      go_wp2_with fail
      go_ret
      exact ⟨by rw [HE.out]; rfl, rfl⟩
end Go.Proofs.YtkdnbdgpcgookaaGreatDoor
namespace Go.Proofs.YtkdnbdgpcgookaaGreatDoor
open Go.RowKit Gram

set_option maxHeartbeats 2000000 in
set_option maxRecDepth 100000 in
theorem lpl_any (w : World) (s : ByteArray) (a : Option Addr) (n c : Nat) (zs : List As) (hA : Asps w a n zs) (hn : n + asT zs ≤ 1048576) (hok : zs.all ardOk = true) (hs : s.size ≤ 400) :
    Calls Tryz.prog 46 #[.string s, .slice a n c] w fun e w' => (∃ t : ByteArray, e = .returned (.string t) ∧ (∀ o, plU zs s.data.toList = some o → t = txtOf o) ∧ (plU zs s.data.toList = none → t.size = 401)) ∧ Below w.heap.size w w' := by
  have HA := Lib.hid hA
  have HN := Lib.hid hn
  have HS := Lib.hid hs
  have HOK := Lib.hid (show ∀ k (h : k < zs.length), ardOk zs[k] = true from fun k h => by rw [List.all_eq_true] at hok; exact hok _ (List.getElem_mem h))
  have HM := Lib.hid (fun w => many_any ⟨#[80]⟩ 401 401 w rfl (by omega) (by show 1 ≤ 401; omega) (by omega))
  have hlen := hA.len
  have HL := Lib.hid hlen
  have hn1 : n ≤ 1048576 := by omega
  clear hA hn hok hs
  go_enter Tryz.func46, Tryz.ntmps46
  go_wp2_with fail
  go_loopw [5, 6] (fun o i wr => ∃ (k : Nat) (v : Int) (out : List UInt8), k ≤ n ∧ v = (k : Int) - 1 ∧ i = .int .i64 v ∧ o = .string (txtOf out) ∧ out.length ≤ 400 ∧ Hid (plU (zs.drop k) s.data.toList = some out) ∧ Hid (Below w.heap.size w wr)) (fun _ i _ => (intOf i + 1).toNat)
  case atStart => exact ⟨n, _, s.data.toList, Nat.le_refl _, rfl, by go_num, rfl, by have := HS.out; simpa using this, by show _ = _; rw [List.drop_eq_nil_of_le (by rw [HL.out]; omega)]; rfl, Below.refl _ _⟩
  case round =>
    obtain ⟨k, v, out, hk, hv, rfl, rfl, hol, hP, hW⟩ := hrel
    by_cases hk0 : k = 0
    · subst hk0
      have hneg : v < 0 := by omega
      clear hv
      have HR := Lib.hid (show plU zs s.data.toList = some out by have h := hP.out; rw [List.drop_zero] at h; exact h)
      clear hP
      go_wp2_with fail
      go_ret
      exact ⟨⟨_, rfl, fun o ho => by rw [HR.out] at ho; injection ho with ho; rw [ho], fun ho => by rw [HR.out] at ho; cases ho⟩, hW.out⟩
    · obtain ⟨j, rfl⟩ : ∃ j, k = j + 1 := ⟨k - 1, by omega⟩
      have hv0 : 0 ≤ v := by omega
      have hvt : v.toNat = j := by omega
      have hvn : v < (n : Int) := by omega
      have HV := Lib.hid hv
      clear hv
      have hz : j < zs.length := by omega
      obtain ⟨g, off, rfl, c0, c1, c2⟩ := (HA.out.later hW.out).at_ j hz
      obtain ⟨K, C, hval⟩ := ard_val zs[j] (HOK.out j hz)
      have HE := Lib.hid (fun w' => spec_ard zs[j].1 zs[j].2.1 zs[j].2.2 w' (by have h1 := asT_le zs j hz; have h2 := HN.out; unfold asZ at h1; omega) (by have h1 := asT_le zs j hz; have h2 := HN.out; unfold asZ at h1; omega))
      rw [hval] at HE
      unfold aspV at HE
      have hpd := plU_drop zs s.data.toList j hz
      rw [hP.out] at hpd
      have HD := Lib.hid hpd
      have hbl := ardB_le zs[j]
      have HPN := Lib.hid (plU_none zs s.data.toList j)
      clear hval hpd hP
      generalize ardB zs[j] = b at *
      generalize zs[j] = p at *
      obtain ⟨x, y, z⟩ := p
      simp only at HE c0 c1 c2
      have HPut := Lib.hid (fun w => put_any b (txtOf out) (by omega) (by show out.length ≤ _; omega) w)
      have hbd := putK_len b.data.toList out
      have hbb : b.data.toList.length = b.size := by simp
      rw [show (txtOf out).data.toList = out from rfl] at HPut
      simp only at HD
      generalize hq : putK b.data.toList out = q at *
      have HQS := Lib.hid (show (txtOf q).size = q.length from rfl)
      have hqb : q.length ≤ 100000 := by
        refine Nat.le_trans hbd (Nat.le_trans (Nat.mul_le_mul (show b.data.toList.length ≤ 60 by omega) (show out.length + 1 ≤ 401 by omega)) (by omega))
      have HQB := Lib.hid hqb
      have HOL := Lib.hid hol
      have HBL := Lib.hid hbl
      clear hbd hq hqb hbb hol hbl
      go_wp2_with fail
      refine (HE.out _).mono ?_
      rintro e w5 ⟨rfl, hb5⟩
      have HB5 := Lib.hid ((hW.out.trans (hb5.mono hW.out.size)).alloc (hW.out.trans (hb5.mono hW.out.size)).size (Obj.cells #[.string K, .string C, .string b] 24))
      clear hb5
      go_wp2_with fail
      refine (HPut.out _).mono ?_
      rintro e w6 ⟨rfl, rfl⟩
      have hqs := HQS.out
      have hqb := HQB.out
      by_cases hbig : 400 < q.length
      · have hbi : (400 : Int) < (q.length : Int) := by omega
        go_wp2_with fail
        refine (HM.out _).mono ?_
        rintro e w7 ⟨⟨t, rfl, ht⟩, rfl⟩
        have HX := Lib.hid (HPN.out (by rw [HD.out, if_pos hbig]))
        go_wp2_with fail
        go_ret
        refine ⟨⟨t, rfl, ?_, fun _ => ht⟩, HB5.out⟩
        intro o ho
        rw [HX.out] at ho; cases ho
      · have hbi : ¬ (400 : Int) < (q.length : Int) := by omega
        go_wp2_with fail
        exact ⟨⟨j, v - 1, _, by omega, by have := HV.out; omega, by go_num, rfl, by omega, by show _ = _; rw [HD.out, if_neg hbig], HB5.out⟩, by simp [intOf]; omega⟩
end Go.Proofs.YtkdnbdgpcgookaaGreatDoor
namespace Go.Proofs.YtkdnbdgpcgookaaGreatDoor
open Go.RowKit Gram

set_option maxHeartbeats 1000000 in
set_option maxRecDepth 100000 in
theorem spec_statements (s : ByteArray) (w : World) (hs : s.size ≤ 1073741824) :
    Calls Tryz.prog 44 #[.string s] w fun e w' => ∃ v b xs, e = .returned (.tuple #[v, .bool b]) ∧ Hid ((b = false ∧ bodyOf s = none ∧ xs = []) ∨ (b = true ∧ bodyOf s = some xs)) ∧
      w'.ownsRow w.heap.size 9 1 v xs.length (stmVs xs) ∧ Below w.heap.size w w' := by
  have hfail : ∀ (wr : World), Below w.heap.size w wr → (wr.alloc (.cells #[] 9)).ownsRow w.heap.size 9 1 (.slice (some ⟨wr.heap.size, 0, none⟩) 0 0) (List.length ([] : List Stm)) (stmVs []) ∧ Below w.heap.size w (wr.alloc (.cells #[] 9)) := by
    intro wr hb
    have := hb.size
    refine ⟨?_, hb.alloc (by omega) _⟩
    exact ⟨by simp [stmVs], .inr ⟨wr.heap.size, 0, #[], rfl, by omega, heap_alloc_new wr _, Nat.le_refl _, by simp [maxLen], by simp, by simp [stmVs]⟩⟩
  have hF := Lib.hid hfail
  clear hfail
  go_enter Tryz.func44, Tryz.ntmps44
  go_wp2_with fail
  refine (split_any s w hs).mono ?_
  rintro e w1 ⟨v, b, xs, rfl, hr, hown, hb⟩
  cases b with
  | false =>
    have hN := Lib.hid (show bodyOf s = none by
      rcases hr.out with ⟨_, h, _⟩ | ⟨h, _⟩
      · unfold bodyOf; split
        · rw [reads_eq, ← from_zero, h]; simp
        · rfl
      · cases h)
    clear hr
    go_wp2_with fail
    go_ret2
    exact ⟨_, _, [], rfl, .inl ⟨rfl, hN.out, rfl⟩, hF.out _ hb⟩
  | true =>
    have hA := Lib.hid (show pA (from_ s 0) = some xs by
      rcases hr.out with ⟨h, _⟩ | ⟨_, h⟩
      · cases h
      · exact h)
    clear hr
    go_wp2_with fail
    refine (has_any s 75 (by omega) _).mono ?_
    rintro e w' ⟨rfl, rfl⟩
    cases hc : s.data.toList.contains 75 with
    | true =>
      have hN := Lib.hid (show bodyOf s = none by
        unfold bodyOf; split
        · rw [reads_eq, hc]; rfl
        · rfl)
      clear hc
      go_wp2_with fail
      go_ret2
      exact ⟨_, _, [], rfl, .inl ⟨rfl, hN.out, rfl⟩, hF.out _ hb⟩
    | false =>
      by_cases h400 : s.size ≤ 400
      · have hN := Lib.hid (show bodyOf s = some xs by
          unfold bodyOf; rw [if_pos h400, reads_eq, hc, ← from_zero, hA.out]; rfl)
        clear hc
        go_wp2_with fail
        go_ret2
        exact ⟨_, _, xs, rfl, .inr ⟨rfl, hN.out⟩, hown, hb⟩
      · have hN := Lib.hid (show bodyOf s = none by unfold bodyOf; rw [if_neg h400])
        clear hc
        go_wp2_with fail
        go_ret2
        exact ⟨_, _, [], rfl, .inl ⟨rfl, hN.out, rfl⟩, hF.out _ hb⟩
end Go.Proofs.YtkdnbdgpcgookaaGreatDoor
