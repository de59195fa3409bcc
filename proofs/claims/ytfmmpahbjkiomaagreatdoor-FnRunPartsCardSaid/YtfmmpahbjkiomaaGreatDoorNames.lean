/- The model's l1Names: the names that a body calls, each as often as it is. Condition: the text is that of statements, of at most 2^30 bytes. -/
import Derived.Test.YtfmmpahbjkiomaaGreatDoorOpen1
namespace Go.Proofs.YtfmmpahbjkiomaaGreatDoor
open Go.RowKit Gram

theorem data_append2 (a b : ByteArray) : (a ++ b).data.toList = a.data.toList ++ b.data.toList := by simp

/-- what stands behind each 'C' -/
def scan : List UInt8 → List UInt8
  | [] => []
  | c :: t => (if c = 67 then [t.headD 0] else []) ++ scan t
/-- behind each 'C' something stands -/
def safe : List UInt8 → Prop
  | [] => True
  | c :: t => (c = 67 → t ≠ []) ∧ safe t

theorem scan_skip (c : UInt8) (t : List UInt8) (h : c ≠ 67) : scan (c :: t) = scan t := by rw [scan, if_neg h]; rfl
theorem safe_skip (c : UInt8) (t : List UInt8) (h : c ≠ 67) : safe (c :: t) ↔ safe t := by
  rw [safe]; exact ⟨fun x => x.2, fun x => ⟨fun e => absurd e h, x⟩⟩
theorem sgn_no (g : UInt8) (h : isSgn g = true) : g ≠ 67 := by rintro rfl; revert h; decide
theorem dig_no (g : UInt8) (h : isDig g = true) : g ≠ 67 := by rintro rfl; revert h; decide
theorem let_no (g : UInt8) (h : isLet g = true) : g ≠ 67 := by rintro rfl; revert h; decide

mutual
theorem scan_stm (x : Stm) (r : List UInt8) (h : x.wf = true) : scan (x.txt ++ r) = x.calls ++ scan r ∧ (safe (x.txt ++ r) ↔ safe r) := by
  match x with
  | .chg g d =>
    simp only [Stm.wf, Bool.and_eq_true] at h
    have h1 := sgn_no g h.1
    have h2 := dig_no d h.2
    simp only [Stm.txt, Stm.calls, List.cons_append, List.nil_append]
    exact ⟨by rw [scan_skip _ _ h1, scan_skip _ _ h2], by rw [safe_skip _ _ h1, safe_skip _ _ h2]⟩
  | .prt =>
    simp only [Stm.txt, Stm.calls, List.cons_append, List.nil_append]
    exact ⟨scan_skip _ _ (by decide), safe_skip _ _ (by decide)⟩
  | .pro =>
    simp only [Stm.txt, Stm.calls, List.cons_append, List.nil_append]
    exact ⟨scan_skip _ _ (by decide), safe_skip _ _ (by decide)⟩
  | .call c =>
    simp only [Stm.wf] at h
    have h1 := let_no c h
    simp only [Stm.txt, Stm.calls, List.cons_append, List.nil_append]
    refine ⟨?_, ?_⟩
    · rw [scan, if_pos rfl, scan_skip _ _ h1]; rfl
    · rw [safe, safe_skip _ _ h1]; simp
  | .cho a b =>
    simp only [Stm.wf, Bool.and_eq_true] at h
    obtain ⟨a1, a2⟩ := scan_stms a (93 :: 91 :: (txts b ++ 93 :: r)) h.1
    obtain ⟨b1, b2⟩ := scan_stms b (93 :: r) h.2
    have e : (Stm.cho a b).txt ++ r = 63 :: 91 :: (txts a ++ (93 :: 91 :: (txts b ++ 93 :: r))) := by simp [Stm.txt]
    rw [e]
    refine ⟨?_, ?_⟩
    · rw [scan_skip _ _ (by decide), scan_skip _ _ (by decide), a1, scan_skip _ _ (by decide), scan_skip _ _ (by decide), b1, scan_skip _ _ (by decide)]
      simp [Stm.calls]
    · rw [safe_skip _ _ (by decide), safe_skip _ _ (by decide), a2, safe_skip _ _ (by decide), safe_skip _ _ (by decide), b2, safe_skip _ _ (by decide)]
theorem scan_stms (xs : List Stm) (r : List UInt8) (h : wfs xs = true) : scan (txts xs ++ r) = callsIn xs ++ scan r ∧ (safe (txts xs ++ r) ↔ safe r) := by
  match xs with
  | [] => simp [txts, callsIn]
  | x :: xs =>
    simp only [wfs, Bool.and_eq_true] at h
    obtain ⟨a1, a2⟩ := scan_stm x (txts xs ++ r) h.1
    obtain ⟨b1, b2⟩ := scan_stms xs r h.2
    have e : txts (x :: xs) ++ r = x.txt ++ (txts xs ++ r) := by simp [txts]
    rw [e]
    exact ⟨by rw [a1, b1]; simp [callsIn], by rw [a2, b2]⟩
end

theorem scan_drop (s : ByteArray) (i : Nat) (h : i < s.size) : scan (s.data.toList.drop i) = (if sgn s i = 67 then [(s.data.toList.drop (i + 1)).headD 0] else []) ++ scan (s.data.toList.drop (i + 1)) := by
  rw [drop_sgn s i h, scan]
theorem safe_drop (s : ByteArray) (i : Nat) (h : i < s.size) (hs : safe (s.data.toList.drop i)) : (sgn s i = 67 → i + 1 < s.size) ∧ safe (s.data.toList.drop (i + 1)) := by
  rw [drop_sgn s i h, safe] at hs
  refine ⟨fun e => ?_, hs.2⟩
  have := hs.1 e
  rw [Ne, List.drop_eq_nil_iff] at this
  simp at this
  omega
theorem one_cut (s : ByteArray) (i : Nat) (h : i + 1 < s.size) (o : List UInt8) : txtOf o ++ s.extract (i + 1) (i + 2) = txtOf (o ++ [(s.data.toList.drop (i + 1)).headD 0]) := by
  apply ByteArray.ext
  apply Array.toList_inj.1
  have : (s.extract (i + 1) (i + 2)).data.toList = [(s.data.toList.drop (i + 1)).headD 0] := by
    rw [drop_sgn s (i + 1) h]
    have e := seg_V s (i + 1) (i + 2)
    rw [txtV] at e
    injection e with e
    rw [e, seg, drop_sgn s (i + 1) h, show i + 2 - (i + 1) = 1 by omega]
    simp
  rw [data_append2, this]; rfl

set_option maxHeartbeats 1000000 in
set_option maxRecDepth 100000 in
theorem names_scan (s : ByteArray) (w : World) (hs : s.size ≤ 1073741824) (hsafe : safe s.data.toList) :
    Calls Tryz.prog 63 #[.string s] w fun e w' => e = .returned (.string (txtOf (scan s.data.toList))) ∧ w = w' := by
  have HS := Lib.hid hsafe
  clear hsafe
  go_enter Tryz.func63, Tryz.ntmps63
  go_wp2_with fail
  go_loop [3, 4, 7] (fun o _ i => ∃ (k : Nat) (os : List UInt8), i = .int .i64 k ∧ k ≤ s.size ∧ o = .string (txtOf os) ∧ os.length ≤ k ∧ Hid (os ++ scan (s.data.toList.drop k) = scan s.data.toList) ∧ Hid (safe (s.data.toList.drop k))) (fun _ _ i => s.size - (intOf i).toNat)
  case atStart => exact ⟨0, [], by go_num, Nat.zero_le _, rfl, Nat.le_refl _, by show _ = _; simp, HS.out⟩
  case round =>
    obtain ⟨k, os, rfl, hk, rfl, hol, hE, hF⟩ := hrel
    by_cases hlt : k < s.size
    · obtain ⟨f1, f2⟩ := safe_drop s k hlt hF.out
      have hsd := scan_drop s k hlt
      have hoz : (txtOf os).size = os.length := rfl
      by_cases hc : sgn s k = 67
      · have hb : ((s[k].toNat : Int) == 67) = true := by rw [show (67 : Int) = ((67 : UInt8).toNat : Int) from rfl, sgn_is s k hlt 67, hc]; rfl
        have hk1 := f1 hc
        rw [if_pos hc] at hsd
        have HC := Lib.hid (one_cut s k hk1 os)
        have HE2 := Lib.hid (by rw [← hE.out, hsd]; simp : os ++ [(s.data.toList.drop (k + 1)).headD 0] ++ scan (s.data.toList.drop (k + 1)) = scan s.data.toList)
        have HF2 := Lib.hid f2
        have e1 := str_sum (txtOf os) (s.extract (k + 1) (k + 2)) (by rw [hoz]; simp; omega)
        clear hsd f1 f2 hE hF hc hoz
        generalize hto : txtOf os = tt at *
        have HTo := Lib.hid hto
        clear hto
        go_wp2_with fail
        go_round
        case rel => exact ⟨k + 1, os ++ [(s.data.toList.drop (k + 1)).headD 0], by go_num, by omega, by rw [← HC.out], by simp; omega, HE2.out, HF2.out⟩
        case measure => simp [intOf]; omega
      · have hb : ((s[k].toNat : Int) == 67) = false := by rw [show (67 : Int) = ((67 : UInt8).toNat : Int) from rfl, sgn_is s k hlt 67, beq_eq_false_iff_ne]; exact hc
        rw [if_neg hc] at hsd
        have HE2 := Lib.hid (by rw [← hE.out, hsd]; rfl : os ++ scan (s.data.toList.drop (k + 1)) = scan s.data.toList)
        have HF2 := Lib.hid f2
        clear hsd f1 f2 hE hF hc hoz
        go_wp2_with fail
        go_round
        case rel => exact ⟨k + 1, os, by go_num, by omega, rfl, by omega, HE2.out, HF2.out⟩
        case measure => simp [intOf]; omega
    · have hE2 := Lib.hid (by rw [← hE.out, List.drop_of_length_le (by simp; omega)]; simp [scan] : scan s.data.toList = os)
      clear hE hF
      go_wp2_with fail
      go_ret
      exact ⟨by rw [hE2.out]; rfl, rfl⟩

/-- l1Names at a body's text -/
theorem names_any (b : List Stm) (s : ByteArray) (w : World) (hs : s.size ≤ 1073741824) (hb : s.data.toList = txts b) (hw : wfs b = true) :
    Calls Tryz.prog 63 #[.string s] w fun e w' => e = .returned (.string (txtOf (callsIn b))) ∧ w = w' := by
  obtain ⟨h1, h2⟩ := scan_stms b [] hw
  simp only [List.append_nil] at h1 h2
  have h3 := names_scan s w hs (by rw [hb]; exact h2.2 trivial)
  rw [hb, h1] at h3
  simpa [scan] using h3

set_option maxHeartbeats 1000000 in
theorem has_letter (s : ByteArray) (c : UInt8) (hs : s.size ≤ 1099511627776) (w : World) :
    Calls Tryz.prog 64 #[.string s, .int .u8 c.toNat] w fun e w' => e = .returned (.bool (s.data.toList.contains c)) ∧ w = w' := has_any s c hs w
end Go.Proofs.YtfmmpahbjkiomaaGreatDoor
