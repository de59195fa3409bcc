/- l8Watched and WatchedBy of the model, as the plain watR says. Conditions as in Asps. -/
import Derived.Test.YtpahbkjogljndaaGreatDoorWimp
namespace Go.Proofs.YtpahbkjogljndaaGreatDoor
open Go.RowKit Gram

theorem watT_step (l : List UInt8) (k : Nat) (h : k < l.length) (hn : (l[k] == 70) = false) : watT (l.drop k) = watT (l.drop (k + 1)) := by
  rw [List.drop_eq_getElem_cons h, watT, hn]; rfl
theorem watT_take (l : List UInt8) (k : Nat) (h : k + 1 < l.length) (hn : (l[k] == 70) = true) : watT (l.drop k) = [l[k + 1]] ++ watT (l.drop (k + 1)) := by
  rw [List.drop_eq_getElem_cons (i := k) (by omega), watT, hn, List.drop_eq_getElem_cons h]; rfl
theorem okF_step (l : List UInt8) (k : Nat) (h : k < l.length) (ho : okF (l.drop k) = true) : okF (l.drop (k + 1)) = true ∧ ((l[k] == 70) = true → k + 1 < l.length) := by
  rw [List.drop_eq_getElem_cons h, okF, Bool.and_eq_true] at ho
  refine ⟨ho.2, fun h70 => ?_⟩
  have h1 := ho.1
  rw [bne, h70] at h1
  apply Nat.lt_of_not_le
  intro hle
  rw [List.drop_eq_nil_of_le hle] at h1
  cases h1

theorem slice_one (s : ByteArray) (k : Nat) (h : k + 1 < s.data.toList.length) : s.extract (k + 1) (k + 2) = ⟨#[s.data.toList[k + 1]]⟩ := by
  apply ByteArray.ext
  apply Array.ext'
  rw [ByteArray.data_extract, Array.toList_extract, List.extract_eq_take_drop, show k + 2 - (k + 1) = 1 by omega, List.drop_eq_getElem_cons h]
  rfl

set_option maxHeartbeats 1000000 in
set_option maxRecDepth 100000 in
theorem l8_watched (s : ByteArray) (hs : s.size ≤ 1048576) (ho : okF s.data.toList = true) (w : World) :
    Calls Tryz.prog 30 #[.string s] w fun e w' => e = .returned (.string (txtOf (watT s.data.toList))) ∧ w = w' := by
  have hsl : s.data.toList.length = s.size := by simp
  go_enter Tryz.func30, Tryz.ntmps30
  go_wp2_with fail
  go_loopw [3, 7] (fun o i wr => ∃ (k : Nat) (pre : List UInt8), k ≤ s.size ∧ i = .int .i64 k ∧ o = .string (txtOf pre) ∧ pre.length ≤ k ∧ Hid (pre ++ watT (s.data.toList.drop k) = watT s.data.toList ∧ okF (s.data.toList.drop k) = true) ∧ w = wr) (fun _ i _ => s.size - (intOf i).toNat)
  case atStart => exact ⟨0, [], Nat.zero_le _, by go_num, rfl, by simp, ⟨rfl, ho⟩, rfl⟩
  case round =>
    obtain ⟨k, pre, hk, rfl, rfl, hp, hH, rfl⟩ := hrel
    by_cases hlt : k < s.size
    · obtain ⟨hI, hO⟩ := okF_step s.data.toList k (by omega) hH.out.2
      have hq : ((s[k].toNat : Int) == 70) = (s.data.toList[k] == 70) := toNat_beq s[k] 70
      cases hb : (s.data.toList[k] == 70) with
      | false =>
        rw [hb] at hq
        have HN := Lib.hid (show pre ++ watT (s.data.toList.drop (k + 1)) = watT s.data.toList by rw [← watT_step _ k (by omega) hb]; exact hH.out.1)
        have HI := Lib.hid hI
        clear hb hI hO hH
        go_wp2_with fail
        exact ⟨⟨k + 1, pre, by omega, by go_num, rfl, by omega, ⟨HN.out, HI.out⟩, trivial⟩, by simp [intOf]; omega⟩
      | true =>
        rw [hb] at hq
        have hk2 := hO hb
        have HN := Lib.hid (show pre ++ [s.data.toList[k + 1]] ++ watT (s.data.toList.drop (k + 1)) = watT s.data.toList by rw [List.append_assoc, ← watT_take _ k hk2 hb]; exact hH.out.1)
        have HI := Lib.hid hI
        have hx := slice_one s k hk2
        have e1 := str_sum (txtOf pre) (s.extract (k + 1) (k + 2)) (by rw [hx, txtOf_size, show (⟨#[s.data.toList[k + 1]]⟩ : ByteArray).size = 1 from rfl]; omega)
        have HE := Lib.hid (show txtOf pre ++ s.extract (k + 1) (k + 2) = txtOf (pre ++ [s.data.toList[k + 1]]) by rw [hx]; apply ByteArray.ext; apply Array.ext'; simp [txtOf])
        clear hx
        generalize s.data.toList[k + 1] = ch at *
        have hk3 : k + 1 < s.size := by omega
        clear hb hI hO hH hk2
        go_wp2_with fail
        exact ⟨⟨k + 1, pre ++ [ch], by omega, by go_num, by rw [← HE.out], by simp; omega, ⟨HN.out, HI.out⟩, trivial⟩, by simp [intOf]; omega⟩
    · have HE := Lib.hid (show watT s.data.toList = pre by
        have h1 := hH.out.1
        rw [List.drop_eq_nil_of_le (by omega)] at h1
        rw [← h1]; simp [watT])
      go_wp2_with fail
      go_ret
      exact ⟨by rw [HE.out]; rfl, rfl⟩

theorem watched_one {p : As} (h : asOk p = true) (hs : p.2.1.size ≤ 1048576) (w : World) :
    Calls Tryz.prog 30 #[.string p.2.1] w fun e w' => e = .returned (.string (txtOf (watA p))) ∧ w = w' := by
  obtain ⟨x, hx⟩ := asOk_cut h
  obtain ⟨z1, z2, z3, _⟩ := cutOf_some hx
  have h1 := watT_ct x [] z3
  have h2 := okF_ct x [] z3
  rw [List.append_nil, ← z2] at h1 h2
  have h3 := l8_watched p.2.1 hs (by rw [h2]; rfl) w
  rw [h1] at h3
  rw [watA_some hx]
  simpa [watT] using h3

set_option maxHeartbeats 1000000 in
set_option maxRecDepth 100000 in
theorem spec_wat (w : World) (a : Option Addr) (n c : Nat) (zs : List As) (hA : Asps w a n zs) (hn : n + asT zs ≤ 1048576) :
    Calls Tryz.prog 18 #[.slice a n c] w fun e w' => e = .returned (.string (watR zs)) ∧ Below w.heap.size w w' := by
  have HV := Lib.hid (specs_any w a n c zs hA hn)
  cases hp : aspsP zs with
  | false =>
    have HT := Lib.hid (show watR zs = ⟨#[]⟩ by unfold watR; rw [hp]; rfl)
    rw [hp] at HV
    clear hp
    go_enter Tryz.func18, Tryz.ntmps18
    go_wp2_with fail
    refine HV.out.mono ?_
    rintro e w1 ⟨rfl, hb⟩
    have HB := Lib.hid hb
    clear hb
    go_wp2_with fail
    go_ret
    exact ⟨by rw [HT.out]; rfl, HB.out⟩
  | true =>
    have hok : zs.all asOk = true := by unfold aspsP at hp; rw [Bool.and_eq_true] at hp; exact hp.1
    have HT := Lib.hid (show watR zs = txtOf (setText (watL zs)) by unfold watR; rw [hp]; rfl)
    have HA := Lib.hid hA
    have HN := Lib.hid hn
    have HK := Lib.hid (List.all_eq_true.1 hok)
    have hn1 : n ≤ 1048576 := by omega
    rw [hp] at HV
    clear hp hA hn hok
    go_enter Tryz.func18, Tryz.ntmps18
    go_wp2_with fail
    refine HV.out.mono ?_
    rintro e w1 ⟨rfl, hb⟩
    have HB := Lib.hid hb
    clear hb
    go_wp2_with fail
    go_loopw [3, 11] (fun o i wr => ∃ (k : Nat) (pre : List UInt8), k ≤ n ∧ i = .int .i64 k ∧ o = .string (txtOf pre) ∧ pre.length ≤ 40 * k ∧ Hid (pre = watL (zs.take k)) ∧ Hid (Below w.heap.size w wr)) (fun _ i _ => n - (intOf i).toNat)
    case atStart => exact ⟨0, [], Nat.zero_le _, by go_num, rfl, by simp, by show _ = _; simp [watL], HB.out⟩
    case round =>
      obtain ⟨k, pre, hk, rfl, rfl, hp, hP, hW⟩ := hrel
      by_cases hlt : k < n
      · have hz : k < zs.length := by rw [HA.out.len]; exact hlt
        obtain ⟨g, off, rfl, c0, c1, c2⟩ := (HA.out.later hW.out).at_ k hz
        have HO := Lib.hid (watched_one (HK.out _ (List.getElem_mem hz)) (by have h1 := asT_le zs k hz; have h2 := HN.out; unfold asZ at h1; omega))
        have HL := Lib.hid (watL_take zs k hz)
        have hl := watA_len zs[k]
        generalize watA zs[k] = q at *
        generalize zs[k] = p at *
        obtain ⟨p1, p2, p3⟩ := p
        simp only at HO c0 c1 c2
        have e1 := str_sum (txtOf pre) (txtOf q) (by rw [txtOf_size, txtOf_size]; omega)
        have HE := Lib.hid (show txtOf pre ++ txtOf q = txtOf (pre ++ q) by apply ByteArray.ext; apply Array.ext'; simp [txtOf])
        have HB0 := Lib.hid (hW.out.alloc hW.out.size (Obj.cells #[.string p1, .string p2, .string p3] 34))
        go_wp2_with fail
        refine (HO.out _).mono ?_
        rintro e w5 ⟨rfl, rfl⟩
        go_wp2_with fail
        exact ⟨⟨k + 1, pre ++ q, by omega, by go_num, by rw [← HE.out], by simp; omega, by show _ = _; rw [HL.out, ← hP.out], HB0.out⟩, by simp [intOf]; omega⟩
      · have HE := Lib.hid (show pre = watL zs by
          have h2 : zs.take k = zs := List.take_of_length_le (by rw [HA.out.len]; omega)
          have h1 := hP.out
          rw [h2] at h1; exact h1)
        have HS := Lib.hid (fun w' => l1set_any (txtOf pre) w' (by rw [txtOf_size]; omega))
        have HX := Lib.hid (show txtOf (setText (txtOf pre).data.toList) = watR zs by rw [HT.out, HE.out]; congr 2)
        rw [HX.out] at HS
        generalize ht : watR zs = t at *
        have HT2 := Lib.hid ht
        clear ht
        go_wp2_with fail
        refine (HS.out _).mono ?_
        rintro e w5 ⟨rfl, hb5⟩
        have HB5 := Lib.hid (hW.out.trans (hb5.mono hW.out.size))
        clear hb5
        go_wp2_with fail
        go_ret
        exact ⟨by rw [HT2.out]; rfl, HB5.out⟩
end Go.Proofs.YtpahbkjogljndaaGreatDoor
