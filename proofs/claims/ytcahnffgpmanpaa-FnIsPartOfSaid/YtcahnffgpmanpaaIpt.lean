/- IsPartOf, the program's and the model's: whether a list of numbers is part of another one, for all lists. Condition: at most 2^40 numbers. -/
import Derived.Test.YtcahnffgpmanpaaInts
namespace Go.Proofs.Ytcahnffgpmanpaa
open Go.RowKit

theorem sub_nil (zs : List Int) : zs.isSublist ([] : List Int) = zs.isEmpty := by cases zs <;> rfl
theorem sub_step (zs ws : List Int) (k : Nat) (hk : k < ws.length) (hz : 0 < zs.length) (h : zs[0] = ws[k]) : zs.isSublist (ws.drop k) = zs.tail.isSublist (ws.drop (k + 1)) := by
  obtain ⟨x, l, rfl⟩ : ∃ x l, zs = x :: l := by
    cases zs with
    | nil => simp at hz
    | cons x l => exact ⟨x, l, rfl⟩
  rw [List.drop_eq_getElem_cons hk]
  simp only [List.getElem_cons_zero] at h
  simp [List.isSublist, h]
theorem sub_skip (zs ws : List Int) (k : Nat) (hk : k < ws.length) (h : ∀ hz : 0 < zs.length, zs[0] ≠ ws[k]) : zs.isSublist (ws.drop k) = zs.isSublist (ws.drop (k + 1)) := by
  rw [List.drop_eq_getElem_cons hk]
  cases zs with
  | nil => simp [List.isSublist]
  | cons x l =>
    have := h (by simp)
    simp only [List.getElem_cons_zero] at this
    simp [List.isSublist, this]

/-- a slice of numbers without its first one -/
theorem Ints.tail {w : World} {g off n : Nat} {zs : List Int} (h : Ints w (some ⟨g, off, none⟩) n zs) : Ints w (some ⟨g, off + 1, none⟩) (n - 1) zs.tail :=
  ⟨by simp [h.len], fun i hi => by
    have hi' : i + 1 < zs.length := by simp at hi; omega
    obtain ⟨g', off', ha, hc⟩ := h.at_ (i + 1) hi'
    injection ha with ha; injection ha with e1 e2; subst e1; subst e2
    exact ⟨_, _, rfl, by rw [List.getElem_tail, ← hc, Nat.add_assoc, Nat.add_comm 1 i]⟩⟩

set_option maxHeartbeats 1000000 in
set_option maxRecDepth 100000 in
theorem part_impl (w : World) (a b : Option Addr) (n c m d : Nat) (zs ws : List Int) (hA : Ints w a n zs) (hB : Ints w b m ws) (hc : n ≤ c) (hm : m ≤ 1099511627776) :
    Calls Try.prog 6 #[.slice a n c, .slice b m d] w fun e w' => e = .returned (.bool (zs.isSublist ws)) ∧ w = w' := by
  have HA := Lib.hid hA
  have HB := Lib.hid hB
  clear hA hB
  go_enter Try.func6, Try.ntmps6
  go_wp2_with fail
  go_loopw [0, 6, 9] (fun s _ i wr => ∃ (k l x : Nat) (y : Option Addr) (us : List Int), k ≤ m ∧ l ≤ x ∧ x ≤ c ∧ i = .int .i64 k ∧ s = .slice y l x ∧ Hid (Ints w y l us) ∧ Hid (us.isSublist (ws.drop k) = zs.isSublist ws) ∧ wr = w) (fun _ _ i _ => m - (intOf i).toNat)
  case atStart => exact ⟨0, n, c, a, zs, Nat.zero_le _, hc, Nat.le_refl _, by go_num, rfl, HA.out, by show _ = _; rw [List.drop_zero], rfl⟩
  case round =>
    obtain ⟨k, l, x, y, us, hk, hlx, hxc, rfl, rfl, hI, hS, rfl⟩ := hrel
    by_cases hlt : k < m
    · have hw : k < ws.length := by rw [HB.out.len]; exact hlt
      obtain ⟨g, off, rfl, q1⟩ := HB.out.at_ k hw
      by_cases hl : 0 < l
      · have hz : 0 < us.length := by rw [hI.out.len]; exact hl
        obtain ⟨g', off', rfl, q2⟩ := hI.out.at_ 0 hz
        rw [Nat.add_zero] at q2
        have HT := Lib.hid (show Ints wr (if x = 1 then some ⟨g', off', none⟩ else some ⟨g', off' + 1, none⟩) (l - 1) us.tail by
          by_cases hx : x = 1
          · rw [if_pos hx]
            have hlen := hI.out.len
            exact ⟨by simp; omega, fun i hi => by simp at hi; omega⟩
          · rw [if_neg hx]; exact hI.out.tail)
        have HE := Lib.hid (fun (h : us[0] = ws[k]) => sub_step us ws k hw hz h)
        have HN := Lib.hid (fun (h : us[0] ≠ ws[k]) => sub_skip us ws k hw (fun _ => h))
        generalize us[0] = p at *
        generalize ws[k] = q at *
        cases hpq : (p == q) with
        | true =>
          have HX := Lib.hid (by simpa using hpq : p = q)
          go_wp2_with fail
          go_roundw
          case rel => exact ⟨k + 1, l - 1, x - 1, _, us.tail, by omega, by omega, by omega, by go_num, rfl, HT.out, (HE.out HX.out).symm.trans hS.out, (by first | rfl | trivial)⟩
          case measure => simp [intOf]; omega
        | false =>
          have HX := Lib.hid (by simpa using hpq : p ≠ q)
          go_wp2_with fail
          go_roundw
          case rel => exact ⟨k + 1, l, x, _, us, by omega, by omega, by omega, by go_num, rfl, hI.out, (HN.out HX.out).symm.trans hS.out, (by first | rfl | trivial)⟩
          case measure => simp [intOf]; omega
      · have hus : us = [] := List.eq_nil_of_length_eq_zero (by rw [hI.out.len]; omega)
        have HN := Lib.hid (sub_skip us ws k hw (fun hz => by subst hus; simp at hz))
        generalize ws[k] = q at *
        go_wp2_with fail
        go_roundw
        case rel => exact ⟨k + 1, l, x, y, us, by omega, by omega, by omega, by go_num, rfl, hI.out, HN.out.symm.trans hS.out, (by first | rfl | trivial)⟩
        case measure => simp [intOf]; omega
    · have HR := Lib.hid (show zs.isSublist ws = ((l : Int) == 0) by
        rw [← hS.out, List.drop_of_length_le (by rw [HB.out.len]; omega), sub_nil, ← hI.out.len]
        cases us <;> simp <;> omega)
      go_wp2_with fail
      go_ret
      exact ⟨ret_bool HR.out.symm, rfl⟩

set_option maxHeartbeats 1000000 in
set_option maxRecDepth 100000 in
theorem part_spec (w : World) (a b : Option Addr) (n c m d : Nat) (zs ws : List Int) (hA : Ints w a n zs) (hB : Ints w b m ws) (hn : n ≤ 1099511627776) (hm : m ≤ 1099511627776) :
    Calls Try.prog 7 #[.slice a n c, .slice b m d] w fun e w' => e = .returned (.bool (zs.isSublist ws)) ∧ w = w' := by
  have HA := Lib.hid hA
  have HB := Lib.hid hB
  clear hA hB
  go_enter Try.func7, Try.ntmps7
  go_wp2_with fail
  go_loopw [5, 7, 10] (fun s _ i wr => ∃ (k p : Nat), k ≤ m ∧ p ≤ n ∧ i = .int .i64 k ∧ s = .int .i64 p ∧ Hid ((zs.drop p).isSublist (ws.drop k) = zs.isSublist ws) ∧ wr = w) (fun _ _ i _ => m - (intOf i).toNat)
  case atStart => exact ⟨0, 0, Nat.zero_le _, Nat.zero_le _, by go_num, by go_num, by show _ = _; rw [List.drop_zero, List.drop_zero], rfl⟩
  case round =>
    obtain ⟨k, p, hk, hp, rfl, rfl, hS, rfl⟩ := hrel
    by_cases hlt : k < m
    · have hw : k < ws.length := by rw [HB.out.len]; exact hlt
      obtain ⟨g, off, rfl, q1⟩ := HB.out.at_ k hw
      by_cases hl : p < n
      · have hz : p < zs.length := by rw [HA.out.len]; exact hl
        obtain ⟨g', off', rfl, q2⟩ := HA.out.at_ p hz
        have hz0 : 0 < (zs.drop p).length := by simp; omega
        have h0 : (zs.drop p)[0] = zs[p] := by simp
        have HE := Lib.hid (fun (h : zs[p] = ws[k]) => show (zs.drop p).isSublist (ws.drop k) = (zs.drop (p + 1)).isSublist (ws.drop (k + 1)) by
          rw [sub_step (zs.drop p) ws k hw hz0 (h0.trans h), List.tail_drop])
        have HN := Lib.hid (fun (h : zs[p] ≠ ws[k]) => sub_skip (zs.drop p) ws k hw (fun _ => by rw [h0]; exact h))
        clear hz0 h0
        generalize zs[p] = x at *
        generalize ws[k] = q at *
        cases hpq : (x == q) with
        | true =>
          have HX := Lib.hid (by simpa using hpq : x = q)
          go_wp2_with fail
          go_roundw
          case rel => exact ⟨k + 1, p + 1, by omega, by omega, by go_num, by go_num, (HE.out HX.out).symm.trans hS.out, (by first | rfl | trivial)⟩
          case measure => simp [intOf]; omega
        | false =>
          have HX := Lib.hid (by simpa using hpq : x ≠ q)
          go_wp2_with fail
          go_roundw
          case rel => exact ⟨k + 1, p, by omega, by omega, by go_num, rfl, (HN.out HX.out).symm.trans hS.out, (by first | rfl | trivial)⟩
          case measure => simp [intOf]; omega
      · have hus : zs.drop p = [] := List.drop_of_length_le (by rw [HA.out.len]; omega)
        have HN := Lib.hid (sub_skip (zs.drop p) ws k hw (fun hz => by rw [hus] at hz; simp at hz))
        clear hus
        generalize ws[k] = q at *
        go_wp2_with fail
        go_roundw
        case rel => exact ⟨k + 1, p, by omega, by omega, by go_num, rfl, HN.out.symm.trans hS.out, (by first | rfl | trivial)⟩
        case measure => simp [intOf]; omega
    · have HR := Lib.hid (show zs.isSublist ws = ((p : Int) == (n : Int)) by
        rw [← hS.out, List.drop_of_length_le (l := ws) (by rw [HB.out.len]; omega), sub_nil]
        have := HA.out.len
        by_cases he : p = n
        · subst he
          rw [List.drop_of_length_le (by omega)]; simp
        · have h1 : 0 < (zs.drop p).length := by simp; omega
          have h2 : ((p : Int) == (n : Int)) = false := by rw [beq_eq_false_iff_ne]; omega
          rw [h2]
          cases h : zs.drop p with
          | nil => rw [h] at h1; simp at h1
          | cons => rfl)
      go_wp2_with fail
      go_ret
      exact ⟨ret_bool HR.out.symm, rfl⟩
end Go.Proofs.Ytcahnffgpmanpaa
