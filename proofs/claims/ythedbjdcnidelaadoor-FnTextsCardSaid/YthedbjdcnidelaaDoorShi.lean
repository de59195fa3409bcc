/- Lists of numbers of the same text are the same; the laws' wvNumbers over any two lists. Condition: lists of at most 2^20 numbers. -/
import Derived.Test.YthedbjdcnidelaaDoorFnm
namespace Go.Proofs.YthedbjdcnidelaaDoor
open Go.RowKit Gram

theorem digit_in (u : Nat) : ∀ d ∈ Lib.decDigits u, 48 ≤ d.toNat ∧ d.toNat ≤ 57 := by
  induction u using Nat.strongRecOn with
  | ind u ih =>
    by_cases h : u ≤ 9
    · intro d hd
      rw [dec_small u h, List.mem_singleton] at hd
      subst hd
      simp; omega
    · intro d hd
      rw [dec_big u (by omega), List.mem_append, List.mem_singleton] at hd
      rcases hd with hd | hd
      · exact ih _ (by omega) d hd
      · subst hd; simp; omega
theorem digits_inj (u : Nat) : ∀ v, Lib.decDigits u = Lib.decDigits v → u = v := by
  induction u using Nat.strongRecOn with
  | ind u ih =>
    intro v h
    by_cases hu : u ≤ 9
    · by_cases hv : v ≤ 9
      · rw [dec_small u hu, dec_small v hv] at h
        have h2 := congrArg UInt8.toNat (List.cons.inj h).1
        simp at h2; omega
      · rw [dec_small u hu, dec_big v (by omega)] at h
        have h2 := congrArg List.length h
        have h3 := digits_some (v / 10)
        simp only [List.length_append, List.length_cons, List.length_nil] at h2
        omega
    · by_cases hv : v ≤ 9
      · rw [dec_small v hv, dec_big u (by omega)] at h
        have h2 := congrArg List.length h
        have h3 := digits_some (u / 10)
        simp only [List.length_append, List.length_cons, List.length_nil] at h2
        omega
      · rw [dec_big u (by omega), dec_big v (by omega)] at h
        obtain ⟨h1, h2⟩ := List.append_inj' h rfl
        have h3 := ih (u / 10) (by omega) (v / 10) h1
        have h4 := congrArg UInt8.toNat (List.cons.inj h2).1
        simp at h4
        omega
theorem itoa_in (n : Int) : ∀ d ∈ Lib.itoa n, d = 45 ∨ (48 ≤ d.toNat ∧ d.toNat ≤ 57) := by
  intro d hd
  by_cases h : n < 0
  · obtain ⟨u, hu⟩ : ∃ u : Nat, n = -(u : Int) := ⟨n.natAbs, by omega⟩
    rw [hu, Lib.itoa_neg _ (by omega), List.mem_cons] at hd
    rcases hd with hd | hd
    · exact .inl hd
    · exact .inr (digit_in _ d hd)
  · obtain ⟨u, hu⟩ : ∃ u : Nat, n = (u : Int) := ⟨n.toNat, by omega⟩
    rw [hu, Lib.itoa_nonneg] at hd
    exact .inr (digit_in _ d hd)
theorem itoa_digit (n : Int) : ∃ d ∈ Lib.itoa n, d ≠ 45 := by
  have key : ∀ u, ∃ d ∈ Lib.decDigits u, d ≠ 45 := fun u => by
    have h := digits_some u
    obtain ⟨d, hd⟩ := List.exists_mem_of_length_pos h
    exact ⟨d, hd, fun e => by have := (digit_in u d hd).1; rw [e] at this; simp at this⟩
  by_cases h : n < 0
  · obtain ⟨u, hu⟩ : ∃ u : Nat, n = -(u : Int) := ⟨n.natAbs, by omega⟩
    rw [hu, Lib.itoa_neg _ (by omega)]
    obtain ⟨d, hd, h2⟩ := key u
    exact ⟨d, List.mem_cons_of_mem _ hd, h2⟩
  · obtain ⟨u, hu⟩ : ∃ u : Nat, n = (u : Int) := ⟨n.toNat, by omega⟩
    rw [hu, Lib.itoa_nonneg]; exact key u
theorem itoa_inj (n m : Int) (h : Lib.itoa n = Lib.itoa m) : n = m := by
  have key : ∀ u v : Nat, Lib.decDigits u ≠ 45 :: Lib.decDigits v := fun u v e => by
    have := digit_in u 45 (by rw [e]; exact List.mem_cons_self)
    simp at this
  by_cases hn : n < 0
  · obtain ⟨u, hu⟩ : ∃ u : Nat, n = -(u : Int) := ⟨n.natAbs, by omega⟩
    by_cases hm : m < 0
    · obtain ⟨v, hv⟩ : ∃ v : Nat, m = -(v : Int) := ⟨m.natAbs, by omega⟩
      rw [hu, hv, Lib.itoa_neg _ (by omega), Lib.itoa_neg _ (by omega)] at h
      have := digits_inj u v (List.cons.inj h).2
      omega
    · obtain ⟨v, hv⟩ : ∃ v : Nat, m = (v : Int) := ⟨m.toNat, by omega⟩
      rw [hu, hv, Lib.itoa_neg _ (by omega), Lib.itoa_nonneg] at h
      exact absurd h.symm (key v u)
  · obtain ⟨u, hu⟩ : ∃ u : Nat, n = (u : Int) := ⟨n.toNat, by omega⟩
    by_cases hm : m < 0
    · obtain ⟨v, hv⟩ : ∃ v : Nat, m = -(v : Int) := ⟨m.natAbs, by omega⟩
      rw [hu, hv, Lib.itoa_neg _ (by omega), Lib.itoa_nonneg] at h
      exact absurd h (key u v)
    · obtain ⟨v, hv⟩ : ∃ v : Nat, m = (v : Int) := ⟨m.toNat, by omega⟩
      rw [hu, hv, Lib.itoa_nonneg, Lib.itoa_nonneg] at h
      have := digits_inj u v h
      omega

/-- what follows a word: nothing, or a space -/
def Spc (l : List UInt8) : Prop := l = [] ∨ ∃ t, l = 32 :: t
theorem word_inj : ∀ (A B X Y : List UInt8), (∀ d ∈ A, d ≠ 32) → (∀ d ∈ B, d ≠ 32) → Spc X → Spc Y → A ++ X = B ++ Y → A = B ∧ X = Y
  | [], [], _, _, _, _, _, _, h => ⟨rfl, h⟩
  | [], b :: B, X, Y, _, hB, hX, _, h => by
    rcases hX with rfl | ⟨t, rfl⟩
    · cases h
    · simp only [List.nil_append, List.cons_append, List.cons.injEq] at h
      exact absurd h.1.symm (hB b (by simp))
  | a :: A, [], X, Y, hA, _, _, hY, h => by
    rcases hY with rfl | ⟨t, rfl⟩
    · cases h
    · simp only [List.nil_append, List.cons_append, List.cons.injEq] at h
      exact absurd h.1 (hA a (by simp))
  | a :: A, b :: B, X, Y, hA, hB, hX, hY, h => by
    simp only [List.cons_append, List.cons.injEq] at h
    obtain ⟨h1, h2⟩ := word_inj A B X Y (fun d hd => hA d (by simp [hd])) (fun d hd => hB d (by simp [hd])) hX hY h.2
    exact ⟨by rw [h.1, h1], h2⟩
theorem itoa_nospace (n : Int) : ∀ d ∈ Lib.itoa n, d ≠ 32 := fun d hd e => by
  rcases itoa_in n d hd with h | h
  · rw [e] at h; exact absurd h (by decide)
  · rw [e] at h; simp at h
theorem tail_spc (l : List (List UInt8)) : Spc (Lib.joinTail [32] l) := by
  cases l with
  | nil => exact .inl rfl
  | cons x t => exact .inr ⟨x ++ Lib.joinTail [32] t, by simp [Lib.joinTail]⟩
theorem tail_inj : ∀ (zs ws : List Int), Lib.joinTail [32] (zs.map Lib.itoa) = Lib.joinTail [32] (ws.map Lib.itoa) → zs = ws
  | [], [], _ => rfl
  | [], w :: ws, h => by simp [Lib.joinTail] at h
  | z :: zs, [], h => by simp [Lib.joinTail] at h
  | z :: zs, w :: ws, h => by
    have h1 : Lib.itoa z ++ Lib.joinTail [32] (zs.map Lib.itoa) = Lib.itoa w ++ Lib.joinTail [32] (ws.map Lib.itoa) := by simpa [Lib.joinTail] using h
    obtain ⟨h2, h3⟩ := word_inj _ _ _ _ (itoa_nospace z) (itoa_nospace w) (tail_spc _) (tail_spc _) h1
    rw [itoa_inj z w h2, tail_inj zs ws h3]
theorem numsJ_inj (zs ws : List Int) (hz : zs ≠ []) (hw : ws ≠ []) (h : numsJ zs = numsJ ws) : zs = ws := by
  cases zs with
  | nil => exact absurd rfl hz
  | cons z zs =>
    cases ws with
    | nil => exact absurd rfl hw
    | cons w ws =>
      rw [numsJ, numsJ, List.map_cons, List.map_cons, Lib.join_cons, Lib.join_cons] at h
      obtain ⟨h2, h3⟩ := word_inj _ _ _ _ (itoa_nospace z) (itoa_nospace w) (tail_spc _) (tail_spc _) h
      rw [itoa_inj z w h2, tail_inj zs ws h3]
theorem numsJ_dash (zs : List Int) (hz : zs ≠ []) : numsJ zs ≠ [45] := by
  cases zs with
  | nil => exact absurd rfl hz
  | cons z zs =>
    intro e
    obtain ⟨d, hd, h⟩ := itoa_digit z
    have : d ∈ numsJ (z :: zs) := by rw [numsJ, List.map_cons, Lib.join_cons]; exact List.mem_append_left _ hd
    rw [e, List.mem_singleton] at this
    exact h this
/-- lists of numbers of the same text are the same -/
theorem ntext_inj (zs ws : List Int) : ((ntext zs).toList == (ntext ws).toList) = (zs == ws) := by
  rw [ByteArray.toList_eq, ByteArray.toList_eq]
  by_cases h : zs = ws
  · subst h; simp
  · have h2 : (zs == ws) = false := by rw [beq_eq_false_iff_ne]; exact h
    rw [h2, beq_eq_false_iff_ne]
    intro e
    unfold ntext at e
    by_cases hz : zs = []
    · rw [if_pos hz] at e
      by_cases hw : ws = []
      · exact h (hz.trans hw.symm)
      · rw [if_neg hw] at e
        exact numsJ_dash ws hw e.symm
    · rw [if_neg hz] at e
      by_cases hw : ws = []
      · rw [if_pos hw] at e
        exact numsJ_dash zs hz e
      · rw [if_neg hw] at e
        exact h (numsJ_inj zs ws hz hw e)

theorem eq_len (zs ws : List Int) (h : zs.length ≠ ws.length) : (zs == ws) = false := by
  rw [beq_eq_false_iff_ne]; rintro rfl; exact h rfl
set_option maxHeartbeats 1000000 in
set_option maxRecDepth 100000 in
theorem wvNums_le (w : World) (a b : Option Addr) (n c m d : Nat) (zs ws : List Int) (hA : Ints w a n zs) (hB : Ints w b m ws) (hn : n ≤ 1048576) (hm : m ≤ 1048576) (hle : n ≤ m) :
    Calls Tryd.prog 14 #[.slice a n c, .slice b m d] w fun e w' => e = .returned (.bool (zs == ws)) ∧ Below w.heap.size w w' := by
  have HA := Lib.hid hA
  have HB := Lib.hid hB
  clear hA hB
  have hmin : ((n : Int) ≤ (m : Int)) := by omega
  go_enter Tryd.func14, Tryd.ntmps14
  go_wp2_with fail
  go_loopw [11] (fun i wr => ∃ k : Nat, k ≤ n ∧ i = .int .i64 k ∧ Hid (zs.take k = ws.take k) ∧ Hid (Below w.heap.size w wr)) (fun i _ => n - (intOf i).toNat)
  case atStart => exact ⟨0, Nat.zero_le _, by go_num, rfl, Below.refl _ _⟩
  case round =>
    obtain ⟨k, hk, rfl, hE, hW⟩ := hrel
    by_cases hlt : k < n
    · have hz : k < zs.length := by rw [HA.out.len]; exact hlt
      have hw : k < ws.length := by rw [HB.out.len]; omega
      obtain ⟨g, off, rfl, q1⟩ := HA.out.at_ k hz
      obtain ⟨g', off', rfl, q2⟩ := HB.out.at_ k hw
      have c1 : wr.cell? ⟨g, off + k, none⟩ = some (.int .i64 zs[k]) := by rw [hW.out.cell (p := ⟨g, off + k, none⟩) (World.block_lt_of_cell? w _ q1)]; exact q1
      have c2 : wr.cell? ⟨g', off' + k, none⟩ = some (.int .i64 ws[k]) := by rw [hW.out.cell (p := ⟨g', off' + k, none⟩) (World.block_lt_of_cell? w _ q2)]; exact q2
      have HT := Lib.hid (take_eq zs ws k hz hw)
      clear q1 q2
      have HNe := Lib.hid (fun (h : zs[k] ≠ ws[k]) => show (zs == ws) = false by
        rw [beq_eq_false_iff_ne]; rintro rfl; exact h rfl)
      generalize zs[k] = x at *
      generalize ws[k] = y at *
      cases hxy : (x == y) with
      | true =>
        have HX := Lib.hid (by simpa using hxy : x = y)
        go_wp2_with fail
        go_quiet (fail)
        go_wp2_with fail
        go_roundw
        case rel => exact ⟨k + 1, by omega, by go_num, HT.out.2 ⟨hE.out, HX.out⟩, hW.out.trans ⟨rfl, rfl, rfl, Nat.le_refl _, fun _ _ => rfl⟩⟩
        case measure => simp [intOf]; omega
      | false =>
        have HX := Lib.hid (HNe.out (by simpa using hxy))
        go_wp2_with fail
        go_quiet (fail)
        go_wp2_with fail
        go_ret
        exact ⟨ret_bool HX.out.symm, hW.out.trans ⟨rfl, rfl, rfl, Nat.le_refl _, fun _ _ => rfl⟩⟩
    · by_cases hnm : n = m
      · subst hnm
        have HEq := Lib.hid (show (zs == ws) = true by
          have h := hE.out
          rw [List.take_of_length_le (by rw [HA.out.len]; omega), List.take_of_length_le (by rw [HB.out.len]; omega)] at h
          rw [h]; simp)
        go_wp2_with fail
        go_ret
        exact ⟨ret_bool (by rw [HEq.out]), hW.out⟩
      · have HEq := Lib.hid (eq_len zs ws (by rw [HA.out.len, HB.out.len]; exact hnm))
        have hbf : ((n : Int) == (m : Int)) = false := by rw [beq_eq_false_iff_ne]; omega
        go_wp2_with fail
        go_ret
        exact ⟨ret_bool (by rw [HEq.out]), hW.out⟩
set_option maxHeartbeats 1000000 in
set_option maxRecDepth 100000 in
theorem wvNums_gt (w : World) (a b : Option Addr) (n c m d : Nat) (zs ws : List Int) (hA : Ints w a n zs) (hB : Ints w b m ws) (hn : n ≤ 1048576) (hm : m ≤ 1048576) (hle : m < n) :
    Calls Tryd.prog 14 #[.slice a n c, .slice b m d] w fun e w' => e = .returned (.bool (zs == ws)) ∧ Below w.heap.size w w' := by
  have HA := Lib.hid hA
  have HB := Lib.hid hB
  clear hA hB
  have hmin : ¬ ((n : Int) ≤ (m : Int)) := by omega
  have hmin2 : ((m : Int) < (n : Int)) := by omega
  go_enter Tryd.func14, Tryd.ntmps14
  go_wp2_with fail
  go_loopw [11] (fun i wr => ∃ k : Nat, k ≤ m ∧ i = .int .i64 k ∧ Hid (zs.take k = ws.take k) ∧ Hid (Below w.heap.size w wr)) (fun i _ => m - (intOf i).toNat)
  case atStart => exact ⟨0, Nat.zero_le _, by go_num, rfl, Below.refl _ _⟩
  case round =>
    obtain ⟨k, hk, rfl, hE, hW⟩ := hrel
    by_cases hlt : k < m
    · have hz : k < zs.length := by rw [HA.out.len]; omega
      have hw : k < ws.length := by rw [HB.out.len]; omega
      obtain ⟨g, off, rfl, q1⟩ := HA.out.at_ k hz
      obtain ⟨g', off', rfl, q2⟩ := HB.out.at_ k hw
      have c1 : wr.cell? ⟨g, off + k, none⟩ = some (.int .i64 zs[k]) := by rw [hW.out.cell (p := ⟨g, off + k, none⟩) (World.block_lt_of_cell? w _ q1)]; exact q1
      have c2 : wr.cell? ⟨g', off' + k, none⟩ = some (.int .i64 ws[k]) := by rw [hW.out.cell (p := ⟨g', off' + k, none⟩) (World.block_lt_of_cell? w _ q2)]; exact q2
      have HT := Lib.hid (take_eq zs ws k hz hw)
      clear q1 q2
      have HNe := Lib.hid (fun (h : zs[k] ≠ ws[k]) => show (zs == ws) = false by
        rw [beq_eq_false_iff_ne]; rintro rfl; exact h rfl)
      generalize zs[k] = x at *
      generalize ws[k] = y at *
      cases hxy : (x == y) with
      | true =>
        have HX := Lib.hid (by simpa using hxy : x = y)
        go_wp2_with fail
        go_quiet (fail)
        go_wp2_with fail
        go_roundw
        case rel => exact ⟨k + 1, by omega, by go_num, HT.out.2 ⟨hE.out, HX.out⟩, hW.out.trans ⟨rfl, rfl, rfl, Nat.le_refl _, fun _ _ => rfl⟩⟩
        case measure => simp [intOf]; omega
      | false =>
        have HX := Lib.hid (HNe.out (by simpa using hxy))
        go_wp2_with fail
        go_quiet (fail)
        go_wp2_with fail
        go_ret
        exact ⟨ret_bool HX.out.symm, hW.out.trans ⟨rfl, rfl, rfl, Nat.le_refl _, fun _ _ => rfl⟩⟩
    · have hnm : n ≠ m := by omega
      have HEq := Lib.hid (eq_len zs ws (by rw [HA.out.len, HB.out.len]; exact hnm))
      have hbf : ((n : Int) == (m : Int)) = false := by rw [beq_eq_false_iff_ne]; omega
      go_wp2_with fail
      go_ret
      exact ⟨ret_bool (by rw [HEq.out]), hW.out⟩
theorem wvNums_any (w : World) (a b : Option Addr) (n c m d : Nat) (zs ws : List Int) (hA : Ints w a n zs) (hB : Ints w b m ws) (hn : n ≤ 1048576) (hm : m ≤ 1048576) :
    Calls Tryd.prog 14 #[.slice a n c, .slice b m d] w fun e w' => e = .returned (.bool (zs == ws)) ∧ Below w.heap.size w w' := by
  by_cases h : n ≤ m
  · exact wvNums_le w a b n c m d zs ws hA hB hn hm h
  · exact wvNums_gt w a b n c m d zs ws hA hB hn hm (by omega)
end Go.Proofs.YthedbjdcnidelaaDoor
