/- SameOutcome of the program and of the model, and eqOutcome of the laws. Condition: lists of at most 2^20 numbers. -/
import Derived.Test.YtlocampfgkdohaaDoorOut
namespace Go.Proofs.YtlocampfgkdohaaDoor
open Go.RowKit

/-- the same value, prints and end -/
def sameP (v v' : Int) (zs zs' : List Int) (e e' : ByteArray) : Bool := (v == v') && ((zs == zs') && (e.toList == e'.toList))

/-- two outcomes that lie one behind the other -/
theorem two_lie {w w3 : World} {x0 x1 x2 x3 y0 y1 y2 y3 : Value} {t t' : TypeId} (hb : Below (w.heap.size + 1 + 1) ((w.alloc (Obj.cells #[x0, x1, x2, x3] t)).alloc (Obj.cells #[y0, y1, y2, y3] t')) w3) :
    w3.heap[w.heap.size]? = some (.cells #[x0, x1, x2, x3] t (0, 0)) ∧ w3.heap[w.heap.size + 1]? = some (.cells #[y0, y1, y2, y3] t' (0, 0)) ∧ Below w.heap.size w w3 := by
  have h0 := heap_alloc_new w (Obj.cells #[x0, x1, x2, x3] t)
  have h1 := heap_alloc_new (w.alloc (Obj.cells #[x0, x1, x2, x3] t)) (Obj.cells #[y0, y1, y2, y3] t')
  rw [alloc_size'] at h1
  refine ⟨(hb.block _ (by omega)).trans ((alloc_heap _ _ (by rw [alloc_size']; omega)).trans h0), (hb.block _ (by omega)).trans h1, ?_⟩
  exact (((Below.refl w.heap.size w).alloc (Nat.le_refl _) _).alloc (by rw [alloc_size']; omega) _).trans (hb.mono (by omega))
theorem read4 {w : World} {g : Nat} {x0 x1 x2 x3 : Value} {t : TypeId} (h : w.heap[g]? = some (.cells #[x0, x1, x2, x3] t (0, 0))) : w.cell? ⟨g, 0, none⟩ = some x0 ∧ w.cell? ⟨g, 1, none⟩ = some x1 ∧ w.cell? ⟨g, 2, none⟩ = some x2 ∧ w.cell? ⟨g, 3, none⟩ = some x3 := by
  refine ⟨?_, ?_, ?_, ?_⟩ <;> (rw [Lib.cell_of_heap h]; rfl)

set_option maxHeartbeats 1000000 in
set_option maxRecDepth 100000 in
theorem impl_same (w : World) (v v' : Int) (a a' : Option Addr) (n c n' c' : Nat) (zs zs' : List Int) (e e' : ByteArray) (st st' : Int) (hA : Ints w a n zs) (hB : Ints w a' n' zs') (hn : n ≤ 1048576) (hn' : n' ≤ 1048576) :
    Calls Tryd.prog 11 #[oV v a n c e st, oV v' a' n' c' e' st'] w fun r w' => r = .returned (.bool (sameP v v' zs zs' e e')) ∧ Below w.heap.size w w' := by
  have HE := Lib.hid (fun w' hb => equal_any w' a a' n c n' c' zs zs' (hA.later hb) (hB.later hb) (by omega) (by omega))
  clear hA hB
  unfold oV
  by_cases hv : v = v'
  · subst hv
    have HS := Lib.hid (show sameP v v zs zs' e e' = ((zs == zs') && (e.toList == e'.toList)) by simp [sameP])
    rw [HS.out]
    cases hz : zs == zs' with
    | false =>
      rw [hz] at HE
      go_enter Tryd.func11, Tryd.ntmps11
      go_wp2_with fail
      refine (HE.out _ (((Below.refl w.heap.size w).alloc (Nat.le_refl _) _).alloc (by simp) _)).mono ?_
      rintro r w3 ⟨rfl, hb⟩
      rw [alloc_size', alloc_size'] at hb
      have HB := Lib.hid (two_lie hb).2.2
      clear hb
      go_wp2_with fail
      go_ret
      exact ⟨rfl, HB.out⟩
    | true =>
      rw [hz] at HE
      rw [Bool.true_and]
      go_enter Tryd.func11, Tryd.ntmps11
      go_wp2_with fail
      refine (HE.out _ (((Below.refl w.heap.size w).alloc (Nat.le_refl _) _).alloc (by simp) _)).mono ?_
      rintro r w3 ⟨rfl, hb⟩
      rw [alloc_size', alloc_size'] at hb
      obtain ⟨l0, l1, hB⟩ := two_lie hb
      have HB := Lib.hid hB
      obtain ⟨_, _, q2, _⟩ := read4 l0
      obtain ⟨_, _, r2, _⟩ := read4 l1
      clear hb l0 l1 hB
      go_wp2_with fail
      go_ret
      exact ⟨rfl, HB.out⟩
  · have hvb : (v == v') = false := by rw [beq_eq_false_iff_ne]; exact hv
    have HS := Lib.hid (show sameP v v' zs zs' e e' = false by rw [sameP, hvb]; rfl)
    rw [HS.out]
    clear hv
    go_enter Tryd.func11, Tryd.ntmps11
    go_wp2_with fail
    go_ret
    exact ⟨rfl, ((Below.refl w.heap.size w).alloc (Nat.le_refl _) _).alloc (by simp) _⟩

set_option maxHeartbeats 1000000 in
set_option maxRecDepth 100000 in
theorem eqOut_any (w : World) (v : Int) (a a' : Option Addr) (n c c' : Nat) (zs : List Int) (e : ByteArray) (st : Int) (hA : Ints w a n zs) (hB : Ints w a' n zs) (hn : n ≤ 1048576) :
    Calls Tryd.prog 9 #[oV v a n c e st, oV v a' n c' e st] w fun r w' => r = .returned (.bool true) ∧ Below w.heap.size w w' := by
  have HE := Lib.hid (fun w' hb => eqInts_any w' a a' n c n c' zs zs (hA.later hb) (hB.later hb) (by omega) (by omega))
  have hz : (zs == zs) = true := by simp
  rw [hz] at HE
  clear hA hB hz
  unfold oV
  go_enter Tryd.func9, Tryd.ntmps9
  go_wp2_with fail
  refine (HE.out _ (((Below.refl w.heap.size w).alloc (Nat.le_refl _) _).alloc (by simp) _)).mono ?_
  rintro r w3 ⟨rfl, hb⟩
  rw [alloc_size', alloc_size'] at hb
  obtain ⟨l0, l1, hB⟩ := two_lie hb
  have HB := Lib.hid hB
  obtain ⟨_, _, q2, q3⟩ := read4 l0
  obtain ⟨_, _, r2, r3⟩ := read4 l1
  clear hb l0 l1 hB
  go_wp2_with fail
  go_ret
  exact ⟨rfl, HB.out⟩

set_option maxHeartbeats 1000000 in
set_option maxRecDepth 100000 in
theorem spec_same (w : World) (v v' : Int) (a a' : Option Addr) (n c n' c' : Nat) (zs zs' : List Int) (e e' : ByteArray) (st st' : Int) (hA : Ints w a n zs) (hB : Ints w a' n' zs') (hn : n ≤ 1048576) (hn' : n' ≤ 1048576) :
    Calls Tryd.prog 12 #[oV v a n c e st, oV v' a' n' c' e' st'] w fun r w' => r = .returned (.bool (sameP v v' zs zs' e e')) ∧ Below w.heap.size w w' := by
  have HA := Lib.hid hA
  have HB := Lib.hid hB
  clear hA hB
  unfold oV
  go_enter Tryd.func12, Tryd.ntmps12
  by_cases hle : n ≤ n'
  · have hle1 : (n : Int) ≤ (n' : Int) := by omega
    have hmin : n ≤ n' := hle
    go_wp2_with fail
    go_loopw [13] (fun i wr => ∃ k : Nat, k ≤ n ∧ i = .int .i64 k ∧ Hid (zs.take k = zs'.take k) ∧ Hid (Below (w.heap.size + 1 + 1) ((w.alloc (Obj.cells #[.int .i64 v, .slice a n c, .string e, .int .i64 st] 27)).alloc (Obj.cells #[.int .i64 v', .slice a' n' c', .string e', .int .i64 st'] 27)) wr)) (fun i _ => n - (intOf i).toNat)
    case atStart => exact ⟨0, Nat.zero_le _, by go_num, rfl, Below.refl _ _⟩
    case round =>
      obtain ⟨k, hk, rfl, hE, hW⟩ := hrel
      obtain ⟨l0, l1, hB0⟩ := two_lie hW.out
      obtain ⟨q0, q1, q2, _⟩ := read4 l0
      obtain ⟨r0, r1, r2, _⟩ := read4 l1
      have HBw := Lib.hid hB0
      clear l0 l1
      by_cases hlt : k < n
      · have hz : k < zs.length := by rw [HA.out.len]; omega
        have hw : k < zs'.length := by rw [HB.out.len]; omega
        obtain ⟨g, off, rfl, d1⟩ := HA.out.at_ k hz
        obtain ⟨g', off', rfl, d2⟩ := HB.out.at_ k hw
        have c1 : wr.cell? ⟨g, off + k, none⟩ = some (.int .i64 zs[k]) := by rw [hB0.cell (p := ⟨g, off + k, none⟩) (World.block_lt_of_cell? w _ d1)]; exact d1
        have c2 : wr.cell? ⟨g', off' + k, none⟩ = some (.int .i64 zs'[k]) := by rw [hB0.cell (p := ⟨g', off' + k, none⟩) (World.block_lt_of_cell? w _ d2)]; exact d2
        have hkn : (k : Int) < (n : Int) := by omega
        have hkn' : (k : Int) < (n' : Int) := by omega
        have hknn : k < n := by omega
        have hknn' : k < n' := by omega
        have HT := Lib.hid (take_eq zs zs' k hz hw)
        have HNe := Lib.hid (fun (h : zs[k] ≠ zs'[k]) => show (zs == zs') = false by
          rw [beq_eq_false_iff_ne]; rintro rfl; exact h rfl)
        clear d1 d2 hB0
        generalize zs[k] = x at *
        generalize zs'[k] = y at *
        cases hxy : (x == y) with
        | true =>
          have HX := Lib.hid (by simpa using hxy : x = y)
          go_wp2_with fail
          go_quiet (fail)
          go_wp2_with fail
          go_roundw
          case rel => exact ⟨k + 1, by omega, by go_num, HT.out.2 ⟨hE.out, HX.out⟩, hW.out.trans ⟨rfl, rfl, rfl, Nat.le_refl _, fun _ _ => rfl⟩⟩
          case measure => simp [intOf]; omega
        | false =>
          have HX := Lib.hid (show sameP v v' zs zs' e e' = false by rw [sameP, HNe.out (by simpa using hxy)]; simp)
          go_wp2_with fail
          go_quiet (fail)
          go_wp2_with fail
          go_ret
          exact ⟨ret_bool HX.out.symm, HBw.out.trans ⟨rfl, rfl, rfl, Nat.le_refl _, fun _ _ => rfl⟩⟩
      · by_cases hnn : n = n'
        · have HS := Lib.hid (show sameP v v' zs zs' e e' = ((v == v') && (e.toList == e'.toList)) by
            have h := hE.out
            rw [List.take_of_length_le (by rw [HA.out.len]; omega), List.take_of_length_le (by rw [HB.out.len]; omega)] at h
            rw [sameP, h]; simp)
          subst hnn
          cases hv : v == v' with
          | true =>
            go_wp2_with fail
            go_ret
            exact ⟨ret_bool (by rw [HS.out]; simp_all), HBw.out⟩
          | false =>
            go_wp2_with fail
            go_ret
            exact ⟨ret_bool (by rw [HS.out]; simp_all), HBw.out⟩
        · have HS := Lib.hid (show sameP v v' zs zs' e e' = false by
            rw [sameP, show (zs == zs') = false by
              rw [beq_eq_false_iff_ne]
              rintro rfl
              exact hnn (HA.out.len.symm.trans HB.out.len)]
            simp)
          have hnb : ((n : Int) == (n' : Int)) = false := by rw [beq_eq_false_iff_ne]; omega
          go_wp2_with fail
          go_ret
          exact ⟨ret_bool HS.out.symm, HBw.out⟩
  · have hle1 : ¬ (n : Int) ≤ (n' : Int) := by omega
    have hle2 : ¬ (n : Int) < (n' : Int) := by omega
    have hle3 : (n' : Int) < (n : Int) := by omega
    go_wp2_with fail
    go_loopw [13] (fun i wr => ∃ k : Nat, k ≤ n' ∧ i = .int .i64 k ∧ Hid (zs.take k = zs'.take k) ∧ Hid (Below (w.heap.size + 1 + 1) ((w.alloc (Obj.cells #[.int .i64 v, .slice a n c, .string e, .int .i64 st] 27)).alloc (Obj.cells #[.int .i64 v', .slice a' n' c', .string e', .int .i64 st'] 27)) wr)) (fun i _ => n' - (intOf i).toNat)
    case atStart => exact ⟨0, Nat.zero_le _, by go_num, rfl, Below.refl _ _⟩
    case round =>
      obtain ⟨k, hk, rfl, hE, hW⟩ := hrel
      obtain ⟨l0, l1, hB0⟩ := two_lie hW.out
      obtain ⟨q0, q1, q2, _⟩ := read4 l0
      obtain ⟨r0, r1, r2, _⟩ := read4 l1
      have HBw := Lib.hid hB0
      clear l0 l1
      by_cases hlt : k < n'
      · have hz : k < zs.length := by rw [HA.out.len]; omega
        have hw : k < zs'.length := by rw [HB.out.len]; omega
        obtain ⟨g, off, rfl, d1⟩ := HA.out.at_ k hz
        obtain ⟨g', off', rfl, d2⟩ := HB.out.at_ k hw
        have c1 : wr.cell? ⟨g, off + k, none⟩ = some (.int .i64 zs[k]) := by rw [hB0.cell (p := ⟨g, off + k, none⟩) (World.block_lt_of_cell? w _ d1)]; exact d1
        have c2 : wr.cell? ⟨g', off' + k, none⟩ = some (.int .i64 zs'[k]) := by rw [hB0.cell (p := ⟨g', off' + k, none⟩) (World.block_lt_of_cell? w _ d2)]; exact d2
        have hkn : (k : Int) < (n : Int) := by omega
        have hkn' : (k : Int) < (n' : Int) := by omega
        have hknn : k < n := by omega
        have hknn' : k < n' := by omega
        have HT := Lib.hid (take_eq zs zs' k hz hw)
        have HNe := Lib.hid (fun (h : zs[k] ≠ zs'[k]) => show (zs == zs') = false by
          rw [beq_eq_false_iff_ne]; rintro rfl; exact h rfl)
        clear d1 d2 hB0
        generalize zs[k] = x at *
        generalize zs'[k] = y at *
        cases hxy : (x == y) with
        | true =>
          have HX := Lib.hid (by simpa using hxy : x = y)
          go_wp2_with fail
          go_quiet (fail)
          go_wp2_with fail
          go_roundw
          case rel => exact ⟨k + 1, by omega, by go_num, HT.out.2 ⟨hE.out, HX.out⟩, hW.out.trans ⟨rfl, rfl, rfl, Nat.le_refl _, fun _ _ => rfl⟩⟩
          case measure => simp [intOf]; omega
        | false =>
          have HX := Lib.hid (show sameP v v' zs zs' e e' = false by rw [sameP, HNe.out (by simpa using hxy)]; simp)
          go_wp2_with fail
          go_quiet (fail)
          go_wp2_with fail
          go_ret
          exact ⟨ret_bool HX.out.symm, HBw.out.trans ⟨rfl, rfl, rfl, Nat.le_refl _, fun _ _ => rfl⟩⟩
      · have hnn : ¬ n = n' := by omega
        have HS := Lib.hid (show sameP v v' zs zs' e e' = false by
          rw [sameP, show (zs == zs') = false by
            rw [beq_eq_false_iff_ne]
            rintro rfl
            exact hnn (HA.out.len.symm.trans HB.out.len)]
          simp)
        have hnb : ((n : Int) == (n' : Int)) = false := by rw [beq_eq_false_iff_ne]; omega
        go_wp2_with fail
        go_ret
        exact ⟨ret_bool HS.out.symm, HBw.out⟩
end Go.Proofs.YtlocampfgkdohaaDoor
