/- The model's decimal text. No condition. -/
import Derived.Test.YthedbjdcnidelaaDoorFmt
namespace Go.Proofs.YthedbjdcnidelaaDoor
open Go.RowKit

theorem dec_big (u : Nat) (h : 9 < u) : Lib.decDigits u = Lib.decDigits (u / 10) ++ [UInt8.ofNat (48 + u % 10)] := by
  rw [Lib.decDigits, dif_neg (by omega)]
theorem dec_small (u : Nat) (h : u ≤ 9) : Lib.decDigits u = [UInt8.ofNat (48 + u)] := by
  rw [Lib.decDigits, dif_pos (by omega)]

theorem bytes_cells {w : World} {b : Nat} {l : List UInt8} {e : TypeId} (hb : w.heap[b]? = some (.cells (l.map fun c => Value.int .u8 (c.toNat : Int)).toArray e (0, 0))) :
    ∀ j (hj : j < l.length), w.cell? ((⟨b, 0, none⟩ : Addr).add j) = some (.int .u8 (l[j].toNat : Int)) := fun j hj => by
  have hadd : (⟨b, 0, none⟩ : Addr).add j = ⟨b, j, none⟩ := by unfold Addr.add; split <;> simp_all
  rw [hadd, Lib.cell_of_heap hb]
  simp [hj]
theorem str1 (c : UInt8) (w : World) (n : Int) (hn : (c.toNat : Int) = n) :
    (convert 22 9 (.slice (some ⟨w.heap.size, 0, none⟩) 1 1)).run Tryd.prog (w.alloc (Obj.cells #[.int .u8 n] 5)) =
      .ok (.string ⟨#[c]⟩) (w.alloc (Obj.cells #[.int .u8 n] 5)) := by
  subst hn
  exact run_convert_bytes_back (P := Tryd.prog) _ 22 9 5 ⟨w.heap.size, 0, none⟩ 1 [c] Tryd.underlying22 Tryd.underlying5 Tryd.underlying9 (bytes_cells (e := 5) (heap_alloc_new _ _))
theorem add_cons (c : UInt8) (l : List UInt8) (h : l.length ≤ 1000) (w : World) : (Op.stringOp .add ⟨#[c]⟩ ⟨l.toArray⟩).run Tryd.prog w = .ok (.string ⟨(c :: l).toArray⟩) w := by
  rw [str_add ⟨#[c]⟩ ⟨l.toArray⟩ (by show 1 + l.toArray.size ≤ _; simp; omega) w]
  congr 2

set_option maxHeartbeats 1000000 in
set_option maxRecDepth 100000 in
theorem dec_nonneg (w : World) (u0 : Nat) (hu : u0 ≤ 9223372036854775807) :
    Calls Tryd.prog 29 #[.int .i64 u0] w fun r w' => r = .returned (.string ⟨(Lib.decDigits u0).toArray⟩) ∧ Below w.heap.size w w' := by
  have h0 : (0 : Int) ≤ (u0 : Int) := Int.natCast_nonneg _
  have h1 : ¬ (u0 : Int) < -9223372036854775807 := by omega
  have h2 : ¬ (u0 : Int) < 0 := by omega
  go_enter Tryd.func29, Tryd.ntmps29
  go_wp2_with fail
  go_loopw [0, 3] (fun x y wr => ∃ (u : Nat) (l : List UInt8), x = .int .i64 u ∧ y = .string ⟨l.toArray⟩ ∧ u ≤ 9223372036854775807 ∧ Hid (Lib.decDigits u0 = Lib.decDigits u ++ l) ∧ Hid (Below w.heap.size w wr)) (fun x _ _ => (intOf x).toNat)
  case atStart => exact ⟨u0, [], rfl, rfl, hu, by show _ = _ ++ []; simp, Below.refl _ _⟩
  case round =>
    obtain ⟨u, l, rfl, rfl, hu9, hE, hB⟩ := hrel
    clear h0 h1 h2
    have hu0 : (0 : Int) ≤ (u : Int) := Int.natCast_nonneg _
    have hll : l.length ≤ 20 := by
      have h1 := congrArg List.length hE.out
      have h2 := Lib.nDigits_le20 u0 (by omega)
      rw [Lib.decDigits_length, List.length_append] at h1
      omega
    by_cases hlt : 9 < u
    · have hlt1 : (9 : Int) < (u : Int) := by omega
      obtain ⟨cc, hcc⟩ : ∃ cc, cc = UInt8.ofNat (48 + u % 10) := ⟨_, rfl⟩
      have hc := str1 cc wr (48 + (u : Int) % 10) (by subst hcc; simp; omega)
      have ha := add_cons cc l (by omega)
      have HD := Lib.hid (show Lib.decDigits u0 = Lib.decDigits (u / 10) ++ (cc :: l) by
        rw [hE.out, dec_big u hlt, hcc]; simp)
      clear hcc
      go_wp2_with fail
      go_roundw
      case rel => exact ⟨u / 10, cc :: l, by go_num, rfl, by omega, HD.out, hB.out.alloc hB.out.size _⟩
      case measure => simp [intOf]; omega
    · have hlt1 : ¬ (9 : Int) < (u : Int) := by omega
      obtain ⟨cc, hcc⟩ : ∃ cc, cc = UInt8.ofNat (48 + u) := ⟨_, rfl⟩
      have hc := str1 cc wr (48 + (u : Int)) (by subst hcc; simp; omega)
      have ha := add_cons cc l (by omega)
      have HD := Lib.hid (show Lib.decDigits u0 = cc :: l by
        rw [hE.out, dec_small u (by omega), hcc]; rfl)
      clear hcc
      go_wp2_with fail
      go_ret
      exact ⟨by rw [HD.out]; rfl, hB.out.alloc hB.out.size _⟩

theorem dec_min : dec (-9223372036854775808) = ⟨#[45, 57, 50, 50, 51, 51, 55, 50, 48, 51, 54, 56, 53, 52, 55, 55, 53, 56, 48, 56]⟩ := by
  unfold dec
  rw [show (-9223372036854775808 : Int) = -((9223372036854775808 : Nat) : Int) from rfl, Lib.itoa_neg _ (by decide)]
  repeat rw [dec_big _ (by decide)]
  rw [dec_small _ (by decide)]
  rfl

set_option maxHeartbeats 1000000 in
set_option maxRecDepth 100000 in
theorem dec_any (n : Int) (hn : Int64 n) (w : World) :
    Calls Tryd.prog 29 #[.int .i64 n] w fun r w' => r = .returned (.string (dec n)) ∧ Below w.heap.size w w' := by
  obtain ⟨h1, h2⟩ := hn
  by_cases hneg : n < 0
  · by_cases hmin : n < -9223372036854775807
    · have : n = -9223372036854775808 := by omega
      subst this
      go_enter Tryd.func29, Tryd.ntmps29
      go_wp2_with fail
      go_ret
      exact ⟨by rw [dec_min]; rfl, Below.refl _ _⟩
    · obtain ⟨u, rfl⟩ : ∃ u : Nat, n = -(u : Int) := ⟨n.natAbs, by omega⟩
      have HN := Lib.hid (fun w => dec_nonneg w u (by omega))
      have HD := Lib.hid (show dec (-(u : Int)) = ⟨#[45]⟩ ++ ⟨(Lib.decDigits u).toArray⟩ by
        unfold dec
        rw [Lib.itoa_neg u (by omega)]
        apply ByteArray.ext
        apply Array.ext'
        simp)
      have hsz : (Lib.decDigits u).length ≤ 20 := by
        have h2 := Lib.nDigits_le20 u (by omega)
        rw [Lib.decDigits_length]
        omega
      have ha := str_add ⟨#[45]⟩ ⟨(Lib.decDigits u).toArray⟩ (by show 1 + (Lib.decDigits u).toArray.size ≤ _; simp; omega)
      clear hsz
      generalize Lib.decDigits u = du at *
      go_enter Tryd.func29, Tryd.ntmps29
      go_wp2_with fail
      refine (HN.out _).mono ?_
      rintro r w2 ⟨rfl, hb⟩
      have HB := Lib.hid hb
      clear hb
      go_wp2_with fail
      go_ret
      exact ⟨by rw [HD.out]; rfl, HB.out⟩
  · obtain ⟨u, rfl⟩ : ∃ u : Nat, n = (u : Int) := ⟨n.toNat, by omega⟩
    have := dec_nonneg w u (by omega)
    unfold dec
    rw [Lib.itoa_nonneg]
    exact this
end Go.Proofs.YthedbjdcnidelaaDoor
