/- The signs of a body, and strings.ContainsRune over them: whether a sign may begin a statement. No condition. -/
import Derived.Test.YtkdnbdgpcgookaaGreatDoorRd
import Derived.Test.YtkdnbdgpcgookaaGreatDoorIdx
import Derived.Test.YtkdnbdgpcgookaaGreatDoorShelf
import Derived.Lib.OthersKept
import Derived.Laws.Runes
import Derived.WalkMore
import Derived.Deep.QuietTactic
import Derived.BigQuiet
namespace Go.Proofs.YtkdnbdgpcgookaaGreatDoor
open Go.RowKit Gram

/-- the sign sg is the byte c, or none of ASCII -/
def Sg (sg : Int) (c : UInt8) : Prop := (sg = c.toNat ∧ c.toNat < 128) ∨ (c = 128 ∧ 128 ≤ sg)

theorem Sg.ne {sg : Int} {c : UInt8} (h : Sg sg c) {d : UInt8} (hd : d.toNat < 128) (hne : c ≠ d) : (sg == (d.toNat : Int)) = false := by
  rcases h with ⟨rfl, _⟩ | ⟨_, h2⟩
  · exact ne_int hne
  · rw [beq_eq_false_iff_ne]; omega


def inSigs (kk : Bool) (c : UInt8) : Bool := (sigs kk).data.toList.contains c
theorem inSigs_eq (kk : Bool) (c : UInt8) : inSigs kk c = decide ((c = 43 ∨ c = 45 ∨ c = 42 ∨ c = 67 ∨ c = 63) ∨ c = 80 ∨ (c = 75 ∧ kk = true)) := by
  rw [Bool.eq_iff_iff, decide_eq_true_iff]
  cases kk
  · simp only [inSigs, sigs, Bool.false_eq_true, if_false, and_false, or_false, List.contains_iff_mem, List.mem_cons, List.not_mem_nil]
    constructor
    · rintro (h | h | h | h | h | h) <;> simp [h]
    · rintro ((h | h | h | h | h) | h) <;> simp [h]
  · simp only [inSigs, sigs, if_true, and_true, List.contains_iff_mem, List.mem_cons, List.not_mem_nil, or_false]
    constructor
    · rintro (h | h | h | h | h | h | h) <;> simp [h]
    · rintro ((h | h | h | h | h) | h | h) <;> simp [h]

/-! ### a sign beyond ASCII -/
theorem enc_high (r : Int) (h : 128 ≤ r) : (∃ x y : UInt8, Utf8.encode r = ⟨#[x, y]⟩ ∧ 128 ≤ y.toNat) ∨ (∃ x y z : UInt8, Utf8.encode r = ⟨#[x, y, z]⟩ ∧ 128 ≤ z.toNat) ∨ (∃ x y z u : UInt8, Utf8.encode r = ⟨#[x, y, z, u]⟩ ∧ 128 ≤ u.toNat) := by
  have hb : ∀ n : Nat, 128 ≤ (UInt8.ofNat (0x80 + n % 64)).toNat := fun n => by
    rw [UInt8.toNat_ofNat']; omega
  have hc : 128 ≤ (if Utf8.valid r then r.toNat else Utf8.runeError) := by
    split
    · omega
    · decide
  unfold Utf8.encode
  generalize (if Utf8.valid r then r.toNat else Utf8.runeError) = c at hc ⊢
  simp only
  rw [if_neg (by omega)]
  split
  · exact .inl ⟨_, _, rfl, hb _⟩
  · split
    · exact .inr (.inl ⟨_, _, _, rfl, hb _⟩)
    · exact .inr (.inr ⟨_, _, _, _, rfl, hb _⟩)

theorem index_none (t : ByteArray) (y : UInt8) (hy : 128 ≤ y.toNat) (ht : (t.data.toList.all fun b => decide (b.toNat < 128)) = true) (w : World) :
    Calls Tryz.prog 119 #[.string t, .int .u8 y.toNat] w fun e w' => e = .returned (.int .i64 (-1)) ∧ w' = w := by
  refine (Tryz.strings_IndexByte t y.toNat w).mono ?_
  rintro e w' ⟨rfl, rfl⟩
  have h1 : (y.toNat : Int).toNat.toUInt8 = y := by simp
  have h2 := index_has t.data.toList y
  have h3 : t.data.toList.contains y = false := by
    rw [Bool.eq_false_iff]
    intro h
    rw [List.contains_iff_mem] at h
    have := List.all_eq_true.1 ht y h
    simp at this; omega
  rw [h3, decide_eq_false_iff_not] at h2
  have h4 := Lib.indexByte_ge t.data.toList y
  rw [h1]
  exact ⟨ret_int (by omega), rfl⟩

theorem Kept.iterAt {B : Nat} {a w : World} (h : Kept B a w) {g : Nat} (hg : a.heap.size ≤ g) (hB : B ≤ g) (s : ByteArray) (p : Nat) : Kept B a (w.iterAt g s p) :=
  ⟨Lib.below_iterAt h.below hB s p, fun k t q hk => by
    have := (Array.getElem?_eq_some_iff.1 hk).1
    rw [Lib.iterAt_other _ _ _ _ _ (by omega)]; exact h.iter k t q hk⟩

set_option maxHeartbeats 1000000 in
set_option maxRecDepth 1000000 in
/-- strings.IndexRune at the rune that stands for what is none, over an ASCII text -/
theorem rune_error (s : ByteArray) (hs : (s.data.toList.all fun b => decide (b.toNat < 128)) = true) (w : World) :
    Calls Tryz.prog 118 #[.string s, .int .i32 65533] w fun e w' => e = .returned (.int .i64 (-1)) ∧ Kept w.heap.size w w' := by
  go_enter Tryz.func118, Tryz.ntmps118
  go_wp2_with fail
  go_loopw [] (fun wr => ∃ pos : Nat, wr.heap[w.heap.size]? = some (Obj.stringIter s pos) ∧ pos ≤ s.size ∧ Hid (Kept w.heap.size w wr)) (fun wr => s.size - wr.iterPos w.heap.size)
  case atStart => exact ⟨0, heap_alloc_new _ _, Nat.zero_le _, (Kept.refl _ _).alloc (Nat.le_refl _) _⟩
  case round =>
    obtain ⟨pos, hit, hpos, hb⟩ := hrel
    by_cases hp : pos < s.size
    · have hnx : ∀ ty, (Instr.next (.pointer (some ⟨w.heap.size, 0, none⟩)) true ty).run Tryz.prog wr = _ := fun ty => Lib.run_next_any_at wr w.heap.size s pos ty hit hp
      have hit2 := Lib.iterAt_heap wr w.heap.size s pos (pos + (Utf8.decode s pos).2) hit
      have ha : (s[pos]'hp).toNat < 128 := by
        have := List.all_eq_true.1 hs (s[pos]'hp) (by show s.data[pos] ∈ _; simp)
        simpa using this
      have hdec := decode_ascii s pos hp ha
      have hne : (((Utf8.decode s pos).1 : Int) == 65533) = false := by rw [hdec, beq_eq_false_iff_ne]; simp only; omega
      have HB2 := Lib.hid (hb.out.iterAt (g := w.heap.size) (Nat.le_refl _) (Nat.le_refl _) s (pos + (Utf8.decode s pos).2))
      have HD := Lib.hid (show (Utf8.decode s pos).2 = 1 by rw [hdec])
      clear hdec ha
      generalize Utf8.decode s pos = dd at *
      go_wp2_with fail
      go_roundw
      case rel => exact ⟨pos + dd.2, hit2, by rw [HD.out]; omega, HB2.out⟩
      case measure =>
        simp only [World.iterPos, hit2, hit]
        rw [HD.out]; omega
    · have hnx : ∀ ty, (Instr.next (.pointer (some ⟨w.heap.size, 0, none⟩)) true ty).run Tryz.prog wr = _ := fun ty => Lib.run_next_end_at wr w.heap.size s pos ty hit hp
      go_wp2_with fail
      go_ret
      exact ⟨rfl, hb.out⟩

theorem ne_u8 {c y : UInt8} (hc : c.toNat < 128) (hy : 128 ≤ y.toNat) : ((c.toNat : Int) == (y.toNat : Int)) = false := by
  rw [beq_eq_false_iff_ne]; omega

theorem ascii_piece {s : ByteArray} (hs : (s.data.toList.all fun b => decide (b.toNat < 128)) = true) (a e : Nat) : ((s.extract a e).data.toList.all fun b => decide (b.toNat < 128)) = true :=
  List.all_eq_true.2 fun b hb => List.all_eq_true.1 hs b (mem_extract hb)

set_option maxHeartbeats 2000000 in
set_option maxRecDepth 1000000 in
/-- strings.IndexRune of any other rune beyond ASCII over an ASCII text -/
theorem rune_high (s : ByteArray) (h6 : 6 ≤ s.size) (h7 : s.size ≤ 7) (hs : (s.data.toList.all fun b => decide (b.toNat < 128)) = true) (sg : Int) (h : 128 ≤ sg) (hne : (sg == 65533) = false) (w : World) :
    Calls Tryz.prog 118 #[.string s, .int .i32 sg] w fun e w' => e = .returned (.int .i64 (-1)) ∧ Kept w.heap.size w w' := by
  cases hv : Lib.validRune sg with
  | false =>
    have HV := Lib.hid (fun w => Tryz.utf8_ValidRune sg w)
    rw [hv] at HV
    clear hv
    go_enter Tryz.func118, Tryz.ntmps118
    go_wp2_with (go_at_call 120; refine (HV.out _).mono ?_; rintro e w' ⟨rfl, hw⟩; rw [hw])
    go_ret
    exact ⟨rfl, Kept.refl _ _⟩
  | true =>
    have HV := Lib.hid (fun w => Tryz.utf8_ValidRune sg w)
    rw [hv] at HV
    clear hv
    have q0 : ∀ (i : Nat) (hi : i < s.size) (y : UInt8), 128 ≤ y.toNat → (((s[i]'hi).toNat : Int) == (y.toNat : Int)) = false := fun i hi y hy => ne_u8 (by
      have := List.all_eq_true.1 hs (s[i]'hi) (by show s.data[i] ∈ _; simp)
      simpa using this) hy
    have HN := Lib.hid (fun (a e : Nat) (y : UInt8) hy w => index_none (s.extract a e) y hy (ascii_piece hs a e) w)
    have hcv : ∀ w, (convert 21 9 (.int .i32 sg)).run Tryz.prog w = .ok (.string (Utf8.encode sg)) w := fun w => run_convert_int_string w _ _ _ _ (by kernel_rfl) (by kernel_rfl)
    have hw2 : IntKind.i64.wrap 2 = 2 := by decide
    have hw3 : IntKind.i64.wrap 3 = 3 := by decide
    have hw4 : IntKind.i64.wrap 4 = 4 := by decide
    have hz2 : (2 : Int) ≤ s.size := by omega
    have hz3 : (3 : Int) ≤ s.size := by omega
    have hz4 : (4 : Int) ≤ s.size := by omega
    clear hs
    rcases enc_high sg h with ⟨x, y, he, hy⟩ | ⟨x, z, y, he, hy⟩ | ⟨x, z, u, y, he, hy⟩
    · have q : (((s[1]'(by omega)).toNat : Int) == (((({ data := #[x, y] } : ByteArray)[1]'(by show 1 < 2; omega)).toNat : Int))) = false := q0 1 (by omega) y hy
      have HY := Lib.hid hy
      clear q0 hy
      go_enter Tryz.func118, Tryz.ntmps118
      go_wp2_with (go_at_call 120; refine (HV.out _).mono ?_; rintro e w' ⟨rfl, hw⟩)
      go_step3
      go_wp2_with fail
      refine wp_loop_rounds 1 ?_
      rw [rounds_succ]
      go_wp2_with fail
      go_step3
      go_wp2_with fail
      go_quiet (fail)
      go_wp2_with fail
      go_quiet ((go_at_call 119; refine (HN.out 2 s.size y HY.out _).mono ?_; rintro e w2 ⟨rfl, rfl⟩; exact ⟨rfl, _, rfl⟩))
      go_wp2_with fail
      rw [Exit.noGoto_ret]
      change Exit.noGoto (Exit.inBlock 0 _) Exit.ret _ _
      rw [Exit.noGoto_ret]
      change Exit.noGoto _ Exit.ret _ _
      rw [Exit.noGoto_ret]
      change bodyPost Tryz.prog Tryz.f118 (fun e w' => e = Ending.returned (Value.int IntKind.i64 (-1)) ∧ Kept w.heap.size w w') Exit.ret _ _
      go_ret
      subst hw
      exact ⟨rfl, ⟨⟨rfl, rfl, rfl, Nat.le_refl _, fun _ _ => rfl⟩, fun _ _ _ h => h⟩⟩
    · have q : (((s[2]'(by omega)).toNat : Int) == (((({ data := #[x, z, y] } : ByteArray)[2]'(by show 2 < 3; omega)).toNat : Int))) = false := q0 2 (by omega) y hy
      have HY := Lib.hid hy
      clear q0 hy
      go_enter Tryz.func118, Tryz.ntmps118
      go_wp2_with (go_at_call 120; refine (HV.out _).mono ?_; rintro e w' ⟨rfl, hw⟩)
      go_step3
      go_wp2_with fail
      refine wp_loop_rounds 1 ?_
      rw [rounds_succ]
      go_wp2_with fail
      go_step3
      go_wp2_with fail
      go_quiet (fail)
      go_wp2_with fail
      go_quiet ((go_at_call 119; refine (HN.out 3 s.size y HY.out _).mono ?_; rintro e w2 ⟨rfl, rfl⟩; exact ⟨rfl, _, rfl⟩))
      go_wp2_with fail
      rw [Exit.noGoto_ret]
      change Exit.noGoto (Exit.inBlock 0 _) Exit.ret _ _
      rw [Exit.noGoto_ret]
      change Exit.noGoto _ Exit.ret _ _
      rw [Exit.noGoto_ret]
      change bodyPost Tryz.prog Tryz.f118 (fun e w' => e = Ending.returned (Value.int IntKind.i64 (-1)) ∧ Kept w.heap.size w w') Exit.ret _ _
      go_ret
      subst hw
      exact ⟨rfl, ⟨⟨rfl, rfl, rfl, Nat.le_refl _, fun _ _ => rfl⟩, fun _ _ _ h => h⟩⟩
    · have q : (((s[3]'(by omega)).toNat : Int) == (((({ data := #[x, z, u, y] } : ByteArray)[3]'(by show 3 < 4; omega)).toNat : Int))) = false := q0 3 (by omega) y hy
      have HY := Lib.hid hy
      clear q0 hy
      go_enter Tryz.func118, Tryz.ntmps118
      go_wp2_with (go_at_call 120; refine (HV.out _).mono ?_; rintro e w' ⟨rfl, hw⟩)
      go_step3
      go_wp2_with fail
      refine wp_loop_rounds 1 ?_
      rw [rounds_succ]
      go_wp2_with fail
      go_step3
      go_wp2_with fail
      go_quiet (fail)
      go_wp2_with fail
      go_quiet ((go_at_call 119; refine (HN.out 4 s.size y HY.out _).mono ?_; rintro e w2 ⟨rfl, rfl⟩; exact ⟨rfl, _, rfl⟩))
      go_wp2_with fail
      rw [Exit.noGoto_ret]
      change Exit.noGoto (Exit.inBlock 0 _) Exit.ret _ _
      rw [Exit.noGoto_ret]
      change Exit.noGoto _ Exit.ret _ _
      rw [Exit.noGoto_ret]
      change bodyPost Tryz.prog Tryz.f118 (fun e w' => e = Ending.returned (Value.int IntKind.i64 (-1)) ∧ Kept w.heap.size w w') Exit.ret _ _
      go_ret
      subst hw
      exact ⟨rfl, ⟨⟨rfl, rfl, rfl, Nat.le_refl _, fun _ _ => rfl⟩, fun _ _ _ h => h⟩⟩

set_option maxHeartbeats 400000 in
/-- strings.ContainsRune over the signs -/
theorem contains_sign (kk : Bool) (sg : Int) (c : UInt8) (hs : Sg sg c) (w : World) :
    Calls Tryz.prog 115 #[.string (sigs kk), .int .i32 sg] w fun e w' => e = .returned (.bool (inSigs kk c)) ∧ Kept w.heap.size w w' := by
  rcases hs with ⟨rfl, h⟩ | ⟨rfl, h⟩
  · refine (Tryz.strings_ContainsRune_ascii (sigs kk) c.toNat w (by omega) (by omega)).mono ?_
    rintro e w' ⟨rfl, rfl⟩
    have h1 : ((c.toNat : Int)).toNat.toUInt8 = c := by simp
    rw [h1, index_has]
    exact ⟨rfl, Kept.refl _ _⟩
  · have HR := Lib.hid (show Calls Tryz.prog 118 #[.string (sigs kk), .int .i32 sg] w fun e w' => e = .returned (.int .i64 (-1)) ∧ Kept w.heap.size w w' by
      cases hne : sg == 65533 with
      | true =>
        rw [beq_iff_eq] at hne
        subst hne
        exact rune_error _ (by cases kk <;> rfl) w
      | false => exact rune_high _ (by cases kk <;> decide) (by cases kk <;> decide) (by cases kk <;> rfl) sg h hne w)
    have HF := Lib.hid (show inSigs kk 128 = false by cases kk <;> rfl)
    generalize sigs kk = s at *
    go_enter Tryz.func115, Tryz.ntmps115
    go_wp2_with (go_at_call 118; refine HR.out.mono ?_; rintro e w' ⟨rfl, hK⟩)
    go_ret
    exact ⟨ret_bool HF.out.symm, by assumption⟩
end Go.Proofs.YtkdnbdgpcgookaaGreatDoor
