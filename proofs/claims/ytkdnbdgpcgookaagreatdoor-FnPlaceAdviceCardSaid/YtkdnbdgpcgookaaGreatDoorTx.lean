/- A byte stands in a list exactly if its first index there is not negative. No condition. The signs of a body, and strings.ContainsRune over them: whether a sign may begin a statement. No condition. The program's (*reader).begin, take and finish do to the reader in memory what the plain reader does; where that refuses a sign they panic. Conditions: at most 400 signs held. The program's (*reader).finish and readStatements: the statements of a text that is a body, laid in memory, and true; else nil and false. Condition: the limit is at most 400 bytes. -/
import Derived.Test.YtkdnbdgpcgookaaGreatDoorLow
import Derived.Test.YtkdnbdgpcgookaaGreatDoorShelf
import Derived.Test.YtkdnbdgpcgookaaGreatDoorRd
import Derived.Lib.OthersKept
import Derived.Laws.Runes
import Derived.WalkMore
import Derived.Deep.QuietTactic
import Derived.BigQuiet
import Derived.Test.YtkdnbdgpcgookaaGreatDoorKx
namespace Go.Proofs.YtkdnbdgpcgookaaGreatDoor
open Go.RowKit Gram

theorem index_has (l : List UInt8) (c : UInt8) : decide (0 ≤ Lib.indexByte l c) = l.contains c := by
  induction l with
  | nil => rfl
  | cons b l ih =>
    have hge := Lib.indexByte_ge l c
    rw [Lib.indexByte, List.contains_cons]
    by_cases hb : b == c
    · rw [if_pos hb]
      have : (c == b) = true := by rw [beq_iff_eq] at hb ⊢; exact hb.symm
      rw [this]; rfl
    · rw [if_neg hb]
      have : (c == b) = false := by
        rw [beq_eq_false_iff_ne]
        rintro rfl
        simp at hb
      rw [this, Bool.false_or, ← ih]
      by_cases h1 : Lib.indexByte l c == -1
      · rw [if_pos h1]; rw [beq_iff_eq] at h1; rw [h1]
      · rw [if_neg h1]
        have : Lib.indexByte l c ≠ -1 := by simpa using h1
        rw [decide_eq_decide]; omega

end Go.Proofs.YtkdnbdgpcgookaaGreatDoor
namespace Go.Proofs.YtkdnbdgpcgookaaGreatDoor
open Go.RowKit Gram

/-- the sign sg is the byte c, or none of ASCII -/
def Sg (sg : Int) (c : UInt8) : Prop := (sg = c.toNat ∧ c.toNat < 128) ∨ (c = 128 ∧ 128 ≤ sg)

theorem Sg.ne {sg : Int} {c : UInt8} (h : Sg sg c) {d : UInt8} (hd : d.toNat < 128) (hne : c ≠ d) : (sg == (d.toNat : Int)) = false := by
  rcases h with ⟨rfl, _⟩ | ⟨_, h2⟩
  · exact ne_int hne
  · rw [beq_eq_false_iff_ne]; omega


def inSigs (kk : Bool) (c : UInt8) : Bool := (sigs kk).data.toList.contains c
theorem inSigs_eq (kk : Bool) (c : UInt8) : inSigs kk c = decide ((c = 43 ∨ c = 45 ∨ c = 42 ∨ c = 67 ∨ c = 63) ∨ c = 80 ∨ (c = 75 ∧ kk = true)) := by
  rw [Bool.eq_iff_iff, decide_eq_true_iff]
  cases kk
  · simp only [inSigs, sigs, Bool.false_eq_true, if_false, and_false, or_false, List.contains_iff_mem, List.mem_cons, List.not_mem_nil]
    constructor
    · rintro (h | h | h | h | h | h) <;> simp [h]
    · rintro ((h | h | h | h | h) | h) <;> simp [h]
  · simp only [inSigs, sigs, if_true, and_true, List.contains_iff_mem, List.mem_cons, List.not_mem_nil, or_false]
    constructor
    · rintro (h | h | h | h | h | h | h) <;> simp [h]
    · rintro ((h | h | h | h | h) | h | h) <;> simp [h]

/-! ### a sign beyond ASCII -/
theorem enc_high (r : Int) (h : 128 ≤ r) : (∃ x y : UInt8, Utf8.encode r = ⟨#[x, y]⟩ ∧ 128 ≤ y.toNat) ∨ (∃ x y z : UInt8, Utf8.encode r = ⟨#[x, y, z]⟩ ∧ 128 ≤ z.toNat) ∨ (∃ x y z u : UInt8, Utf8.encode r = ⟨#[x, y, z, u]⟩ ∧ 128 ≤ u.toNat) := by
  have hb : ∀ n : Nat, 128 ≤ (UInt8.ofNat (0x80 + n % 64)).toNat := fun n => by
    rw [UInt8.toNat_ofNat']; omega
  have hc : 128 ≤ (if Utf8.valid r then r.toNat else Utf8.runeError) := by
    split
    · omega
    · decide
  unfold Utf8.encode
  generalize (if Utf8.valid r then r.toNat else Utf8.runeError) = c at hc ⊢
  simp only
  rw [if_neg (by omega)]
  split
  · exact .inl ⟨_, _, rfl, hb _⟩
  · split
    · exact .inr (.inl ⟨_, _, _, rfl, hb _⟩)
    · exact .inr (.inr ⟨_, _, _, _, rfl, hb _⟩)

theorem index_none (t : ByteArray) (y : UInt8) (hy : 128 ≤ y.toNat) (ht : (t.data.toList.all fun b => decide (b.toNat < 128)) = true) (w : World) :
    Calls Tryz.prog 119 #[.string t, .int .u8 y.toNat] w fun e w' => e = .returned (.int .i64 (-1)) ∧ w' = w := by
  refine (Tryz.strings_IndexByte t y.toNat w).mono ?_
  rintro e w' ⟨rfl, rfl⟩
  have h1 : (y.toNat : Int).toNat.toUInt8 = y := by simp
  have h2 := index_has t.data.toList y
  have h3 : t.data.toList.contains y = false := by
    rw [Bool.eq_false_iff]
    intro h
    rw [List.contains_iff_mem] at h
    have := List.all_eq_true.1 ht y h
    simp at this; omega
  rw [h3, decide_eq_false_iff_not] at h2
  have h4 := Lib.indexByte_ge t.data.toList y
  rw [h1]
  exact ⟨ret_int (by omega), rfl⟩

theorem Kept.iterAt {B : Nat} {a w : World} (h : Kept B a w) {g : Nat} (hg : a.heap.size ≤ g) (hB : B ≤ g) (s : ByteArray) (p : Nat) : Kept B a (w.iterAt g s p) :=
  ⟨Lib.below_iterAt h.below hB s p, fun k t q hk => by
    have := (Array.getElem?_eq_some_iff.1 hk).1
    rw [Lib.iterAt_other _ _ _ _ _ (by omega)]; exact h.iter k t q hk⟩

set_option maxHeartbeats 1000000 in
set_option maxRecDepth 1000000 in
/-- strings.IndexRune at the rune that stands for what is none, over an ASCII text -/
theorem rune_error (s : ByteArray) (hs : (s.data.toList.all fun b => decide (b.toNat < 128)) = true) (w : World) :
    Calls Tryz.prog 118 #[.string s, .int .i32 65533] w fun e w' => e = .returned (.int .i64 (-1)) ∧ Kept w.heap.size w w' := by
  go_enter Tryz.func118, Tryz.ntmps118
  go_wp2_with fail
  go_loopw [] (fun wr => ∃ pos : Nat, wr.heap[w.heap.size]? = some (Obj.stringIter s pos) ∧ pos ≤ s.size ∧ Hid (Kept w.heap.size w wr)) (fun wr => s.size - wr.iterPos w.heap.size)
  case atStart => exact ⟨0, heap_alloc_new _ _, Nat.zero_le _, (Kept.refl _ _).alloc (Nat.le_refl _) _⟩
  case round =>
    obtain ⟨pos, hit, hpos, hb⟩ := hrel
    by_cases hp : pos < s.size
    · have hnx : ∀ ty, (Instr.next (.pointer (some ⟨w.heap.size, 0, none⟩)) true ty).run Tryz.prog wr = _ := fun ty => Lib.run_next_any_at wr w.heap.size s pos ty hit hp
      have hit2 := Lib.iterAt_heap wr w.heap.size s pos (pos + (Utf8.decode s pos).2) hit
      have ha : (s[pos]'hp).toNat < 128 := by
        have := List.all_eq_true.1 hs (s[pos]'hp) (by show s.data[pos] ∈ _; simp)
        simpa using this
      have hdec := decode_ascii s pos hp ha
      have hne : (((Utf8.decode s pos).1 : Int) == 65533) = false := by rw [hdec, beq_eq_false_iff_ne]; simp only; omega
      have HB2 := Lib.hid (hb.out.iterAt (g := w.heap.size) (Nat.le_refl _) (Nat.le_refl _) s (pos + (Utf8.decode s pos).2))
      have HD := Lib.hid (show (Utf8.decode s pos).2 = 1 by rw [hdec])
      clear hdec ha
      generalize Utf8.decode s pos = dd at *
      go_wp2_with fail
      go_roundw
      case rel => exact ⟨pos + dd.2, hit2, by rw [HD.out]; omega, HB2.out⟩
      case measure =>
        simp only [World.iterPos, hit2, hit]
        rw [HD.out]; omega
    · have hnx : ∀ ty, (Instr.next (.pointer (some ⟨w.heap.size, 0, none⟩)) true ty).run Tryz.prog wr = _ := fun ty => Lib.run_next_end_at wr w.heap.size s pos ty hit hp
      go_wp2_with fail
      go_ret
      exact ⟨rfl, hb.out⟩

theorem ne_u8 {c y : UInt8} (hc : c.toNat < 128) (hy : 128 ≤ y.toNat) : ((c.toNat : Int) == (y.toNat : Int)) = false := by
  rw [beq_eq_false_iff_ne]; omega

theorem ascii_piece {s : ByteArray} (hs : (s.data.toList.all fun b => decide (b.toNat < 128)) = true) (a e : Nat) : ((s.extract a e).data.toList.all fun b => decide (b.toNat < 128)) = true :=
  List.all_eq_true.2 fun b hb => List.all_eq_true.1 hs b (mem_extract hb)

set_option maxHeartbeats 2000000 in
set_option maxRecDepth 1000000 in
/-- strings.IndexRune of any other rune beyond ASCII over an ASCII text -/
theorem rune_high (s : ByteArray) (h6 : 6 ≤ s.size) (h7 : s.size ≤ 7) (hs : (s.data.toList.all fun b => decide (b.toNat < 128)) = true) (sg : Int) (h : 128 ≤ sg) (hne : (sg == 65533) = false) (w : World) :
    Calls Tryz.prog 118 #[.string s, .int .i32 sg] w fun e w' => e = .returned (.int .i64 (-1)) ∧ Kept w.heap.size w w' := by
  cases hv : Lib.validRune sg with
  | false =>
    have HV := Lib.hid (fun w => Tryz.utf8_ValidRune sg w)
    rw [hv] at HV
    clear hv
    go_enter Tryz.func118, Tryz.ntmps118
    go_wp2_with (go_at_call 120; refine (HV.out _).mono ?_; rintro e w' ⟨rfl, hw⟩; rw [hw])
    go_ret
    exact ⟨rfl, Kept.refl _ _⟩
  | true =>
    have HV := Lib.hid (fun w => Tryz.utf8_ValidRune sg w)
    rw [hv] at HV
    clear hv
    have q0 : ∀ (i : Nat) (hi : i < s.size) (y : UInt8), 128 ≤ y.toNat → (((s[i]'hi).toNat : Int) == (y.toNat : Int)) = false := fun i hi y hy => ne_u8 (by
      have := List.all_eq_true.1 hs (s[i]'hi) (by show s.data[i] ∈ _; simp)
      simpa using this) hy
    have HN := Lib.hid (fun (a e : Nat) (y : UInt8) hy w => index_none (s.extract a e) y hy (ascii_piece hs a e) w)
    have hcv : ∀ w, (convert 21 9 (.int .i32 sg)).run Tryz.prog w = .ok (.string (Utf8.encode sg)) w := fun w => run_convert_int_string w _ _ _ _ (by kernel_rfl) (by kernel_rfl)
    have hw2 : IntKind.i64.wrap 2 = 2 := by decide
    have hw3 : IntKind.i64.wrap 3 = 3 := by decide
    have hw4 : IntKind.i64.wrap 4 = 4 := by decide
    have hz2 : (2 : Int) ≤ s.size := by omega
    have hz3 : (3 : Int) ≤ s.size := by omega
    have hz4 : (4 : Int) ≤ s.size := by omega
    clear hs
    rcases enc_high sg h with ⟨x, y, he, hy⟩ | ⟨x, z, y, he, hy⟩ | ⟨x, z, u, y, he, hy⟩
    · have q : (((s[1]'(by omega)).toNat : Int) == (((({ data := #[x, y] } : ByteArray)[1]'(by show 1 < 2; omega)).toNat : Int))) = false := q0 1 (by omega) y hy
      have HY := Lib.hid hy
      clear q0 hy
      go_enter Tryz.func118, Tryz.ntmps118
      go_wp2_with (go_at_call 120; refine (HV.out _).mono ?_; rintro e w' ⟨rfl, hw⟩)
      go_step3
      go_wp2_with fail
      refine wp_loop_rounds 1 ?_
      rw [rounds_succ]
      go_wp2_with fail
      go_step3
      go_wp2_with fail
      go_quiet (fail)
      go_wp2_with fail
      go_quiet ((go_at_call 119; refine (HN.out 2 s.size y HY.out _).mono ?_; rintro e w2 ⟨rfl, rfl⟩; exact ⟨rfl, _, rfl⟩))
      go_wp2_with fail
      rw [Exit.noGoto_ret]
      change Exit.noGoto (Exit.inBlock 0 _) Exit.ret _ _
      rw [Exit.noGoto_ret]
      change Exit.noGoto _ Exit.ret _ _
      rw [Exit.noGoto_ret]
      change bodyPost Tryz.prog Tryz.f118 (fun e w' => e = Ending.returned (Value.int IntKind.i64 (-1)) ∧ Kept w.heap.size w w') Exit.ret _ _
      go_ret
      subst hw
      exact ⟨rfl, ⟨⟨rfl, rfl, rfl, Nat.le_refl _, fun _ _ => rfl⟩, fun _ _ _ h => h⟩⟩
    · have q : (((s[2]'(by omega)).toNat : Int) == (((({ data := #[x, z, y] } : ByteArray)[2]'(by show 2 < 3; omega)).toNat : Int))) = false := q0 2 (by omega) y hy
      have HY := Lib.hid hy
      clear q0 hy
      go_enter Tryz.func118, Tryz.ntmps118
      go_wp2_with (go_at_call 120; refine (HV.out _).mono ?_; rintro e w' ⟨rfl, hw⟩)
      go_step3
      go_wp2_with fail
      refine wp_loop_rounds 1 ?_
      rw [rounds_succ]
      go_wp2_with fail
      go_step3
      go_wp2_with fail
      go_quiet (fail)
      go_wp2_with fail
      go_quiet ((go_at_call 119; refine (HN.out 3 s.size y HY.out _).mono ?_; rintro e w2 ⟨rfl, rfl⟩; exact ⟨rfl, _, rfl⟩))
      go_wp2_with fail
      rw [Exit.noGoto_ret]
      change Exit.noGoto (Exit.inBlock 0 _) Exit.ret _ _
      rw [Exit.noGoto_ret]
      change Exit.noGoto _ Exit.ret _ _
      rw [Exit.noGoto_ret]
      change bodyPost Tryz.prog Tryz.f118 (fun e w' => e = Ending.returned (Value.int IntKind.i64 (-1)) ∧ Kept w.heap.size w w') Exit.ret _ _
      go_ret
      subst hw
      exact ⟨rfl, ⟨⟨rfl, rfl, rfl, Nat.le_refl _, fun _ _ => rfl⟩, fun _ _ _ h => h⟩⟩
    · have q : (((s[3]'(by omega)).toNat : Int) == (((({ data := #[x, z, u, y] } : ByteArray)[3]'(by show 3 < 4; omega)).toNat : Int))) = false := q0 3 (by omega) y hy
      have HY := Lib.hid hy
      clear q0 hy
      go_enter Tryz.func118, Tryz.ntmps118
      go_wp2_with (go_at_call 120; refine (HV.out _).mono ?_; rintro e w' ⟨rfl, hw⟩)
      go_step3
      go_wp2_with fail
      refine wp_loop_rounds 1 ?_
      rw [rounds_succ]
      go_wp2_with fail
      go_step3
      go_wp2_with fail
      go_quiet (fail)
      go_wp2_with fail
      go_quiet ((go_at_call 119; refine (HN.out 4 s.size y HY.out _).mono ?_; rintro e w2 ⟨rfl, rfl⟩; exact ⟨rfl, _, rfl⟩))
      go_wp2_with fail
      rw [Exit.noGoto_ret]
      change Exit.noGoto (Exit.inBlock 0 _) Exit.ret _ _
      rw [Exit.noGoto_ret]
      change Exit.noGoto _ Exit.ret _ _
      rw [Exit.noGoto_ret]
      change bodyPost Tryz.prog Tryz.f118 (fun e w' => e = Ending.returned (Value.int IntKind.i64 (-1)) ∧ Kept w.heap.size w w') Exit.ret _ _
      go_ret
      subst hw
      exact ⟨rfl, ⟨⟨rfl, rfl, rfl, Nat.le_refl _, fun _ _ => rfl⟩, fun _ _ _ h => h⟩⟩

set_option maxHeartbeats 400000 in
/-- strings.ContainsRune over the signs -/
theorem contains_sign (kk : Bool) (sg : Int) (c : UInt8) (hs : Sg sg c) (w : World) :
    Calls Tryz.prog 115 #[.string (sigs kk), .int .i32 sg] w fun e w' => e = .returned (.bool (inSigs kk c)) ∧ Kept w.heap.size w w' := by
  rcases hs with ⟨rfl, h⟩ | ⟨rfl, h⟩
  · refine (Tryz.strings_ContainsRune_ascii (sigs kk) c.toNat w (by omega) (by omega)).mono ?_
    rintro e w' ⟨rfl, rfl⟩
    have h1 : ((c.toNat : Int)).toNat.toUInt8 = c := by simp
    rw [h1, index_has]
    exact ⟨rfl, Kept.refl _ _⟩
  · have HR := Lib.hid (show Calls Tryz.prog 118 #[.string (sigs kk), .int .i32 sg] w fun e w' => e = .returned (.int .i64 (-1)) ∧ Kept w.heap.size w w' by
      cases hne : sg == 65533 with
      | true =>
        rw [beq_iff_eq] at hne
        subst hne
        exact rune_error _ (by cases kk <;> rfl) w
      | false => exact rune_high _ (by cases kk <;> decide) (by cases kk <;> decide) (by cases kk <;> rfl) sg h hne w)
    have HF := Lib.hid (show inSigs kk 128 = false by cases kk <;> rfl)
    generalize sigs kk = s at *
    go_enter Tryz.func115, Tryz.ntmps115
    go_wp2_with (go_at_call 118; refine HR.out.mono ?_; rintro e w' ⟨rfl, hK⟩)
    go_ret
    exact ⟨ret_bool HF.out.symm, by assumption⟩
end Go.Proofs.YtkdnbdgpcgookaaGreatDoor
namespace Go.Proofs.YtkdnbdgpcgookaaGreatDoor
open Go.RowKit Gram

/-- what becomes of the reader -/
def Done (kk : Bool) (B rb : Nat) (w : World) (o : Option St) (r : Ending) (w' : World) : Prop :=
  (match o with
    | some st' => r = .returned (.tuple #[]) ∧ RdS w' kk B rb st'
    | none => Panics r) ∧ Kept B w w'

theorem RdS.pend {w : World} {kk : Bool} {B rb : Nat} {st : St} (h : RdS w kk B rb st) (q : UInt8) : RdS (w.setCell ⟨rb, 2, none⟩ (.int .i32 q.toNat)) kk B rb { st with pend := q } ∧ Kept B w (w.setCell ⟨rb, 2, none⟩ (.int .i32 q.toNat)) := by
  obtain ⟨g, cap, e, t, S, hR, hu, ht, _⟩ := h.parts
  exact ⟨⟨_, _, _, _, hR.pend _, by simp [hu, ht]⟩, (Kept.refl B w).setCell hR.low _⟩
theorem RdS.cell1 {w : World} {kk : Bool} {B rb : Nat} {st : St} (h : RdS w kk B rb st) : w.cell? ⟨rb, 2, none⟩ = some (.int .i32 st.pend.toNat) := by
  obtain ⟨g, cap, e, t, S, hR, _⟩ := h.parts
  have := Lib.cell_of_heap hR.own 2
  simpa using this
theorem RdS.free1 {w : World} {kk : Bool} {B rb : Nat} {st : St} (h : RdS w kk B rb st) : w.frozen? ⟨rb, 2, none⟩ = false := by
  obtain ⟨g, cap, e, t, S, hR, _⟩ := h.parts
  exact Lib.frozen_of_heap hR.own 2
theorem adds_plain {w : World} {kk : Bool} {B rb : Nat} {st : St} (h : RdS w kk B rb st) (x : Stm) (v : Value) (hx : ∀ S, IsStm w S x v) (hl : st.rest.length ≤ 1000) (hn : st.top.list.length ≤ 1000) (hB : B ≤ w.heap.size) :
    Calls Tryz.prog 100 #[.pointer (some ⟨rb, 0, none⟩), v] w fun r w' => r = .returned (.tuple #[]) ∧ RdS w' kk B rb (st.add x) ∧ Kept B w w' := by
  obtain ⟨g, cap, e, t, S, hR, hu, ht, _⟩ := h.parts
  exact adds_any hR hu ht (hx S) hl hn hB

section
variable {w : World} {kk : Bool} {B rb : Nat} {st : St}

theorem RdS.kept {w' : World} (h : RdS w kk B rb st) (hK : Kept w.heap.size w w') : RdS w' kk B rb st := by
  obtain ⟨g, cap, ents, S, hR, hm⟩ := h
  exact ⟨g, cap, ents, S, hR.later (fun k hk => hK.below.block k hk), hm⟩
theorem RdS.cellS (h : RdS w kk B rb st) : w.cell? ⟨rb, 0, none⟩ = some (.string (sigs kk)) := by
  obtain ⟨g, cap, e, t, S, hR, _⟩ := h.parts
  have := Lib.cell_of_heap hR.own 0
  simpa using this

set_option maxHeartbeats 400000 in
/-- a sign that begins a statement of two parts -/
theorem begin_lit (h : RdS w kk B rb st) (hB : B ≤ w.heap.size) (d : UInt8) (hd : d = 43 ∨ d = 45 ∨ d = 42 ∨ d = 67 ∨ d = 63) :
    Calls Tryz.prog 103 #[.pointer (some ⟨rb, 0, none⟩), .int .i32 d.toNat] w fun r w' => r = .returned (.tuple #[]) ∧ RdS w' kk B rb { st with pend := d } ∧ Kept B w w' := by
  have hc0 := h.cellS
  have hin : inSigs kk d = true := by rcases hd with rfl | rfl | rfl | rfl | rfl <;> cases kk <;> rfl
  have HC := Lib.hid (contains_sign kk d.toNat d (.inl ⟨rfl, by rcases hd with rfl | rfl | rfl | rfl | rfl <;> decide⟩) w)
  rw [hin] at HC
  have HH := Lib.hid h
  have HB := Lib.hid hB
  clear h hin hB
  rcases hd with rfl | rfl | rfl | rfl | rfl
  all_goals
    go_enter Tryz.func103, Tryz.ntmps103
    go_wp2_with fail
    refine HC.out.mono ?_
    rintro e w' ⟨rfl, hK⟩
    have h' := HH.out.kept hK
    have hc := h'.cell1
    have hf := h'.free1
    have HP := Lib.hid (fun q => h'.pend q)
    have HK := Lib.hid hK
    clear h' hK
    go_wp2_with fail
    first | go_end0 | refine bodyPost_ret (results_none rfl _ _ _) rfl ?_
    first | exact ⟨rfl, (HP.out 43).1, (HK.out.mono HB.out).trans (HP.out 43).2⟩ | exact ⟨rfl, (HP.out 45).1, (HK.out.mono HB.out).trans (HP.out 45).2⟩ | exact ⟨rfl, (HP.out 42).1, (HK.out.mono HB.out).trans (HP.out 42).2⟩ | exact ⟨rfl, (HP.out 67).1, (HK.out.mono HB.out).trans (HP.out 67).2⟩ | exact ⟨rfl, (HP.out 63).1, (HK.out.mono HB.out).trans (HP.out 63).2⟩

set_option maxHeartbeats 400000 in
/-- a sign that is a statement -/
theorem begin_one (h : RdS w kk B rb st) (d : UInt8) (x : Stm) (hd : d = 80 ∧ x = .prt ∨ d = 75 ∧ x = .pro ∧ kk = true) (hl : st.rest.length ≤ 1000) (hn : st.top.list.length ≤ 1000) (hB : B ≤ w.heap.size) :
    Calls Tryz.prog 103 #[.pointer (some ⟨rb, 0, none⟩), .int .i32 d.toNat] w fun r w' => r = .returned (.tuple #[]) ∧ RdS w' kk B rb (st.add x) ∧ Kept B w w' := by
  have hc0 := h.cellS
  have hin : inSigs kk d = true := by rcases hd with ⟨rfl, _⟩ | ⟨rfl, _, rfl⟩ <;> first | rfl | (cases kk <;> rfl)
  have HC := Lib.hid (contains_sign kk d.toNat d (.inl ⟨rfl, by rcases hd with ⟨rfl, _⟩ | ⟨rfl, _⟩ <;> decide⟩) w)
  rw [hin] at HC
  have HH := Lib.hid h
  have HB := Lib.hid (⟨hB, hl, hn⟩ : _ ∧ _ ∧ _)
  clear h hin hB hl hn
  rcases hd with ⟨rfl, rfl⟩ | ⟨rfl, rfl, rfl⟩
  · go_enter Tryz.func103, Tryz.ntmps103
    go_wp2_with fail
    refine HC.out.mono ?_
    rintro e w' ⟨rfl, hK⟩
    have HK := Lib.hid hK
    have HA := Lib.hid (adds_plain (HH.out.kept hK) .prt _ (fun S => rfl) HB.out.2.1 HB.out.2.2 (Nat.le_trans HB.out.1 hK.below.size))
    clear hK
    go_wp2_with fail
    refine HA.out.mono ?_
    rintro e w'' ⟨rfl, hR, hb⟩
    go_wp2_with fail
    go_end0
    exact ⟨rfl, hR, (HK.out.mono HB.out.1).trans hb⟩
  · go_enter Tryz.func103, Tryz.ntmps103
    go_wp2_with fail
    refine HC.out.mono ?_
    rintro e w' ⟨rfl, hK⟩
    have HK := Lib.hid hK
    have HA := Lib.hid (adds_plain (HH.out.kept hK) .pro _ (fun S => rfl) HB.out.2.1 HB.out.2.2 (Nat.le_trans HB.out.1 hK.below.size))
    clear hK
    go_wp2_with fail
    refine HA.out.mono ?_
    rintro e w'' ⟨rfl, hR, hb⟩
    go_wp2_with fail
    go_end0
    exact ⟨rfl, hR, (HK.out.mono HB.out.1).trans hb⟩

set_option maxHeartbeats 400000 in
/-- a sign that begins nothing -/
theorem begin_bad (h : RdS w kk B rb st) (hB : B ≤ w.heap.size) (sg : Int) (c : UInt8) (hs : Sg sg c) (h3 : (sg == 93) = false) (hin : inSigs kk c = false) :
    Calls Tryz.prog 103 #[.pointer (some ⟨rb, 0, none⟩), .int .i32 sg] w fun r w' => Panics r ∧ Kept B w w' := by
  have hc0 := h.cellS
  have HC := Lib.hid (contains_sign kk sg c hs w)
  rw [hin] at HC
  have HB := Lib.hid hB
  clear h hB hs
  go_enter Tryz.func103, Tryz.ntmps103
  go_wp2_with fail
  refine HC.out.mono ?_
  rintro e w' ⟨rfl, hK⟩
  have HK := Lib.hid hK
  clear hK
  go_wp2_with fail
  exact ⟨rfl, ⟨_, _, rfl⟩, HK.out.mono HB.out⟩

theorem begin_none {k : Bool} {st : St} {c : UInt8} (h3 : c ≠ 93) (h : inSigs k c = false) : st.begin k c = none := by
  have hne : ∀ d : UInt8, inSigs k d = true → c ≠ d := fun d h1 h2 => by rw [h2, h1] at h; cases h
  have h1 : ¬ (c = 43 ∨ c = 45 ∨ c = 42 ∨ c = 67 ∨ c = 63) := by
    rintro (h | h | h | h | h)
    all_goals exact hne _ (by cases k <;> rfl) h
  rw [St.begin, if_neg h1, if_neg (hne 80 (by cases k <;> rfl)), if_neg h3, if_neg]
  rintro ⟨h5, rfl⟩
  exact hne 75 rfl h5

set_option maxHeartbeats 400000 in
theorem begin_any (h : RdS w kk B rb st) (hp : st.pend = 0) (sg : Int) (c : UInt8) (hs : Sg sg c) (hl : st.rest.length ≤ 900) (hn : st.top.list.length ≤ 1000) (hr : ∀ u ∈ st.rest, u.list.length ≤ 1000) (hB : B ≤ w.heap.size) :
    Calls Tryz.prog 103 #[.pointer (some ⟨rb, 0, none⟩), .int .i32 sg] w (Done kk B rb w (st.begin kk c)) := by
  have lit : ∀ d : UInt8, d.toNat < 128 → c = d → sg = d.toNat := fun d hd he => by
    rcases hs with ⟨a, _⟩ | ⟨a, _⟩
    · rw [a, he]
    · rw [he] at a; rw [a] at hd; exact absurd hd (by decide)
  by_cases h1 : c = 43 ∨ c = 45 ∨ c = 42 ∨ c = 67 ∨ c = 63
  · have hsg : sg = c.toNat := lit c (by rcases h1 with rfl | rfl | rfl | rfl | rfl <;> decide) rfl
    subst hsg
    refine (begin_lit h hB c h1).mono ?_
    rintro r w' ⟨a, b, d⟩
    exact ⟨by simp only [St.begin, if_pos h1]; exact ⟨a, b⟩, d⟩
  · by_cases h2 : c = 80
    · have hsg := lit 80 (by decide) h2
      subst hsg h2
      refine (begin_one h 80 .prt (.inl ⟨rfl, rfl⟩) (by omega) hn hB).mono ?_
      rintro r w' ⟨a, b, d⟩
      exact ⟨by rw [St.begin, if_neg h1, if_pos rfl]; exact ⟨a, b⟩, d⟩
    · by_cases h3 : c = 93
      · have hsg := lit 93 (by decide) h3
        subst hsg h3
        have e1 : st.begin kk 93 = st.close := by rw [St.begin, if_neg h1, if_neg h2, if_pos rfl]
        rw [e1]
        have HA := close_any h hp hl hr hB
        clear h e1 hs h1 h2 hp hr lit
        cases hcl : st.close with
        | none =>
          rw [hcl] at HA
          have HA := Lib.hid HA
          clear hcl
          go_enter Tryz.func103, Tryz.ntmps103
          go_wp2_with fail
          refine HA.out.mono ?_
          rintro e w' ⟨⟨u, pv, rfl⟩, hb⟩
          go_wp2_with fail
          exact ⟨rfl, ⟨_, _, rfl⟩, hb⟩
        | some st' =>
          rw [hcl] at HA
          have HA := Lib.hid HA
          clear hcl
          go_enter Tryz.func103, Tryz.ntmps103
          go_wp2_with fail
          refine HA.out.mono ?_
          rintro e w' ⟨⟨rfl, hR⟩, hb⟩
          go_wp2_with fail
          go_end0
          exact ⟨⟨rfl, hR⟩, hb⟩
      · by_cases h4 : c = 75 ∧ kk = true
        · have hsg := lit 75 (by decide) h4.1
          obtain ⟨rfl, hk⟩ := h4
          subst hsg
          refine (begin_one h 75 .pro (.inr ⟨rfl, rfl, hk⟩) (by omega) hn hB).mono ?_
          rintro r w' ⟨a, b, d⟩
          exact ⟨by rw [St.begin, if_neg h1, if_neg h2, if_neg h3, if_pos ⟨rfl, hk⟩]; exact ⟨a, b⟩, d⟩
        · have hin : inSigs kk c = false := by
            rw [inSigs_eq]
            simp only [decide_eq_false_iff_not]
            rintro (h | h | h)
            · exact h1 h
            · exact h2 h
            · exact h4 h
          rw [begin_none h3 hin]
          exact begin_bad h hB sg c hs (hs.ne (d := 93) (by decide) h3) hin
end
theorem Sg.dig {sg : Int} {c : UInt8} (h : Sg sg c) (hd : isDig c = true) : sg = c.toNat ∧ (48 : Int) ≤ c.toNat ∧ (c.toNat : Int) ≤ 57 := by
  rcases h with ⟨rfl, _⟩ | ⟨rfl, _⟩
  · rw [isDig_int] at hd; simp at hd; omega
  · exact absurd hd (by decide)
theorem Sg.nodig {sg : Int} {c : UInt8} (h : Sg sg c) (hd : ¬ isDig c = true) : sg < 48 ∨ 57 < sg := by
  rcases h with ⟨rfl, _⟩ | ⟨_, h⟩
  · rw [isDig_int] at hd; simp at hd; omega
  · omega
theorem Sg.let_ {sg : Int} {c : UInt8} (h : Sg sg c) (hd : isLet c = true) : sg = c.toNat ∧ (97 : Int) ≤ c.toNat ∧ (c.toNat : Int) ≤ 122 := by
  rcases h with ⟨rfl, _⟩ | ⟨rfl, _⟩
  · rw [isLet_int] at hd; simp at hd; omega
  · exact absurd hd (by decide)
theorem Sg.nolet {sg : Int} {c : UInt8} (h : Sg sg c) (hd : ¬ isLet c = true) : sg < 97 ∨ 122 < sg := by
  rcases h with ⟨rfl, _⟩ | ⟨_, h⟩
  · rw [isLet_int] at hd; simp at hd; omega
  · omega

section
variable {w : World} {kk : Bool} {B rb : Nat} {st : St}

set_option maxHeartbeats 400000 in
theorem take_sgn43 (h : RdS w kk B rb st) (hp : st.pend = 43) (sg : Int) (c : UInt8) (hs : Sg sg c) (hl : st.rest.length ≤ 900) (hn : st.top.list.length ≤ 900) (hB : B ≤ w.heap.size) :
    Calls Tryz.prog 83 #[.pointer (some ⟨rb, 0, none⟩), .int .i32 sg] w (Done kk B rb w (st.take kk c)) := by
  have hc := h.cell1
  have hf := h.free1
  obtain ⟨h0, hb0⟩ := h.pend 0
  rw [hp] at hc
  by_cases hd : isDig c = true
  · obtain ⟨rfl, hlo, hhi⟩ := hs.dig hd
    have HT := Lib.hid (show st.take kk c = some (St.add { st with pend := 0 } (.chg 43 c)) by
      rw [St.take, hp, if_pos (by decide), if_pos hd])
    have HA := Lib.hid (adds_plain h0 (.chg 43 c) _ (fun S => rfl) (by simpa using Nat.le_trans hl (by omega)) (by simpa using Nat.le_trans hn (by omega)) (by simp [World.setCell]; omega))
    have HB := Lib.hid hb0
    clear h h0 hb0 hd hs hp
    go_enter Tryz.func83, Tryz.ntmps83
    go_wp2_with (go_at_call 101; refine (between_yes _ _ _ (by omega) (by omega) (by omega) (by omega) _).mono ?_; rintro e w' ⟨rfl, rfl⟩)
    refine HA.out.mono ?_
    rintro e w' ⟨rfl, hR, hb⟩
    go_wp2_with fail
    go_end0
    exact ⟨by rw [HT.out]; exact ⟨rfl, hR⟩, HB.out.trans hb⟩
  · have HT := Lib.hid (show st.take kk c = none by
      rw [St.take, hp, if_pos (by decide), if_neg hd])
    have hno := Lib.hid (hs.nodig hd)
    have HB := Lib.hid hb0
    clear h h0 hb0 hd hs hp
    go_enter Tryz.func83, Tryz.ntmps83
    go_wp2_with fail
    refine (between_no _ _ _ hno.out _).mono ?_
    rintro e w' ⟨⟨u, pv, rfl⟩, rfl⟩
    go_wp2_with fail
    exact ⟨rfl, by rw [HT.out]; exact ⟨_, _, rfl⟩, HB.out⟩

set_option maxHeartbeats 400000 in
theorem take_sgn45 (h : RdS w kk B rb st) (hp : st.pend = 45) (sg : Int) (c : UInt8) (hs : Sg sg c) (hl : st.rest.length ≤ 900) (hn : st.top.list.length ≤ 900) (hB : B ≤ w.heap.size) :
    Calls Tryz.prog 83 #[.pointer (some ⟨rb, 0, none⟩), .int .i32 sg] w (Done kk B rb w (st.take kk c)) := by
  have hc := h.cell1
  have hf := h.free1
  obtain ⟨h0, hb0⟩ := h.pend 0
  rw [hp] at hc
  by_cases hd : isDig c = true
  · obtain ⟨rfl, hlo, hhi⟩ := hs.dig hd
    have HT := Lib.hid (show st.take kk c = some (St.add { st with pend := 0 } (.chg 45 c)) by
      rw [St.take, hp, if_pos (by decide), if_pos hd])
    have HA := Lib.hid (adds_plain h0 (.chg 45 c) _ (fun S => rfl) (by simpa using Nat.le_trans hl (by omega)) (by simpa using Nat.le_trans hn (by omega)) (by simp [World.setCell]; omega))
    have HB := Lib.hid hb0
    clear h h0 hb0 hd hs hp
    go_enter Tryz.func83, Tryz.ntmps83
    go_wp2_with (go_at_call 101; refine (between_yes _ _ _ (by omega) (by omega) (by omega) (by omega) _).mono ?_; rintro e w' ⟨rfl, rfl⟩)
    refine HA.out.mono ?_
    rintro e w' ⟨rfl, hR, hb⟩
    go_wp2_with fail
    go_end0
    exact ⟨by rw [HT.out]; exact ⟨rfl, hR⟩, HB.out.trans hb⟩
  · have HT := Lib.hid (show st.take kk c = none by
      rw [St.take, hp, if_pos (by decide), if_neg hd])
    have hno := Lib.hid (hs.nodig hd)
    have HB := Lib.hid hb0
    clear h h0 hb0 hd hs hp
    go_enter Tryz.func83, Tryz.ntmps83
    go_wp2_with fail
    refine (between_no _ _ _ hno.out _).mono ?_
    rintro e w' ⟨⟨u, pv, rfl⟩, rfl⟩
    go_wp2_with fail
    exact ⟨rfl, by rw [HT.out]; exact ⟨_, _, rfl⟩, HB.out⟩

set_option maxHeartbeats 400000 in
theorem take_sgn42 (h : RdS w kk B rb st) (hp : st.pend = 42) (sg : Int) (c : UInt8) (hs : Sg sg c) (hl : st.rest.length ≤ 900) (hn : st.top.list.length ≤ 900) (hB : B ≤ w.heap.size) :
    Calls Tryz.prog 83 #[.pointer (some ⟨rb, 0, none⟩), .int .i32 sg] w (Done kk B rb w (st.take kk c)) := by
  have hc := h.cell1
  have hf := h.free1
  obtain ⟨h0, hb0⟩ := h.pend 0
  rw [hp] at hc
  by_cases hd : isDig c = true
  · obtain ⟨rfl, hlo, hhi⟩ := hs.dig hd
    have HT := Lib.hid (show st.take kk c = some (St.add { st with pend := 0 } (.chg 42 c)) by
      rw [St.take, hp, if_pos (by decide), if_pos hd])
    have HA := Lib.hid (adds_plain h0 (.chg 42 c) _ (fun S => rfl) (by simpa using Nat.le_trans hl (by omega)) (by simpa using Nat.le_trans hn (by omega)) (by simp [World.setCell]; omega))
    have HB := Lib.hid hb0
    clear h h0 hb0 hd hs hp
    go_enter Tryz.func83, Tryz.ntmps83
    go_wp2_with (go_at_call 101; refine (between_yes _ _ _ (by omega) (by omega) (by omega) (by omega) _).mono ?_; rintro e w' ⟨rfl, rfl⟩)
    refine HA.out.mono ?_
    rintro e w' ⟨rfl, hR, hb⟩
    go_wp2_with fail
    go_end0
    exact ⟨by rw [HT.out]; exact ⟨rfl, hR⟩, HB.out.trans hb⟩
  · have HT := Lib.hid (show st.take kk c = none by
      rw [St.take, hp, if_pos (by decide), if_neg hd])
    have hno := Lib.hid (hs.nodig hd)
    have HB := Lib.hid hb0
    clear h h0 hb0 hd hs hp
    go_enter Tryz.func83, Tryz.ntmps83
    go_wp2_with fail
    refine (between_no _ _ _ hno.out _).mono ?_
    rintro e w' ⟨⟨u, pv, rfl⟩, rfl⟩
    go_wp2_with fail
    exact ⟨rfl, by rw [HT.out]; exact ⟨_, _, rfl⟩, HB.out⟩

set_option maxHeartbeats 400000 in
theorem take_call (h : RdS w kk B rb st) (hp : st.pend = 67) (sg : Int) (c : UInt8) (hs : Sg sg c) (hl : st.rest.length ≤ 900) (hn : st.top.list.length ≤ 900) (hB : B ≤ w.heap.size) :
    Calls Tryz.prog 83 #[.pointer (some ⟨rb, 0, none⟩), .int .i32 sg] w (Done kk B rb w (st.take kk c)) := by
  have hc := h.cell1
  have hf := h.free1
  obtain ⟨h0, hb0⟩ := h.pend 0
  rw [hp] at hc
  by_cases hd : isLet c = true
  · obtain ⟨rfl, hlo, hhi⟩ := hs.let_ hd
    have HT := Lib.hid (show st.take kk c = some (St.add { st with pend := 0 } (.call c)) by
      rw [St.take, hp, if_neg (by decide), if_pos rfl, if_pos hd])
    have HA := Lib.hid (adds_plain h0 (.call c) _ (fun S => rfl) (by simpa using Nat.le_trans hl (by omega)) (by simpa using Nat.le_trans hn (by omega)) (by simp [World.setCell]; omega))
    have HB := Lib.hid hb0
    clear h h0 hb0 hd hs hp
    go_enter Tryz.func83, Tryz.ntmps83
    go_wp2_with (go_at_call 101; refine (between_yes _ _ _ (by omega) (by omega) (by omega) (by omega) _).mono ?_; rintro e w' ⟨rfl, rfl⟩)
    refine HA.out.mono ?_
    rintro e w' ⟨rfl, hR, hb⟩
    go_wp2_with fail
    go_end0
    exact ⟨by rw [HT.out]; exact ⟨rfl, hR⟩, HB.out.trans hb⟩
  · have HT := Lib.hid (show st.take kk c = none by
      rw [St.take, hp, if_neg (by decide), if_pos rfl, if_neg hd])
    have hno := Lib.hid (hs.nolet hd)
    have HB := Lib.hid hb0
    clear h h0 hb0 hd hs hp
    go_enter Tryz.func83, Tryz.ntmps83
    go_wp2_with fail
    refine (between_no _ _ _ hno.out _).mono ?_
    rintro e w' ⟨⟨u, pv, rfl⟩, rfl⟩
    go_wp2_with fail
    exact ⟨rfl, by rw [HT.out]; exact ⟨_, _, rfl⟩, HB.out⟩

set_option maxHeartbeats 400000 in
theorem take_ask (h : RdS w kk B rb st) (hp : st.pend = 63) (sg : Int) (c : UInt8) (hs : Sg sg c) (hl : st.rest.length ≤ 900) (hB : B ≤ w.heap.size) :
    Calls Tryz.prog 83 #[.pointer (some ⟨rb, 0, none⟩), .int .i32 sg] w (Done kk B rb w (st.take kk c)) := by
  have hc := h.cell1
  have hf := h.free1
  obtain ⟨h0, hb0⟩ := h.pend 0
  rw [hp] at hc
  by_cases hd : c = 91
  · have hsg : sg = 91 := by
      rcases hs with ⟨a, _⟩ | ⟨a, _⟩
      · rw [a, hd]; rfl
      · rw [hd] at a; cases a
    subst hsg
    have HT := Lib.hid (show st.take kk c = some (St.openB { st with pend := 0 } 63) by
      rw [St.take, hp, if_neg (by decide), if_neg (by decide), if_pos (by decide), if_pos hd])
    have HA := Lib.hid (push_any h0 (by simpa using hl) (by simp [World.setCell]; omega))
    have HB := Lib.hid hb0
    clear h h0 hb0 hd hs hp
    go_enter Tryz.func83, Tryz.ntmps83
    go_wp2_with (go_at_call 101; refine (between_yes _ _ _ (by omega) (by omega) (by omega) (by omega) _).mono ?_; rintro e w' ⟨rfl, rfl⟩)
    refine HA.out.mono ?_
    rintro e w' ⟨rfl, hR, hb⟩
    go_wp2_with fail
    go_end0
    exact ⟨by rw [HT.out]; exact ⟨rfl, hR⟩, HB.out.trans hb⟩
  · have HT := Lib.hid (show st.take kk c = none by
      rw [St.take, hp, if_neg (by decide), if_neg (by decide), if_pos (by decide), if_neg hd])
    have hno := Lib.hid (show sg < 91 ∨ 91 < sg by
      rcases hs with ⟨a, _⟩ | ⟨_, a⟩
      · have : c.toNat ≠ 91 := fun e => hd (UInt8.toNat.inj e)
        omega
      · omega)
    have HB := Lib.hid hb0
    clear h h0 hb0 hd hs hp
    go_enter Tryz.func83, Tryz.ntmps83
    go_wp2_with fail
    refine (between_no _ _ _ hno.out _).mono ?_
    rintro e w' ⟨⟨u, pv, rfl⟩, rfl⟩
    go_wp2_with fail
    exact ⟨rfl, by rw [HT.out]; exact ⟨_, _, rfl⟩, HB.out⟩

set_option maxHeartbeats 400000 in
theorem take_shut (h : RdS w kk B rb st) (hp : st.pend = 93) (sg : Int) (c : UInt8) (hs : Sg sg c) (hl : st.rest.length ≤ 900) (hB : B ≤ w.heap.size) :
    Calls Tryz.prog 83 #[.pointer (some ⟨rb, 0, none⟩), .int .i32 sg] w (Done kk B rb w (st.take kk c)) := by
  have hc := h.cell1
  have hf := h.free1
  obtain ⟨h0, hb0⟩ := h.pend 0
  rw [hp] at hc
  by_cases hd : c = 91
  · have hsg : sg = 91 := by
      rcases hs with ⟨a, _⟩ | ⟨a, _⟩
      · rw [a, hd]; rfl
      · rw [hd] at a; cases a
    subst hsg
    have HT := Lib.hid (show st.take kk c = some (St.openB { st with pend := 0 } 93) by
      rw [St.take, hp, if_neg (by decide), if_neg (by decide), if_pos (by decide), if_pos hd])
    have HA := Lib.hid (second_any h0 (by simpa using hl) (by simp [World.setCell]; omega))
    have HB := Lib.hid hb0
    clear h h0 hb0 hd hs hp
    go_enter Tryz.func83, Tryz.ntmps83
    go_wp2_with (go_at_call 101; refine (between_yes _ _ _ (by omega) (by omega) (by omega) (by omega) _).mono ?_; rintro e w' ⟨rfl, rfl⟩)
    refine HA.out.mono ?_
    rintro e w' ⟨rfl, hR, hb⟩
    go_wp2_with fail
    go_end0
    exact ⟨by rw [HT.out]; exact ⟨rfl, hR⟩, HB.out.trans hb⟩
  · have HT := Lib.hid (show st.take kk c = none by
      rw [St.take, hp, if_neg (by decide), if_neg (by decide), if_pos (by decide), if_neg hd])
    have hno := Lib.hid (show sg < 91 ∨ 91 < sg by
      rcases hs with ⟨a, _⟩ | ⟨_, a⟩
      · have : c.toNat ≠ 91 := fun e => hd (UInt8.toNat.inj e)
        omega
      · omega)
    have HB := Lib.hid hb0
    clear h h0 hb0 hd hs hp
    go_enter Tryz.func83, Tryz.ntmps83
    go_wp2_with fail
    refine (between_no _ _ _ hno.out _).mono ?_
    rintro e w' ⟨⟨u, pv, rfl⟩, rfl⟩
    go_wp2_with fail
    exact ⟨rfl, by rw [HT.out]; exact ⟨_, _, rfl⟩, HB.out⟩

set_option maxHeartbeats 400000 in
theorem take_zero (h : RdS w kk B rb st) (hp : st.pend = 0) (sg : Int) (c : UInt8) (hs : Sg sg c) (hl : st.rest.length ≤ 900) (hn : st.top.list.length ≤ 900) (hr : ∀ u ∈ st.rest, u.list.length ≤ 1000) (hB : B ≤ w.heap.size) :
    Calls Tryz.prog 83 #[.pointer (some ⟨rb, 0, none⟩), .int .i32 sg] w (Done kk B rb w (st.take kk c)) := by
  have hc := h.cell1
  have hf := h.free1
  obtain ⟨h0, hb0⟩ := h.pend 0
  rw [hp] at hc
  have est : ({ st with pend := 0 } : St) = st := by cases st; simp at hp; simp [hp]
  have HT := Lib.hid (show st.take kk c = st.begin kk c by
    rw [St.take, hp, if_neg (by decide), if_neg (by decide), if_neg (by decide), est])
  have HA := Lib.hid (begin_any h0 rfl sg c hs (by simpa using hl) (by simpa using Nat.le_trans hn (by omega)) (by simpa using hr) (by simp [World.setCell]; omega))
  rw [est] at HA
  have HB := Lib.hid hb0
  clear h h0 hb0 hs hp hr est
  cases hbe : st.begin kk c with
  | none =>
    rw [hbe] at HA HT
    clear hbe
    go_enter Tryz.func83, Tryz.ntmps83
    go_wp2_with fail
    refine HA.out.mono ?_
    rintro e w' ⟨⟨u, pv, rfl⟩, hb⟩
    go_wp2_with fail
    exact ⟨rfl, by rw [HT.out]; exact ⟨_, _, rfl⟩, HB.out.trans hb⟩
  | some st' =>
    rw [hbe] at HA HT
    clear hbe
    go_enter Tryz.func83, Tryz.ntmps83
    go_wp2_with fail
    refine HA.out.mono ?_
    rintro e w' ⟨⟨rfl, hR⟩, hb⟩
    go_wp2_with fail
    go_end0
    exact ⟨by rw [HT.out]; exact ⟨rfl, hR⟩, HB.out.trans hb⟩

theorem take_any (h : RdS w kk B rb st) (hok : st.ok kk) (sg : Int) (c : UInt8) (hs : Sg sg c) (hl : st.rest.length ≤ 900) (hn : st.top.list.length ≤ 900) (hr : ∀ u ∈ st.rest, u.list.length ≤ 1000) (hB : B ≤ w.heap.size) :
    Calls Tryz.prog 83 #[.pointer (some ⟨rb, 0, none⟩), .int .i32 sg] w (Done kk B rb w (st.take kk c)) := by
  rcases hok.sign with hp | hp | hp | hp | hp
  · exact take_zero h hp sg c hs hl hn hr hB
  · simp [isSgn] at hp
    rcases hp with (hp | hp) | hp
    · exact take_sgn43 h hp sg c hs hl hn hB
    · exact take_sgn45 h hp sg c hs hl hn hB
    · exact take_sgn42 h hp sg c hs hl hn hB
  · exact take_call h hp sg c hs hl hn hB
  · exact take_ask h hp sg c hs hl hB
  · exact take_shut h hp sg c hs hl hB
end
end Go.Proofs.YtkdnbdgpcgookaaGreatDoor
namespace Go.Proofs.YtkdnbdgpcgookaaGreatDoor
open Go.RowKit Gram

theorem St.take_high {k : Bool} {st : St} (h : st.ok k) (c : UInt8) (hc : 128 ≤ c.toNat) : st.take k c = none := by
  have hd : isDig c = false := by rw [isDig_int]; simp; omega
  have hl : isLet c = false := by rw [isLet_int]; simp; omega
  have hne : ∀ d : UInt8, d.toNat < 128 → c ≠ d := fun d h e => by rw [e] at hc; omega
  unfold St.take
  rcases h.sign with hp | hp | hp | hp | hp
  · rw [hp, if_neg (by decide), if_neg (by decide), if_neg (by decide)]
    unfold St.begin
    rw [if_neg (by
      rintro (h | h | h | h | h)
      · exact hne 43 (by decide) h
      · exact hne 45 (by decide) h
      · exact hne 42 (by decide) h
      · exact hne 67 (by decide) h
      · exact hne 63 (by decide) h), if_neg (hne 80 (by decide)), if_neg (hne 93 (by decide)), if_neg (fun h => hne 75 (by decide) h.1)]
  · rw [if_pos hp, hd]; rfl
  · rw [hp, if_neg (by decide), if_pos rfl, hl]; rfl
  · rw [hp, if_neg (by decide), if_neg (by decide), if_pos (by decide), if_neg (hne 91 (by decide))]
  · rw [hp, if_neg (by decide), if_neg (by decide), if_pos (by decide), if_neg (hne 91 (by decide))]

theorem txts_ge (xs : List Stm) : xs.length ≤ (txts xs).length := by
  induction xs with
  | nil => simp [txts]
  | cons x xs ih => have := x.txt_len; simp [txts]; omega
theorem textOf_ge (u : Unf) (us : List Unf) : u.list.length ≤ (textOf u us).length ∧ us.length ≤ (textOf u us).length ∧ ∀ v ∈ us, v.list.length ≤ (textOf u us).length := by
  induction us generalizing u with
  | nil => exact ⟨txts_ge _, Nat.zero_le _, fun v hv => by cases hv⟩
  | cons v vs ih =>
    obtain ⟨h1, h2, h3⟩ := ih v
    have hu : u.list.length + 1 ≤ u.text.length := by
      have := txts_ge u.list
      unfold Unf.text
      split <;> simp <;> omega
    simp only [textOf, List.length_append]
    refine ⟨by omega, by simp; omega, ?_⟩
    intro x hx
    rcases List.mem_cons.1 hx with rfl | hx
    · omega
    · have := h3 x hx; omega
theorem St.text_ge (st : St) : st.top.list.length ≤ st.text.length ∧ st.rest.length ≤ st.text.length ∧ ∀ v ∈ st.rest, v.list.length ≤ st.text.length := by
  obtain ⟨h1, h2, h3⟩ := textOf_ge st.top st.rest
  simp only [St.text, List.length_append]
  exact ⟨by omega, by omega, fun v hv => by have := h3 v hv; omega⟩

/-- what lay in cells stays: the reader stays -/
theorem Rd.cells_same {w w' : World} {kk : Bool} {B rb g cap : Nat} {p : Int} {ents : List Ent} {S : Nat → Prop} (h : Rd w kk B rb p g cap ents S)
    (hk : ∀ (k : Nat) c e f, w.heap[k]? = some (Obj.cells c e f) → w'.heap[k]? = some (Obj.cells c e f)) : Rd w' kk B rb p g cap ents S := by
  obtain ⟨cur, hcur, _⟩ := row_cur h.row
  refine ⟨hk _ _ _ _ h.own, h.low, ownsRow_of h.row fun k hk' => ?_, ?_, h.parted, ?_⟩
  · simp [Value.ownBlock] at hk'; subst hk'; rw [hcur]; exact hk _ _ _ _ hcur
  · intro e hm
    have he := h.each e hm
    refine he.kept (fun k hk' => ?_) (fun _ h => h) he.2.2.1
    rcases hk' with h1 | h1
    · obtain ⟨_, cur, fz, h2⟩ := h.set k h1; rw [h2]; exact hk _ _ _ _ h2
    · obtain ⟨⟨vs, a, _⟩, _⟩ := he
      rcases a.2 with ⟨hv, _⟩ | ⟨g2, cap2, cur2, hv, _, hg2, _⟩
      · rw [hv] at h1; cases h1
      · rw [hv] at h1; simp [Value.ownBlock] at h1; subst h1; rw [hg2]; exact hk _ _ _ _ hg2
  · intro k hS
    obtain ⟨a, cur, fz, h2⟩ := h.set k hS
    exact ⟨a, cur, fz, hk _ _ _ _ h2⟩
theorem RdS.iterAt {w : World} {kk : Bool} {B rb : Nat} {st : St} (h : RdS w kk B rb st) {k : Nat} {s : ByteArray} {pos : Nat} (hk : w.heap[k]? = some (.stringIter s pos)) (pos' : Nat) : RdS (w.iterAt k s pos') kk B rb st := by
  obtain ⟨g, cap, ents, S, hR, hm⟩ := h
  refine ⟨g, cap, ents, S, hR.cells_same (fun j c e f hj => ?_), hm⟩
  rw [Lib.iterAt_other _ _ _ _ _ (by rintro rfl; rw [hk] at hj; cases hj)]
  exact hj

set_option maxHeartbeats 400000 in
theorem finish_yes (w : World) (rb g cap : Nat) (v : Value) (h1 : w.cell? ⟨rb, 1, none⟩ = some (.slice (some ⟨g, 0, none⟩) 1 cap)) (h2 : w.cell? ⟨rb, 2, none⟩ = some (.int .i32 0))
    (h3 : w.cell? ⟨g, 0, none⟩ = some v) :
    Calls Tryz.prog 84 #[.pointer (some ⟨rb, 0, none⟩)] w fun r w' => r = .returned v ∧ w = w' := by
  go_enter Tryz.func84, Tryz.ntmps84
  go_wp2_with fail
  go_ret
  exact ⟨rfl, rfl⟩
set_option maxHeartbeats 400000 in
theorem finish_pend (w : World) (rb g cap n : Nat) (q : Int) (h1 : w.cell? ⟨rb, 1, none⟩ = some (.slice (some ⟨g, 0, none⟩) n cap)) (h2 : w.cell? ⟨rb, 2, none⟩ = some (.int .i32 q))
    (h3 : (q == 0) = false) :
    Calls Tryz.prog 84 #[.pointer (some ⟨rb, 0, none⟩)] w fun r w' => Panics r ∧ w = w' := by
  go_enter Tryz.func84, Tryz.ntmps84
  go_wp2_with fail
  exact ⟨rfl, ⟨_, _, rfl⟩, rfl⟩
set_option maxHeartbeats 400000 in
theorem finish_open (w : World) (rb g cap n : Nat) (h1 : w.cell? ⟨rb, 1, none⟩ = some (.slice (some ⟨g, 0, none⟩) n cap)) (h2 : w.cell? ⟨rb, 2, none⟩ = some (.int .i32 0))
    (h3 : ((n : Int) == 1) = false) :
    Calls Tryz.prog 84 #[.pointer (some ⟨rb, 0, none⟩)] w fun r w' => Panics r ∧ w = w' := by
  go_enter Tryz.func84, Tryz.ntmps84
  go_wp2_with fail
  exact ⟨rfl, ⟨_, _, rfl⟩, rfl⟩

theorem finish_any {w : World} {kk : Bool} {B rb : Nat} {st : St} (h : RdS w kk B rb st) :
    Calls Tryz.prog 84 #[.pointer (some ⟨rb, 0, none⟩)] w fun r w' => (match st.finish with
      | some xs => ∃ v S, r = .returned v ∧ IsBody w S xs v ∧ ∀ k, S k → B ≤ k ∧ ∃ cur fz, w.heap[k]? = some (.cells cur 72 fz)
      | none => Panics r) ∧ w = w' := by
  have hc1 := h.cell1
  obtain ⟨g, cap, e, t, S, hR, hu, ht, hlen⟩ := h.parts
  have hc0 : w.cell? ⟨rb, 1, none⟩ = some (.slice (some ⟨g, 0, none⟩) (t.length + 1) cap) := by
    have := Lib.cell_of_heap hR.own 1
    simpa using this
  by_cases hp : st.pend = 0
  · rw [hp] at hc1
    cases t with
    | nil =>
      refine (finish_yes w rb g cap e.lv hc0 hc1 ?_).mono ?_
      · exact row_cell hR.row _ _ (cellsOf_get e []).1
      · rintro r w' ⟨h1, h2⟩
        refine ⟨?_, h2⟩
        have hf : st.finish = some st.top.list := by
          rw [St.finish, if_pos ⟨hp, by rw [← ht]; rfl⟩]
        rw [hf]
        refine ⟨_, _, h1, by rw [← hu]; exact hR.body, fun k hk => (hR.with_set k hk).2.2⟩
    | cons f t =>
      refine (finish_open w rb g cap (t.length + 1 + 1) hc0 hc1 (by rw [beq_eq_false_iff_ne]; omega)).mono ?_
      rintro r w' ⟨h1, h2⟩
      refine ⟨?_, h2⟩
      have hf : st.finish = none := by
        rw [St.finish, if_neg (by rintro ⟨_, h⟩; rw [← ht] at h; simp at h)]
      rw [hf]; exact h1
  · refine (finish_pend w rb g cap (t.length + 1) _ hc0 hc1 ?_).mono ?_
    · exact ne_int (d := 0) hp
    · rintro r w' ⟨h1, h2⟩
      refine ⟨?_, h2⟩
      have hf : st.finish = none := by rw [St.finish, if_neg (fun h => hp h.1)]
      rw [hf]; exact h1

/-- the deferred literal: of a body that panics, and of one that returns -/
theorem catch_panicking (p q : Addr) (x y : Value) (u : TypeId) (pv : Value) (older : List PanicEntry) (w : World) (hc : w.cell? p = some x) (hz : w.frozen? p = false) (hd : ∀ v, (w.setCell p v).cell? q = some y) (hy : ∀ v, (w.setCell p v).frozen? q = false) :
    CallsD Tryz.prog 82 #[.pointer (some p), .pointer (some q)] (.panicking ({ v := .iface u pv, recovered := false } :: older)) w fun e u' w' =>
      e = .returned (.tuple #[]) ∧ u' = .panicking ({ v := .iface u pv, recovered := true } :: older) ∧ w' = (w.setCell p (.slice none 0 0)).setCell q (.bool false) := by
  refine callsD_of_wpS Tryz.func82 rfl fun c₀ cs hu => ?_
  apply wpS_seq
  apply wpS_region
  simp [wpOpsS, go_sem, recoverD, hu, Tryz.ntmps82, Exit.thenS]
  refine wpS_cond (t := true) (by simp [Act.eval, Array.replicate]) ?_
  simp only [if_true]
  apply wpS_region
  simp [wpOpsS, go_sem, hc, hz, hd, hy, bodyPostS, results, Tryz.results82]

theorem catch_idle (p q : Addr) (w : World) :
    CallsD Tryz.prog 82 #[.pointer (some p), .pointer (some q)] .returning w fun e u' w' => e = .returned (.tuple #[]) ∧ u' = .returning ∧ w' = w := by
  refine callsD_of_wpS Tryz.func82 rfl fun c₀ cs hu => ?_
  apply wpS_seq
  apply wpS_region
  simp [wpOpsS, go_sem, recoverD, hu, Tryz.ntmps82, Exit.thenS]
  refine wpS_cond (t := false) (by simp [Act.eval, Array.replicate]) ?_
  simp only [Bool.false_eq_true, if_false]
  refine wpS_of_wp (wp_skip ?_)
  cases c₀
  simp_all [bodyPostS, results, Tryz.results82]

set_option maxHeartbeats 400000 in
theorem read_long (s : ByteArray) (most : Nat) (kk : Bool) (w : World) (hs : most < s.size) (_hm : s.size ≤ 1073741824) :
    Calls Tryz.prog 58 #[.string s, .int .i64 most, .string (sigs kk)] w fun r w' => r = .returned (.tuple #[.slice none 0 0, .bool false]) ∧ Below w.heap.size w w' := by
  have hmf : ∀ (fn : Fn) (first cap : Array Value) (w : World), (Instr.makeFunc fn first cap).run Tryz.prog w = .ok (.func fn first cap) w := fun _ _ _ _ => rfl
  go_enter_defers Tryz.func58, Tryz.ntmps58
  go_wp2_with fail
  refine leaves_cons (f := 82) (args := #[.pointer (some ⟨w.heap.size, 0, none⟩), .pointer (some ⟨w.heap.size + 1, 0, none⟩)]) (by simp) (by simp [go_sem]) ?_
  refine (catch_idle _ _ _).mono ?_
  rintro e u' w'' ⟨rfl, rfl, rfl⟩
  refine ⟨.tuple #[.slice none 0 0, .bool false], ?_, rfl, ?_⟩
  · simp [results, Tryz.results58, go_sem]
  · exact ((Below.refl _ _).alloc (Nat.le_refl _) _).alloc (by simp) _

theorem heap5 (a : Array Obj) (x0 x1 x2 x3 x4 : Obj) :
    (((((a.push x0).push x1).push x2).push x3).push x4)[a.size]? = some x0 ∧ (((((a.push x0).push x1).push x2).push x3).push x4)[a.size + 1]? = some x1 ∧
    (((((a.push x0).push x1).push x2).push x3).push x4)[a.size + 1 + 1]? = some x2 ∧ (((((a.push x0).push x1).push x2).push x3).push x4)[a.size + 1 + 1 + 1]? = some x3 ∧
    (((((a.push x0).push x1).push x2).push x3).push x4)[a.size + 1 + 1 + 1 + 1]? = some x4 := by
  have old : ∀ (b : Array Obj) (x : Obj) (k : Nat), k < b.size → (b.push x)[k]? = b[k]? := fun b x k h => by rw [Array.getElem?_push, if_neg (by omega)]
  have new : ∀ (b : Array Obj) (x : Obj) (k : Nat), k = b.size → (b.push x)[k]? = some x := fun b x k h => by subst h; simp
  refine ⟨?_, ?_, ?_, ?_, ?_⟩
  · rw [old _ _ _ (by simp; omega), old _ _ _ (by simp; omega), old _ _ _ (by simp; omega), old _ _ _ (by simp), new _ _ _ rfl]
  · rw [old _ _ _ (by simp), old _ _ _ (by simp), old _ _ _ (by simp), new _ _ _ (by simp)]
  · rw [old _ _ _ (by simp), old _ _ _ (by simp), new _ _ _ (by simp)]
  · rw [old _ _ _ (by simp), new _ _ _ (by simp)]
  · rw [new _ _ _ (by simp)]

/-- the world in which the signs are taken -/
def startW (w : World) (kk : Bool) (s : ByteArray) : World := ((((w.alloc (Obj.cells #[.slice none 0 0] 55)).alloc (Obj.cells #[.bool false] 4)).alloc (Obj.cells #[.slice none 0 0, .slice none 0 0, .bool false] 139)).alloc
  (Obj.cells #[.string (sigs kk), .slice (some ⟨w.heap.size + 1 + 1, 0, none⟩) 1 1, .int .i32 0] 142)).iter s 0

theorem start_facts (w : World) (kk : Bool) (s : ByteArray) : (startW w kk s).heap[w.heap.size + 1 + 1 + 1 + 1]? = some (Obj.stringIter s 0) ∧ RdS (startW w kk s) kk (w.heap.size + 1 + 1) (w.heap.size + 1 + 1 + 1) St.start ∧ Below w.heap.size w (startW w kk s) ∧
    (startW w kk s).heap[w.heap.size]? = some (Obj.cells #[.slice none 0 0] 55 (0, 0)) ∧ (startW w kk s).heap[w.heap.size + 1]? = some (Obj.cells #[.bool false] 4 (0, 0)) := by
  obtain ⟨h0, h1, h2, h3, h4⟩ := heap5 w.heap (Obj.cells #[.slice none 0 0] 55) (Obj.cells #[.bool false] 4) (Obj.cells #[.slice none 0 0, .slice none 0 0, .bool false] 139)
    (Obj.cells #[.string (sigs kk), .slice (some ⟨w.heap.size + 1 + 1, 0, none⟩) 1 1, .int .i32 0] 142) (Obj.stringIter s 0)
  refine ⟨h4, ⟨w.heap.size + 1 + 1, 1, [⟨⟨[], [], false⟩, .slice none 0 0, .slice none 0 0⟩], fun _ => False, ⟨h3, by omega, ?_, ?_, by simp, fun _ h => h.elim⟩, rfl⟩, ?_, h0, h1⟩
  · exact ⟨by simp [cellsOf], .inr ⟨w.heap.size + 1 + 1, 1, _, rfl, Nat.le_refl _, h2, Nat.le_refl _, by decide, by simp, by simp [cellsOf]⟩⟩
  · intro e he
    simp at he
    subst he
    exact ⟨⟨[], World.ownsRow_nil _ _ _ _, rfl⟩, (by intro h; cases h), (by intro k hk; cases hk), ⟨_, _, _, rfl⟩⟩
  · exact (((((Below.refl _ w).alloc (Nat.le_refl _) _).alloc (by simp) _).alloc (by simp; omega) _).alloc (by simp; omega) _).alloc (by simp; omega) _

/-- what readBody hands back for what the plain reader does -/
def ReadTo (o : Option (List Stm)) (w : World) (r : Ending) (w' : World) : Prop :=
  (match o with
    | some xs => ∃ v S, r = .returned (.tuple #[v, .bool true]) ∧ IsBody w' S xs v ∧ ∀ k, S k → w.heap.size ≤ k ∧ ∃ cur fz, w'.heap[k]? = some (.cells cur 72 fz)
    | none => r = .returned (.tuple #[.slice none 0 0, .bool false])) ∧ Below w.heap.size w w'

theorem reads_none {kk : Bool} {l : List UInt8} {pos : Nat} {c : UInt8} {st : St} (hl : l.take (pos + 1) = l.take pos ++ [c]) (hT : takes kk (l.take pos) St.start = some st) (hN : st.take kk c = none) : reads kk l = none := by
  have e : l = l.take (pos + 1) ++ l.drop (pos + 1) := (List.take_append_drop _ _).symm
  rw [reads, e, takes_append, hl, takes_append, hT]
  simp [takes, hN]

theorem door_panics (kk : Bool) (s : ByteArray) (w wr : World) (u : TypeId) (pv : Value) (hr : reads kk s.data.toList = none) (hb : Below w.heap.size w wr)
    (c0 : wr.heap[w.heap.size]? = some (Obj.cells #[.slice none 0 0] 55 (0, 0))) (c1 : wr.heap[w.heap.size + 1]? = some (Obj.cells #[.bool false] 4 (0, 0))) :
    CallsD Tryz.prog 82 #[.pointer (some ⟨w.heap.size, 0, none⟩), .pointer (some ⟨w.heap.size + 1, 0, none⟩)] (.panicking [{ v := .iface u pv, recovered := false }]) wr fun e u' w' =>
      e = .returned (.tuple #[]) ∧ u' = .panicking [{ v := .iface u pv, recovered := true }] ∧ w'.cell? ⟨w.heap.size, 0, none⟩ = some (.slice none 0 0) ∧ w'.cell? ⟨w.heap.size + 1, 0, none⟩ = some (.bool false) ∧
        ReadTo (reads kk s.data.toList) w (.returned (.tuple #[.slice none 0 0, .bool false])) w' := by
  have e0 : wr.cell? ⟨w.heap.size, 0, none⟩ = some (.slice none 0 0) := by rw [Lib.cell_of_heap c0]; rfl
  have e1 : wr.cell? ⟨w.heap.size + 1, 0, none⟩ = some (.bool false) := by rw [Lib.cell_of_heap c1]; rfl
  have ho : ∀ v, (wr.setCell ⟨w.heap.size, 0, none⟩ v).heap[w.heap.size + 1]? = wr.heap[w.heap.size + 1]? := fun v => heap_set_other (by omega) v
  have e2 : ∀ v, (wr.setCell ⟨w.heap.size, 0, none⟩ v).cell? ⟨w.heap.size + 1, 0, none⟩ = some (.bool false) := fun v => by
    rw [World.cell?_of_block (a := ⟨w.heap.size + 1, 0, none⟩) (ho v)]; exact e1
  have e3 : ∀ v, (wr.setCell ⟨w.heap.size, 0, none⟩ v).frozen? ⟨w.heap.size + 1, 0, none⟩ = false := fun v => by
    rw [World.frozen?_of_block (a := ⟨w.heap.size + 1, 0, none⟩) (ho v)]; exact Lib.frozen_of_heap c1 0
  refine (catch_panicking _ _ _ _ u pv [] wr e0 (Lib.frozen_of_heap c0 0) e2 e3).mono ?_
  rintro e u' w' ⟨h1, h2, rfl⟩
  refine ⟨h1, h2, ?_, ?_, ?_, ?_⟩
  · have h9 : ((wr.setCell ⟨w.heap.size, 0, none⟩ (.slice none 0 0)).setCell ⟨w.heap.size + 1, 0, none⟩ (.bool false)).heap[w.heap.size]? = (wr.setCell ⟨w.heap.size, 0, none⟩ (.slice none 0 0)).heap[w.heap.size]? := heap_set_other (by omega) _
    rw [World.cell?_of_block (a := ⟨w.heap.size, 0, none⟩) h9, Lib.cell_of_heap (heap_set_same c0 _)]; rfl
  · rw [Lib.cell_of_heap (heap_set_same (by rw [ho]; exact c1) _)]; rfl
  · rw [hr]
  · exact (hb.setCell (by simp) _).setCell (by simp) _

theorem IsBody.form {w : World} {S : Nat → Prop} {xs : List Stm} {v : Value} (h : IsBody w S xs v) : ∃ a n c, v = .slice a n c := by
  obtain ⟨vs, r, _⟩ := h
  exact slice_form r.1

theorem door_returns (kk : Bool) (s : ByteArray) (w wr : World) (S : Nat → Prop) (xs : List Stm) (v : Value) (hr : reads kk s.data.toList = some xs) (hB : IsBody wr S xs v)
    (hS : ∀ k, S k → w.heap.size + 1 + 1 ≤ k ∧ ∃ cur fz, wr.heap[k]? = some (.cells cur 72 fz)) (hb : Below w.heap.size w wr)
    (c0 : wr.heap[w.heap.size]? = some (Obj.cells #[.slice none 0 0] 55 (0, 0))) (c1 : wr.heap[w.heap.size + 1]? = some (Obj.cells #[.bool false] 4 (0, 0))) :
    ((wr.setCell ⟨w.heap.size, 0, none⟩ v).setCell ⟨w.heap.size + 1, 0, none⟩ (.bool true)).cell? ⟨w.heap.size, 0, none⟩ = some v ∧
    ((wr.setCell ⟨w.heap.size, 0, none⟩ v).setCell ⟨w.heap.size + 1, 0, none⟩ (.bool true)).cell? ⟨w.heap.size + 1, 0, none⟩ = some (.bool true) ∧
    ReadTo (reads kk s.data.toList) w (.returned (.tuple #[v, .bool true])) ((wr.setCell ⟨w.heap.size, 0, none⟩ v).setCell ⟨w.heap.size + 1, 0, none⟩ (.bool true)) := by
  have ho : (wr.setCell ⟨w.heap.size, 0, none⟩ v).heap[w.heap.size + 1]? = wr.heap[w.heap.size + 1]? := heap_set_other (by omega) v
  have hk : ∀ k, w.heap.size + 1 + 1 ≤ k → ((wr.setCell ⟨w.heap.size, 0, none⟩ v).setCell ⟨w.heap.size + 1, 0, none⟩ (.bool true)).heap[k]? = wr.heap[k]? := fun k hk => by
    rw [heap_set_other (by omega), heap_set_other (by omega)]
  refine ⟨?_, ?_, ?_, ?_⟩
  · have h9 : ((wr.setCell ⟨w.heap.size, 0, none⟩ v).setCell ⟨w.heap.size + 1, 0, none⟩ (.bool true)).heap[w.heap.size]? = (wr.setCell ⟨w.heap.size, 0, none⟩ v).heap[w.heap.size]? := heap_set_other (by omega) _
    rw [World.cell?_of_block (a := ⟨w.heap.size, 0, none⟩) h9, Lib.cell_of_heap (heap_set_same c0 _)]; rfl
  · rw [Lib.cell_of_heap (heap_set_same (by rw [ho]; exact c1) _)]; rfl
  · rw [hr]
    refine ⟨v, S, rfl, hB.kept (fun k h => hk k (hS k h).1) (fun _ h => h), fun k h => ?_⟩
    obtain ⟨h1, cur, fz, h2⟩ := hS k h
    exact ⟨by omega, cur, fz, by rw [hk k h1]; exact h2⟩
  · exact (hb.setCell (by simp) _).setCell (by simp) _

set_option maxHeartbeats 1000000 in
theorem read_short (s : ByteArray) (most : Nat) (kk : Bool) (w : World) (hs : s.size ≤ most) (hm : most ≤ 400) :
    Calls Tryz.prog 58 #[.string s, .int .i64 most, .string (sigs kk)] w (ReadTo (reads kk s.data.toList) w) := by
  have hmf : ∀ (fn : Fn) (first cap : Array Value) (w : World), (Instr.makeFunc fn first cap).run Tryz.prog w = .ok (.func fn first cap) w := fun _ _ _ _ => rfl
  have hnl : ¬ (most < s.size) := by omega
  have hnd : decide ((most : Int) < (s.size : Int)) = false := by simpa using hs
  go_enter_defers Tryz.func58, Tryz.ntmps58
  go_wp2_with fail
  go_loopw [] (fun wr => ∃ (pos : Nat) (st : St), wr.heap[w.heap.size + 1 + 1 + 1 + 1]? = some (Obj.stringIter s pos) ∧ pos ≤ s.size ∧ RdS wr kk (w.heap.size + 1 + 1) (w.heap.size + 1 + 1 + 1) st ∧ Below w.heap.size w wr ∧
      wr.heap[w.heap.size]? = some (Obj.cells #[.slice none 0 0] 55 (0, 0)) ∧ wr.heap[w.heap.size + 1]? = some (Obj.cells #[.bool false] 4 (0, 0)) ∧
      Hid (takes kk (s.data.toList.take pos) St.start = some st)) (fun wr => s.size - wr.iterPos (w.heap.size + 1 + 1 + 1 + 1))
  case atStart =>
    obtain ⟨f0, f1, f2, f3, f4⟩ := start_facts w kk s
    exact ⟨0, St.start, f0, Nat.zero_le _, f1, f2, f3, f4, rfl⟩
  case round =>
    obtain ⟨pos, st, hit, hpos, hR, hb, c0, c1, hT⟩ := hrel
    obtain ⟨hok, htx⟩ := takes_ok kk _ _ _ (start_ok kk) hT.out
    obtain ⟨b1, b2, b3⟩ := St.text_ge st
    have hlen : st.text.length ≤ 400 := by rw [htx]; simp [St.start, St.text, textOf, txts]; omega
    have hsz : w.heap.size + 1 + 1 + 1 + 1 < wr.heap.size := heap_lt hit
    by_cases hp : pos < s.size
    · have hnx : ∀ ty, (Instr.next (.pointer (some ⟨w.heap.size + 1 + 1 + 1 + 1, 0, none⟩)) true ty).run Tryz.prog wr = _ := fun ty => Lib.run_next_any_at wr (w.heap.size + 1 + 1 + 1 + 1) s pos ty hit hp
      have hR2 := hR.iterAt hit (pos + (Utf8.decode s pos).2)
      have hit2 := Lib.iterAt_heap wr (w.heap.size + 1 + 1 + 1 + 1) s pos (pos + (Utf8.decode s pos).2) hit
      have hb2 := Lib.below_iterAt hb (k := w.heap.size + 1 + 1 + 1 + 1) (by omega) s (pos + (Utf8.decode s pos).2)
      have hlb : (s.data.toList.take (pos + 1)) = s.data.toList.take pos ++ [s[pos]] := by
        rw [List.take_succ_eq_append_getElem (by simpa using hp)]; rfl
      by_cases ha : (s[pos]'hp).toNat < 128
      · have hdec := decode_ascii s pos hp ha
        have hs1 : Sg ((Utf8.decode s pos).1 : Int) s[pos] := .inl ⟨by rw [hdec], ha⟩
        have HTk := take_any hR2 hok _ _ hs1 (by omega) (by omega) (fun u hu => Nat.le_trans (b3 u hu) (by omega)) (by rw [Lib.iterAt_size]; omega)
        have HD := Lib.hid (show (Utf8.decode s pos).2 = 1 by rw [hdec])
        have HL := Lib.hid hlb
        cases htk : st.take kk s[pos] with
        | none =>
          rw [htk] at HTk
          have HTk := Lib.hid HTk
          have HN := Lib.hid htk
          clear hdec hlb hs1 htk hok htx b1 b2 b3 hR hR2
          go_wp2_with fail
          refine HTk.out.mono ?_
          rintro e w' ⟨⟨u, pv, rfl⟩, hk⟩
          have hE := Lib.hid (door_panics kk s w w' u pv (reads_none HL.out hT.out HN.out) (hb2.trans (hk.below.mono (by omega))) (by rw [hk.below.block _ (by omega), Lib.iterAt_other _ _ _ _ _ (by omega)]; exact c0) (by rw [hk.below.block _ (by omega), Lib.iterAt_other _ _ _ _ _ (by omega)]; exact c1))
          go_wp2_with fail
          refine leaves_cons (f := 82) (args := #[.pointer (some ⟨w.heap.size, 0, none⟩), .pointer (some ⟨w.heap.size + 1, 0, none⟩)]) (by simp) (by simp [go_sem]) ?_
          refine hE.out.mono ?_
          rintro e u' w'' ⟨rfl, rfl, q0, q1, hP⟩
          simp [Leaves, settle, results, Tryz.results58, go_sem, q0, q1]
          exact hP
        | some st' =>
          rw [htk] at HTk
          have HTk := Lib.hid HTk
          have HS := Lib.hid htk
          clear htk hdec hlb hs1 hok htx b1 b2 b3 hR hR2
          go_wp2_with fail
          refine HTk.out.mono ?_
          rintro e w' ⟨⟨rfl, hR'⟩, hk⟩
          go_wp2_with fail
          go_roundw
          case rel =>
            refine ⟨pos + (Utf8.decode s pos).2, st', hk.iter _ _ _ hit2, by rw [HD.out]; omega, hR', hb2.trans (hk.below.mono (by omega)), ?_, ?_, ?_⟩
            · rw [hk.below.block _ (by omega), Lib.iterAt_other _ _ _ _ _ (by omega)]; exact c0
            · rw [hk.below.block _ (by omega), Lib.iterAt_other _ _ _ _ _ (by omega)]; exact c1
            · show takes kk _ _ = _
              rw [HD.out, HL.out, takes_append, hT.out]
              simp [takes, HS.out]
          case measure =>
            simp only [World.iterPos, hk.iter _ _ _ hit2, hit]
            rw [HD.out]; omega
      · obtain ⟨d1, d2⟩ := decode_high s pos hp (by omega)
        have hs1 : Sg ((Utf8.decode s pos).1 : Int) 128 := .inr ⟨rfl, by omega⟩
        have HTk := take_any hR2 hok _ _ hs1 (by omega) (by omega) (fun u hu => Nat.le_trans (b3 u hu) (by omega)) (by rw [Lib.iterAt_size]; omega)
        rw [St.take_high hok 128 (by decide)] at HTk
        have HTk := Lib.hid HTk
        have HN := Lib.hid (St.take_high hok s[pos] (by omega))
        have HL := Lib.hid hlb
        clear hlb hs1 hok htx b1 b2 b3 hR hR2 d1 d2
        go_wp2_with fail
        refine HTk.out.mono ?_
        rintro e w' ⟨⟨u, pv, rfl⟩, hk⟩
        have hE := Lib.hid (door_panics kk s w w' u pv (reads_none HL.out hT.out HN.out) (hb2.trans (hk.below.mono (by omega))) (by rw [hk.below.block _ (by omega), Lib.iterAt_other _ _ _ _ _ (by omega)]; exact c0) (by rw [hk.below.block _ (by omega), Lib.iterAt_other _ _ _ _ _ (by omega)]; exact c1))
        go_wp2_with fail
        refine leaves_cons (f := 82) (args := #[.pointer (some ⟨w.heap.size, 0, none⟩), .pointer (some ⟨w.heap.size + 1, 0, none⟩)]) (by simp) (by simp [go_sem]) ?_
        refine hE.out.mono ?_
        rintro e u' w'' ⟨rfl, rfl, q0, q1, hP⟩
        simp [Leaves, settle, results, Tryz.results58, go_sem, q0, q1]
        exact hP
    · have hnx : ∀ ty, (Instr.next (.pointer (some ⟨w.heap.size + 1 + 1 + 1 + 1, 0, none⟩)) true ty).run Tryz.prog wr = _ := fun ty => Lib.run_next_end_at wr (w.heap.size + 1 + 1 + 1 + 1) s pos ty hit hp
      have hall : s.data.toList.take pos = s.data.toList := List.take_of_length_le (by simp; omega)
      have hrd : reads kk s.data.toList = st.finish := by
        have := hT.out
        rw [hall] at this
        rw [reads, this]; rfl
      have HF := finish_any hR
      cases hfi : st.finish with
      | none =>
        rw [hfi] at HF hrd
        have HF := Lib.hid HF
        have HN := Lib.hid hrd
        clear hfi hrd hall hok htx b1 b2 b3 hR
        go_wp2_with fail
        refine HF.out.mono ?_
        rintro e w' ⟨⟨u, pv, rfl⟩, rfl⟩
        have hE := Lib.hid (door_panics kk s w wr u pv HN.out hb c0 c1)
        go_wp2_with fail
        refine leaves_cons (f := 82) (args := #[.pointer (some ⟨w.heap.size, 0, none⟩), .pointer (some ⟨w.heap.size + 1, 0, none⟩)]) (by simp) (by simp [go_sem]) ?_
        refine hE.out.mono ?_
        rintro e u' w'' ⟨rfl, rfl, q0, q1, hP⟩
        simp [Leaves, settle, results, Tryz.results58, go_sem, q0, q1]
        exact hP
      | some xs =>
        rw [hfi] at HF hrd
        have HF := Lib.hid HF
        have HN := Lib.hid hrd
        have e0 : wr.cell? ⟨w.heap.size, 0, none⟩ = some (.slice none 0 0) := by rw [Lib.cell_of_heap c0]; rfl
        have z0 : wr.frozen? ⟨w.heap.size, 0, none⟩ = false := Lib.frozen_of_heap c0 0
        have ho : ∀ v, (wr.setCell ⟨w.heap.size, 0, none⟩ v).heap[w.heap.size + 1]? = wr.heap[w.heap.size + 1]? := fun v => heap_set_other (by omega) v
        have e2 : ∀ v, (wr.setCell ⟨w.heap.size, 0, none⟩ v).cell? ⟨w.heap.size + 1, 0, none⟩ = some (.bool false) := fun v => by
          rw [World.cell?_of_block (a := ⟨w.heap.size + 1, 0, none⟩) (ho v), Lib.cell_of_heap c1]; rfl
        have e3 : ∀ v, (wr.setCell ⟨w.heap.size, 0, none⟩ v).frozen? ⟨w.heap.size + 1, 0, none⟩ = false := fun v => by
          rw [World.frozen?_of_block (a := ⟨w.heap.size + 1, 0, none⟩) (ho v)]; exact Lib.frozen_of_heap c1 0
        have HO := Lib.hid ho
        clear hfi hrd hall hok htx b1 b2 b3 hR ho
        go_wp2_with fail
        refine HF.out.mono ?_
        rintro e w' ⟨⟨v, S, rfl, hB, hS⟩, rfl⟩
        obtain ⟨va, vn, vc, rfl⟩ := hB.form
        have hP := Lib.hid (door_returns kk s w wr S xs _ HN.out hB hS hb c0 c1)
        clear hB hS
        go_wp2_with fail
        refine leaves_cons (f := 82) (args := #[.pointer (some ⟨w.heap.size, 0, none⟩), .pointer (some ⟨w.heap.size + 1, 0, none⟩)]) (by simp) (by simp [go_sem]) ?_
        refine (catch_idle _ _ _).mono ?_
        rintro e u' w'' ⟨rfl, rfl, rfl⟩
        obtain ⟨q0, q1, hP⟩ := hP.out
        refine ⟨.tuple #[.slice va vn vc, .bool true], ?_, hP⟩
        simp [results, Tryz.results58, go_sem, q0, q1]

/-- what a text of at most so many bytes tells as statements -/
def stmtsOf (kk : Bool) (most : Nat) (s : ByteArray) : Option (List Stm) := if s.size ≤ most then reads kk s.data.toList else none

/-- readStatements: what the text tells -/
theorem read_any (s : ByteArray) (most : Nat) (kk : Bool) (w : World) (hm : s.size ≤ 1073741824) (h4 : most ≤ 400) :
    Calls Tryz.prog 58 #[.string s, .int .i64 most, .string (sigs kk)] w (ReadTo (stmtsOf kk most s) w) := by
  by_cases h : s.size ≤ most
  · have := read_short s most kk w h h4
    rw [show stmtsOf kk most s = reads kk s.data.toList from if_pos h]
    exact this
  · refine (read_long s most kk w (by omega) hm).mono ?_
    rintro r w' ⟨h1, h2⟩
    rw [show stmtsOf kk most s = none from if_neg h]
    exact ⟨h1, h2⟩
end Go.Proofs.YtkdnbdgpcgookaaGreatDoor
