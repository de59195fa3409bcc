/- Sets of letters as the program keeps them: a number of 32 bits, the least bit for 'a'. Plain lemmas. Condition: the signs are letters. Statements and those within them in the order of the text; a row's statement; type switches over choices. No condition. eachStatement: what a visitor does to the variable that it has caught, at each statement in the order of the text. Condition: at most 2^20 statements. oneLetter and has of sets of letters. Condition: letters. The model's StatementsOf. Condition: texts of at most 2^30 bytes. The model's l1Names: the names that a body calls, each as often as it is. Condition: the text is that of statements, of at most 2^30 bytes. The model's l1Open: the procedures of a program, or none. Condition: a text of at most 2^30 bytes. oneLetter, names, calls and size of procedures, callsOwn. Condition: a program as readProgram lays it. The calls of a procedure. Condition: a program as readProgram lays it. callsOwn and readProgram: the program of a text, or none, as its plain reading tells. Condition: a text of at most 2^30 bytes, and the library's own number can be read. readProgram: the program of a text, or none, as its plain reading tells. Condition: a text of at most 2^30 bytes, and the library's own number can be read. What readProgram and l1Open hand back, by cases; what a program's plain reading says of it. Plain lemmas; no walk. -/
import Derived.Test.YtomodlllmbkndaaGreatDoorA1
import Derived.WalkKit
import Derived.Test.YtomodlllmbkndaaGreatDoorA2
import Derived.Shelf.Abstract
import Derived.Test.YtomodlllmbkndaaGreatDoorA3
namespace Go.Proofs.YtomodlllmbkndaaGreatDoor
open Go.RowKit Gram

def bitOf (c : UInt8) : Nat := 2 ^ (c.toNat - 97)
def setFrom (m : Nat) (l : List UInt8) : Nat := l.foldl (fun m c => m ||| bitOf c) m
def setOf (l : List UInt8) : Nat := setFrom 0 l
def lets (l : List UInt8) : Prop := ∀ c ∈ l, isLet c = true

theorem let_rng {c : UInt8} (h : isLet c = true) : 97 ≤ c.toNat ∧ c.toNat ≤ 122 := by
  simp only [isLet, Bool.and_eq_true, decide_eq_true_eq, UInt8.le_iff_toNat_le] at h
  exact h
theorem bit_lt {c : UInt8} (h : isLet c = true) : bitOf c < 67108864 := by
  have := let_rng h
  have h2 : bitOf c < 2 ^ 26 := Nat.pow_lt_pow_right (by decide) (by omega)
  exact h2
theorem setFrom_bit (l : List UInt8) : ∀ m i, (setFrom m l).testBit i = (m.testBit i || l.any fun c => c.toNat - 97 == i) := by
  induction l with
  | nil => intro m i; simp [setFrom]
  | cons c t ih =>
    intro m i
    show (setFrom (m ||| bitOf c) t).testBit i = _
    rw [ih, Nat.testBit_or, bitOf, Nat.testBit_two_pow, List.any_cons, Bool.or_assoc]
    rfl
theorem setOf_bit (l : List UInt8) (i : Nat) : (setOf l).testBit i = l.any fun c => c.toNat - 97 == i := by
  rw [setOf, setFrom_bit]; simp
theorem setFrom_lt (l : List UInt8) : ∀ m, m < 67108864 → lets l → setFrom m l < 67108864 := by
  induction l with
  | nil => intro m h _; exact h
  | cons c t ih =>
    intro m h hl
    refine ih _ ?_ (fun d hd => hl d (List.mem_cons_of_mem _ hd))
    exact Nat.or_lt_two_pow (n := 26) h (bit_lt (hl c (List.mem_cons_self ..)))
theorem setOf_lt (l : List UInt8) (h : lets l) : setOf l < 67108864 := setFrom_lt l 0 (by decide) h
theorem set_has (l : List UInt8) (c : UInt8) (hl : lets l) (hc : isLet c = true) : (setOf l).testBit (c.toNat - 97) = l.contains c := by
  rw [setOf_bit, Bool.eq_iff_iff, List.any_eq_true, List.contains_iff_mem]
  constructor
  · rintro ⟨d, hd, he⟩
    have h1 := let_rng (hl d hd)
    have h2 := let_rng hc
    have h3 : d.toNat - 97 = c.toNat - 97 := by simpa using he
    have : d = c := UInt8.toNat.inj (by omega)
    exact this ▸ hd
  · intro h; exact ⟨c, h, by simp⟩

theorem nat32 (a : Nat) (h : a < 4294967296) : (BitVec.ofInt 32 (a : Int)).toNat = a := by
  rw [BitVec.ofInt_natCast, BitVec.toNat_ofNat]; exact Nat.mod_eq_of_lt (by omega)
theorem or32 (a b : Nat) (ha : a < 4294967296) (hb : b < 4294967296) : bits .or .u32 (a : Int) (b : Int) = ((a ||| b : Nat) : Int) := by
  have hx : a ||| b < 2 ^ 32 := Nat.or_lt_two_pow ha hb
  show IntKind.u32.wrap ((BitVec.ofInt 32 (a : Int) ||| BitVec.ofInt 32 (b : Int)).toNat : Int) = _
  rw [BitVec.toNat_or, nat32 a ha, nat32 b hb, IntKind.wrap_u32]
  omega
theorem and32 (a b : Nat) (ha : a < 4294967296) (hb : b < 4294967296) : bits .and .u32 (a : Int) (b : Int) = ((a &&& b : Nat) : Int) := by
  have hx : a &&& b < 2 ^ 32 := Nat.and_lt_two_pow _ hb
  show IntKind.u32.wrap ((BitVec.ofInt 32 (a : Int) &&& BitVec.ofInt 32 (b : Int)).toNat : Int) = _
  rw [BitVec.toNat_and, nat32 a ha, nat32 b hb, IntKind.wrap_u32]
  omega
/-- what of a is not in b -/
def lessOf (a b : Nat) : Nat := (BitVec.ofNat 32 a &&& ~~~ BitVec.ofNat 32 b).toNat
theorem less32 (a b : Nat) : bits .andNot .u32 (a : Int) (b : Int) = (lessOf a b : Int) := by
  show IntKind.u32.wrap ((BitVec.ofInt 32 (a : Int) &&& ~~~ BitVec.ofInt 32 (b : Int)).toNat : Int) = _
  rw [BitVec.ofInt_natCast, BitVec.ofInt_natCast, IntKind.wrap_u32]
  have := (BitVec.ofNat 32 a &&& ~~~ BitVec.ofNat 32 b).isLt
  rw [lessOf]
  omega
theorem lessOf_bit (a b i : Nat) : (lessOf a b).testBit i = (decide (i < 32) && a.testBit i && !b.testBit i) := by
  rw [lessOf, BitVec.testBit_toNat, BitVec.getLsbD_and, BitVec.getLsbD_not, BitVec.getLsbD_ofNat, BitVec.getLsbD_ofNat]
  cases decide (i < 32) <;> simp
theorem lessOf_lt (a b : Nat) : lessOf a b < 4294967296 := (BitVec.ofNat 32 a &&& ~~~ BitVec.ofNat 32 b).isLt
theorem lessOf_zero (a b : List UInt8) (ha : lets a) (hb : lets b) : lessOf (setOf a) (setOf b) = 0 ↔ ∀ c ∈ a, c ∈ b := by
  constructor
  · intro h c hc
    have h1 := lessOf_bit (setOf a) (setOf b) (c.toNat - 97)
    have h2 := let_rng (ha c hc)
    rw [h, Nat.zero_testBit, set_has a c ha (ha c hc), set_has b c hb (ha c hc), show (decide (c.toNat - 97 < 32)) = true from by rw [decide_eq_true_iff]; omega, List.contains_iff_mem.2 hc] at h1
    simpa using h1
  · intro h
    apply Nat.eq_of_testBit_eq
    intro i
    rw [lessOf_bit, Nat.zero_testBit, setOf_bit, setOf_bit]
    cases ha' : (a.any fun c => c.toNat - 97 == i) with
    | false => simp
    | true =>
      have : (b.any fun c => c.toNat - 97 == i) = true := by
        rw [List.any_eq_true] at ha' ⊢
        obtain ⟨c, hc, he⟩ := ha'
        exact ⟨c, h c hc, he⟩
      rw [this]; simp
end Go.Proofs.YtomodlllmbkndaaGreatDoor
namespace Go.Proofs.YtomodlllmbkndaaGreatDoor
open Go.RowKit Gram

mutual
/-- a statement and those within it, in the order of the text -/
def _root_.Go.Proofs.YtomodlllmbkndaaGreatDoor.Gram.Stm.flat : Stm → List Stm
  | .cho a b => .cho a b :: (flats a ++ flats b)
  | .chg g d => [.chg g d]
  | .prt => [.prt]
  | .pro => [.pro]
  | .call c => [.call c]
def flats : List Stm → List Stm
  | [] => []
  | x :: xs => x.flat ++ flats xs
end
theorem flats_append (a b : List Stm) : flats (a ++ b) = flats a ++ flats b := by
  induction a with
  | nil => simp [flats]
  | cons x t ih => simp [flats, ih]
theorem flats_cons (x : Stm) (t : List Stm) : flats (x :: t) = x.flat ++ flats t := by simp [flats]
theorem flat_pos (x : Stm) : 0 < x.flat.length := by cases x <;> simp [Stm.flat]
theorem flats_ge (xs : List Stm) : xs.length ≤ (flats xs).length := by
  induction xs with
  | nil => simp
  | cons x t ih => have := flat_pos x; simp [flats]; omega
theorem flats_cut (xs : List Stm) (k : Nat) (x : Stm) (hx : xs[k]? = some x) : flats xs = flats (xs.take k) ++ (x.flat ++ flats (xs.drop (k + 1))) ∧ flats (xs.take (k + 1)) = flats (xs.take k) ++ x.flat := by
  obtain ⟨hk, rfl⟩ := List.getElem?_eq_some_iff.1 hx
  constructor
  · rw [← flats_cons, List.getElem_cons_drop, ← flats_append, List.take_append_drop]
  · rw [List.take_succ_eq_append_getElem hk, flats_append]; simp [flats]

theorem ta_chg (pv : Value) (w : World) : (Instr.typeAssert (.iface 157 pv) 139 163 true).run Tryz.prog w = .ok (.tuple #[.agg #[.slice none 0 0, .slice none 0 0], .bool false]) w := by kernel_rfl
theorem ta_prt (pv : Value) (w : World) : (Instr.typeAssert (.iface 160 pv) 139 163 true).run Tryz.prog w = .ok (.tuple #[.agg #[.slice none 0 0, .slice none 0 0], .bool false]) w := by kernel_rfl
theorem ta_call (pv : Value) (w : World) : (Instr.typeAssert (.iface 150 pv) 139 163 true).run Tryz.prog w = .ok (.tuple #[.agg #[.slice none 0 0, .slice none 0 0], .bool false]) w := by kernel_rfl
theorem ta_pro (pv : Value) (w : World) : (Instr.typeAssert (.iface 219 pv) 139 163 true).run Tryz.prog w = .ok (.tuple #[.agg #[.slice none 0 0, .slice none 0 0], .bool false]) w := by kernel_rfl
theorem ta_cho (pv : Value) (w : World) : (Instr.typeAssert (.iface 163 pv) 139 163 true).run Tryz.prog w = .ok (.tuple #[pv, .bool true]) w := by kernel_rfl

theorem stms_get {w : World} {S : Nat → Prop} : ∀ (xs : List Stm) (vs : List Value), IsStms w S xs vs → ∀ k, k < xs.length → ∃ x v, xs[k]? = some x ∧ vs[k]? = some v ∧ IsStm w S x v
  | [], _, _, k, hk => by simp at hk
  | x :: xs, vs, h, k, hk => by
    simp only [IsStms] at h
    obtain ⟨v, t, rfl, h1, h2⟩ := h
    cases k with
    | zero => exact ⟨x, v, rfl, rfl, h1⟩
    | succ k =>
      obtain ⟨y, u, a, b, c⟩ := stms_get xs t h2 k (by simpa using hk)
      exact ⟨y, u, by simpa using a, by simpa using b, c⟩
end Go.Proofs.YtomodlllmbkndaaGreatDoor
namespace Go.Proofs.YtomodlllmbkndaaGreatDoor
open Go.RowKit Gram

def okAll (ok : Nat → Stm → Prop) (step : Nat → Stm → Nat) : Nat → List Stm → Prop
  | _, [] => True
  | a, x :: l => ok a x ∧ okAll ok step (step a x) l
theorem okAll_append (ok : Nat → Stm → Prop) (step : Nat → Stm → Nat) (l m : List Stm) : ∀ a, okAll ok step a (l ++ m) ↔ okAll ok step a l ∧ okAll ok step (l.foldl step a) m := by
  induction l with
  | nil => intro a; simp [okAll]
  | cons x t ih => intro a; simp only [List.cons_append, okAll, ih, List.foldl_cons]; exact and_assoc.symm

section
variable (f : FuncId) (T : TypeId) (enc : Nat → Value) (step : Nat → Stm → Nat) (ok : Nat → Stm → Prop)
/-- what a visitor does -/
def Visits : Prop := ∀ (w : World) (S : Nat → Prop) (c a : Nat) (x : Stm) (ty : TypeId) (pv : Value), ok a x → IsStm w S x (.iface ty pv) → w.heap[c]? = some (.cells #[enc a] T (0, 0)) →
  Calls Tryz.prog f #[.iface ty pv, .pointer (some ⟨c, 0, none⟩)] w fun e w' => e = .returned (.tuple #[]) ∧ w'.heap[c]? = some (.cells #[enc (step a x)] T (0, 0)) ∧ But c w w'

def SaidEach (n : Nat) : Prop := ∀ (xs : List Stm) (w : World) (S : Nat → Prop) (v : Value) (c a : Nat), (flats xs).length ≤ n → n ≤ 1048576 → (∀ k, S k → k < w.heap.size ∧ k ≠ c) → IsBody w S xs v →
  w.heap[c]? = some (.cells #[enc a] T (0, 0)) → okAll ok step a (flats xs) →
  Calls Tryz.prog 100 #[v, .func (.func f) #[] #[.pointer (some ⟨c, 0, none⟩)]] w fun e w' => e = .returned (.tuple #[]) ∧ w'.heap[c]? = some (.cells #[enc ((flats xs).foldl step a)] T (0, 0)) ∧ But c w w'

set_option maxHeartbeats 2000000 in
set_option maxRecDepth 100000 in
theorem each_loop (hE : ∀ (args : Array Value) (w : World), (callFunc f args).run Tryz.prog w = .ok (.enter f args) w) (hv : Visits f T enc step ok) (n : Nat) (h : ∀ m, m < n → SaidEach f T enc step ok m) (xs : List Stm) (w : World) (S : Nat → Prop) (ad : Option Addr) (ln cp : Nat) (c a : Nat) (vs : List Value) (hx : (flats xs).length ≤ n) (hn : n ≤ 1048576)
    (hS : ∀ k, S k → k < w.heap.size ∧ k ≠ c) (hr : Row w S (.slice ad ln cp) vs) (hs : IsStms w S xs vs) (hln : ln = xs.length) (hc : w.heap[c]? = some (.cells #[enc a] T (0, 0))) (ho : okAll ok step a (flats xs)) :
    Calls Tryz.prog 100 #[.slice ad ln cp, .func (.func f) #[] #[.pointer (some ⟨c, 0, none⟩)]] w fun e w' => e = .returned (.tuple #[]) ∧ w'.heap[c]? = some (.cells #[enc ((flats xs).foldl step a)] T (0, 0)) ∧ But c w w' := by
  have hle := flats_ge xs
  have hlb : ln ≤ 1048576 := by omega
  have H := Lib.hid h
  have HV := Lib.hid hv
  have HR := Lib.hid hr
  have HS := Lib.hid hs
  have HL := Lib.hid hln
  have HSS := Lib.hid hS
  have HC := Lib.hid hc
  have HO := Lib.hid ho
  have HX := Lib.hid hx
  clear h hv hr hs hS hln hc ho hx hle
  go_enter Tryz.func100, Tryz.ntmps100
  go_wp2_with fail
  go_loopw [10] (fun i wr => ∃ k : Nat, k ≤ ln ∧ i = .int .i64 k ∧ Hid (wr.heap[c]? = some (.cells #[enc ((flats (xs.take k)).foldl step a)] T (0, 0))) ∧ Hid (But c w wr)) (fun i _ => ln - (intOf i).toNat)
  case atStart =>
    exact ⟨0, Nat.zero_le _, by go_num, HC.out, But.refl _ _⟩
  case round =>
    obtain ⟨k, hk, rfl, hI, hb⟩ := hrel
    by_cases hlt : k < ln
    · obtain ⟨x, v, hxk, hvk, hst⟩ := stms_get xs vs HS.out k (by rw [← HL.out]; exact hlt)
      obtain ⟨g, hga, hc1⟩ : ∃ g, ad = some ⟨g, 0, none⟩ ∧ wr.cell? ⟨g, k, none⟩ = some v := by
        rcases HR.out.1.2 with ⟨h1, h2⟩ | ⟨g, cap, cur, h1, _, _⟩
        · injection h1 with h3 h4; omega
        · injection h1 with h3 h4 h5
          subst h3; subst h4; subst h5
          have hg := HSS.out g (HR.out.2 g rfl)
          have := row_cell HR.out.1 k v hvk
          exact ⟨g, rfl, by rw [← this]; exact World.cell?_of_block (a := ⟨g, k, none⟩) (hb.out.block g hg.1 hg.2)⟩
      subst hga
      have hkeep : ∀ j, S j → wr.heap[j]? = w.heap[j]? := fun j hj => hb.out.block j (HSS.out j hj).1 (HSS.out j hj).2
      have hst2 := IsStm.kept hkeep (fun _ h => h) _ _ hst
      obtain ⟨ty, pv, rfl⟩ := hst2.iface
      obtain ⟨hf1, hf2⟩ := flats_cut xs k x hxk
      have ho2 := HO.out
      rw [hf1, okAll_append, okAll_append] at ho2
      have hx2 := HX.out
      rw [hf1] at hx2
      simp only [List.length_append] at hx2
      have HF2 := Lib.hid hf2
      have HOK := Lib.hid ho2.2.1
      clear hf1 hf2 ho2 hst hkeep hxk hvk
      have HB0 := Lib.hid hb
      generalize hacc : (flats (xs.take k)).foldl step a = acc at *
      have HA := Lib.hid hacc
      clear hacc
      cases x with
      | pro =>
        have HC2 := Lib.hid (HV.out wr S c acc _ ty pv HOK.out.1 hst2 hI.out)
        simp only [IsStm] at hst2
        injection hst2 with h1 h2; subst h1; subst h2
        go_wp2_with fail
        refine HC2.out.mono ?_
        rintro e w2 ⟨rfl, hc2, hb2⟩
        have HH := Lib.hid hc2
        have HB2 := Lib.hid hb2
        clear hc2 hb2
        have hta := ta_pro
        go_wp2_with fail
        go_roundw
        case rel =>
          refine ⟨k + 1, by omega, by go_num, ?_, (hb.out.trans HB2.out).trans (But.of_below ((Below.refl _ _).alloc (Nat.le_refl _) _))⟩
          show (World.heap _)[c]? = _
          rw [HF2.out, List.foldl_append, HA.out, Lib.alloc_old _ _ _ (heap_lt HH.out)]
          exact HH.out
        case measure => simp [intOf]; omega
      | chg g' d =>
        have HC2 := Lib.hid (HV.out wr S c acc _ ty pv HOK.out.1 hst2 hI.out)
        simp only [IsStm] at hst2
        injection hst2 with h1 h2; subst h1; subst h2
        go_wp2_with fail
        refine HC2.out.mono ?_
        rintro e w2 ⟨rfl, hc2, hb2⟩
        have HH := Lib.hid hc2
        have HB2 := Lib.hid hb2
        clear hc2 hb2
        have hta := ta_chg
        go_wp2_with fail
        go_roundw
        case rel =>
          refine ⟨k + 1, by omega, by go_num, ?_, (hb.out.trans HB2.out).trans (But.of_below ((Below.refl _ _).alloc (Nat.le_refl _) _))⟩
          show (World.heap _)[c]? = _
          rw [HF2.out, List.foldl_append, HA.out, Lib.alloc_old _ _ _ (heap_lt HH.out)]
          exact HH.out
        case measure => simp [intOf]; omega
      | prt =>
        have HC2 := Lib.hid (HV.out wr S c acc _ ty pv HOK.out.1 hst2 hI.out)
        simp only [IsStm] at hst2
        injection hst2 with h1 h2; subst h1; subst h2
        go_wp2_with fail
        refine HC2.out.mono ?_
        rintro e w2 ⟨rfl, hc2, hb2⟩
        have HH := Lib.hid hc2
        have HB2 := Lib.hid hb2
        clear hc2 hb2
        have hta := ta_prt
        go_wp2_with fail
        go_roundw
        case rel =>
          refine ⟨k + 1, by omega, by go_num, ?_, (hb.out.trans HB2.out).trans (But.of_below ((Below.refl _ _).alloc (Nat.le_refl _) _))⟩
          show (World.heap _)[c]? = _
          rw [HF2.out, List.foldl_append, HA.out, Lib.alloc_old _ _ _ (heap_lt HH.out)]
          exact HH.out
        case measure => simp [intOf]; omega
      | call d =>
        have HC2 := Lib.hid (HV.out wr S c acc _ ty pv HOK.out.1 hst2 hI.out)
        simp only [IsStm] at hst2
        injection hst2 with h1 h2; subst h1; subst h2
        go_wp2_with fail
        refine HC2.out.mono ?_
        rintro e w2 ⟨rfl, hc2, hb2⟩
        have HH := Lib.hid hc2
        have HB2 := Lib.hid hb2
        clear hc2 hb2
        have hta := ta_call
        go_wp2_with fail
        go_roundw
        case rel =>
          refine ⟨k + 1, by omega, by go_num, ?_, (hb.out.trans HB2.out).trans (But.of_below ((Below.refl _ _).alloc (Nat.le_refl _) _))⟩
          show (World.heap _)[c]? = _
          rw [HF2.out, List.foldl_append, HA.out, Lib.alloc_old _ _ _ (heap_lt HH.out)]
          exact HH.out
        case measure => simp [intOf]; omega
      | cho p q =>
        have HC2 := Lib.hid (HV.out wr S c acc _ ty pv HOK.out.1 hst2 hI.out)
        have hst3 := hst2
        simp only [IsStm] at hst2
        obtain ⟨va, vb, vas, vbs, he, r1, s1, r2, s2⟩ := hst2
        injection he with h1 h2; subst h1; subst h2
        obtain ⟨la, l1, lc, rfl⟩ := slice_form r1.1
        obtain ⟨fa, l2, fc, rfl⟩ := slice_form r2.1
        have hS2 : ∀ w', But c wr w' → (∀ k, S k → k < w'.heap.size ∧ k ≠ c) ∧ ∀ k, S k → w'.heap[k]? = wr.heap[k]? := by
          intro w' hb'
          have h1 : ∀ k, S k → k < wr.heap.size := fun k hk => Nat.lt_of_lt_of_le (HSS.out k hk).1 hb.out.size
          exact ⟨fun k hk => ⟨Nat.lt_of_lt_of_le (h1 k hk) hb'.size, (HSS.out k hk).2⟩, fun k hk => hb'.block k (h1 k hk) (HSS.out k hk).2⟩
        have hok2 := HOK.out
        simp only [Stm.flat, okAll, okAll_append] at hok2
        simp only [Stm.flat, List.length_cons, List.length_append] at hx2
        have HP := Lib.hid (fun w' acc' (hb' : But c wr w') hc' ho' => H.out (flats p).length (by omega) p w' S (.slice la l1 lc) c acc' (Nat.le_refl _) (by omega) (hS2 w' hb').1 (IsBody.kept (hS2 w' hb').2 (fun _ h => h) ⟨vas, r1, s1⟩) hc' ho')
        have HQ := Lib.hid (fun w' acc' (hb' : But c wr w') hc' ho' => H.out (flats q).length (by omega) q w' S (.slice fa l2 fc) c acc' (Nat.le_refl _) (by omega) (hS2 w' hb').1 (IsBody.kept (hS2 w' hb').2 (fun _ h => h) ⟨vbs, r2, s2⟩) hc' ho')
        have HOP := Lib.hid hok2.2.1
        have HOQ := Lib.hid hok2.2.2
        clear hok2 hS2 r1 s1 r2 s2 hst3 hx2
        go_wp2_with fail
        refine HC2.out.mono ?_
        rintro e w2 ⟨rfl, hc2, hb2⟩
        have HH := Lib.hid hc2
        have HB2 := Lib.hid hb2
        clear hc2 hb2
        have hta := ta_cho
        go_wp2_with fail
        have hl1 : w2.heap.size + 0 < (w2.alloc (.cells #[.slice la l1 lc, .slice fa l2 fc] 163)).heap.size := by rw [alloc_size']; omega
        have hne : w2.heap.size ≠ c := by have := heap_lt HH.out; omega
        have hal := But.of_below (c := c) ((Below.refl w2.heap.size w2).alloc (Nat.le_refl _) (.cells #[.slice la l1 lc, .slice fa l2 fc] 163))
        have HAL := Lib.hid hal
        have HNE := Lib.hid hne
        clear hal hne hl1
        refine (HP.out _ (step acc (.cho p q)) (HB2.out.trans HAL.out) (by rw [Lib.alloc_old _ _ _ (heap_lt HH.out)]; exact HH.out) HOP.out).mono ?_
        rintro e w3 ⟨rfl, hc3, hb3⟩
        have HH3 := Lib.hid hc3
        have HB3 := Lib.hid hb3
        have hblk : w3.heap[w2.heap.size]? = some (.cells #[.slice la l1 lc, .slice fa l2 fc] 163 (0, 0)) := by
          rw [hb3.block _ (by rw [alloc_size']; omega) HNE.out]; exact heap_alloc_new _ _
        have q1 : w3.cell? ⟨w2.heap.size, 1, none⟩ = some (.slice fa l2 fc) := by rw [Lib.cell_of_heap hblk]; rfl
        clear hc3 hb3 hblk
        go_wp2_with fail
        refine (HQ.out _ _ ((HB2.out.trans HAL.out).trans HB3.out) HH3.out HOQ.out).mono ?_
        rintro e w4 ⟨rfl, hc4, hb4⟩
        have HH4 := Lib.hid hc4
        have HB4 := Lib.hid hb4
        clear hc4 hb4
        go_wp2_with fail
        go_roundw
        case rel =>
          refine ⟨k + 1, by omega, by go_num, ?_, (((hb.out.trans HB2.out).trans HAL.out).trans HB3.out).trans HB4.out⟩
          show (World.heap _)[c]? = _
          rw [HF2.out, List.foldl_append, HA.out, Stm.flat, List.foldl_cons, List.foldl_append]
          exact HH4.out
        case measure => simp [intOf]; omega
    · have hall : xs.take k = xs := List.take_of_length_le (by rw [← HL.out]; omega)
      rw [hall] at hI
      go_wp2_with fail
      go_end0
      exact ⟨rfl, hI.out, hb.out⟩

theorem each_all (hE : ∀ (args : Array Value) (w : World), (callFunc f args).run Tryz.prog w = .ok (.enter f args) w) (hv : Visits f T enc step ok) (n : Nat) : SaidEach f T enc step ok n := by
  induction n using Nat.strongRecOn with
  | _ n ih =>
    intro xs w S v c a hx hn hS hB hc ho
    obtain ⟨vs, hr, hs⟩ := hB
    obtain ⟨ad, ln, cp, rfl⟩ := slice_form hr.1
    have hl := IsStms.len _ _ hs
    refine each_loop f T enc step ok hE hv n ih xs w S ad ln cp c a vs hx hn hS hr hs ?_ hc ho
    rcases hr.1.2 with ⟨h1, h2⟩ | ⟨g, cap, cur, h1, _⟩
    · injection h1 with _ h3; omega
    · injection h1 with _ h3; omega
end
end Go.Proofs.YtomodlllmbkndaaGreatDoor
namespace Go.Proofs.YtomodlllmbkndaaGreatDoor
open Go.RowKit Gram

set_option maxHeartbeats 400000 in
theorem one_letter (c : UInt8) (h : isLet c = true) (w : World) :
    Calls Tryz.prog 57 #[.int .u8 c.toNat] w fun e w' => e = .returned (.int .u32 (bitOf c)) ∧ w = w' := by
  obtain ⟨h1, h2⟩ := let_rng h
  have hlt := bit_lt h
  have e1 : IntKind.u8.wrap ((c.toNat : Int) - 97) = ((c.toNat - 97 : Nat) : Int) := by rw [IntWalk.u8_in _ (by omega)]; omega
  have HB := Lib.hid (by
    have h3 : ((1 : Int) * 2 ^ (c.toNat - 97)) = (bitOf c : Int) := by rw [bitOf]; simp
    rw [Int.toNat_natCast, h3, IntWalk.u32_in _ (by omega)] : IntKind.u32.wrap (1 * 2 ^ (((c.toNat - 97 : Nat) : Int)).toNat) = (bitOf c : Int))
  go_enter Tryz.func57, Tryz.ntmps57
  go_wp2_with fail
  go_ret
  refine ⟨ret_int ?_, rfl⟩
  have h3 : ((2 : Int) ^ (c.toNat - 97)) = (bitOf c : Int) := by rw [bitOf]; simp
  rw [h3]; omega

theorem and_bit (m i : Nat) : m &&& 2 ^ i = if m.testBit i = true then 2 ^ i else 0 := by
  apply Nat.eq_of_testBit_eq
  intro j
  rw [Nat.testBit_and, Nat.testBit_two_pow]
  by_cases h : i = j
  · subst h
    cases hb : m.testBit i <;> simp
  · cases hb : m.testBit i <;> simp [h]
theorem has_bit (l : List UInt8) (c : UInt8) (hl : lets l) (hc : isLet c = true) : (bits .and .u32 (setOf l : Int) (bitOf c : Int) != 0) = l.contains c := by
  have h1 := setOf_lt l hl
  have h2 := bit_lt hc
  rw [and32 _ _ (by omega) (by omega), bitOf, and_bit, set_has l c hl hc]
  cases l.contains c with
  | true =>
    have := Nat.two_pow_pos (c.toNat - 97)
    rw [if_pos rfl, bne_iff_ne]
    omega
  | false => simp

set_option maxHeartbeats 400000 in
theorem has_set (l : List UInt8) (c : UInt8) (hl : lets l) (hc : isLet c = true) (w : World) :
    Calls Tryz.prog 58 #[.int .u32 (setOf l), .int .u8 c.toNat] w fun e w' => e = .returned (.bool (l.contains c)) ∧ w = w' := by
  have HO := Lib.hid (fun w => one_letter c hc w)
  have HB := Lib.hid (has_bit l c hl hc)
  generalize l.contains c = b at *
  go_enter Tryz.func58, Tryz.ntmps58
  go_wp2_with fail
  refine (HO.out _).mono ?_
  rintro e w2 ⟨rfl, rfl⟩
  have hb := HB.out
  go_wp2_with fail
  go_ret
  exact ⟨rfl, rfl⟩
end Go.Proofs.YtomodlllmbkndaaGreatDoor
namespace Go.Proofs.YtomodlllmbkndaaGreatDoor
open Go.RowKit Gram

set_option maxHeartbeats 1000000 in
set_option maxRecDepth 100000 in
theorem spec_statements (s : ByteArray) (w : World) (hs : s.size ≤ 1073741824) :
    Calls Tryz.prog 81 #[.string s] w fun e w' => ∃ v b xs, e = .returned (.tuple #[v, .bool b]) ∧ Hid ((b = false ∧ bodyOf s = none ∧ xs = []) ∨ (b = true ∧ bodyOf s = some xs)) ∧
      w'.ownsRow w.heap.size 9 1 v xs.length (stmVs xs) ∧ Below w.heap.size w w' := by
  have hfail : ∀ (wr : World), Below w.heap.size w wr → (wr.alloc (.cells #[] 9)).ownsRow w.heap.size 9 1 (.slice (some ⟨wr.heap.size, 0, none⟩) 0 0) (List.length ([] : List Stm)) (stmVs []) ∧ Below w.heap.size w (wr.alloc (.cells #[] 9)) := by
    intro wr hb
    have := hb.size
    refine ⟨?_, hb.alloc (by omega) _⟩
    exact ⟨by simp [stmVs], .inr ⟨wr.heap.size, 0, #[], rfl, by omega, heap_alloc_new wr _, Nat.le_refl _, by simp [maxLen], by simp, by simp [stmVs]⟩⟩
  have hF := Lib.hid hfail
  clear hfail
  go_enter Tryz.func81, Tryz.ntmps81
  go_wp2_with fail
  refine (split_any s w hs).mono ?_
  rintro e w1 ⟨v, b, xs, rfl, hr, hown, hb⟩
  cases b with
  | false =>
    have hN := Lib.hid (show bodyOf s = none by
      rcases hr.out with ⟨_, h, _⟩ | ⟨h, _⟩
      · unfold bodyOf; split
        · rw [reads_eq, ← from_zero, h]; simp
        · rfl
      · cases h)
    clear hr
    go_wp2_with fail
    go_ret2
    exact ⟨_, _, [], rfl, .inl ⟨rfl, hN.out, rfl⟩, hF.out _ hb⟩
  | true =>
    have hA := Lib.hid (show pA (from_ s 0) = some xs by
      rcases hr.out with ⟨h, _⟩ | ⟨_, h⟩
      · cases h
      · exact h)
    clear hr
    go_wp2_with fail
    refine (has_any s 75 (by omega) _).mono ?_
    rintro e w' ⟨rfl, rfl⟩
    cases hc : s.data.toList.contains 75 with
    | true =>
      have hN := Lib.hid (show bodyOf s = none by
        unfold bodyOf; split
        · rw [reads_eq, hc]; rfl
        · rfl)
      clear hc
      go_wp2_with fail
      go_ret2
      exact ⟨_, _, [], rfl, .inl ⟨rfl, hN.out, rfl⟩, hF.out _ hb⟩
    | false =>
      by_cases h400 : s.size ≤ 400
      · have hN := Lib.hid (show bodyOf s = some xs by
          unfold bodyOf; rw [if_pos h400, reads_eq, hc, ← from_zero, hA.out]; rfl)
        clear hc
        go_wp2_with fail
        go_ret2
        exact ⟨_, _, xs, rfl, .inr ⟨rfl, hN.out⟩, hown, hb⟩
      · have hN := Lib.hid (show bodyOf s = none by unfold bodyOf; rw [if_neg h400])
        clear hc
        go_wp2_with fail
        go_ret2
        exact ⟨_, _, [], rfl, .inl ⟨rfl, hN.out, rfl⟩, hF.out _ hb⟩
end Go.Proofs.YtomodlllmbkndaaGreatDoor
namespace Go.Proofs.YtomodlllmbkndaaGreatDoor
open Go.RowKit Gram

theorem data_append2 (a b : ByteArray) : (a ++ b).data.toList = a.data.toList ++ b.data.toList := by simp

/-- what stands behind each 'C' -/
def scan : List UInt8 → List UInt8
  | [] => []
  | c :: t => (if c = 67 then [t.headD 0] else []) ++ scan t
/-- behind each 'C' something stands -/
def safe : List UInt8 → Prop
  | [] => True
  | c :: t => (c = 67 → t ≠ []) ∧ safe t

theorem scan_skip (c : UInt8) (t : List UInt8) (h : c ≠ 67) : scan (c :: t) = scan t := by rw [scan, if_neg h]; rfl
theorem safe_skip (c : UInt8) (t : List UInt8) (h : c ≠ 67) : safe (c :: t) ↔ safe t := by
  rw [safe]; exact ⟨fun x => x.2, fun x => ⟨fun e => absurd e h, x⟩⟩
theorem sgn_no (g : UInt8) (h : isSgn g = true) : g ≠ 67 := by rintro rfl; revert h; decide
theorem dig_no (g : UInt8) (h : isDig g = true) : g ≠ 67 := by rintro rfl; revert h; decide
theorem let_no (g : UInt8) (h : isLet g = true) : g ≠ 67 := by rintro rfl; revert h; decide

mutual
theorem scan_stm (x : Stm) (r : List UInt8) (h : x.wf = true) : scan (x.txt ++ r) = x.calls ++ scan r ∧ (safe (x.txt ++ r) ↔ safe r) := by
  match x with
  | .chg g d =>
    simp only [Stm.wf, Bool.and_eq_true] at h
    have h1 := sgn_no g h.1
    have h2 := dig_no d h.2
    simp only [Stm.txt, Stm.calls, List.cons_append, List.nil_append]
    exact ⟨by rw [scan_skip _ _ h1, scan_skip _ _ h2], by rw [safe_skip _ _ h1, safe_skip _ _ h2]⟩
  | .prt =>
    simp only [Stm.txt, Stm.calls, List.cons_append, List.nil_append]
    exact ⟨scan_skip _ _ (by decide), safe_skip _ _ (by decide)⟩
  | .pro =>
    simp only [Stm.txt, Stm.calls, List.cons_append, List.nil_append]
    exact ⟨scan_skip _ _ (by decide), safe_skip _ _ (by decide)⟩
  | .call c =>
    simp only [Stm.wf] at h
    have h1 := let_no c h
    simp only [Stm.txt, Stm.calls, List.cons_append, List.nil_append]
    refine ⟨?_, ?_⟩
    · rw [scan, if_pos rfl, scan_skip _ _ h1]; rfl
    · rw [safe, safe_skip _ _ h1]; simp
  | .cho a b =>
    simp only [Stm.wf, Bool.and_eq_true] at h
    obtain ⟨a1, a2⟩ := scan_stms a (93 :: 91 :: (txts b ++ 93 :: r)) h.1
    obtain ⟨b1, b2⟩ := scan_stms b (93 :: r) h.2
    have e : (Stm.cho a b).txt ++ r = 63 :: 91 :: (txts a ++ (93 :: 91 :: (txts b ++ 93 :: r))) := by simp [Stm.txt]
    rw [e]
    refine ⟨?_, ?_⟩
    · rw [scan_skip _ _ (by decide), scan_skip _ _ (by decide), a1, scan_skip _ _ (by decide), scan_skip _ _ (by decide), b1, scan_skip _ _ (by decide)]
      simp [Stm.calls]
    · rw [safe_skip _ _ (by decide), safe_skip _ _ (by decide), a2, safe_skip _ _ (by decide), safe_skip _ _ (by decide), b2, safe_skip _ _ (by decide)]
theorem scan_stms (xs : List Stm) (r : List UInt8) (h : wfs xs = true) : scan (txts xs ++ r) = callsIn xs ++ scan r ∧ (safe (txts xs ++ r) ↔ safe r) := by
  match xs with
  | [] => simp [txts, callsIn]
  | x :: xs =>
    simp only [wfs, Bool.and_eq_true] at h
    obtain ⟨a1, a2⟩ := scan_stm x (txts xs ++ r) h.1
    obtain ⟨b1, b2⟩ := scan_stms xs r h.2
    have e : txts (x :: xs) ++ r = x.txt ++ (txts xs ++ r) := by simp [txts]
    rw [e]
    exact ⟨by rw [a1, b1]; simp [callsIn], by rw [a2, b2]⟩
end

theorem scan_drop (s : ByteArray) (i : Nat) (h : i < s.size) : scan (s.data.toList.drop i) = (if sgn s i = 67 then [(s.data.toList.drop (i + 1)).headD 0] else []) ++ scan (s.data.toList.drop (i + 1)) := by
  rw [drop_sgn s i h, scan]
theorem safe_drop (s : ByteArray) (i : Nat) (h : i < s.size) (hs : safe (s.data.toList.drop i)) : (sgn s i = 67 → i + 1 < s.size) ∧ safe (s.data.toList.drop (i + 1)) := by
  rw [drop_sgn s i h, safe] at hs
  refine ⟨fun e => ?_, hs.2⟩
  have := hs.1 e
  rw [Ne, List.drop_eq_nil_iff] at this
  simp at this
  omega
theorem one_cut (s : ByteArray) (i : Nat) (h : i + 1 < s.size) (o : List UInt8) : txtOf o ++ s.extract (i + 1) (i + 2) = txtOf (o ++ [(s.data.toList.drop (i + 1)).headD 0]) := by
  apply ByteArray.ext
  apply Array.toList_inj.1
  have : (s.extract (i + 1) (i + 2)).data.toList = [(s.data.toList.drop (i + 1)).headD 0] := by
    rw [drop_sgn s (i + 1) h]
    have e := seg_V s (i + 1) (i + 2)
    rw [txtV] at e
    injection e with e
    rw [e, seg, drop_sgn s (i + 1) h, show i + 2 - (i + 1) = 1 by omega]
    simp
  rw [data_append2, this]; rfl

set_option maxHeartbeats 1000000 in
set_option maxRecDepth 100000 in
theorem names_scan (s : ByteArray) (w : World) (hs : s.size ≤ 1073741824) (hsafe : safe s.data.toList) :
    Calls Tryz.prog 83 #[.string s] w fun e w' => e = .returned (.string (txtOf (scan s.data.toList))) ∧ w = w' := by
  have HS := Lib.hid hsafe
  clear hsafe
  go_enter Tryz.func83, Tryz.ntmps83
  go_wp2_with fail
  go_loop [3, 4, 7] (fun o _ i => ∃ (k : Nat) (os : List UInt8), i = .int .i64 k ∧ k ≤ s.size ∧ o = .string (txtOf os) ∧ os.length ≤ k ∧ Hid (os ++ scan (s.data.toList.drop k) = scan s.data.toList) ∧ Hid (safe (s.data.toList.drop k))) (fun _ _ i => s.size - (intOf i).toNat)
  case atStart => exact ⟨0, [], by go_num, Nat.zero_le _, rfl, Nat.le_refl _, by show _ = _; simp, HS.out⟩
  case round =>
    obtain ⟨k, os, rfl, hk, rfl, hol, hE, hF⟩ := hrel
    by_cases hlt : k < s.size
    · obtain ⟨f1, f2⟩ := safe_drop s k hlt hF.out
      have hsd := scan_drop s k hlt
      have hoz : (txtOf os).size = os.length := rfl
      by_cases hc : sgn s k = 67
      · have hb : ((s[k].toNat : Int) == 67) = true := by rw [show (67 : Int) = ((67 : UInt8).toNat : Int) from rfl, sgn_is s k hlt 67, hc]; rfl
        have hk1 := f1 hc
        rw [if_pos hc] at hsd
        have HC := Lib.hid (one_cut s k hk1 os)
        have HE2 := Lib.hid (by rw [← hE.out, hsd]; simp : os ++ [(s.data.toList.drop (k + 1)).headD 0] ++ scan (s.data.toList.drop (k + 1)) = scan s.data.toList)
        have HF2 := Lib.hid f2
        have e1 := str_sum (txtOf os) (s.extract (k + 1) (k + 2)) (by rw [hoz]; simp; omega)
        clear hsd f1 f2 hE hF hc hoz
        generalize hto : txtOf os = tt at *
        have HTo := Lib.hid hto
        clear hto
        go_wp2_with fail
        go_round
        case rel => exact ⟨k + 1, os ++ [(s.data.toList.drop (k + 1)).headD 0], by go_num, by omega, by rw [← HC.out], by simp; omega, HE2.out, HF2.out⟩
        case measure => simp [intOf]; omega
      · have hb : ((s[k].toNat : Int) == 67) = false := by rw [show (67 : Int) = ((67 : UInt8).toNat : Int) from rfl, sgn_is s k hlt 67, beq_eq_false_iff_ne]; exact hc
        rw [if_neg hc] at hsd
        have HE2 := Lib.hid (by rw [← hE.out, hsd]; rfl : os ++ scan (s.data.toList.drop (k + 1)) = scan s.data.toList)
        have HF2 := Lib.hid f2
        clear hsd f1 f2 hE hF hc hoz
        go_wp2_with fail
        go_round
        case rel => exact ⟨k + 1, os, by go_num, by omega, rfl, by omega, HE2.out, HF2.out⟩
        case measure => simp [intOf]; omega
    · have hE2 := Lib.hid (by rw [← hE.out, List.drop_of_length_le (by simp; omega)]; simp [scan] : scan s.data.toList = os)
      clear hE hF
      go_wp2_with fail
      go_ret
      exact ⟨by rw [hE2.out]; rfl, rfl⟩

/-- l1Names at a body's text -/
theorem names_any (b : List Stm) (s : ByteArray) (w : World) (hs : s.size ≤ 1073741824) (hb : s.data.toList = txts b) (hw : wfs b = true) :
    Calls Tryz.prog 83 #[.string s] w fun e w' => e = .returned (.string (txtOf (callsIn b))) ∧ w = w' := by
  obtain ⟨h1, h2⟩ := scan_stms b [] hw
  simp only [List.append_nil] at h1 h2
  have h3 := names_scan s w hs (by rw [hb]; exact h2.2 trivial)
  rw [hb, h1] at h3
  simpa [scan] using h3

set_option maxHeartbeats 1000000 in
theorem has_letter (s : ByteArray) (c : UInt8) (hs : s.size ≤ 1099511627776) (w : World) :
    Calls Tryz.prog 84 #[.string s, .int .u8 c.toNat] w fun e w' => e = .returned (.bool (s.data.toList.contains c)) ∧ w = w' := has_any s c hs w
end Go.Proofs.YtomodlllmbkndaaGreatDoor
namespace Go.Proofs.YtomodlllmbkndaaGreatDoor
open Go.RowKit Gram

/-- a body as a program has it -/
def Good (p : Pr) : Prop := wfs p.2 = true ∧ nks p.2 = true ∧ (txts p.2).length ≤ 400 ∧ isLet p.1 = true
theorem procOf_good {l : List UInt8} {p : Pr} (h : procOf l = some p) : Good p := by
  match l, h with
  | n :: c :: r, h =>
    simp only [procOf] at h
    split at h
    case isTrue hc =>
      cases hb : bodyOf ⟨r.toArray⟩ with
      | none => rw [hb] at h; cases h
      | some b =>
        rw [hb] at h
        injection h with h
        subst h
        obtain ⟨h1, h2, h3, h4⟩ := bodyOf_some hb
        have h2' : r = txts b := h2
        exact ⟨h3, h4, by rw [← h2']; exact h1, hc.1⟩
    case isFalse => cases h
theorem procs_good (parts : List (List UInt8)) : ∀ (acc ps : List Pr), procsOf acc parts = some ps → (∀ p ∈ acc, Good p) → ∀ p ∈ ps, Good p := by
  induction parts with
  | nil => intro acc ps h ha; injection h with h; subst h; exact ha
  | cons q qs ih =>
    intro acc ps h ha
    rw [procsOf] at h
    cases hq : procOf q with
    | none => rw [hq] at h; cases h
    | some x =>
      rw [hq] at h
      dsimp only at h
      split at h
      · refine ih _ _ h ?_
        intro p hp
        rcases List.mem_append.1 hp with hp | hp
        · exact ha p hp
        · rw [List.mem_singleton.1 hp]; exact procOf_good hq
      · cases h
theorem pr_get {w : World} {B c : Nat} {e : TypeId} {a : Option Addr} {ps : List Pr} (h : w.ownsRow B e 2 (.slice a ps.length c) ps.length (prVs ps)) (k : Nat) (hk : k < ps.length) :
    ∃ g, a = some ⟨g, 0, none⟩ ∧ w.cell? ⟨g, k * 2, none⟩ = some (.int .u8 ps[k].1.toNat) ∧ w.cell? ⟨g, k * 2 + 1, none⟩ = some (.string (txtOf (txts ps[k].2))) := by
  have key : ∀ (ps : List Pr) (k : Nat) (hk : k < ps.length), (prVs ps)[k * 2]? = some (.int .u8 ps[k].1.toNat) ∧ (prVs ps)[k * 2 + 1]? = some (.string (txtOf (txts ps[k].2))) := by
    intro ps
    induction ps with
    | nil => intro k hk; simp at hk
    | cons p t ih =>
      intro k hk
      cases k with
      | zero => exact ⟨rfl, rfl⟩
      | succ k =>
        have := ih k (by simpa using hk)
        simp only [prVs, List.flatMap_cons, prV] at this ⊢
        rw [show (k + 1) * 2 = k * 2 + 2 by omega, show k * 2 + 2 + 1 = (k * 2 + 1) + 2 by omega]
        simpa using this
  rcases h.2 with ⟨h1, h2⟩ | ⟨g, cap, cur, h1, _, _⟩
  · omega
  · injection h1 with h1 h3 h4
    subst h1
    subst h4
    exact ⟨g, rfl, row_cell h _ _ (key ps k hk).1, row_cell h _ _ (key ps k hk).2⟩
theorem failed' {s : ByteArray} {w wr : World} (hN : progOf s = none) (h : Below w.heap.size w wr) : OpenTo s w (.returned (.tuple #[.slice (some ⟨wr.heap.size, 0, none⟩) 0 0, .bool false])) (wr.alloc (.cells #[] 108)) :=
  ⟨_, false, [], rfl, .inl ⟨rfl, hN⟩, row_empty w wr h, h.alloc h.size _⟩

theorem failed_at {s : ByteArray} {w wr : World} {g : Nat} (hN : progOf s = none) (h : Below w.heap.size w wr) (hg : wr.heap.size = g) : OpenTo s w (.returned (.tuple #[.slice (some ⟨g, 0, none⟩) 0 0, .bool false])) (wr.alloc (.cells #[] 108)) := by
  subst hg
  exact failed' hN h
mutual
theorem calls_stm (x : Stm) : x.calls.length ≤ x.txt.length := by
  match x with
  | .chg _ _ => simp [Stm.calls]
  | .prt => simp [Stm.calls]
  | .pro => simp [Stm.calls]
  | .call c => simp [Stm.calls, Stm.txt]
  | .cho a b =>
    have h1 := calls_le a
    have h2 := calls_le b
    simp [Stm.calls, Stm.txt]; omega
theorem calls_le (xs : List Stm) : (callsIn xs).length ≤ (txts xs).length := by
  match xs with
  | [] => simp [callsIn]
  | x :: xs =>
    have h1 := calls_stm x
    have h2 := calls_le xs
    simp [callsIn, txts]; omega
end
theorem prog_bad {s : ByteArray} {parts : List (List UInt8)} {ps : List Pr} {p : Pr} {c : UInt8} (hp : cuts s.data.toList = parts) (h : procsOf [] parts = some ps) (hm : p ∈ ps) (hc : c ∈ callsIn p.2) (hn : c ∉ namesOf ps) : progOf s = none := by
  unfold progOf
  split
  · rw [hp, h]
    have : ownCalls ps = false := by
      rw [ownCalls, List.all_eq_false]
      refine ⟨p, hm, ?_⟩
      simp only [Bool.not_eq_true, List.all_eq_false]
      exact ⟨c, hc, by simpa using hn⟩
    simp [this]
  · rfl

set_option maxHeartbeats 4000000 in
set_option maxRecDepth 100000 in
theorem open_prog (s : ByteArray) (w : World) (hs : s.size ≤ 1073741824) :
    Calls Tryz.prog 59 #[.string s] w (OpenTo s w) := by
  obtain ⟨i0, hi, hz0, hz1, hz2⟩ := info_parts info_pr
  have HCut := Lib.hid (fun w => cut_any s w hs)
  have hcl := cuts_le s.data.toList []
  rw [show s.data.toList.length = s.size from by simp] at hcl
  generalize hparts : cuts s.data.toList = parts at *
  rw [show cutsP [] s.data.toList = parts from hparts] at hcl
  have hpl : parts.length ≤ 1073741825 := by have := hcl.1; omega
  have HCl := Lib.hid hcl.2
  clear hcl
  have HPa := Lib.hid hparts
  clear hparts
  go_enter Tryz.func59, Tryz.ntmps59
  go_wp2_with fail
  refine (HCut.out _).mono ?_
  rintro e w1 ⟨v1, rfl, o1, b1⟩
  have hsz1 := b1.size
  have O1 := Lib.hid o1
  have B1 := Lib.hid b1
  clear b1
  obtain ⟨va, vn, vc, rfl⟩ := slice_form o1
  have hvn : vn = parts.length := by
    rcases o1.2 with ⟨h1, h2⟩ | ⟨g, cap, cur, h1, _⟩
    · injection h1 with _ h3; omega
    · injection h1 with _ h3
  subst hvn
  clear o1
  go_wp2_with fail
  go_loopw [4, 5, 7, 8, 9, 18] (fun v nm _ _ _ i wr => ∃ (k : Nat) (ps : List Pr), i = .int .i64 k ∧ k ≤ parts.length ∧ ps.length = k ∧ nm = .string (txtOf (namesOf ps)) ∧ wr.ownsRow w.heap.size 108 2 v ps.length (prVs ps) ∧ Hid (Below w.heap.size w wr) ∧ Hid (w1.heap.size ≤ wr.heap.size ∧ wr.ownsRow (w.heap.size + 1) 9 1 (.slice va parts.length vc) parts.length (partVs parts) ∧ ∀ j, v.ownBlock = some j → j = w.heap.size ∨ w1.heap.size ≤ j) ∧ Hid (procsOf [] parts = procsOf ps (parts.drop k))) (fun _ _ _ _ _ i _ => parts.length - (intOf i).toNat)
  case atStart =>
    refine ⟨0, [], by go_num, Nat.zero_le _, rfl, rfl, ?_, ?_, ⟨Nat.le_refl _, by rw [← alloc_size w (.cells #[] 108)]; exact O1.out, fun j hj => .inl (by simpa [Value.ownBlock] using hj.symm)⟩, rfl⟩
    · exact ownsRow_of (row_empty w w (Below.refl _ _)) (fun j hj => B1.out.block j ((row_empty w w (Below.refl _ _)).lt j hj).2)
    · exact ((Below.refl _ _).alloc (Nat.le_refl _) _).trans (B1.out.mono (Nat.le_of_lt (alloc_more w _)))
  case round =>
    obtain ⟨k, ps, rfl, hk, hpk, rfl, hown, hbw, hR, hP⟩ := hrel
    by_cases hlt : k < parts.length
    · obtain ⟨g, c, hvv, c1⟩ := part_get hR.out.2.1 k hlt
      injection hvv with hv1 hv2 hv3
      subst hv1
      subst hv3
      have hst := procsOf_step ps parts k hlt
      have HF := Lib.hid (fun h => prog_none HPa.out (by rw [hP.out, hst, h]) : procOf parts[k] = none → progOf s = none)
      have HFl := Lib.hid (fun x hx hb => prog_none HPa.out (by rw [hP.out, hst, hx]; exact if_neg (by rw [hb]; decide)) : ∀ x, procOf parts[k] = some x → lastBelow ps x.1 = false → progOf s = none)
      have HOk := Lib.hid (fun x hx hb => by rw [hP.out, hst, hx]; exact if_pos hb : ∀ x, procOf parts[k] = some x → lastBelow ps x.1 = true → procsOf [] parts = procsOf (ps ++ [x]) (parts.drop (k + 1)))
      clear hst
      generalize htt : txtOf parts[k] = t at *
      have HTT := Lib.hid htt
      clear htt
      have hpt : parts[k] = t.data.toList := by rw [← HTT.out]; rfl
      have hrest : t.extract (min 2 (t.size : Int)).toNat t.size = txtOf (t.data.toList.drop 2) := by
        rw [← rest_eq]; congr 1; omega
      have hts : t.size ≤ 1073741824 := by
        have := HCl.out _ (List.getElem_mem hlt)
        rw [hpt] at this; simp at this; omega
      have HSt := Lib.hid (fun w => spec_statements (t.extract (min 2 (t.size : Int)).toNat t.size) w (by rw [hrest, txtOf_size]; simp; omega))
      have HRest := Lib.hid hrest
      have HPt := Lib.hid hpt
      clear hrest hpt
      go_wp2_with fail
      refine (HSt.out _).mono ?_
      rintro e w2 ⟨v2, b, xs, rfl, hb, ho2, hb2⟩
      obtain ⟨a2, n2, c2, rfl⟩ := slice_form ho2
      clear ho2
      have HB2 := Lib.hid hb2
      have HBd := Lib.hid hb.out
      clear hb hb2
      have HLong := Lib.hid (fun h => by rw [HPt.out, procOf_long (by simpa using h)]; rfl : 2 ≤ t.size → procOf parts[k] = if isLet (sgn t 0) = true ∧ sgn t 1 = 58 then (bodyOf (txtOf (t.data.toList.drop 2))).map fun b => (sgn t 0, b) else none)
      have HW2 := Lib.hid (hbw.out.trans (HB2.out.mono hbw.out.size))
      generalize hnm : txtOf (namesOf ps) = nm at *
      have HNm := Lib.hid hnm
      clear hnm
      by_cases h2 : t.size < 2
      · have hd : decide ((t.size : Int) < 2) = true := by rw [decide_eq_true_iff]; omega
        go_wp2_with fail
        go_quiet (fail)
        go_wp2_with fail
        go_ret2
        exact failed (HF.out (by rw [HPt.out]; exact procOf_short (by simpa using h2))) HW2.out
      · have hd : decide ((t.size : Int) < 2) = false := by rw [decide_eq_false_iff_not]; omega
        have h0 : 0 < t.size := by omega
        have h1 : 1 < t.size := by omega
        have h1i : (1 : Int) < (t.size : Int) := by omega
        have h2i : (2 : Int) ≤ (t.size : Int) := by omega
        by_cases a0 : isLet t[0] = true
        · by_cases a1 : sgn t 1 = 58
          · have a1b : ((t[1].toNat : Int) != 58) = false := by rw [bne, show (58 : Int) = ((58 : UInt8).toNat : Int) from rfl, sgn_is t 1 h1 58, a1]; rfl
            cases b with
            | false =>
              go_wp2_with fail
              go_quiet ((go_at_call 82; exact Calls.quiet_of_same ((letter_any _ _).mono fun _ _ h => ⟨h.1, h.2.symm⟩)))
              go_wp2_with fail
              go_ret2
              exact failed (HF.out (by
                rw [HLong.out (by omega), ← HRest.out]
                rcases HBd.out with ⟨_, h, _⟩ | ⟨h, _⟩
                · rw [h]; split <;> rfl
                · cases h)) HW2.out
            | true =>
              have HO2 := Lib.hid (ownsRow_of (w' := w2) hown (fun j hj => HB2.out.block j (hown.lt j hj).2))
              have hnz : nm.size = k := by rw [← HNm.out, txtOf_size, ← hpk]; simp [namesOf]
              have e1 := str_sum nm (t.extract 0 1) (by simp; omega)
              have HNz := Lib.hid hnz
              have HPk := Lib.hid hpk
              have HX := Lib.hid (by
                rcases HBd.out with ⟨h, _⟩ | ⟨_, h⟩
                · cases h
                · rw [← HRest.out]; exact h : bodyOf (txtOf (t.data.toList.drop 2)) = some xs)
              have HPr := Lib.hid (by rw [HLong.out (by omega), if_pos ⟨by rw [← sgn_at t 0 h0]; exact a0, a1⟩, HX.out]; rfl : procOf parts[k] = some (sgn t 0, xs))
              have hpl2 : ps.length ≤ 1073741825 := by omega
              clear hpk hnz
              rcases Nat.eq_zero_or_pos ps.length with hk0 | hk0
              · have hel : nm.toList.isEmpty = true := text_none (by rw [HNz.out, ← HPk.out]; exact hk0)
                have HLb := Lib.hid (by rw [List.length_eq_zero_iff.1 hk0]; rfl : lastBelow ps (sgn t 0) = true)
                have HK0 := Lib.hid hk0
                clear hk0
                go_wp2_with fail
                go_quiet ((go_at_call 82; exact Calls.quiet_of_same ((letter_any _ _).mono fun _ _ h => ⟨h.1, h.2.symm⟩)))
                go_wp2_with fail
                go_region_law ((refine step_append_lies _ (by rfl) (.tmp 68) (.tmp 74) 94 (by rfl) w.heap.size 108 i0 _ 2 24 Tryz.underlying94 hi hz0 hz1 hz2 (by rfl) (by decide) _ ps.length (prVs ps) (by simp [Act.eval]) (World.ownsRow.alloc (w := w2.drewN (nq + 1)) HO2.out _) ⟨w2.heap.size, 0, none⟩ 1 1 [.int .u8 t[0].toNat, .string (t.extract 2 t.size)] (by simp [Act.eval]) (by rfl) (World.news_of_block (heap_alloc_new _ _)) (by simp [Value.oneCell']) (by decide) (by unfold maxLen; omega) (by omega) (by rw [alloc_size]; exact Nat.le_succ_of_le HW2.out.size) (w2.heap.size + 1) (by rw [alloc_size]; rfl) ?_; intro g' cap' w4 hown' hgrow hat hlt'))
                have HN4 := Lib.hid (And.intro hown' (And.intro hgrow (And.intro hat hlt')))
                clear hown' hgrow hat hlt'
                go_wp2_with fail
                go_roundw
                case rel =>
                  obtain ⟨hown', hgrow, hat, hlt'⟩ := HN4.out
                  have hW4 : Below w.heap.size w w4 := ((HW2.out.trans (⟨rfl, rfl, rfl, Nat.le_refl _, fun _ _ => rfl⟩ : Below w.heap.size w2 (w2.drewN (nq + 1)))).alloc (HW2.out.size) _).grown hgrow (by rw [alloc_size]; exact Nat.le_succ_of_le HW2.out.size) (fun j hj => (HO2.out.lt j hj).1)
                  have hz4 := hgrow.size
                  rw [alloc_size] at hz4
                  have hz2 : wr.heap.size ≤ w2.heap.size := HB2.out.size
                  have hz4' : w2.heap.size + 1 ≤ w4.heap.size := hz4
                  refine ⟨k + 1, ps ++ [(sgn t 0, xs)], by go_num, by omega, by simp; exact HPk.out, ?_, ?_, hW4, ⟨by have := hR.out.1; omega, ?_, ?_⟩, ?_⟩
                  · rw [← names_snoc ps t h0 xs, HNm.out]
                  · rw [← pr_snoc ps t h0 xs HX.out]; simpa using hown'
                  · refine ownsRow_of hR.out.2.1 (fun j hj => ?_)
                    obtain ⟨j1, j2⟩ := hR.out.2.1.lt j hj
                    have j3 := (O1.out.lt j hj).2
                    rw [hgrow.block j (by rw [alloc_size]; show j < w2.heap.size + 1; omega) (fun he => by have := hR.out.2.2 j he.symm; omega)]
                    rw [Lib.alloc_old (w2.drewN (nq + 1)) _ _ (show j < w2.heap.size by omega)]
                    exact HB2.out.block j j2
                  · intro j hj
                    have hjg : g' = j := by simpa [Value.ownBlock] using hj
                    subst hjg
                    rcases hat with h | h
                    · exact hR.out.2.2 _ h
                    · right; have := hR.out.1; omega
                  · exact HOk.out _ HPr.out HLb.out
                case measure => simp [intOf]; omega
              · obtain ⟨j, hj, hj1, hcmp⟩ := last_of ps t[0] nm hk0 HNm.out
                rw [sgn_at t 0 h0] at hcmp
                have hel : nm.toList.isEmpty = false := text_some (by omega)
                have hks : nm.size ≤ 1073741825 := by rw [HNz.out, ← HPk.out]; exact hpl2
                have hji : (j : Int) < (nm.size : Int) := by omega
                have hjw : IntKind.i64.wrap ((nm.size : Int) - 1) = (j : Int) := by
                  rw [show (nm.size : Int) - 1 = j by omega]
                  exact IntWalk.i64_in _ (by omega)
                have HCmp2 := Lib.hid (by rw [hcmp, sgn_at t 0 h0] : lastBelow ps (sgn t 0) = decide (nm[j].toNat < t[0].toNat))
                have HK0 := Lib.hid hk0
                have HJ1 := Lib.hid hj1
                clear hk0 hj1 hcmp
                by_cases hle : t[0].toNat ≤ nm[j].toNat
                · have hcb : decide (t[0].toNat ≤ nm[j].toNat) = true := by rw [decide_eq_true_iff]; omega
                  have HFf := Lib.hid (HFl.out _ HPr.out (by rw [HCmp2.out, decide_eq_false_iff_not]; omega))
                  clear hle
                  go_wp2_with fail
                  go_quiet ((go_at_call 82; exact Calls.quiet_of_same ((letter_any _ _).mono fun _ _ h => ⟨h.1, h.2.symm⟩)))
                  go_wp2_with fail
                  go_ret2
                  exact failed HFf.out HW2.out
                · have hcb : decide (t[0].toNat ≤ nm[j].toNat) = false := by rw [decide_eq_false_iff_not]; omega
                  have HLb := Lib.hid (by rw [HCmp2.out, decide_eq_true_iff]; omega : lastBelow ps (sgn t 0) = true)
                  clear hle
                  go_wp2_with fail
                  go_quiet ((go_at_call 82; exact Calls.quiet_of_same ((letter_any _ _).mono fun _ _ h => ⟨h.1, h.2.symm⟩)))
                  go_wp2_with fail
                  go_region_law ((refine step_append_lies _ (by rfl) (.tmp 68) (.tmp 74) 94 (by rfl) w.heap.size 108 i0 _ 2 24 Tryz.underlying94 hi hz0 hz1 hz2 (by rfl) (by decide) _ ps.length (prVs ps) (by simp [Act.eval]) (World.ownsRow.alloc (w := w2.drewN (nq + 1)) HO2.out _) ⟨w2.heap.size, 0, none⟩ 1 1 [.int .u8 t[0].toNat, .string (t.extract 2 t.size)] (by simp [Act.eval]) (by rfl) (World.news_of_block (heap_alloc_new _ _)) (by simp [Value.oneCell']) (by decide) (by unfold maxLen; omega) (by omega) (by rw [alloc_size]; exact Nat.le_succ_of_le HW2.out.size) (w2.heap.size + 1) (by rw [alloc_size]; rfl) ?_; intro g' cap' w4 hown' hgrow hat hlt'))
                  have HN4 := Lib.hid (And.intro hown' (And.intro hgrow (And.intro hat hlt')))
                  clear hown' hgrow hat hlt'
                  go_wp2_with fail
                  go_roundw
                  case rel =>
                    obtain ⟨hown', hgrow, hat, hlt'⟩ := HN4.out
                    have hW4 : Below w.heap.size w w4 := ((HW2.out.trans (⟨rfl, rfl, rfl, Nat.le_refl _, fun _ _ => rfl⟩ : Below w.heap.size w2 (w2.drewN (nq + 1)))).alloc (HW2.out.size) _).grown hgrow (by rw [alloc_size]; exact Nat.le_succ_of_le HW2.out.size) (fun j hj => (HO2.out.lt j hj).1)
                    have hz4 := hgrow.size
                    rw [alloc_size] at hz4
                    have hz2 : wr.heap.size ≤ w2.heap.size := HB2.out.size
                    have hz4' : w2.heap.size + 1 ≤ w4.heap.size := hz4
                    refine ⟨k + 1, ps ++ [(sgn t 0, xs)], by go_num, by omega, by simp; exact HPk.out, ?_, ?_, hW4, ⟨by have := hR.out.1; omega, ?_, ?_⟩, ?_⟩
                    · rw [← names_snoc ps t h0 xs, HNm.out]
                    · rw [← pr_snoc ps t h0 xs HX.out]; simpa using hown'
                    · refine ownsRow_of hR.out.2.1 (fun j hj => ?_)
                      obtain ⟨j1, j2⟩ := hR.out.2.1.lt j hj
                      have j3 := (O1.out.lt j hj).2
                      rw [hgrow.block j (by rw [alloc_size]; show j < w2.heap.size + 1; omega) (fun he => by have := hR.out.2.2 j he.symm; omega)]
                      rw [Lib.alloc_old (w2.drewN (nq + 1)) _ _ (show j < w2.heap.size by omega)]
                      exact HB2.out.block j j2
                    · intro j hj
                      have hjg : g' = j := by simpa [Value.ownBlock] using hj
                      subst hjg
                      rcases hat with h | h
                      · exact hR.out.2.2 _ h
                      · right; have := hR.out.1; omega
                    · exact HOk.out _ HPr.out HLb.out
                  case measure => simp [intOf]; omega
          · have a1b : ((t[1].toNat : Int) != 58) = true := by rw [bne, show (58 : Int) = ((58 : UInt8).toNat : Int) from rfl, sgn_is t 1 h1 58, beq_eq_false_iff_ne.2 a1]; rfl
            go_wp2_with fail
            go_quiet ((go_at_call 82; exact Calls.quiet_of_same ((letter_any _ _).mono fun _ _ h => ⟨h.1, h.2.symm⟩)))
            go_wp2_with fail
            go_ret2
            exact failed (HF.out (by rw [HLong.out (by omega), if_neg (fun h => a1 h.2)])) HW2.out
        · have a0b : isLet t[0] = false := by simpa using a0
          clear a0
          go_wp2_with fail
          go_quiet ((go_at_call 82; exact Calls.quiet_of_same ((letter_any _ _).mono fun _ _ h => ⟨h.1, h.2.symm⟩)))
          go_wp2_with fail
          go_ret2
          exact failed (HF.out (by rw [HLong.out (by omega), if_neg (fun h => by rw [sgn_at t 0 h0] at a0b; rw [a0b] at h; cases h.1)])) HW2.out
    · obtain ⟨w5, hw5⟩ : ∃ x, x = wr := ⟨_, rfl⟩
      subst hw5
      have hke : k = parts.length := by omega
      have HPs := Lib.hid (by rw [hP.out, hke, List.drop_of_length_le (Nat.le_refl _)]; rfl : procsOf [] parts = some ps)
      have HGood := Lib.hid (procs_good parts [] ps HPs.out (by simp))
      have HW := hbw
      have hpl2 : ps.length ≤ 1073741825 := by omega
      have hnm : (txtOf (namesOf ps)).size ≤ 1099511627776 := by rw [txtOf_size]; simp [namesOf]; omega
      have HNd := Lib.hid (txtOf_data (namesOf ps))
      obtain ⟨pa, pn, pc, hv⟩ := slice_form hown
      subst hv
      have hpn : pn = ps.length := by
        rcases hown.2 with ⟨h1, h2⟩ | ⟨g, cap, cur, h1, _⟩
        · injection h1 with _ h3; omega
        · injection h1 with _ h3
      subst hpn
      have HO := Lib.hid hown
      clear hown hR hP hbw hke hpk HCl
      generalize txtOf (namesOf ps) = nm at *
      go_wp2_with fail
      go_loopw [11, 12, 13, 79] (fun _ _ _ i w2 => ∃ (m : Nat), i = .int .i64 m ∧ m ≤ ps.length ∧ Hid (Below w5.heap.size w5 w2) ∧ Hid (∀ p ∈ ps.take m, ∀ c ∈ callsIn p.2, c ∈ namesOf ps)) (fun _ _ _ i _ => ps.length - (intOf i).toNat)
      case atStart => exact ⟨0, by go_num, Nat.zero_le _, Below.refl _ _, by show ∀ p ∈ _, _; simp⟩
      case round =>
        obtain ⟨m, rfl, hm, hb2, hA⟩ := hrel
        by_cases hlt2 : m < ps.length
        · obtain ⟨g, hg, cc1, cc2⟩ := pr_get HO.out m hlt2
          subst hg
          have hgl : g < w5.heap.size := World.block_lt_of_cell? w5 _ cc1
          have d1 : wr.cell? ⟨g, m * 2, none⟩ = some (.int .u8 ps[m].1.toNat) := by rw [hb2.out.cell (p := ⟨g, m * 2, none⟩) hgl]; exact cc1
          have d2 : wr.cell? ⟨g, m * 2 + 1, none⟩ = some (.string (txtOf (txts ps[m].2))) := by rw [hb2.out.cell (p := ⟨g, m * 2 + 1, none⟩) hgl]; exact cc2
          have hgood := HGood.out ps[m] (List.getElem_mem hlt2)
          have HGm := Lib.hid hgood
          have HNm := Lib.hid (fun w => names_any ps[m].2 (txtOf (txts ps[m].2)) w (by have := hgood.2.2.1; rw [txtOf_size]; omega) rfl hgood.1)
          have hcl : (callsIn ps[m].2).length ≤ 400 := Nat.le_trans (calls_le ps[m].2) hgood.2.2.1
          clear cc1 cc2 hgood
          have HCs := Lib.hid (show (txtOf (callsIn ps[m].2)).data.toList = callsIn ps[m].2 from rfl)
          have hcz : (txtOf (callsIn ps[m].2)).size ≤ 400 := hcl
          generalize hcn : txtOf (callsIn ps[m].2) = cn at *
          generalize hbt : txtOf (txts ps[m].2) = bt at *
          have HCn := Lib.hid hcn
          have HBt := Lib.hid hbt
          clear hcn hbt hcl
          have hbb : Below w5.heap.size w5 (wr.alloc (Obj.cells #[.int .u8 ps[m].1.toNat, .string bt] 108)) := hb2.out.alloc hb2.out.size _
          have HBb := Lib.hid hbb
          clear hbb
          go_wp2_with fail
          refine (HNm.out _).mono ?_
          rintro e w6 ⟨rfl, rfl⟩
          go_wp2_with fail
          go_loop [13, 88] (fun _ i => ∃ q : Nat, i = .int .i64 q ∧ q ≤ cn.size ∧ Hid (∀ c ∈ (callsIn ps[m].2).take q, c ∈ namesOf ps)) (fun _ i => cn.size - (intOf i).toNat)
          case atStart => exact ⟨0, by go_num, Nat.zero_le _, by show ∀ c ∈ _, _; simp⟩
          case round =>
            obtain ⟨q, rfl, hq, hQ⟩ := hrel
            by_cases hlt3 : q < cn.size
            · have hqc : q < (callsIn ps[m].2).length := by rw [← HCs.out]; simpa using hlt3
              have hcq : cn[q] = (callsIn ps[m].2)[q] := by
                have : cn.data.toList[q]'(by simpa using hlt3) = (callsIn ps[m].2)[q] := by simp only [HCs.out]
                rw [← this]; rfl
              have HHas := Lib.hid (fun w => has_letter nm cn[q] hnm w)
              have HCq := Lib.hid hcq
              clear hcq
              cases hin : nm.data.toList.contains cn[q] with
              | true =>
                have HIn := Lib.hid (by rw [HNd.out] at hin; rw [← HCq.out]; simpa using hin : (callsIn ps[m].2)[q] ∈ namesOf ps)
                rw [hin] at HHas
                clear hin
                go_wp2_with fail
                refine (HHas.out _).mono ?_
                rintro e w7 ⟨rfl, rfl⟩
                go_wp2_with fail
                go_round
                case rel =>
                  refine ⟨q + 1, by go_num, by omega, ?_⟩
                  show ∀ c ∈ _, _
                  intro c hc
                  rw [List.take_add_one, List.getElem?_eq_getElem hqc] at hc
                  rcases List.mem_append.1 hc with hc | hc
                  · exact hQ.out c hc
                  · simp at hc; rw [hc]; exact HIn.out
                case measure => simp [intOf]; omega
              | false =>
                have HNo := Lib.hid (prog_bad HPa.out HPs.out (List.getElem_mem hlt2) (List.getElem_mem hqc) (by rw [HNd.out] at hin; rw [← HCq.out]; simpa using hin))
                rw [hin] at HHas
                clear hin
                go_wp2_with fail
                refine (HHas.out _).mono ?_
                rintro e w7 ⟨rfl, rfl⟩
                go_wp2_with fail
                go_ret2
                exact failed_at HNo.out (HW.out.trans (HBb.out.mono HW.out.size)) (by rw [alloc_size])
            · have HAll := Lib.hid (by
                intro c hc
                have := hQ.out c
                rw [List.take_of_length_le (by rw [← HCs.out]; simp; omega)] at this
                exact this hc : ∀ c ∈ callsIn ps[m].2, c ∈ namesOf ps)
              clear hQ
              go_wp2_with fail
              go_roundw
              case rel =>
                refine ⟨m + 1, by go_num, by omega, HBb.out, ?_⟩
                show ∀ p ∈ _, _
                intro p hp
                rw [List.take_add_one, List.getElem?_eq_getElem hlt2] at hp
                rcases List.mem_append.1 hp with hp | hp
                · exact hA.out p hp
                · simp at hp; subst hp; exact HAll.out
              case measure => simp [intOf]; omega
        · have HOwn := Lib.hid (by
            have := hA.out
            rw [List.take_of_length_le (by omega)] at this
            rw [ownCalls, List.all_eq_true]
            intro p hp
            rw [List.all_eq_true]
            intro c hc
            simpa using this p hp c hc : ownCalls ps = true)
          have HO5 := Lib.hid (ownsRow_of (w' := wr) HO.out (fun j hj => hb2.out.block j (HO.out.lt j hj).2))
          by_cases h400 : s.size ≤ 400
          · go_wp2_with fail
            go_ret2
            refine ⟨_, _, ps, rfl, .inr ⟨(by rw [decide_eq_true_iff]; omega : decide ((s.size : Int) ≤ 400) = true), ?_⟩, HO5.out, HW.out.trans (hb2.out.mono HW.out.size)⟩
            rw [progOf, if_pos h400, HPa.out, HPs.out]
            simp [HOwn.out]
          · go_wp2_with fail
            go_ret2
            refine ⟨_, _, ps, rfl, .inl ⟨(by rw [decide_eq_false_iff_not]; omega : decide ((s.size : Int) ≤ 400) = false), ?_⟩, HO5.out, HW.out.trans (hb2.out.mono HW.out.size)⟩
            rw [progOf, if_neg h400]
end Go.Proofs.YtomodlllmbkndaaGreatDoor
namespace Go.Proofs.YtomodlllmbkndaaGreatDoor
open Go.RowKit Gram

theorem setFrom_snoc (l : List UInt8) (c : UInt8) (m : Nat) : setFrom m (l ++ [c]) = setFrom m l ||| bitOf c := by simp [setFrom]
theorem setOf_snoc (l : List UInt8) (c : UInt8) : setOf (l ++ [c]) = setOf l ||| bitOf c := setFrom_snoc l c 0

def namesQ (qs : List Qr) : List UInt8 := qs.map fun q => q.1.1
theorem namesQ_take (qs : List Qr) (k : Nat) (hk : k < qs.length) : namesQ (qs.take (k + 1)) = namesQ (qs.take k) ++ [qs[k].1.1] := by
  rw [List.take_succ_eq_append_getElem hk, namesQ, List.map_append]; rfl
theorem namesQ_lets {qs : List Qr} (hg : ∀ q ∈ qs, Good q.1) : lets (namesQ qs) := by
  intro c hc
  obtain ⟨q, hq, rfl⟩ := List.mem_map.1 hc
  exact (hg q hq).2.2.2

set_option maxHeartbeats 1000000 in
theorem names_set {w : World} {B : Nat} {S : Nat → Prop} {qs : List Qr} {v : Value} (h : IsProg w B S qs v) (hg : ∀ q ∈ qs, Good q.1) (hn : qs.length ≤ 1048576) :
    Calls Tryz.prog 33 #[v] w fun e w' => e = .returned (.int .u32 (setOf (namesQ qs))) ∧ Below w.heap.size w w' := by
  obtain ⟨a, c, rfl⟩ := h.form
  have H := Lib.hid h
  have HG := Lib.hid hg
  generalize hln : qs.length = ln at *
  have HL := Lib.hid hln
  clear h hg hln
  go_enter Tryz.func33, Tryz.ntmps33
  go_wp2_with fail
  go_loopw [3, 8] (fun m i wr => ∃ k : Nat, k ≤ ln ∧ i = .int .i64 k ∧ m = .int .u32 (setOf (namesQ (qs.take k))) ∧ Hid (Below w.heap.size w wr)) (fun _ i _ => ln - (intOf i).toNat)
  case atStart => exact ⟨0, Nat.zero_le _, by go_num, rfl, Below.refl _ _⟩
  case round =>
    obtain ⟨k, hk, rfl, rfl, hb⟩ := hrel
    by_cases hlt : k < ln
    · have hkq : k < qs.length := by rw [HL.out]; exact hlt
      obtain ⟨g, rfl, _, c0, c1⟩ := (H.out).get k hkq
      have hgl : g < w.heap.size := World.block_lt_of_cell? w _ c0
      have d0 : wr.cell? ⟨g, k * 2, none⟩ = some (.int .u8 qs[k].1.1.toNat) := by rw [hb.out.cell (p := ⟨g, k * 2, none⟩) hgl]; exact c0
      have d1 : wr.cell? ⟨g, k * 2 + 1, none⟩ = some qs[k].2 := by rw [hb.out.cell (p := ⟨g, k * 2 + 1, none⟩) hgl]; exact c1
      have hq := HG.out qs[k] (List.getElem_mem hkq)
      obtain ⟨ba, bn, bc, hbv⟩ := (H.out.body qs[k] (List.getElem_mem hkq)).form
      rw [hbv] at d1
      have h1 := bit_lt hq.2.2.2
      have h2 := setOf_lt _ (namesQ_lets (qs := qs.take k) fun q hq => HG.out q (List.mem_of_mem_take hq))
      have e1 := or32 (setOf (namesQ (qs.take k))) (bitOf qs[k].1.1) (by omega) (by omega)
      have HT := Lib.hid (namesQ_take qs k hkq)
      have HO := Lib.hid (fun w => one_letter qs[k].1.1 hq.2.2.2 w)
      clear c0 c1 hgl hq hbv h1 h2
      go_wp2_with fail
      refine (HO.out _).mono ?_
      rintro e w2 ⟨rfl, rfl⟩
      go_wp2_with fail
      go_roundw
      case rel =>
        refine ⟨k + 1, by omega, by go_num, ?_, hb.out.alloc hb.out.size _⟩
        rw [HT.out, setOf_snoc]
      case measure => simp [intOf]; omega
    · have hall : qs.take k = qs := List.take_of_length_le (by rw [HL.out]; omega)
      rw [hall]
      go_wp2_with fail
      go_ret
      exact ⟨rfl, hb.out⟩

/-- the visitor of calls -/
def stepC (m : Nat) : Stm → Nat
  | .call c => m ||| bitOf c
  | _ => m
def okC (m : Nat) (x : Stm) : Prop := m < 67108864 ∧ ∀ c, x = .call c → isLet c = true

theorem tc_chg (pv : Value) (w : World) : (Instr.typeAssert (.iface 157 pv) 139 150 true).run Tryz.prog w = .ok (.tuple #[.agg #[.int .u8 0], .bool false]) w := by kernel_rfl
theorem tc_prt (pv : Value) (w : World) : (Instr.typeAssert (.iface 160 pv) 139 150 true).run Tryz.prog w = .ok (.tuple #[.agg #[.int .u8 0], .bool false]) w := by kernel_rfl
theorem tc_pro (pv : Value) (w : World) : (Instr.typeAssert (.iface 219 pv) 139 150 true).run Tryz.prog w = .ok (.tuple #[.agg #[.int .u8 0], .bool false]) w := by kernel_rfl
theorem tc_cho (pv : Value) (w : World) : (Instr.typeAssert (.iface 163 pv) 139 150 true).run Tryz.prog w = .ok (.tuple #[.agg #[.int .u8 0], .bool false]) w := by kernel_rfl
theorem tc_call (pv : Value) (w : World) : (Instr.typeAssert (.iface 150 pv) 139 150 true).run Tryz.prog w = .ok (.tuple #[pv, .bool true]) w := by kernel_rfl

set_option maxHeartbeats 1000000 in
theorem visits_calls : Visits 101 59 (fun n => .int .u32 n) stepC okC := by
  intro w S c a x ty pv ho hx hc
  have hlt := heap_lt hc
  have HC := Lib.hid hc
  have keep : ∀ o, (w.alloc o).heap[c]? = w.heap[c]? := fun o => Lib.alloc_old w o c hlt
  cases x with
  | pro =>
    simp only [IsStm] at hx
    injection hx with h1 h2; subst h1; subst h2
    have ht := tc_pro
    clear hc keep
    go_enter Tryz.func101, Tryz.ntmps101
    go_wp2_with fail
    go_end0
    exact ⟨rfl, by rw [Lib.alloc_old w _ c hlt]; exact HC.out, but_alloc _ _ _⟩
  | chg g d =>
    simp only [IsStm] at hx
    injection hx with h1 h2; subst h1; subst h2
    have ht := tc_chg
    clear hc keep
    go_enter Tryz.func101, Tryz.ntmps101
    go_wp2_with fail
    go_end0
    exact ⟨rfl, by rw [Lib.alloc_old w _ c hlt]; exact HC.out, but_alloc _ _ _⟩
  | prt =>
    simp only [IsStm] at hx
    injection hx with h1 h2; subst h1; subst h2
    have ht := tc_prt
    clear hc keep
    go_enter Tryz.func101, Tryz.ntmps101
    go_wp2_with fail
    go_end0
    exact ⟨rfl, by rw [Lib.alloc_old w _ c hlt]; exact HC.out, but_alloc _ _ _⟩
  | cho p q =>
    simp only [IsStm] at hx
    obtain ⟨va, vb, vas, vbs, he, _⟩ := hx
    injection he with h1 h2; subst h1; subst h2
    have ht := tc_cho
    clear hc keep
    go_enter Tryz.func101, Tryz.ntmps101
    go_wp2_with fail
    go_end0
    exact ⟨rfl, by rw [Lib.alloc_old w _ c hlt]; exact HC.out, but_alloc _ _ _⟩
  | call d =>
    have hl := ho.2 d rfl
    have hlo := ho.1
    simp only [IsStm] at hx
    injection hx with h1 h2; subst h1; subst h2
    have ht := tc_call
    have hb := bit_lt hl
    have e1 := or32 a (bitOf d) (by omega) (by omega)
    have HO := Lib.hid (fun w => one_letter d hl w)
    have q0 : ∀ o, (w.alloc o).cell? ⟨c, 0, none⟩ = some (.int .u32 a) := fun o => by rw [cell_get (by rw [keep]; exact hc)]; rfl
    have q1 : ∀ o, (w.alloc o).frozen? ⟨c, 0, none⟩ = false := fun o => Lib.frozen_of_heap (by rw [keep]; exact hc) 0
    have HK := Lib.hid keep
    clear hc keep hl hb ho hlo
    go_enter Tryz.func101, Tryz.ntmps101
    go_wp2_with fail
    go_region_with ((first | (go_at_call 57; refine (HO.out _).mono ?_; rintro e w2 ⟨rfl, rfl⟩)))
    all_goals
      go_end0
      exact ⟨rfl, call_end HC.out _ _⟩
end Go.Proofs.YtomodlllmbkndaaGreatDoor
namespace Go.Proofs.YtomodlllmbkndaaGreatDoor
open Go.RowKit Gram

theorem setFrom_append (a b : List UInt8) (m : Nat) : setFrom m (a ++ b) = setFrom (setFrom m a) b := by simp [setFrom]
mutual
theorem fold_stm (x : Stm) (m : Nat) : x.flat.foldl stepC m = setFrom m x.calls := by
  match x with
  | .chg _ _ => rfl
  | .prt => rfl
  | .pro => rfl
  | .call c => rfl
  | .cho a b =>
    simp only [Stm.flat, Stm.calls, List.foldl_cons, List.foldl_append, setFrom_append, stepC]
    rw [fold_calls a, fold_calls b]
theorem fold_calls (xs : List Stm) (m : Nat) : (flats xs).foldl stepC m = setFrom m (callsIn xs) := by
  match xs with
  | [] => rfl
  | x :: xs =>
    simp only [flats, callsIn, List.foldl_append, setFrom_append]
    rw [fold_stm x, fold_calls xs]
end
mutual
theorem flat_lets (x : Stm) (h : x.wf = true) : ∀ y ∈ x.flat, ∀ c, y = .call c → isLet c = true := by
  match x with
  | .chg _ _ => intro y hy c e; simp [Stm.flat] at hy; rw [hy] at e; cases e
  | .prt => intro y hy c e; simp [Stm.flat] at hy; rw [hy] at e; cases e
  | .pro => intro y hy c e; simp [Stm.flat] at hy; rw [hy] at e; cases e
  | .call d => intro y hy c e; simp [Stm.flat] at hy; rw [hy] at e; injection e with e; subst e; simpa [Stm.wf] using h
  | .cho a b =>
    simp only [Stm.wf, Bool.and_eq_true] at h
    intro y hy c e
    simp only [Stm.flat, List.mem_cons, List.mem_append] at hy
    rcases hy with hy | hy | hy
    · rw [hy] at e; cases e
    · exact flats_lets a h.1 y hy c e
    · exact flats_lets b h.2 y hy c e
theorem flats_lets (xs : List Stm) (h : wfs xs = true) : ∀ y ∈ flats xs, ∀ c, y = .call c → isLet c = true := by
  match xs with
  | [] => intro y hy; simp [flats] at hy
  | x :: xs =>
    simp only [wfs, Bool.and_eq_true] at h
    intro y hy c e
    simp only [flats, List.mem_append] at hy
    rcases hy with hy | hy
    · exact flat_lets x h.1 y hy c e
    · exact flats_lets xs h.2 y hy c e
end
mutual
theorem calls_let (x : Stm) (h : x.wf = true) : lets x.calls := by
  match x with
  | .chg _ _ => intro c hc; simp [Stm.calls] at hc
  | .prt => intro c hc; simp [Stm.calls] at hc
  | .pro => intro c hc; simp [Stm.calls] at hc
  | .call d => intro c hc; simp [Stm.calls] at hc; subst hc; simpa [Stm.wf] using h
  | .cho a b =>
    simp only [Stm.wf, Bool.and_eq_true] at h
    intro c hc
    simp only [Stm.calls, List.mem_append] at hc
    rcases hc with hc | hc
    · exact callsIn_lets a h.1 c hc
    · exact callsIn_lets b h.2 c hc
theorem callsIn_lets (xs : List Stm) (h : wfs xs = true) : lets (callsIn xs) := by
  match xs with
  | [] => intro c hc; simp [callsIn] at hc
  | x :: xs =>
    simp only [wfs, Bool.and_eq_true] at h
    intro c hc
    simp only [callsIn, List.mem_append] at hc
    rcases hc with hc | hc
    · exact calls_let x h.1 c hc
    · exact callsIn_lets xs h.2 c hc
end
mutual
theorem flat_le (x : Stm) : x.flat.length ≤ x.txt.length := by
  match x with
  | .chg _ _ => simp [Stm.flat, Stm.txt]
  | .prt => simp [Stm.flat, Stm.txt]
  | .pro => simp [Stm.flat, Stm.txt]
  | .call _ => simp [Stm.flat, Stm.txt]
  | .cho a b =>
    have h1 := flats_le a
    have h2 := flats_le b
    simp [Stm.flat, Stm.txt]; omega
theorem flats_le (xs : List Stm) : (flats xs).length ≤ (txts xs).length := by
  match xs with
  | [] => simp [flats]
  | x :: xs =>
    have h1 := flat_le x
    have h2 := flats_le xs
    simp [flats, txts]; omega
end
theorem stepC_lt (m : Nat) (x : Stm) (h : okC m x) : stepC m x < 67108864 := by
  cases x with
  | call c => exact Nat.or_lt_two_pow (n := 26) h.1 (bit_lt (h.2 c rfl))
  | chg _ _ => exact h.1
  | prt => exact h.1
  | pro => exact h.1
  | cho _ _ => exact h.1
theorem okAll_calls (l : List Stm) : ∀ m, m < 67108864 → (∀ x ∈ l, ∀ c, x = .call c → isLet c = true) → okAll okC stepC m l := by
  induction l with
  | nil => intro m _ _; trivial
  | cons x t ih =>
    intro m hm h
    have hx : okC m x := ⟨hm, h x (List.mem_cons_self ..)⟩
    exact ⟨hx, ih _ (stepC_lt m x hx) fun y hy => h y (List.mem_cons_of_mem _ hy)⟩

theorem enters_calls (args : Array Value) (w : World) : (callFunc 101 args).run Tryz.prog w = .ok (.enter 101 args) w :=
  enters_of Tryz.func101 (by kernel_rfl) rfl args w

theorem two_old (w : World) (a b : Obj) : ∀ k, k < w.heap.size → ((w.alloc a).alloc b).heap[k]? = w.heap[k]? := by
  intro k hk
  rw [Lib.alloc_old _ _ _ (by rw [alloc_size']; omega), Lib.alloc_old _ _ _ hk]
theorem two_size (w : World) (a b : Obj) : w.heap.size + 1 < ((w.alloc a).alloc b).heap.size := by rw [alloc_size', alloc_size']; omega
theorem two_cell (w : World) (a b : Obj) : ((w.alloc a).alloc b).heap[w.heap.size + 1]? = some b := by
  have := heap_alloc_new (w.alloc a) b
  rwa [alloc_size'] at this
theorem two_below {w w2 : World} {a b : Obj} (h : But (w.heap.size + 1) ((w.alloc a).alloc b) w2) : Below w.heap.size w w2 :=
  (((Below.refl _ _).alloc (Nat.le_refl _) _).alloc (by rw [alloc_size']; omega) _).trans (h.below (by rw [alloc_size', alloc_size']; omega) (by omega))
/-- calls: the letters that a body calls -/
theorem calls_any {w : World} {S : Nat → Prop} {p : Pr} {v : Value} (hB : IsBody w S p.2 v) (hS : ∀ k, S k → k < w.heap.size) (hg : Good p) :
    Calls Tryz.prog 79 #[.agg #[.int .u8 p.1.toNat, v]] w fun e w' => e = .returned (.int .u32 (setOf (callsIn p.2))) ∧ Below w.heap.size w w' := by
  obtain ⟨ba, bn, bc, rfl⟩ := hB.form
  have hfl := flats_le p.2
  have hlen := hg.2.2.1
  have hE : ∀ w2 : World, (∀ k, k < w.heap.size → w2.heap[k]? = w.heap[k]?) → w.heap.size + 1 < w2.heap.size → w2.heap[w.heap.size + 1]? = some (.cells #[.int .u32 ((0 : Nat) : Int)] 59 (0, 0)) → _ :=
    fun w2 hk hz hc => each_all 101 59 (fun n => .int .u32 n) stepC okC enters_calls visits_calls (flats p.2).length p.2 w2 S (.slice ba bn bc) (w.heap.size + 1) 0 (Nat.le_refl _) (by omega)
      (fun k hk' => by have := hS k hk'; omega) (hB.kept (fun k hk' => hk k (hS k hk')) (fun _ h => h)) hc (okAll_calls _ 0 (by decide) (flats_lets _ hg.1))
  have HE := Lib.hid hE
  have HF := Lib.hid (fold_calls p.2 0)
  clear hE hfl hlen hB hS hg
  go_enter Tryz.func79, Tryz.ntmps79
  go_wp2_with fail
  refine (HE.out _ (two_old _ _ _) (two_size _ _ _) (two_cell _ _ _)).mono ?_
  rintro e w2 ⟨rfl, hc, hb⟩
  rw [HF.out] at hc
  have q := Lib.cell_of_heap hc 0
  have q0 : w2.cell? ⟨w.heap.size + 1, 0, none⟩ = some (.int .u32 (setOf (callsIn p.2))) := q
  have HW := Lib.hid (two_below hb)
  clear hc hb q
  go_wp2_with fail
  go_ret
  exact ⟨rfl, HW.out⟩
end Go.Proofs.YtomodlllmbkndaaGreatDoor
namespace Go.Proofs.YtomodlllmbkndaaGreatDoor
open Go.RowKit Gram

theorem prog_body {w : World} {B : Nat} {S : Nat → Prop} {qs : List Qr} {v : Value} (h : IsProg w B S qs v) (k : Nat) (hk : k < qs.length) : IsBody w S qs[k].1.2 qs[k].2 := h.body _ (List.getElem_mem hk)

def ownQ (qs : List Qr) : Bool := qs.all fun q => (callsIn q.1.2).all fun c => (namesQ qs).contains c
theorem own_less {a b : List UInt8} (ha : lets a) (hb : lets b) : ((lessOf (setOf a) (setOf b) : Int) != 0) = !(a.all fun c => b.contains c) := by
  have h := lessOf_zero a b ha hb
  cases hc : a.all fun c => b.contains c with
  | true =>
    have : lessOf (setOf a) (setOf b) = 0 := h.2 (by simpa using hc)
    rw [this]; rfl
  | false =>
    have : lessOf (setOf a) (setOf b) ≠ 0 := by
      intro h0
      have := h.1 h0
      have h2 : (a.all fun c => b.contains c) = true := by simpa using this
      rw [hc] at h2; cases h2
    simp only [Bool.not_false, bne_iff_ne, ne_eq]
    omega

set_option maxHeartbeats 1000000 in
theorem own_any {w : World} {B : Nat} {S : Nat → Prop} {qs : List Qr} {v : Value} (h : IsProg w B S qs v) (hg : ∀ q ∈ qs, Good q.1) (hn : qs.length ≤ 1048576) :
    Calls Tryz.prog 56 #[v] w fun e w' => e = .returned (.bool (ownQ qs)) ∧ Below w.heap.size w w' := by
  obtain ⟨a, c, rfl⟩ := h.form
  have H := Lib.hid h
  have HG := Lib.hid hg
  have HN := Lib.hid (names_set h hg hn)
  generalize hln : qs.length = ln at *
  have HL := Lib.hid hln
  clear h hg hln
  go_enter Tryz.func56, Tryz.ntmps56
  go_wp2_with fail
  refine HN.out.mono ?_
  rintro e w1 ⟨rfl, hb1⟩
  have HB1 := Lib.hid hb1
  clear hb1
  go_wp2_with fail
  go_loopw [10] (fun i wr => ∃ k : Nat, k ≤ ln ∧ i = .int .i64 k ∧ Hid ((qs.take k).all (fun q => (callsIn q.1.2).all fun c => (namesQ qs).contains c) = true) ∧ Hid (Below w.heap.size w wr)) (fun i _ => ln - (intOf i).toNat)
  case atStart => exact ⟨0, Nat.zero_le _, by go_num, by show _ = _; simp, HB1.out⟩
  case round =>
    obtain ⟨k, hk, rfl, hA, hb⟩ := hrel
    by_cases hlt : k < ln
    · have hkq : k < qs.length := by rw [HL.out]; exact hlt
      obtain ⟨g, rfl, _, c0, c1⟩ := (H.out).get k hkq
      have hgl : g < w.heap.size := World.block_lt_of_cell? w _ c0
      have d0 : wr.cell? ⟨g, k * 2, none⟩ = some (.int .u8 qs[k].1.1.toNat) := by rw [hb.out.cell (p := ⟨g, k * 2, none⟩) hgl]; exact c0
      have d1 : wr.cell? ⟨g, k * 2 + 1, none⟩ = some qs[k].2 := by rw [hb.out.cell (p := ⟨g, k * 2 + 1, none⟩) hgl]; exact c1
      have hq := HG.out qs[k] (List.getElem_mem hkq)
      have hbody := prog_body H.out k hkq
      obtain ⟨ba, bn, bc, hbv⟩ := hbody.form
      have hC : ∀ w2, Below w.heap.size w w2 → _ := fun w2 hb2 => calls_any (w := w2) (S := S) (p := qs[k].1) (hbody.kept (w' := w2) (fun j hj => hb2.block j (H.out.lt j hj)) (fun _ h => h)) (fun j hj => Nat.lt_of_lt_of_le (H.out.lt j hj) hb2.size) hq
      rw [hbv] at d1 hC
      have HC := Lib.hid hC
      have e1 := less32 (setOf (callsIn qs[k].1.2)) (setOf (namesQ qs))
      have e2 := own_less (callsIn_lets _ hq.1) (namesQ_lets (qs := qs) HG.out)
      have HA2 := Lib.hid (by rw [List.take_succ_eq_append_getElem hkq, List.all_append, hA.out]; simp : (qs.take (k + 1)).all (fun q => (callsIn q.1.2).all fun c => (namesQ qs).contains c) = ((callsIn qs[k].1.2).all fun c => (namesQ qs).contains c))
      have HNo := Lib.hid (fun (h0 : ((callsIn qs[k].1.2).all fun c => (namesQ qs).contains c) = false) => by
        rw [ownQ, List.all_eq_false]
        exact ⟨qs[k], List.getElem_mem hkq, by rw [h0]; decide⟩ : _ → ownQ qs = false)
      clear hC c0 c1 hgl hq hbv hbody hA
      generalize ((callsIn qs[k].1.2).all fun c => (namesQ qs).contains c) = bb at *
      generalize lessOf (setOf (callsIn qs[k].1.2)) (setOf (namesQ qs)) = le at *
      cases bb
      all_goals
        simp only [Bool.not_true, Bool.not_false] at e2
        go_wp2_with fail
        refine (HC.out _ (hb.out.alloc hb.out.size _)).mono ?_
        rintro e w2 ⟨rfl, hb2⟩
        have HB2 := Lib.hid (((hb.out.alloc hb.out.size _)).trans (hb2.mono (Nat.le_trans hb.out.size (by rw [alloc_size']; omega))))
        clear hb2
        go_wp2_with fail
      · go_ret
        exact ⟨ret_bool (HNo.out (by simp)).symm, HB2.out⟩
      · go_roundw
        case rel => exact ⟨k + 1, by omega, by go_num, HA2.out, HB2.out⟩
        case measure => simp [intOf]; omega
    · have hall : qs.take k = qs := List.take_of_length_le (by rw [HL.out]; omega)
      rw [hall] at hA
      go_wp2_with fail
      go_ret
      exact ⟨ret_bool (show true = ownQ qs from hA.out.symm), hb.out⟩
end Go.Proofs.YtomodlllmbkndaaGreatDoor
namespace Go.Proofs.YtomodlllmbkndaaGreatDoor
open Go.RowKit Gram

theorem IsProg.base {w : World} {B B' : Nat} {S : Nat → Prop} {qs : List Qr} {v : Value} (h : IsProg w B S qs v) (hB : B' ≤ B) : IsProg w B' S qs v :=
  ⟨ownsRow_base h.row fun _ hg => Nat.le_trans hB (h.row_block hg).1, h.body, fun k hk => ⟨Nat.le_trans hB (h.set k hk).1, (h.set k hk).2⟩⟩

/-- what readProgram hands back -/
def ReadPTo (s : ByteArray) (w : World) (e : Ending) (w' : World) : Prop :=
  (match progOf s with
    | some ps => ∃ v S qs, e = .returned (.tuple #[v, .bool true]) ∧ qs.map (·.1) = ps ∧ IsProg w' w.heap.size S qs v ∧ (∀ q ∈ qs, Good q.1)
    | none => ∃ (a : Option Addr) (n c : Nat), e = .returned (.tuple #[.slice a n c, .bool false])) ∧ Below w.heap.size w w'
theorem readP_none {s : ByteArray} {w w' : World} {a : Option Addr} {n c : Nat} (h : progOf s = none) (hb : Below w.heap.size w w') : ReadPTo s w (.returned (.tuple #[.slice a n c, .bool false])) w' := by
  refine ⟨?_, hb⟩
  rw [h]; exact ⟨_, _, _, rfl⟩
theorem readP_some {s : ByteArray} {w w' : World} {v : Value} {S : Nat → Prop} {qs : List Qr} (h : progOf s = some (qs.map (·.1))) (hP : IsProg w' w.heap.size S qs v) (hg : ∀ q ∈ qs, Good q.1) (hb : Below w.heap.size w w') : ReadPTo s w (.returned (.tuple #[v, .bool true])) w' := by
  refine ⟨?_, hb⟩
  rw [h]; exact ⟨_, _, _, rfl, rfl, hP, hg⟩
theorem ownQ_plain (qs : List Qr) : ownQ qs = ownCalls (qs.map (·.1)) := by
  simp only [ownQ, ownCalls, namesQ, namesOf, List.all_map, List.map_map]
  rfl
theorem last_q (qs : List Qr) (n : UInt8) (j : Nat) (hj : qs.length = j + 1) : lastBelow (qs.map (·.1)) n = decide ((qs[j]'(by omega)).1.1.toNat < n.toNat) := by
  have : (qs.map (·.1)).getLast? = some (qs[j]'(by omega)).1 := by
    have h2 : qs.length - 1 = j := by omega
    rw [List.getLast?_map, List.getLast?_eq_getElem?, h2, List.getElem?_eq_getElem (show j < qs.length by omega)]; rfl
  rw [lastBelow, this]
  simp [UInt8.lt_iff_toNat_lt]

theorem below_drewN {B : Nat} {a w : World} (h : Below B a w) (n : Nat) : Below B a (w.drewN n) := h.trans ⟨rfl, rfl, rfl, Nat.le_refl _, fun _ _ => rfl⟩

theorem info_proc : (Tryz.prog.info? 76).map (fun i => (i.zero, i.size, i.bytes)) = some (some (.agg #[.int .u8 0, .slice none 0 0]), 2, 32) := by kernel_rfl

theorem readp_long (s : ByteArray) (w : World) (h : 400 < s.size) (hs : s.size ≤ 1073741824) :
    Calls Tryz.prog 32 #[.string s] w (ReadPTo s w) := by
  have HN := Lib.hid (by rw [progOf, if_neg (by omega)] : progOf s = none)
  go_enter Tryz.func32, Tryz.ntmps32
  go_wp2_with fail
  go_ret2
  exact readP_none HN.out (Below.refl _ _)

set_option maxHeartbeats 4000000 in
set_option maxRecDepth 100000 in
theorem readp_short (s : ByteArray) (w : World) (h : s.size ≤ 400) (hm : MaxCell w) :
    Calls Tryz.prog 32 #[.string s] w (ReadPTo s w) := by
  obtain ⟨m0, hm0⟩ := hm
  have hmz := World.block_lt_of_cell? w _ hm0
  obtain ⟨i0, hi, hz0, hz1, hz2⟩ := info_parts info_proc
  have hSp := fun w1 h1 => Tryz.strings_Split s ⟨#[59]⟩ m0 w1 (by omega) h1 (by decide)
  rw [splitB_cuts, ← splitB_len] at hSp
  have hcl := cuts_le s.data.toList []
  rw [show s.data.toList.length = s.size from by simp] at hcl
  generalize hparts : cuts s.data.toList = parts at *
  rw [show cutsP [] s.data.toList = parts from hparts] at hcl
  have hpl : parts.length ≤ 401 := by have := hcl.1; omega
  have HCl := Lib.hid hcl.2
  have HPa := Lib.hid hparts
  have HSp := Lib.hid hSp
  have HM := Lib.hid hm0
  clear hcl hparts hSp hm0
  have HP0 := Lib.hid (by rw [progOf, if_pos h, HPa.out] : progOf s = (procsOf [] parts).bind fun ps => if ownCalls ps then some ps else none)
  go_enter Tryz.func32, Tryz.ntmps32
  go_wp2_with fail
  refine (HSp.out _ HM.out).mono ?_
  rintro e w1 ⟨rfl, rfl⟩
  go_wp2_with fail
  go_loopw [4, 15] (fun v i wr => ∃ (k : Nat) (qs : List Qr) (S : Nat → Prop), i = .int .i64 k ∧ k ≤ parts.length ∧ qs.length = k ∧ Hid (IsProg wr (w.heap.size + 1) S qs v) ∧ Hid (Below w.heap.size w wr) ∧ Hid (w.heap.size + 1 ≤ wr.heap.size) ∧
      Hid (wr.heap[w.heap.size]? = some (.cells (((parts.map fun l => (⟨l.toArray⟩ : ByteArray)).map Value.string).toArray) 9 (0, 0))) ∧ Hid (procsOf [] parts = procsOf (qs.map (·.1)) (parts.drop k)) ∧ Hid (∀ q ∈ qs, Good q.1)) (fun _ i _ => parts.length - (intOf i).toNat)
  case atStart =>
    refine ⟨0, [], fun _ => False, by go_num, Nat.zero_le _, rfl, IsProg.empty _ _, (Below.refl _ _).alloc (Nat.le_refl _) _, by show _ ≤ _; rw [alloc_size']; omega, by rw [List.map_map]; exact heap_alloc_new _ _, by show _ = _; simp, fun q hq => by simp at hq⟩
  case round =>
    obtain ⟨k, qs, S, rfl, hk, hqk, hP, hb, hz, hrow, hE, hG⟩ := hrel
    by_cases hlt : k < parts.length
    · have c1 : wr.cell? ⟨w.heap.size, k, none⟩ = some (.string (txtOf parts[k])) := by
        rw [Lib.cell_of_heap hrow.out]
        simp [List.getElem?_eq_getElem hlt, txtOf]
      have hst := procsOf_step (qs.map (·.1)) parts k hlt
      obtain ⟨a, c, hv⟩ := hP.out.form
      rw [hqk] at hv
      subst hv
      have HQK := Lib.hid hqk
      clear hqk
      have hts : (txtOf parts[k]).size ≤ 1073741824 := by
        have := HCl.out _ (List.getElem_mem hlt)
        rw [txtOf_size]; simp at this; omega
      have hMx : MaxCell wr := ⟨m0, by rw [hb.out.cell (p := ⟨0, 0, none⟩) hmz]; exact HM.out⟩
      have HR := Lib.hid (procedure_any (txtOf parts[k]) wr hts hMx)
      rw [show (txtOf parts[k]).data.toList = parts[k] from rfl] at HR
      generalize txtOf parts[k] = t at *
      cases hpo : procOf parts[k] with
      | none =>
        have HN := Lib.hid (by rw [HP0.out, hE.out, hst, hpo]; rfl : progOf s = none)
        rw [hpo] at HR
        clear hst hpo hMx hts
        go_wp2_with fail
        refine HR.out.mono ?_
        rintro e w2 ⟨⟨n2, a2, m2, c2, rfl⟩, hb2⟩
        have HB2 := Lib.hid (hb.out.trans (hb2.mono hb.out.size))
        clear hb2
        go_wp2_with fail
        go_quiet (fail)
        go_wp2_with fail
        go_ret2
        exact readP_none HN.out (below_drewN (HB2.out.alloc HB2.out.size _) _)
      | some x =>
        rw [hpo] at HR
        rw [hpo] at hst
        have HGx := Lib.hid (procOf_good hpo)
        clear hpo hMx hts
        by_cases hk0 : k = 0
        · have g0 : decide (0 < k) = false := by rw [decide_eq_false_iff_not]; omega
          have hnil : qs = [] := List.length_eq_zero_iff.1 (by rw [HQK.out]; exact hk0)
          have hlb : lastBelow (qs.map (·.1)) x.1 = true := by rw [hnil]; rfl
          have HE2 := Lib.hid (by rw [hE.out, hst]; dsimp only; rw [if_pos hlb] : procsOf [] parts = procsOf (qs.map (·.1) ++ [x]) (parts.drop (k + 1)))
          have HK0 := Lib.hid hk0
          clear hst hlb hnil hE hk0
          go_wp2_with fail
          refine HR.out.mono ?_
          rintro e w2 ⟨⟨v2, S2, rfl, hB2, hS2⟩, hb2⟩
          obtain ⟨ba, bn, bc, hbv⟩ := hB2.form
          subst hbv
          have HB2 := Lib.hid hb2
          have HBo := Lib.hid hB2
          have HS2 := Lib.hid hS2
          clear hb2 hB2 hS2
          go_wp2_with fail
          go_quiet (fail)
          have hkp : ∀ j, j < wr.heap.size → w2.heap[j]? = wr.heap[j]? := fun j hj => HB2.out.block j hj
          have hp2 := hP.out.kept hkp
          have hown2 : (((w2.alloc (Obj.cells #[Value.int IntKind.u8 x.1.toNat, Value.slice ba bn bc] 76)).drewN nq)).ownsRow (w.heap.size + 1) 76 2 (.slice a k c) k (qVs qs) := by
            have := hp2.row
            rw [HQK.out] at this
            exact this.alloc _
          have HP2 := Lib.hid hp2
          have hz2' : w.heap.size + 1 ≤ w2.heap.size := Nat.le_trans hz.out HB2.out.size
          have hzz : (((w2.alloc (Obj.cells #[Value.int IntKind.u8 x.1.toNat, Value.slice ba bn bc] 76)).drewN nq)).heap.size = w2.heap.size + 1 := alloc_size' _ _
          clear hp2 hkp
          generalize hw3 : (w2.alloc (Obj.cells #[Value.int IntKind.u8 x.1.toNat, Value.slice ba bn bc] 76)).drewN nq = w3 at *
          have d0 : w3.cell? ⟨w2.heap.size, 0, none⟩ = some (.int .u8 x.1.toNat) := by
            rw [← hw3]; rw [show ((w2.alloc (Obj.cells #[Value.int IntKind.u8 x.1.toNat, Value.slice ba bn bc] 76)).drewN nq).cell? ⟨w2.heap.size, 0, none⟩ = _ from Lib.cell_of_heap (heap_alloc_new w2 _) 0]; rfl
          have d1 : w3.cell? ⟨w2.heap.size, 1, none⟩ = some (.slice ba bn bc) := by
            rw [← hw3]; rw [show ((w2.alloc (Obj.cells #[Value.int IntKind.u8 x.1.toNat, Value.slice ba bn bc] 76)).drewN nq).cell? ⟨w2.heap.size, 1, none⟩ = _ from Lib.cell_of_heap (heap_alloc_new w2 _) 1]; rfl
          have HW3 := Lib.hid (⟨fun j hj => by rw [← hw3]; exact Lib.alloc_old _ _ _ hj, by rw [← hw3]; exact below_drewN ((Below.refl _ _).alloc (Nat.le_refl _) _) _⟩ : (∀ j, j < w2.heap.size → w3.heap[j]? = w2.heap[j]?) ∧ Below w2.heap.size w2 w3)
          have HOw := Lib.hid hown2
          have HZZ := Lib.hid hzz
          clear hw3 hown2 hzz
          go_wp2_with (at_builtin; go_loud (refine wpList_append_lies _ rfl _ _ 55 rfl (w.heap.size + 1) 76 i0 (.agg #[.int .u8 0, .slice none 0 0]) 2 32 Tryz.underlying55 hi hz0 hz1 hz2 rfl (by decide) (.slice a k c) k (qVs qs) rfl (HOw.out.alloc _) ⟨w3.heap.size, 0, none⟩ 1 1 [.int .u8 x.1.toNat, .slice ba bn bc] rfl rfl (World.news_of_block (cs := #[.int .u8 x.1.toNat, .slice ba bn bc]) (heap_alloc_new _ _)) (by intro u hu; simp at hu; rcases hu with rfl | rfl <;> rfl) (by decide) (by unfold maxLen; omega) (by omega) (by rw [alloc_size', HZZ.out]; omega) _ rfl ?_); intro g' cap' w4 hown' hgrow hat hlt')
          have HN4 := Lib.hid (And.intro hown' hgrow)
          clear hown' hgrow hat hlt'
          go_wp2_with fail
          go_roundw
          case rel =>
            obtain ⟨hown', hgrow⟩ := HN4.out
            have hsn := IsProg.snoc (w := w2) (q := (x, .slice ba bn bc)) HP2.out HBo.out (fun j hj => ⟨Nat.le_trans hz.out (HS2.out j hj).1, (HS2.out j hj).2⟩) (w1 := w3.alloc _) (fun j hj => by rw [Lib.alloc_old _ _ _ (by rw [HZZ.out]; omega)]; exact HW3.out.1 j hj) (by rw [alloc_size', HZZ.out]; omega) (by rw [HQK.out]; exact hown') hgrow
            have hrb : ∀ j, (Value.slice a k c).ownBlock = some j → w.heap.size + 1 ≤ j := fun j hj => (HP2.out.row_block hj).1
            have hgz := hgrow.size
            rw [alloc_size', HZZ.out] at hgz
            refine ⟨k + 1, qs ++ [((x, Value.slice ba bn bc) : Qr)], fun j => S j ∨ S2 j, by go_num, by omega, by rw [List.length_append, HQK.out]; rfl, hsn, ?_, by show _ ≤ _; omega, ?_, ?_, ?_⟩
            · exact (((hb.out.trans (HB2.out.mono hb.out.size)).trans (HW3.out.2.mono (by omega))).alloc (by rw [HZZ.out]; omega) _).grown hgrow (by rw [alloc_size', HZZ.out]; omega) (fun j hj => by have := hrb j hj; omega)
            · show _ = _
              rw [hgrow.block _ (by rw [alloc_size', HZZ.out]; omega) (fun e => by have := hrb _ e.symm; omega), Lib.alloc_old _ _ _ (by rw [HZZ.out]; omega), HW3.out.1 _ (by omega), HB2.out.block _ (by have := hz.out; omega)]
              exact hrow.out
            · show _ = _
              rw [HE2.out, List.map_append]; rfl
            · show ∀ q ∈ _, _
              intro q hq
              rcases List.mem_append.1 hq with hq | hq
              · exact hG.out q hq
              · rw [List.mem_singleton.1 hq]; exact HGx.out
          case measure => simp [intOf]; omega
        · obtain ⟨j, hkj⟩ : ∃ j, k = j + 1 := ⟨k - 1, by omega⟩
          have hqj : qs.length = j + 1 := by rw [HQK.out]; exact hkj
          have hlast := last_q qs x.1 j hqj
          have hjq : j < qs.length := by omega
          obtain ⟨g, hga, hgB, c0, _⟩ := IsProg.get (a := a) (n := k) (c := c) hP.out j hjq
          subst hga
          have hgl : g < wr.heap.size := World.block_lt_of_cell? wr _ c0
          generalize hqn : (qs[j]'hjq).1.1.toNat = ln at *
          have hlt8 : ln < 256 := by rw [← hqn]; exact UInt8.toNat_lt _
          clear hqn
          have HQJ := Lib.hid hqj
          have HKJ := Lib.hid hkj
          have g0 : decide (0 < k) = true := by rw [decide_eq_true_iff]; omega
          have hjk : (j : Int) < (k : Int) := by omega
          have hjw : IntKind.i64.wrap ((k : Int) - 1) = (j : Int) := by
            rw [show (k : Int) - 1 = j by omega]
            exact IntWalk.i64_in _ (by omega)
          clear hk0 hkj hqj
          by_cases hle : x.1.toNat ≤ ln
          · have hcb : decide (x.1.toNat ≤ ln) = true := by rw [decide_eq_true_iff]; exact hle
            have hcbI : decide ((x.1.toNat : Int) ≤ (ln : Int)) = true := by rw [decide_eq_true_iff]; omega
            have hlb : lastBelow (qs.map (·.1)) x.1 = false := by rw [hlast, decide_eq_false_iff_not]; omega
            have HN := Lib.hid (by rw [HP0.out, hE.out, hst]; dsimp only; rw [if_neg (by rw [hlb]; decide)]; rfl : progOf s = none)
            clear hst hlb hE hle hlast
            go_wp2_with fail
            refine HR.out.mono ?_
            rintro e w2 ⟨⟨v2, S2, rfl, hB2, hS2⟩, hb2⟩
            obtain ⟨ba, bn, bc, hbv⟩ := hB2.form
            subst hbv
            have HB2 := Lib.hid (hb.out.trans (hb2.mono hb.out.size))
            have c2 : ∀ o, (w2.alloc o).cell? ⟨g, j * 2, none⟩ = some (.int .u8 ln) := fun o => by rw [World.cell?_of_block (a := ⟨g, j * 2, none⟩) (Lib.alloc_old w2 o g (Nat.lt_of_lt_of_le hgl hb2.size)), hb2.cell (p := ⟨g, j * 2, none⟩) hgl]; exact c0
            clear hb2 hB2 hS2 c0
            go_wp2_with fail
            go_quiet (fail)
            go_wp2_with fail
            go_ret2
            exact readP_none HN.out (below_drewN (HB2.out.alloc HB2.out.size _) _)
          · have hcb : decide (x.1.toNat ≤ ln) = false := by rw [decide_eq_false_iff_not]; exact hle
            have hcbI : decide ((x.1.toNat : Int) ≤ (ln : Int)) = false := by rw [decide_eq_false_iff_not]; omega
            have hlb : lastBelow (qs.map (·.1)) x.1 = true := by rw [hlast, decide_eq_true_iff]; omega
            have HE2 := Lib.hid (by rw [hE.out, hst]; dsimp only; rw [if_pos hlb] : procsOf [] parts = procsOf (qs.map (·.1) ++ [x]) (parts.drop (k + 1)))
            clear hst hlb hE hle hlast
            go_wp2_with fail
            refine HR.out.mono ?_
            rintro e w2 ⟨⟨v2, S2, rfl, hB2, hS2⟩, hb2⟩
            obtain ⟨ba, bn, bc, hbv⟩ := hB2.form
            subst hbv
            have c2 : ∀ o, (w2.alloc o).cell? ⟨g, j * 2, none⟩ = some (.int .u8 ln) := fun o => by rw [World.cell?_of_block (a := ⟨g, j * 2, none⟩) (Lib.alloc_old w2 o g (Nat.lt_of_lt_of_le hgl hb2.size)), hb2.cell (p := ⟨g, j * 2, none⟩) hgl]; exact c0
            have HB2 := Lib.hid hb2
            have HBo := Lib.hid hB2
            have HS2 := Lib.hid hS2
            clear hb2 hB2 hS2 c0
            go_wp2_with fail
            go_quiet (fail)
            have hkp : ∀ j, j < wr.heap.size → w2.heap[j]? = wr.heap[j]? := fun j hj => HB2.out.block j hj
            have hp2 := hP.out.kept hkp
            have hown2 : (((w2.alloc (Obj.cells #[Value.int IntKind.u8 x.1.toNat, Value.slice ba bn bc] 76)).drewN nq)).ownsRow (w.heap.size + 1) 76 2 (.slice (some ⟨g, 0, none⟩) k c) k (qVs qs) := by
              have := hp2.row
              rw [HQK.out] at this
              exact this.alloc _
            have HP2 := Lib.hid hp2
            have hz2' : w.heap.size + 1 ≤ w2.heap.size := Nat.le_trans hz.out HB2.out.size
            have hzz : (((w2.alloc (Obj.cells #[Value.int IntKind.u8 x.1.toNat, Value.slice ba bn bc] 76)).drewN nq)).heap.size = w2.heap.size + 1 := alloc_size' _ _
            clear hp2 hkp
            generalize hw3 : (w2.alloc (Obj.cells #[Value.int IntKind.u8 x.1.toNat, Value.slice ba bn bc] 76)).drewN nq = w3 at *
            have d0 : w3.cell? ⟨w2.heap.size, 0, none⟩ = some (.int .u8 x.1.toNat) := by
              rw [← hw3]; rw [show ((w2.alloc (Obj.cells #[Value.int IntKind.u8 x.1.toNat, Value.slice ba bn bc] 76)).drewN nq).cell? ⟨w2.heap.size, 0, none⟩ = _ from Lib.cell_of_heap (heap_alloc_new w2 _) 0]; rfl
            have d1 : w3.cell? ⟨w2.heap.size, 1, none⟩ = some (.slice ba bn bc) := by
              rw [← hw3]; rw [show ((w2.alloc (Obj.cells #[Value.int IntKind.u8 x.1.toNat, Value.slice ba bn bc] 76)).drewN nq).cell? ⟨w2.heap.size, 1, none⟩ = _ from Lib.cell_of_heap (heap_alloc_new w2 _) 1]; rfl
            have HW3 := Lib.hid (⟨fun j hj => by rw [← hw3]; exact Lib.alloc_old _ _ _ hj, by rw [← hw3]; exact below_drewN ((Below.refl _ _).alloc (Nat.le_refl _) _) _⟩ : (∀ j, j < w2.heap.size → w3.heap[j]? = w2.heap[j]?) ∧ Below w2.heap.size w2 w3)
            have HOw := Lib.hid hown2
            have HZZ := Lib.hid hzz
            clear hw3 hown2 hzz
            go_wp2_with (at_builtin; go_loud (refine wpList_append_lies _ rfl _ _ 55 rfl (w.heap.size + 1) 76 i0 (.agg #[.int .u8 0, .slice none 0 0]) 2 32 Tryz.underlying55 hi hz0 hz1 hz2 rfl (by decide) (.slice (some ⟨g, 0, none⟩) k c) k (qVs qs) rfl (HOw.out.alloc _) ⟨w3.heap.size, 0, none⟩ 1 1 [.int .u8 x.1.toNat, .slice ba bn bc] rfl rfl (World.news_of_block (cs := #[.int .u8 x.1.toNat, .slice ba bn bc]) (heap_alloc_new _ _)) (by intro u hu; simp at hu; rcases hu with rfl | rfl <;> rfl) (by decide) (by unfold maxLen; omega) (by omega) (by rw [alloc_size', HZZ.out]; omega) _ rfl ?_); intro g' cap' w4 hown' hgrow hat hlt')
            have HN4 := Lib.hid (And.intro hown' hgrow)
            clear hown' hgrow hat hlt'
            go_wp2_with fail
            go_roundw
            case rel =>
              obtain ⟨hown', hgrow⟩ := HN4.out
              have hsn := IsProg.snoc (w := w2) (q := (x, .slice ba bn bc)) HP2.out HBo.out (fun j hj => ⟨Nat.le_trans hz.out (HS2.out j hj).1, (HS2.out j hj).2⟩) (w1 := w3.alloc _) (fun j hj => by rw [Lib.alloc_old _ _ _ (by rw [HZZ.out]; omega)]; exact HW3.out.1 j hj) (by rw [alloc_size', HZZ.out]; omega) (by rw [HQK.out]; exact hown') hgrow
              have hrb : ∀ j, (Value.slice (some ⟨g, 0, none⟩) k c).ownBlock = some j → w.heap.size + 1 ≤ j := fun j hj => (HP2.out.row_block hj).1
              have hgz := hgrow.size
              rw [alloc_size', HZZ.out] at hgz
              refine ⟨k + 1, qs ++ [((x, Value.slice ba bn bc) : Qr)], fun j => S j ∨ S2 j, by go_num, by omega, by rw [List.length_append, HQK.out]; rfl, hsn, ?_, by show _ ≤ _; omega, ?_, ?_, ?_⟩
              · exact (((hb.out.trans (HB2.out.mono hb.out.size)).trans (HW3.out.2.mono (by omega))).alloc (by rw [HZZ.out]; omega) _).grown hgrow (by rw [alloc_size', HZZ.out]; omega) (fun j hj => by have := hrb j hj; omega)
              · show _ = _
                rw [hgrow.block _ (by rw [alloc_size', HZZ.out]; omega) (fun e => by have := hrb _ e.symm; omega), Lib.alloc_old _ _ _ (by rw [HZZ.out]; omega), HW3.out.1 _ (by omega), HB2.out.block _ (by have := hz.out; omega)]
                exact hrow.out
              · show _ = _
                rw [HE2.out, List.map_append]; rfl
              · show ∀ q ∈ _, _
                intro q hq
                rcases List.mem_append.1 hq with hq | hq
                · exact hG.out q hq
                · rw [List.mem_singleton.1 hq]; exact HGx.out
            case measure => simp [intOf]; omega
    · have hke : k = parts.length := by omega
      have hE2 := hE.out
      rw [hke, List.drop_of_length_le (Nat.le_refl _)] at hE2
      have hps : procsOf [] parts = some (qs.map (·.1)) := hE2
      have HPs := Lib.hid hps
      clear hps
      have HO := Lib.hid (own_any hP.out hG.out (by omega))
      obtain ⟨a, c, hv⟩ := hP.out.form
      rw [hqk] at hv
      subst hv
      clear hE hE2 hke hqk
      cases hoq : ownQ qs with
      | true =>
        have HF := Lib.hid (by rw [HP0.out, HPs.out, Option.bind_some, if_pos (by rw [← ownQ_plain]; exact hoq)] : progOf s = some (qs.map (·.1)))
        rw [hoq] at HO
        clear hoq
        go_wp2_with fail
        refine HO.out.mono ?_
        rintro e w5 ⟨rfl, hb5⟩
        have HB5 := Lib.hid hb5
        clear hb5
        go_wp2_with fail
        go_ret2
        exact readP_some HF.out ((hP.out.kept fun j hj => HB5.out.block j hj).base (Nat.le_succ _)) hG.out (hb.out.trans (HB5.out.mono hb.out.size))
      | false =>
        have HF := Lib.hid (by rw [HP0.out, HPs.out, Option.bind_some, if_neg (by rw [← ownQ_plain, hoq]; decide)] : progOf s = none)
        rw [hoq] at HO
        clear hoq
        go_wp2_with fail
        refine HO.out.mono ?_
        rintro e w5 ⟨rfl, hb5⟩
        have HB5 := Lib.hid hb5
        clear hb5
        go_wp2_with fail
        go_ret2
        exact readP_none HF.out (hb.out.trans (HB5.out.mono hb.out.size))

theorem read_prog (s : ByteArray) (w : World) (hs : s.size ≤ 1073741824) (hm : MaxCell w) :
    Calls Tryz.prog 32 #[.string s] w (ReadPTo s w) := by
  by_cases h : s.size ≤ 400
  · exact readp_short s w h hm
  · exact readp_long s w (by omega) hs
end Go.Proofs.YtomodlllmbkndaaGreatDoor
namespace Go.Proofs.YtomodlllmbkndaaGreatDoor
open Go.RowKit Gram

theorem ReadPTo.cases {s : ByteArray} {w w' : World} {e : Ending} (h : ReadPTo s w e w') :
    ∃ (a : Option Addr) (n c : Nat), e = .returned (.tuple #[.slice a n c, .bool (progOf s).isSome]) ∧ Below w.heap.size w w' ∧ ∀ ps, progOf s = some ps → ∃ S qs, qs.map (·.1) = ps ∧ IsProg w' w.heap.size S qs (.slice a n c) ∧ (∀ q ∈ qs, Good q.1) := by
  obtain ⟨h1, h2⟩ := h
  cases hp : progOf s with
  | none =>
    rw [hp] at h1
    obtain ⟨a, n, c, rfl⟩ := h1
    exact ⟨a, n, c, rfl, h2, fun ps h => by cases h⟩
  | some ps =>
    rw [hp] at h1
    obtain ⟨v, S, qs, rfl, h3, h4, h5⟩ := h1
    obtain ⟨a, c, rfl⟩ := h4.form
    exact ⟨a, _, c, rfl, h2, fun ps' h => by injection h with h; subst h; exact ⟨S, qs, h3, h4, h5⟩⟩
theorem OpenTo.cases {s : ByteArray} {w w' : World} {e : Ending} (h : OpenTo s w e w') :
    ∃ (a : Option Addr) (n c : Nat) (ps : List Pr), e = .returned (.tuple #[.slice a n c, .bool (progOf s).isSome]) ∧ Below w.heap.size w w' ∧ ps.length = n ∧ w'.ownsRow w.heap.size 108 2 (.slice a n c) n (prVs ps) ∧ ∀ ps', progOf s = some ps' → ps = ps' := by
  obtain ⟨v, b, ps, rfl, h1, h2, h3⟩ := h
  obtain ⟨a, n, c, rfl⟩ := slice_form h2
  have hn : n = ps.length := by
    rcases h2.2 with ⟨h1, h2⟩ | ⟨g, cap, cur, h1, _⟩
    · injection h1 with _ h3; omega
    · injection h1 with _ h3
  subst hn
  rcases h1.out with ⟨hb, hp⟩ | ⟨hb, hp⟩
  · exact ⟨a, _, c, ps, by rw [hb, hp]; rfl, h3, rfl, h2, fun ps' h => by rw [hp] at h; cases h⟩
  · exact ⟨a, _, c, ps, by rw [hb, hp]; rfl, h3, rfl, h2, fun ps' h => by rw [hp] at h; injection h⟩

theorem procs_len (parts : List (List UInt8)) : ∀ (acc ps : List Pr), procsOf acc parts = some ps → ps.length = acc.length + parts.length := by
  induction parts with
  | nil => intro acc ps h; injection h with h; subst h; rfl
  | cons q qs ih =>
    intro acc ps h
    rw [procsOf] at h
    cases hq : procOf q with
    | none => rw [hq] at h; cases h
    | some x =>
      rw [hq] at h
      dsimp only at h
      split at h
      · have := ih _ _ h; simp at this ⊢; omega
      · cases h
theorem prog_facts {s : ByteArray} {ps : List Pr} (h : progOf s = some ps) : ps.length ≤ 401 ∧ (∀ p ∈ ps, Good p) ∧ s.size ≤ 400 ∧ procsOf [] (cuts s.data.toList) = some ps := by
  unfold progOf at h
  split at h
  · rename_i hs
    cases hp : procsOf [] (cuts s.data.toList) with
    | none => rw [hp] at h; cases h
    | some qs =>
      rw [hp, Option.bind_some] at h
      split at h
      · injection h with h
        subst h
        have h1 := procs_len _ _ _ hp
        have h2 := (cuts_le s.data.toList []).1
        rw [show cutsP [] s.data.toList = cuts s.data.toList from rfl] at h2
        simp at h1 h2
        exact ⟨by omega, procs_good _ _ _ hp (by simp), hs, rfl⟩
      · cases h
  · cases h
def asc (l : List UInt8) : Prop := l.Pairwise fun a b => a.toNat < b.toNat
theorem procs_asc (parts : List (List UInt8)) : ∀ (acc ps : List Pr), procsOf acc parts = some ps → asc (namesOf acc) → asc (namesOf ps) := by
  induction parts with
  | nil => intro acc ps h ha; injection h with h; subst h; exact ha
  | cons q qs ih =>
    intro acc ps h ha
    rw [procsOf] at h
    cases hq : procOf q with
    | none => rw [hq] at h; cases h
    | some x =>
      rw [hq] at h
      dsimp only at h
      split at h
      · rename_i hlb
        refine ih _ _ h ?_
        rw [namesOf, List.map_append, asc, List.pairwise_append]
        refine ⟨ha, by simp, ?_⟩
        intro a ha' b hb
        have hbx : b = x.1 := by simpa using hb
        subst hbx
        rcases List.eq_nil_or_concat acc with rfl | ⟨init, l, rfl⟩
        · simp at ha'
        · rw [List.concat_eq_append] at *
          have hl : l.1.toNat < x.1.toNat := by simpa [lastBelow, UInt8.lt_iff_toNat_lt] using hlb
          rw [namesOf, List.map_append, asc, List.pairwise_append] at ha
          rw [List.map_append, List.mem_append] at ha'
          rcases ha' with ha' | ha'
          · have := ha.2.2 a ha' l.1 (by simp); omega
          · have : a = l.1 := by simpa using ha'
            rw [this]; exact hl
      · cases h
end Go.Proofs.YtomodlllmbkndaaGreatDoor
