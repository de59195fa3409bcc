/- eachStatement: what a visitor with two caught variables does, told by what holds behind each statement. Condition: at most 2^20 statements. The program's shadows: shadowAt, shadows of a procedure and of a program, ShadowsOf. No condition but the text's size and that the library's own number can be read. Each join point of a run stands as a statement in the body of the last active procedure, and so has a shadow. Plain lemmas; no walk. The program's shadows, walked: the visitor, shadows of a procedure and of a program, ShadowsOf. Condition: the library's own number can be read. The model's shadows: l6Places, ShadowsOf. No condition but the text's size. -/
import Derived.Test.YtihjkkoaccmefaaGreatDoorEach
import Derived.Test.YtihjkkoaccmefaaGreatDoorAx
import Derived.Test.YtihjkkoaccmefaaGreatDoorFacts
import Derived.Deep.AppendLies
import Derived.Lib.AppendZeros
import Derived.Test.YtihjkkoaccmefaaGreatDoorNx
import Derived.Test.YtihjkkoaccmefaaGreatDoorRx
import Derived.Test.YtihjkkoaccmefaaGreatDoorCalls
import Derived.Deep.Upon
import Derived.Test.YtihjkkoaccmefaaGreatDoorQx
namespace Go.Proofs.YtihjkkoaccmefaaGreatDoor
open Go.RowKit Gram

/-- all below B stays, and all whose elements are of other types than these -/
structure KpT (T : TypeId → Prop) (B : Nat) (w w' : World) : Prop where
  below : Below B w w'
  rest : ∀ (k : Nat) (cur : Array Value) (e : TypeId) (fz : Nat × Nat), w.heap[k]? = some (.cells cur e fz) → ¬ T e → w'.heap[k]? = some (.cells cur e fz)
theorem KpT.refl (T : TypeId → Prop) (B : Nat) (w : World) : KpT T B w w := ⟨Below.refl B w, fun _ _ _ _ h _ => h⟩
theorem KpT.trans {T : TypeId → Prop} {B : Nat} {a b c : World} (h : KpT T B a b) (k : KpT T B b c) : KpT T B a c := ⟨h.below.trans k.below, fun i cur e fz hi he => k.rest i cur e fz (h.rest i cur e fz hi he) he⟩
theorem KpT.of {T : TypeId → Prop} {B : Nat} {w w' : World} (h : Below w.heap.size w w') (hB : B ≤ w.heap.size) : KpT T B w w' := ⟨h.mono hB, fun k cur e fz hk _ => by rw [h.block k (heap_lt hk)]; exact hk⟩
theorem KpT.drew {T : TypeId → Prop} {B : Nat} {a w : World} (h : KpT T B a w) : KpT T B a w.drew := ⟨h.below.drew, h.rest⟩
theorem KpT.alloc {T : TypeId → Prop} {B : Nat} {a w : World} (h : KpT T B a w) (hB : B ≤ w.heap.size) (o : Obj) : KpT T B a (w.alloc o) := h.trans (.of ((Below.refl w.heap.size w).alloc (Nat.le_refl _) _) hB)

section
variable (f : FuncId) (T : TypeId → Prop) (B : Nat) (c1 c2 : Value) (S : Nat → Prop) (w0 : World) (N : Nat) (Inv : List Stm → World → Prop) (ok : Stm → Prop)
/-- what a visitor does -/
structure Vis : Prop where
  enters : ∀ (args : Array Value) (w : World), (callFunc f args).run Tryz.prog w = .ok (.enter f args) w
  keep : ∀ l w, Inv l w → ∀ k, S k → k < w.heap.size ∧ w.heap[k]? = w0.heap[k]?
  alloc : ∀ l w o, Inv l w → Inv l (w.alloc o)
  low : ∀ l w, Inv l w → B ≤ w.heap.size
  other : ¬ T 130
  visit : ∀ (l : List Stm) (x : Stm) (w : World) (ty : TypeId) (pv : Value), l.length < N → ok x → Inv l w → IsStm w S x (.iface ty pv) →
    Calls Tryz.prog f #[.iface ty pv, c1, c2] w fun e w' => e = .returned (.tuple #[]) ∧ Inv (l ++ [x]) w' ∧ KpT T B w w'

def SaidG (n : Nat) : Prop := ∀ (xs : List Stm) (w : World) (v : Value) (l : List Stm), (flats xs).length ≤ n → n ≤ 1048576 → (l ++ flats xs).length ≤ N → Inv l w → IsBody w0 S xs v → (∀ x ∈ flats xs, ok x) →
  Calls Tryz.prog 49 #[v, .func (.func f) #[] #[c1, c2]] w fun e w' => e = .returned (.tuple #[]) ∧ Inv (l ++ flats xs) w' ∧ KpT T B w w'

set_option maxHeartbeats 2000000 in
set_option maxRecDepth 100000 in
theorem eachg_loop (hv : Vis f T B c1 c2 S w0 N Inv ok) (n : Nat) (h : ∀ m, m < n → SaidG f T B c1 c2 S w0 N Inv ok m) (xs : List Stm) (w : World) (ad : Option Addr) (ln cp : Nat) (l : List Stm) (vs : List Value) (hx : (flats xs).length ≤ n) (hn : n ≤ 1048576)
    (hN : (l ++ flats xs).length ≤ N) (hI : Inv l w) (hr : Row w0 S (.slice ad ln cp) vs) (hs : IsStms w0 S xs vs) (hln : ln = xs.length) (ho : ∀ x ∈ flats xs, ok x) :
    Calls Tryz.prog 49 #[.slice ad ln cp, .func (.func f) #[] #[c1, c2]] w fun e w' => e = .returned (.tuple #[]) ∧ Inv (l ++ flats xs) w' ∧ KpT T B w w' := by
  have hle := flats_ge xs
  have hlb : ln ≤ 1048576 := by omega
  have hE := hv.enters
  have H := Lib.hid h
  have HV := Lib.hid hv
  have HR := Lib.hid hr
  have HS := Lib.hid hs
  have HL := Lib.hid hln
  have HO := Lib.hid ho
  have HX := Lib.hid hx
  have HN := Lib.hid hN
  have HI := Lib.hid hI
  clear h hv hr hs hln ho hx hle hN hI
  go_enter Tryz.func49, Tryz.ntmps49
  go_wp2_with fail
  go_loopw [10] (fun i wr => ∃ k : Nat, k ≤ ln ∧ i = .int .i64 k ∧ Hid (Inv (l ++ flats (xs.take k)) wr) ∧ Hid (KpT T B w wr)) (fun i _ => ln - (intOf i).toNat)
  case atStart =>
    refine ⟨0, Nat.zero_le _, by go_num, ?_, KpT.refl _ _ _⟩
    show Inv _ _
    simpa [flats] using HI.out
  case round =>
    obtain ⟨k, hk, rfl, hI, hb⟩ := hrel
    by_cases hlt : k < ln
    · obtain ⟨x, v, hxk, hvk, hst⟩ := stms_get xs vs HS.out k (by rw [← HL.out]; exact hlt)
      have hkeep := fun j hj => (HV.out.keep _ _ hI.out j hj).2
      obtain ⟨g, hga, hc1⟩ : ∃ g, ad = some ⟨g, 0, none⟩ ∧ wr.cell? ⟨g, k, none⟩ = some v := by
        rcases HR.out.1.2 with ⟨h1, h2⟩ | ⟨g, cap, cur, h1, _, _⟩
        · injection h1 with h3 h4; omega
        · injection h1 with h3 h4 h5
          subst h3; subst h4; subst h5
          have := row_cell HR.out.1 k v hvk
          exact ⟨g, rfl, by rw [← this]; exact World.cell?_of_block (a := ⟨g, k, none⟩) (hkeep g (HR.out.2 g rfl))⟩
      subst hga
      have hst2 := IsStm.kept hkeep (fun _ h => h) _ _ hst
      have hst0 := hst
      obtain ⟨ty, pv, rfl⟩ := hst2.iface
      obtain ⟨hf1, hf2⟩ := flats_cut xs k x hxk
      have hokx : ∀ y ∈ x.flat, ok y := fun y hy => HO.out y (by rw [hf1]; simp [hy])
      have hx2 := HX.out
      have hn2 := HN.out
      rw [hf1] at hx2 hn2
      simp only [List.length_append] at hx2 hn2
      have HF2 := Lib.hid hf2
      have HOK := Lib.hid hokx
      clear hf1 hf2 hokx hst hkeep hxk hvk
      generalize hacc : l ++ flats (xs.take k) = acc at *
      have hal : acc.length = l.length + (flats (xs.take k)).length := by rw [← hacc, List.length_append]
      have HA := Lib.hid hacc
      clear hacc
      have hfp := flat_pos x
      have hlN : acc.length < N := by omega
      cases x with
      | pro =>
        have HC2 := Lib.hid (HV.out.visit acc _ wr ty pv hlN (HOK.out _ (by simp [Stm.flat])) hI.out hst2)
        simp only [IsStm] at hst2
        injection hst2 with h1 h2; subst h1; subst h2
        go_wp2_with fail
        refine HC2.out.mono ?_
        rintro e w2 ⟨rfl, hi2, hb2⟩
        have HI2 := Lib.hid hi2
        have HB2 := Lib.hid (hb.out.trans hb2)
        clear hi2 hb2
        have hta := ta_pro
        go_wp2_with fail
        go_roundw
        case rel =>
          refine ⟨k + 1, by omega, by go_num, ?_, HB2.out.alloc (HV.out.low _ _ HI2.out) _⟩
          show Inv _ _
          rw [HF2.out, ← List.append_assoc, HA.out]
          exact HV.out.alloc _ _ _ HI2.out
        case measure => simp [intOf]; omega
      | chg g' d =>
        have HC2 := Lib.hid (HV.out.visit acc _ wr ty pv hlN (HOK.out _ (by simp [Stm.flat])) hI.out hst2)
        simp only [IsStm] at hst2
        injection hst2 with h1 h2; subst h1; subst h2
        go_wp2_with fail
        refine HC2.out.mono ?_
        rintro e w2 ⟨rfl, hi2, hb2⟩
        have HI2 := Lib.hid hi2
        have HB2 := Lib.hid (hb.out.trans hb2)
        clear hi2 hb2
        have hta := ta_chg
        go_wp2_with fail
        go_roundw
        case rel =>
          refine ⟨k + 1, by omega, by go_num, ?_, HB2.out.alloc (HV.out.low _ _ HI2.out) _⟩
          show Inv _ _
          rw [HF2.out, ← List.append_assoc, HA.out]
          exact HV.out.alloc _ _ _ HI2.out
        case measure => simp [intOf]; omega
      | prt =>
        have HC2 := Lib.hid (HV.out.visit acc _ wr ty pv hlN (HOK.out _ (by simp [Stm.flat])) hI.out hst2)
        simp only [IsStm] at hst2
        injection hst2 with h1 h2; subst h1; subst h2
        go_wp2_with fail
        refine HC2.out.mono ?_
        rintro e w2 ⟨rfl, hi2, hb2⟩
        have HI2 := Lib.hid hi2
        have HB2 := Lib.hid (hb.out.trans hb2)
        clear hi2 hb2
        have hta := ta_prt
        go_wp2_with fail
        go_roundw
        case rel =>
          refine ⟨k + 1, by omega, by go_num, ?_, HB2.out.alloc (HV.out.low _ _ HI2.out) _⟩
          show Inv _ _
          rw [HF2.out, ← List.append_assoc, HA.out]
          exact HV.out.alloc _ _ _ HI2.out
        case measure => simp [intOf]; omega
      | call d =>
        have HC2 := Lib.hid (HV.out.visit acc _ wr ty pv hlN (HOK.out _ (by simp [Stm.flat])) hI.out hst2)
        simp only [IsStm] at hst2
        injection hst2 with h1 h2; subst h1; subst h2
        go_wp2_with fail
        refine HC2.out.mono ?_
        rintro e w2 ⟨rfl, hi2, hb2⟩
        have HI2 := Lib.hid hi2
        have HB2 := Lib.hid (hb.out.trans hb2)
        clear hi2 hb2
        have hta := ta_call
        go_wp2_with fail
        go_roundw
        case rel =>
          refine ⟨k + 1, by omega, by go_num, ?_, HB2.out.alloc (HV.out.low _ _ HI2.out) _⟩
          show Inv _ _
          rw [HF2.out, ← List.append_assoc, HA.out]
          exact HV.out.alloc _ _ _ HI2.out
        case measure => simp [intOf]; omega
      | cho p q =>
        have HC2 := Lib.hid (HV.out.visit acc _ wr ty pv hlN (HOK.out _ (by simp [Stm.flat])) hI.out hst2)
        simp only [IsStm] at hst2 hst0
        obtain ⟨va, vb, vas, vbs, he, r1, s1, r2, s2⟩ := hst0
        injection he with h1 h2; subst h1; subst h2
        obtain ⟨la, l1, lc, rfl⟩ := slice_form r1.1
        obtain ⟨fa, l2, fc, rfl⟩ := slice_form r2.1
        simp only [Stm.flat, List.length_cons, List.length_append] at hx2 hn2
        have hmp : ∀ y ∈ flats p, ok y := fun y hy => HOK.out y (by simp [Stm.flat, hy])
        have hmq : ∀ y ∈ flats q, ok y := fun y hy => HOK.out y (by simp [Stm.flat, hy])
        have HP := Lib.hid (fun w' (hi' : Inv (acc ++ [.cho p q]) w') => H.out (flats p).length (by omega) p w' (.slice la l1 lc) _ (Nat.le_refl _) (by omega) (by simp only [List.length_append, List.length_cons, List.length_nil]; omega) hi' ⟨vas, r1, s1⟩ hmp)
        have HQ := Lib.hid (fun w' (hi' : Inv (acc ++ [.cho p q] ++ flats p) w') => H.out (flats q).length (by omega) q w' (.slice fa l2 fc) _ (Nat.le_refl _) (by omega) (by simp only [List.length_append, List.length_cons, List.length_nil]; omega) hi' ⟨vbs, r2, s2⟩ hmq)
        clear r1 s1 r2 s2 hst2 hx2 hn2 hmp hmq hal
        go_wp2_with fail
        refine HC2.out.mono ?_
        rintro e w2 ⟨rfl, hi2, hb2⟩
        have HB2 := Lib.hid ((hb.out.trans hb2).alloc (HV.out.low _ _ hi2) (.cells #[.slice la l1 lc, .slice fa l2 fc] 130))
        have HI2 := Lib.hid (HV.out.alloc _ _ (.cells #[.slice la l1 lc, .slice fa l2 fc] 130) hi2)
        clear hi2 hb2
        have hta := ta_cho
        go_wp2_with fail
        refine (HP.out _ HI2.out).mono ?_
        rintro e w3 ⟨rfl, hi3, hb3⟩
        have HI3 := Lib.hid hi3
        have hblk : w3.heap[w2.heap.size]? = some (.cells #[.slice la l1 lc, .slice fa l2 fc] 130 (0, 0)) := hb3.rest _ _ _ _ (heap_alloc_new _ _) HV.out.other
        have q1 : w3.cell? ⟨w2.heap.size, 1, none⟩ = some (.slice fa l2 fc) := by rw [Lib.cell_of_heap hblk]; rfl
        have HB3 := Lib.hid (HB2.out.trans hb3)
        clear hi3 hb3 hblk
        go_wp2_with fail
        refine (HQ.out _ HI3.out).mono ?_
        rintro e w4 ⟨rfl, hi4, hb4⟩
        have HI4 := Lib.hid hi4
        have HB4 := Lib.hid (HB3.out.trans hb4)
        clear hi4 hb4
        go_wp2_with fail
        go_roundw
        case rel =>
          refine ⟨k + 1, by omega, by go_num, ?_, HB4.out⟩
          show Inv _ _
          rw [HF2.out, ← List.append_assoc, HA.out, Stm.flat]
          have := HI4.out
          simpa only [List.append_assoc, List.singleton_append, List.cons_append, List.nil_append] using this
        case measure => simp [intOf]; omega
    · have hall : xs.take k = xs := List.take_of_length_le (by rw [← HL.out]; omega)
      rw [hall] at hI
      go_wp2_with fail
      go_end0
      exact ⟨rfl, hI.out, hb.out⟩

theorem eachg_all (hv : Vis f T B c1 c2 S w0 N Inv ok) (n : Nat) : SaidG f T B c1 c2 S w0 N Inv ok n := by
  induction n using Nat.strongRecOn with
  | _ n ih =>
    intro xs w v l hx hn hN hI hB ho
    obtain ⟨vs, hr, hs⟩ := hB
    obtain ⟨ad, ln, cp, rfl⟩ := slice_form hr.1
    have hl := IsStms.len _ _ hs
    refine eachg_loop f T B c1 c2 S w0 N Inv ok hv n ih xs w ad ln cp l vs hx hn hN hI hr hs ?_ ho
    rcases hr.1.2 with ⟨h1, h2⟩ | ⟨g, cap, cur, h1, _⟩
    · injection h1 with _ h3; omega
    · injection h1 with _ h3; omega
end
end Go.Proofs.YtihjkkoaccmefaaGreatDoor
namespace Go.Proofs.YtihjkkoaccmefaaGreatDoor
open Go.RowKit Gram

/-- the shadows of a list of statements, of a procedure, of procedures, of a text -/
def shOn (c : UInt8) (l : List Stm) : List Jpt := l.filterMap fun x => jpOf x [c]
def shOf (p : Pr) : List Jpt := shOn p.1 (flats p.2)
def shAll (ps : List Pr) : List Jpt := ps.flatMap shOf
def shP (s : ByteArray) : List Jpt := match progOf s with | some ps => shAll ps | none => []
theorem shOn_snoc (c : UInt8) (l : List Stm) (x : Stm) : shOn c (l ++ [x]) = shOn c l ++ (jpOf x [c]).toList := by
  rw [shOn, List.filterMap_append, shOn]
  cases h : jpOf x [c] <;> simp [h]
theorem shOn_len (c : UInt8) (l : List Stm) : (shOn c l).length ≤ l.length := List.length_filterMap_le ..

set_option maxHeartbeats 1000000 in
theorem shadow_at (nm : UInt8) (hn : isLet nm = true) (x : Stm) (hx : x.wf = true) (hk : x.nk = true) (S : Nat → Prop) (bv v : Value) (w : World) (hv : IsStm w S x v) (hS : ∀ k, S k → k < w.heap.size) (hb : ∃ a n c, bv = .slice a n c) :
    Calls Tryz.prog 71 #[.agg #[.int .u8 nm.toNat, bv], v] w fun e w' => e = .returned (.tuple #[jpO (jpOf x [nm]), .bool (jpOf x [nm]).isSome]) ∧ Below w.heap.size w w' := by
  obtain ⟨ba, bn, bc, rfl⟩ := hb
  have hJ : ∀ w2, (∀ k, S k → w2.heap[k]? = w.heap[k]?) → Calls Tryz.prog 89 #[v, .string (txtOf [nm])] w2 fun e w' => e = .returned (.tuple #[jpO (jpOf x [nm]), .bool (jpOf x [nm]).isSome]) ∧ Below w2.heap.size w2 w' :=
    fun w2 h2 => jpat_any x hx hk S [nm] v w2 (IsStm.kept h2 (fun _ h => h) _ _ hv)
  obtain ⟨ty, pv, rfl⟩ := hv.iface
  have he := enc_let32 nm hn
  have hform : ∃ X Y Z : ByteArray, jpO (jpOf x [nm]) = .agg #[.string X, .string Y, .string Z] := by
    cases h : jpOf x [nm] with
    | none => exact ⟨_, _, _, rfl⟩
    | some j => exact ⟨_, _, _, rfl⟩
  obtain ⟨X, Y, Z, hxyz⟩ := hform
  rw [hxyz] at hJ ⊢
  generalize (jpOf x [nm]).isSome = ok at *
  have HJ := Lib.hid hJ
  have HS := Lib.hid hS
  clear hJ hxyz hv hx hk hn hS
  go_enter Tryz.func71, Tryz.ntmps71
  go_wp2_with fail
  have hA := Lib.hid (((Below.refl w.heap.size w).alloc (Nat.le_refl _) (Obj.cells #[.int .u8 nm.toNat, .slice ba bn bc] 66)).alloc (by simp) (Obj.cells #[.string ⟨#[]⟩, .string ⟨#[]⟩, .string ⟨#[]⟩] 31))
  refine (HJ.out _ fun k hk => hA.out.block k (HS.out k hk)).mono ?_
  rintro e w3 ⟨rfl, hb3⟩
  have hb0 : w3.heap[w.heap.size + 1]? = some (Obj.cells #[.string ⟨#[]⟩, .string ⟨#[]⟩, .string ⟨#[]⟩] 31 (0, 0)) := by
    rw [hb3.block _ (by simp)]
    have := heap_alloc_new (w.alloc (Obj.cells #[.int .u8 nm.toNat, .slice ba bn bc] 66)) (Obj.cells #[.string ⟨#[]⟩, .string ⟨#[]⟩, .string ⟨#[]⟩] 31)
    rw [alloc_size'] at this
    exact this
  have hb4 : (w3.alloc (Obj.cells #[.string X, .string Y, .string Z] 33)).heap[w.heap.size + 1]? = some (Obj.cells #[.string ⟨#[]⟩, .string ⟨#[]⟩, .string ⟨#[]⟩] 31 (0, 0)) := by
    rw [Lib.alloc_old _ _ _ (heap_lt hb0)]; exact hb0
  have HB3 := Lib.hid ((hA.out.trans (hb3.mono hA.out.size)).alloc (Nat.le_trans hA.out.size hb3.size) (Obj.cells #[.string X, .string Y, .string Z] 33))
  have q0 : (w3.alloc (Obj.cells #[.string X, .string Y, .string Z] 33)).cell? ⟨w.heap.size + 1, 0, none⟩ = some (.string ⟨#[]⟩) := by rw [Lib.cell_of_heap hb4]; rfl
  have q1 : (w3.alloc (Obj.cells #[.string X, .string Y, .string Z] 33)).cell? ⟨w.heap.size + 1, 1, none⟩ = some (.string ⟨#[]⟩) := by rw [Lib.cell_of_heap hb4]; rfl
  have q2 : (w3.alloc (Obj.cells #[.string X, .string Y, .string Z] 33)).cell? ⟨w.heap.size + 1, 2, none⟩ = some (.string ⟨#[]⟩) := by rw [Lib.cell_of_heap hb4]; rfl
  have f0 : (w3.alloc (Obj.cells #[.string X, .string Y, .string Z] 33)).frozen? ⟨w.heap.size + 1, 0, none⟩ = false := Lib.frozen_of_heap hb4 0
  have f1 : (w3.alloc (Obj.cells #[.string X, .string Y, .string Z] 33)).frozen? ⟨w.heap.size + 1, 1, none⟩ = false := Lib.frozen_of_heap hb4 1
  have f2 : (w3.alloc (Obj.cells #[.string X, .string Y, .string Z] 33)).frozen? ⟨w.heap.size + 1, 2, none⟩ = false := Lib.frozen_of_heap hb4 2
  have H4 := Lib.hid hb4
  clear hb3 hb0 hb4
  go_wp2_with fail
  clear q0 q1 q2 f0 f1 f2
  have h2 := heap_set_same (k := 2) (heap_set_same (k := 1) (heap_set_same (k := 0) H4.out (.string X)) (.string Y)) (.string Z)
  have c0 := Lib.cell_of_heap h2 0
  have c1 := Lib.cell_of_heap h2 1
  have c2 := Lib.cell_of_heap h2 2
  refine bodyPost_ret (v := .tuple #[.agg #[.string X, .string Y, .string Z], .bool ok]) ?_ rfl ⟨rfl, ((HB3.out.setCell (by simp) _).setCell (by simp) _).setCell (by simp) _⟩
  simp [results, Tryz.results71, go_sem, c0, c1, c2]

/-- a row of shadows that a variable holds -/
structure ShI (w : World) (B pb cb : Nat) (nm : UInt8) (bv : Value) (v : Value) (js : List Jpt) : Prop where
  bp : w.heap[pb]? = some (.cells #[.int .u8 nm.toNat, bv] 66 (0, 0))
  bc : w.heap[cb]? = some (.cells #[v] 25 (0, 0))
  row : w.ownsRow B 31 3 v js.length (jpC js)
  low : B ≤ cb
theorem ShI.big {w : World} {B pb cb : Nat} {nm : UInt8} {bv v : Value} {js : List Jpt} (h : ShI w B pb cb nm bv v js) : B ≤ w.heap.size := by have := heap_lt h.bc; have := h.low; omega
theorem ShI.far {w : World} {B pb cb : Nat} {nm : UInt8} {bv v : Value} {js : List Jpt} (h : ShI w B pb cb nm bv v js) {g : Nat} (hg : v.ownBlock = some g) : g ≠ pb ∧ g ≠ cb ∧ g < w.heap.size ∧ B ≤ g := by
  obtain ⟨h1, cur, hc⟩ := row_block h.row hg
  refine ⟨?_, ?_, heap_lt hc, h1⟩
  · rintro rfl
    rw [h.bp] at hc
    injection hc with hc; injection hc with _ ht _
    exact absurd ht (by decide)
  · rintro rfl
    rw [h.bc] at hc
    injection hc with hc; injection hc with _ ht _
    exact absurd ht (by decide)
theorem ShI.later {w w' : World} {B pb cb : Nat} {nm : UInt8} {bv v : Value} {js : List Jpt} (h : ShI w B pb cb nm bv v js) (hb : Below w.heap.size w w') : ShI w' B pb cb nm bv v js :=
  ⟨by rw [hb.block _ (heap_lt h.bp)]; exact h.bp, by rw [hb.block _ (heap_lt h.bc)]; exact h.bc, ownsRow_of h.row fun g hg => hb.block g (h.far hg).2.2.1, h.low⟩
theorem info_sh : (Tryz.prog.info? 31).map (fun i => (i.zero, i.size, i.bytes)) = some (some (.agg #[.string ⟨#[]⟩, .string ⟨#[]⟩, .string ⟨#[]⟩]), 3, 48) := by kernel_rfl
/-- the types that a visitor writes -/
def ShT (e : TypeId) : Prop := e = 31 ∨ e = 25
/-- one shadow more -/
theorem ShI.more {w : World} {B pb cb : Nat} {nm : UInt8} {bv v : Value} {js : List Jpt} (h : ShI w B pb cb nm bv v js) (hl : js.length ≤ 10000) (j : Jpt) (X Y Z : ByteArray) (hj : jpC [j] = [.string X, .string Y, .string Z]) (W : World) (hW : Below w.heap.size w W) (ab : Nat) (hA : W.heap[ab]? = some (.cells #[.string X, .string Y, .string Z] 31 (0, 0))) :
    ∃ g c w', (Builtin.append_ #[25, 25] 25 #[v, .slice (some ⟨ab, 0, none⟩) 1 1]).run Tryz.prog W = .ok (.slice (some ⟨g, 0, none⟩) (js.length + 1) c) w' ∧
      w'.cell? ⟨cb, 0, none⟩ = some v ∧ w'.frozen? ⟨cb, 0, none⟩ = false ∧ ShI (w'.setCell ⟨cb, 0, none⟩ (.slice (some ⟨g, 0, none⟩) (js.length + 1) c)) B pb cb nm bv (.slice (some ⟨g, 0, none⟩) (js.length + 1) c) (js ++ [j]) ∧
      KpT ShT B w (w'.setCell ⟨cb, 0, none⟩ (.slice (some ⟨g, 0, none⟩) (js.length + 1) c)) := by
  obtain ⟨i0, hi, hz0, hz1, hz2⟩ := info_parts info_sh
  have hrow : W.ownsRow B 31 3 v js.length (jpC js) := ownsRow_of h.row fun g hg => hW.block g (h.far hg).2.2.1
  obtain ⟨g', c', w', hrun, h2, h3, hat, hlt⟩ := run_append_lies (P := Tryz.prog) W 25 25 B 31 i0 (.agg #[.string ⟨#[]⟩, .string ⟨#[]⟩, .string ⟨#[]⟩]) 3 48 Tryz.underlying25 hi hz0 hz1 hz2 rfl (by decide) v js.length (jpC js) hrow ⟨ab, 0, none⟩ 1 1 [.string X, .string Y, .string Z] rfl
    (World.news_of_block (cs := #[.string X, .string Y, .string Z]) hA) (by intro u hu; simp at hu; rcases hu with rfl | rfl | rfl <;> rfl) (by decide) (by unfold maxLen; omega) (by omega) (by have := h.big; have := hW.size; omega) W.heap.size rfl
  have hold : ∀ k, k < w.heap.size → v.ownBlock ≠ some k → w'.heap[k]? = w.heap[k]? := fun k hk hk' =>
    (h3.block k (by have := hW.size; omega) (fun e' => hk' e'.symm)).trans (hW.block k hk)
  have hp := hold pb (heap_lt h.bp) (fun e => (h.far e).1 rfl)
  have hc := hold cb (heap_lt h.bc) (fun e => (h.far e).2.1 rfl)
  rw [h.bp] at hp
  rw [h.bc] at hc
  have hgc : g' ≠ cb := by
    rintro rfl
    obtain ⟨_, cur, hcc⟩ := row_block h2 (g := g') rfl
    rw [hc] at hcc
    injection hcc with hcc; injection hcc with _ ht _
    exact absurd ht (by decide)
  have hpc : pb ≠ cb := by
    rintro rfl
    have h1 := h.bp
    rw [h.bc] at h1
    injection h1 with h1; injection h1 with _ ht _
    exact absurd ht (by decide)
  refine ⟨g', c', w', hrun, by rw [Lib.cell_of_heap hc]; rfl, Lib.frozen_of_heap hc 0, ⟨by rw [heap_set_other hpc]; exact hp, heap_set_same hc _, ?_, h.low⟩, ?_, ?_⟩
  · have := ownsRow_of (w' := w'.setCell ⟨cb, 0, none⟩ (.slice (some ⟨g', 0, none⟩) (js.length + 1) c')) h2 (fun g hg => heap_set_other (by
      have : g' = g := by simpa [Value.ownBlock] using hg
      omega) _)
    rw [List.length_append, jpC, List.flatMap_append]
    rw [jpC] at hj this
    rw [hj]; exact this
  · exact ((hW.mono h.big).grown h3 (by have := h.big; have := hW.size; omega) (fun k hk => (h.far hk).2.2.2)).setCell h.low _
  · intro k cur e fz hk he
    have hkc : k ≠ cb := by
      rintro rfl
      rw [h.bc] at hk
      injection hk with hk; injection hk with _ ht _
      exact he (.inr ht.symm)
    rw [heap_set_other hkc, hold k (heap_lt hk) (fun e' => by
      obtain ⟨_, cur', hc'⟩ := row_block h.row e'
      rw [hk] at hc'
      injection hc' with hc'; injection hc' with _ ht _
      exact he (.inl ht))]
    exact hk
end Go.Proofs.YtihjkkoaccmefaaGreatDoor
namespace Go.Proofs.YtihjkkoaccmefaaGreatDoor
open Go.RowKit Gram

/-- each join point so far is a statement of the body that was done -/
def Sits (B : UInt8 → List Stm) (m : Mst) : Prop := ∀ j ∈ m.pts, (j.nm = none → Stm.prt ∈ flats (B (topOf j.stk))) ∧ ∀ c, j.nm = some c → Stm.call c ∈ flats (B (topOf j.stk))
def SitsEx (B : UInt8 → List Stm) (ex : Mst → List Stm → Mst × Option Fin) : Prop :=
  ∀ (m : Mst) (xs : List Stm), Sits B m → (∀ y ∈ flats xs, y ∈ flats (B (topOf m.stk))) → Sits B (ex m xs).1 ∧ ((ex m xs).2 = none → (ex m xs).1.stk = m.stk)
theorem Sits.come {B : UInt8 → List Stm} {m : Mst} (h : Sits B m) (x : Stm) (hx : x ∈ flats (B (topOf m.stk))) : Sits B (m.come x) := by
  cases x with
  | prt =>
    intro j hj
    rcases List.mem_append.1 hj with hj | hj
    · exact h j hj
    · rw [List.mem_singleton.1 hj]; exact ⟨fun _ => hx, fun c hc => by cases hc⟩
  | call d =>
    intro j hj
    rcases List.mem_append.1 hj with hj | hj
    · exact h j hj
    · rw [List.mem_singleton.1 hj]; exact ⟨fun hc => (by cases hc), fun c hc => by injection hc with hc; subst hc; exact hx⟩
  | _ => exact h
theorem stepBy_sits {B : UInt8 → List Stm} {ex : Mst → List Stm → Mst × Option Fin} (hex : SitsEx B ex) {m : Mst} (h : Sits B m) (x : Stm) (hx : ∀ y ∈ x.flat, y ∈ flats (B (topOf m.stk))) :
    Sits B (stepBy ex B (m.come x) x).1 ∧ ((stepBy ex B (m.come x) x).2 = none → (stepBy ex B (m.come x) x).1.stk = m.stk) := by
  have hself : x ∈ x.flat := by cases x <;> simp [Stm.flat]
  have hc := h.come x (hx x hself)
  have hcs : (m.come x).stk = m.stk := by cases x <;> rfl
  unfold stepBy
  by_cases hs : (m.come x).steps = 500
  · rw [if_pos hs]; exact ⟨hc, fun h => by cases h⟩
  · rw [if_neg hs]
    cases x with
    | chg g d => exact ⟨hc, fun _ => rfl⟩
    | prt => exact ⟨hc, fun _ => rfl⟩
    | pro => exact ⟨hc, fun _ => rfl⟩
    | call c =>
      dsimp only
      by_cases hd : (m.come (.call c)).stk.length = 20
      · rw [if_pos hd]; exact ⟨hc, fun h => by cases h⟩
      · rw [if_neg hd]
        obtain ⟨k1, _⟩ := hex ((m.come (.call c)).tick.enter c) (B c) hc (fun y hy => by
          show y ∈ flats (B (topOf (_ ++ [c])))
          rw [top_enter]; exact hy)
        unfold callBy
        cases hr : ex ((m.come (.call c)).tick.enter c) (B c) with
        | mk m' o =>
          rw [hr] at k1
          cases o with
          | none => exact ⟨k1, fun _ => rfl⟩
          | some e => exact ⟨k1, fun h => by cases h⟩
    | cho a b =>
      dsimp only
      exact hex (m.come (.cho a b)).tick _ hc (fun y hy => hx y (by
        simp only [Stm.flat, List.mem_cons, List.mem_append]
        split at hy
        · exact .inr (.inl hy)
        · exact .inr (.inr hy)))
theorem exec_sits (B : UInt8 → List Stm) (n : Nat) : SitsEx B (exec B n) := by
  induction n with
  | zero =>
    intro m xs h _
    cases xs with
    | nil => exact ⟨h, fun _ => rfl⟩
    | cons x xs => exact ⟨h, fun h => by cases h⟩
  | succ n ih =>
    intro m xs h hx
    cases xs with
    | nil => exact ⟨h, fun _ => rfl⟩
    | cons x xs =>
      obtain ⟨s1, s2⟩ := stepBy_sits ih h x (fun y hy => hx y (by simp [flats, hy]))
      rw [exec]
      cases hr : stepBy (exec B n) B (m.come x) x with
      | mk m' o =>
        rw [hr] at s1 s2
        cases o with
        | none =>
          have s3 : m'.stk = m.stk := s2 rfl
          obtain ⟨t1, t2⟩ := ih m' xs s1 (fun y hy => by rw [s3]; exact hx y (by simp [flats, hy]))
          exact ⟨t1, fun h => by rw [t2 h, s3]⟩
        | some e => exact ⟨s1, fun h => by cases h⟩
theorem run_sits (B : UInt8 → List Stm) (c : UInt8) (v : Int) : Sits B (runOf B c v).1 := by
  obtain ⟨k1, _⟩ := exec_sits B 501 ((Mst.start v).enter c) (B c) (fun j hj => by cases hj) (fun y hy => hy)
  unfold runOf callBy
  cases hr : exec B 501 ((Mst.start v).enter c) (B c) with
  | mk m' o =>
    rw [hr] at k1
    cases o with
    | none => exact k1
    | some e => exact k1

/-- a run, its join points' stacks and their shadows -/
theorem run_shadow {s nm : ByteArray} {v : Int} {r : Mst × Option Fin} (h : runP s nm v = some r) : r.1.pts.length ≤ 501 ∧ ∀ j ∈ r.1.pts, 1 ≤ j.stk.length ∧ j.stk.length ≤ 20 ∧ (⟨j.nm, [topOf j.stk]⟩ : Jpt) ∈ shP s := by
  unfold runP at h
  cases hp : progOf s with
  | none => rw [hp] at h; cases h
  | some ps =>
    cases hl : lookP s nm with
    | none => rw [hp, hl] at h; cases h
    | some p =>
      rw [hp, hl] at h
      dsimp only at h
      split at h
      · rename_i hv
        injection h with h
        have hm : p ∈ ps := by
          unfold lookP at hl
          rw [hp] at hl
          split at hl
          · rename_i ps' c hp' hno
            injection hp' with hp'
            subst hp'
            exact List.mem_of_find?_eq_some hl
          · cases hl
        have hlet : isLet p.1 = true := ((prog_facts hp).2.1 p hm).2.2.2
        have hB : ∀ c, wfs (bodyP ps c) = true := fun c => by
          unfold bodyP
          split
          · rename_i q hq
            exact (fits_ps hp q (List.mem_of_find?_eq_some hq)).1
          · rfl
        have hk := exec_keeps hB 501 ((Mst.start v).enter p.1) (bodyP ps p.1) (start_ok hv.1 hv.2 hlet) (hB p.1)
        have hs := run_sits (bodyP ps) p.1 v
        obtain ⟨k1, k2, k3, k4, k5, k6⟩ := run_leads (bodyP ps) p.1 v
        rw [h] at hs k1 k5
        have hdn : r.1.deep ≤ 20 ∧ r.1.pts.length ≤ 501 := by
          unfold runOf callBy at h
          cases hr : exec (bodyP ps) 501 ((Mst.start v).enter p.1) (bodyP ps p.1) with
          | mk m' o =>
            rw [hr] at h hk
            have h1 := hk.1.deep
            have h2 := hk.1.steps
            have h3 := hk.1.pts
            cases o with
            | none => subst h; exact ⟨h1, by show m'.pts.length ≤ 501; dsimp only at h3 h2; omega⟩
            | some f => subst h; exact ⟨h1, by show m'.pts.length ≤ 501; dsimp only at h3 h2; omega⟩
        refine ⟨hdn.2, fun j hj => ⟨?_, Nat.le_trans (k5 j hj) hdn.1, ?_⟩⟩
        · have := k1 j hj
          cases hsk : j.stk with
          | nil => rw [hsk] at this; cases this
          | cons _ _ => simp
        · have hsh : ∀ x : Stm, x ∈ flats (bodyP ps (topOf j.stk)) → ∀ y : Jpt, jpOf x [topOf j.stk] = some y → y ∈ shP s := by
            intro x hx y hy
            unfold bodyP at hx
            split at hx
            · rename_i q hq
              have hq1 : q.1 = topOf j.stk := by simpa using List.find?_some hq
              rw [shP, hp]
              show y ∈ shAll ps
              rw [shAll, List.mem_flatMap]
              refine ⟨q, List.mem_of_find?_eq_some hq, ?_⟩
              rw [shOf, shOn, List.mem_filterMap, hq1]
              exact ⟨x, hx, hy⟩
            · simp [flats] at hx
          obtain ⟨h1, h2⟩ := hs j hj
          cases hn : j.nm with
          | none => exact hsh _ (h1 hn) _ rfl
          | some c => exact hsh _ (h2 c hn) _ rfl
      · cases h
end Go.Proofs.YtihjkkoaccmefaaGreatDoor
namespace Go.Proofs.YtihjkkoaccmefaaGreatDoor
open Go.RowKit Gram

mutual
theorem flat_ok (x : Stm) (h : x.wf = true) (hk : x.nk = true) : ∀ y ∈ x.flat, y.wf = true ∧ y.nk = true := by
  match x with
  | .chg g d => intro y hy; simp [Stm.flat] at hy; rw [hy]; exact ⟨h, hk⟩
  | .prt => intro y hy; simp [Stm.flat] at hy; rw [hy]; exact ⟨h, hk⟩
  | .pro => intro y hy; simp [Stm.flat] at hy; rw [hy]; exact ⟨h, hk⟩
  | .call d => intro y hy; simp [Stm.flat] at hy; rw [hy]; exact ⟨h, hk⟩
  | .cho a b =>
    have h0 := h
    have hk0 := hk
    simp only [Stm.wf, Bool.and_eq_true] at h
    simp only [Stm.nk, Bool.and_eq_true] at hk
    intro y hy
    simp only [Stm.flat, List.mem_cons, List.mem_append] at hy
    rcases hy with hy | hy | hy
    · rw [hy]; exact ⟨h0, hk0⟩
    · exact flats_ok a h.1 hk.1 y hy
    · exact flats_ok b h.2 hk.2 y hy
theorem flats_ok (xs : List Stm) (h : wfs xs = true) (hk : nks xs = true) : ∀ y ∈ flats xs, y.wf = true ∧ y.nk = true := by
  match xs with
  | [] => intro y hy; simp [flats] at hy
  | x :: xs =>
    simp only [wfs, Bool.and_eq_true] at h
    simp only [nks, Bool.and_eq_true] at hk
    intro y hy
    simp only [flats, List.mem_append] at hy
    rcases hy with hy | hy
    · exact flat_ok x h.1 hk.1 y hy
    · exact flats_ok xs h.2 hk.2 y hy
end
theorem enters_sh (args : Array Value) (w : World) : (callFunc 70 args).run Tryz.prog w = .ok (.enter 70 args) w :=
  enters_of Tryz.func70 (by kernel_rfl) rfl args w
theorem jp_strings (x : Stm) (c : UInt8) : ∃ X Y Z : ByteArray, jpO (jpOf x [c]) = .agg #[.string X, .string Y, .string Z] ∧ ∀ j, jpOf x [c] = some j → jpC [j] = [.string X, .string Y, .string Z] := by
  cases h : jpOf x [c] with
  | none => exact ⟨_, _, _, rfl, fun j h => by cases h⟩
  | some j => exact ⟨_, _, _, rfl, fun j' h => by injection h with h; subst h; rfl⟩

/-- what holds behind the visitor's rounds -/
structure ShV (w0 : World) (S : Nat → Prop) (B pb cb : Nat) (nm : UInt8) (bv : Value) (l : List Stm) (w : World) : Prop where
  at_ : ∃ v, ShI w B pb cb nm bv v (shOn nm l)
  stay : ∀ k, S k → k < w.heap.size ∧ w.heap[k]? = w0.heap[k]?

set_option maxHeartbeats 4000000 in
set_option maxRecDepth 100000 in
theorem sh_visits (w0 : World) (S : Nat → Prop) (B pb cb : Nat) (nm : UInt8) (hn : isLet nm = true) (ba : Option Addr) (bn bc : Nat) (hSt : ∀ k, S k → ∃ cur fz, w0.heap[k]? = some (.cells cur 100 fz)) :
    Vis 70 ShT B (.pointer (some ⟨pb, 0, none⟩)) (.pointer (some ⟨cb, 0, none⟩)) S w0 400 (ShV w0 S B pb cb nm (.slice ba bn bc)) (fun x => x.wf = true ∧ x.nk = true) := by
  refine ⟨enters_sh, fun l w h => h.stay, ?_, fun l w h => by obtain ⟨v, h⟩ := h.at_; exact h.big, by rintro (h | h) <;> exact absurd h (by decide), ?_⟩
  · intro l w o h
    obtain ⟨v, hv⟩ := h.at_
    exact ⟨⟨v, hv.later ((Below.refl _ _).alloc (Nat.le_refl _) o)⟩, fun k hk => ⟨by have := (h.stay k hk).1; rw [alloc_size']; omega, by rw [Lib.alloc_old _ _ _ (h.stay k hk).1]; exact (h.stay k hk).2⟩⟩
  · intro l x w ty pv hl hok hI hx
    obtain ⟨⟨v, hv⟩, hst⟩ := hI
    have hlen := shOn_len nm l
    have hsn := shOn_snoc nm l x
    have q0 : w.cell? ⟨pb, 0, none⟩ = some (.int .u8 nm.toNat) := by rw [Lib.cell_of_heap hv.bp]; rfl
    have q1 : w.cell? ⟨pb, 1, none⟩ = some (.slice ba bn bc) := by rw [Lib.cell_of_heap hv.bp]; rfl
    have HS := Lib.hid (shadow_at nm hn x hok.1 hok.2 S (.slice ba bn bc) (.iface ty pv) w hx (fun k hk => (hst k hk).1) ⟨_, _, _, rfl⟩)
    obtain ⟨X, Y, Z, hxyz, hj⟩ := jp_strings x nm
    rw [hxyz] at HS
    have HSn := Lib.hid hsn
    have HV := Lib.hid hv
    have HT := Lib.hid hst
    have HSt := Lib.hid hSt
    clear hxyz hv hst hsn hx hok hSt
    cases ho : jpOf x [nm] with
    | none =>
      rw [ho, Option.toList_none, List.append_nil] at HSn
      rw [ho, Option.isSome_none] at HS
      clear ho hj
      go_enter Tryz.func70, Tryz.ntmps70
      go_wp2_with fail
      refine HS.out.mono ?_
      rintro e w3 ⟨rfl, hb3⟩
      have hb4 := hb3.trans ((Below.refl w3.heap.size w3).alloc (Nat.le_refl _) (Obj.cells #[.string X, .string Y, .string Z] 31) |>.mono hb3.size)
      have HB4 := Lib.hid hb4
      clear hb3 hb4 q0 q1
      go_wp2_with fail
      go_end0
      refine ⟨rfl, ⟨⟨v, by rw [HSn.out]; exact HV.out.later HB4.out⟩, fun k hk => ⟨Nat.lt_of_lt_of_le (HT.out k hk).1 HB4.out.size, by rw [HB4.out.block k (HT.out k hk).1]; exact (HT.out k hk).2⟩⟩, KpT.of HB4.out HV.out.big⟩
    | some j =>
      rw [ho] at HSn
      rw [ho, Option.isSome_some] at HS
      have HJ := Lib.hid (hj j ho)
      clear ho hj
      go_enter Tryz.func70, Tryz.ntmps70
      go_wp2_with fail
      refine HS.out.mono ?_
      rintro e w3 ⟨rfl, hb3⟩
      have hb4 := hb3.trans ((Below.refl w3.heap.size w3).alloc (Nat.le_refl _) (Obj.cells #[.string X, .string Y, .string Z] 31) |>.mono hb3.size)
      have c4 : (w3.alloc (Obj.cells #[.string X, .string Y, .string Z] 31)).cell? ⟨cb, 0, none⟩ = some v := by rw [Lib.cell_of_heap (HV.out.later hb4).bc]; rfl
      have hb5 := hb4.trans ((Below.refl (w3.alloc (Obj.cells #[.string X, .string Y, .string Z] 31)).heap.size (w3.alloc (Obj.cells #[.string X, .string Y, .string Z] 31))).alloc (Nat.le_refl _) (Obj.cells #[.string X, .string Y, .string Z] 31) |>.mono hb4.size)
      have hnew := heap_alloc_new (w3.alloc (Obj.cells #[.string X, .string Y, .string Z] 31)) (Obj.cells #[.string X, .string Y, .string Z] 31)
      rw [alloc_size'] at hnew
      obtain ⟨g, c, w', hrun, cc, cf, hI', hK⟩ := HV.out.more (by omega) j X Y Z HJ.out _ hb5 (w3.heap.size + 1) hnew
      have HR := Lib.hid hrun
      have HI' := Lib.hid hI'
      have HK := Lib.hid hK
      clear hb3 hb4 hb5 hnew hrun hI' hK q0 q1
      go_wp2_with (at_builtin; refine Lib.wpList_append_run _ rfl _ _ 25 25 rfl _ _ rfl rfl _ _ HR.out ?_)
      go_end0
      refine ⟨rfl, ⟨⟨_, by rw [HSn.out]; exact HI'.out⟩, fun k hk => ?_⟩, HK.out⟩
      obtain ⟨cur, fz, hc⟩ := HSt.out k hk
      have h1 := (HT.out k hk).2
      rw [hc] at h1
      have h2 := HK.out.rest k cur _ fz h1 (by rintro (h | h) <;> exact absurd h (by decide))
      exact ⟨heap_lt h2, by rw [h2, hc]⟩

/-- a row behind a row -/
theorem sh_rows (w : World) (B B' : Nat) (js ks : List Jpt) (v u : Value) (hv : w.ownsRow B 31 3 v js.length (jpC js)) (hu : w.ownsRow B' 31 3 u ks.length (jpC ks)) (hmax : js.length + ks.length ≤ 100000) (hB : B ≤ w.heap.size) :
    ∃ v' w', (Builtin.append_ #[25, 25] 25 #[v, u]).run Tryz.prog w = .ok v' w' ∧ w'.ownsRow B 31 3 v' (js ++ ks).length (jpC (js ++ ks)) ∧ w.grownBy w' v.ownBlock := by
  obtain ⟨i0, hi, hz0, hz1, hz2⟩ := info_parts info_sh
  cases ks with
  | nil =>
    rw [List.append_nil]
    obtain ⟨a, n, c, rfl⟩ := slice_form hv
    obtain ⟨a', n', c', rfl⟩ := slice_form hu
    have hn : n = js.length ∧ n ≤ c := by
      rcases hv.2 with ⟨h1, h2⟩ | ⟨g, cap, cur, h1, _, _, h4, _⟩
      · injection h1 with _ e1 e2; omega
      · injection h1 with _ e1 e2; omega
    have hn' : n' = 0 := by
      rcases hu.2 with ⟨h1, h2⟩ | ⟨g, cap, cur, h1, _⟩
      · injection h1
      · injection h1
    subst hn'
    have hsrc : Src Tryz.prog i0.size 25 (.slice a' 0 c') 0 [] w := by
      cases a' with
      | none => exact Src.ofNil w Tryz.underlying25 c'
      | some a => exact Src.ofSlice w Tryz.underlying25 a 0 c' [] (by simp) (fun j u h => by simp at h) (fun _ h => by cases h)
    exact ⟨.slice a n c, w, run_append_nothing w _ _ _ 31 i0 Tryz.underlying25 hi a n c hn.2 _ hsrc, hv, World.grownBy.refl _ _⟩
  | cons k t =>
    obtain ⟨gs, cap, rfl, _, _⟩ := World.ownsRow.form hu (by simp)
    obtain ⟨g', c', w', hrun, h2, h3, _, _⟩ := run_append_lies (P := Tryz.prog) w 25 25 B 31 i0 (.agg #[.string ⟨#[]⟩, .string ⟨#[]⟩, .string ⟨#[]⟩]) 3 48 Tryz.underlying25 hi hz0 hz1 hz2 rfl (by decide) v js.length (jpC js) hv ⟨gs, 0, none⟩ (k :: t).length cap (jpC (k :: t)) (jpC_len _) (hu.cells (g := gs) rfl)
      (fun u hu => by
        rw [jpC, List.mem_flatMap] at hu
        obtain ⟨j, _, hu⟩ := hu
        simp only [List.mem_cons, List.not_mem_nil, or_false] at hu
        rcases hu with rfl | rfl | rfl <;> rfl) (by simp) (by unfold maxLen; omega) (by omega) hB w.heap.size rfl
    refine ⟨_, w', hrun, ?_, h3⟩
    rw [List.length_append, jpC, List.flatMap_append]
    exact h2

set_option maxHeartbeats 1000000 in
theorem proc_shadows {w : World} {S : Nat → Prop} {p : Pr} {v : Value} (hB : IsBody w S p.2 v) (hS : ∀ k, S k → ∃ cur fz, w.heap[k]? = some (.cells cur 100 fz)) (hg : Good p) :
    Calls Tryz.prog 41 #[.agg #[.int .u8 p.1.toNat, v]] w fun e w' => (∃ u, e = .returned u ∧ w'.ownsRow w.heap.size 31 3 u (shOf p).length (jpC (shOf p))) ∧ Below w.heap.size w w' := by
  obtain ⟨ba, bn, bc, rfl⟩ := hB.form
  have hfl := flats_le p.2
  have hlen := hg.2.2.1
  have hsz : ∀ k, S k → k < w.heap.size := fun k hk => by obtain ⟨cur, fz, hc⟩ := hS k hk; exact heap_lt hc
  have hA := ((Below.refl w.heap.size w).alloc (Nat.le_refl _) (Obj.cells #[.int .u8 p.1.toNat, .slice ba bn bc] 66)).alloc (by simp) (Obj.cells #[.slice none 0 0] 25)
  have hp : ((w.alloc (Obj.cells #[.int .u8 p.1.toNat, .slice ba bn bc] 66)).alloc (Obj.cells #[.slice none 0 0] 25)).heap[w.heap.size]? = some (.cells #[.int .u8 p.1.toNat, .slice ba bn bc] 66 (0, 0)) := by
    rw [Lib.alloc_old _ _ _ (by simp)]; exact heap_alloc_new _ _
  have hc : ((w.alloc (Obj.cells #[.int .u8 p.1.toNat, .slice ba bn bc] 66)).alloc (Obj.cells #[.slice none 0 0] 25)).heap[w.heap.size + 1]? = some (.cells #[.slice none 0 0] 25 (0, 0)) := by
    have := heap_alloc_new (w.alloc (Obj.cells #[.int .u8 p.1.toNat, .slice ba bn bc] 66)) (Obj.cells #[.slice none 0 0] 25)
    rw [alloc_size'] at this; exact this
  have hI : ShV w S w.heap.size w.heap.size (w.heap.size + 1) p.1 (.slice ba bn bc) [] ((w.alloc (Obj.cells #[.int .u8 p.1.toNat, .slice ba bn bc] 66)).alloc (Obj.cells #[.slice none 0 0] 25)) :=
    ⟨⟨.slice none 0 0, hp, hc, World.ownsRow_nil _ _ _ _, by omega⟩, fun k hk => ⟨by have := hsz k hk; simp; omega, hA.block k (hsz k hk)⟩⟩
  have HE := Lib.hid (eachg_all _ _ _ _ _ _ _ _ _ _ (sh_visits w S w.heap.size w.heap.size (w.heap.size + 1) p.1 hg.2.2.2 ba bn bc hS) (flats p.2).length p.2 _ (.slice ba bn bc) [] (Nat.le_refl _) (by omega) (by simp only [List.nil_append]; omega) hI hB (flats_ok _ hg.1 hg.2.1))
  have HA := Lib.hid hA
  clear hfl hlen hB hS hg hsz hA hp hc hI
  go_enter Tryz.func41, Tryz.ntmps41
  go_wp2_with fail
  refine HE.out.mono ?_
  rintro e w2 ⟨rfl, hV, hK⟩
  obtain ⟨⟨u, hu⟩, _⟩ := hV
  have q0 : w2.cell? ⟨w.heap.size + 1, 0, none⟩ = some u := by rw [Lib.cell_of_heap hu.bc]; rfl
  have HU := Lib.hid hu.row
  have HW := Lib.hid (HA.out.trans hK.below)
  clear hu hK
  go_wp2_with fail
  go_ret
  exact ⟨⟨u, rfl, HU.out⟩, HW.out⟩

theorem shAll_snoc (ps : List Pr) (p : Pr) : shAll (ps ++ [p]) = shAll ps ++ shOf p := by simp [shAll]
theorem shOf_len {p : Pr} (h : Good p) : (shOf p).length ≤ 400 := Nat.le_trans (shOn_len _ _) (Nat.le_trans (flats_le p.2) h.2.2.1)
theorem shAll_len : ∀ (ps : List Pr), (∀ p ∈ ps, Good p) → (shAll ps).length ≤ ps.length * 400
  | [], _ => by simp [shAll]
  | p :: t, h => by
    have h1 := shOf_len (h p (by simp))
    have h2 := shAll_len t fun q hq => h q (List.mem_cons.2 (.inr hq))
    simp only [shAll, List.flatMap_cons, List.length_append, List.length_cons] at h2 ⊢
    omega

set_option maxHeartbeats 2000000 in
set_option maxRecDepth 100000 in
theorem prog_shadows {w : World} {B : Nat} {S : Nat → Prop} {qs : List Qr} {a : Option Addr} {n c : Nat} (h : IsProg w B S qs (.slice a n c)) (hn : qs.length = n) (hl : n ≤ 26) (hg : ∀ q ∈ qs, Good q.1) :
    Calls Tryz.prog 19 #[.slice a n c] w fun e w' => (∃ u, e = .returned u ∧ w'.ownsRow w.heap.size 31 3 u (shAll (qs.map (·.1))).length (jpC (shAll (qs.map (·.1))))) ∧ Below w.heap.size w w' := by
  have H := Lib.hid h
  have HN := Lib.hid hn
  have HG := Lib.hid hg
  clear h hn hg
  go_enter Tryz.func19, Tryz.ntmps19
  go_wp2_with fail
  go_loopw [3, 8] (fun x i wr => ∃ k : Nat, i = .int .i64 k ∧ k ≤ n ∧ Hid (wr.ownsRow w.heap.size 31 3 x (shAll ((qs.take k).map (·.1))).length (jpC (shAll ((qs.take k).map (·.1))))) ∧ Hid (Below w.heap.size w wr)) (fun _ i _ => n - (intOf i).toNat)
  case atStart => exact ⟨0, by go_num, Nat.zero_le _, World.ownsRow_nil _ _ _ _, Below.refl _ _⟩
  case round =>
    obtain ⟨k, rfl, hk, hR, hb⟩ := hrel
    by_cases hlt : k < n
    · have hkq : k < qs.length := by rw [HN.out]; exact hlt
      obtain ⟨g, rfl, _, c0, c1⟩ := H.out.get k hkq
      have hgl : g < w.heap.size := World.block_lt_of_cell? w _ c0
      have hbody := prog_body H.out k hkq
      obtain ⟨ba, bn, bc, hbv⟩ := hbody.form
      rw [hbv] at c1 hbody
      have d0 : wr.cell? ⟨g, k * 2, none⟩ = some (.int .u8 qs[k].1.1.toNat) := by rw [hb.out.cell (p := ⟨g, k * 2, none⟩) hgl]; exact c0
      have d1 : wr.cell? ⟨g, k * 2 + 1, none⟩ = some (.slice ba bn bc) := by rw [hb.out.cell (p := ⟨g, k * 2 + 1, none⟩) hgl]; exact c1
      have hq := HG.out qs[k] (List.getElem_mem hkq)
      have hA := (Below.refl wr.heap.size wr).alloc (Nat.le_refl _) (Obj.cells #[.int .u8 qs[k].1.1.toNat, .slice ba bn bc] 66)
      have hwA := hb.out.trans (hA.mono hb.out.size)
      have HC := Lib.hid (proc_shadows (w := wr.alloc (Obj.cells #[.int .u8 qs[k].1.1.toNat, .slice ba bn bc] 66)) (S := S) (p := qs[k].1) (v := .slice ba bn bc) (hbody.kept (fun j hj => hwA.block j (H.out.lt j hj)) (fun _ h => h)) (fun j hj => by
        obtain ⟨_, cur, fz, hc⟩ := H.out.set j hj
        exact ⟨cur, fz, by rw [hwA.block j (heap_lt hc)]; exact hc⟩) hq)
      have HT := Lib.hid (by rw [List.take_succ_eq_append_getElem hkq, List.map_append, List.map_cons, List.map_nil, shAll_snoc] : shAll ((qs.take (k + 1)).map (·.1)) = shAll ((qs.take k).map (·.1)) ++ shOf qs[k].1)
      have hl1 := shOf_len hq
      have hl2 := shAll_len ((qs.take k).map (·.1)) fun p hp => by
        obtain ⟨q, hq, rfl⟩ := List.mem_map.1 hp
        exact HG.out q (List.mem_of_mem_take hq)
      rw [List.length_map, List.length_take] at hl2
      have hl3 : (shAll ((qs.take k).map (·.1))).length ≤ 10400 := by
        have : min k qs.length * 400 ≤ 26 * 400 := Nat.mul_le_mul_right _ (by omega)
        omega
      have HWA := Lib.hid hwA
      have HA := Lib.hid hA
      clear c0 c1 hgl hbv hbody hq hA hwA hl2
      go_wp2_with fail
      refine HC.out.mono ?_
      rintro e w3 ⟨⟨u, rfl, hu⟩, hb3⟩
      have hr3 : w3.ownsRow w.heap.size 31 3 u3 (shAll ((qs.take k).map (·.1))).length (jpC (shAll ((qs.take k).map (·.1)))) := ownsRow_of hR.out fun g hg => by
        obtain ⟨_, cur, hc⟩ := row_block hR.out hg
        rw [hb3.block g (by rw [alloc_size']; have := heap_lt hc; omega), HA.out.block g (heap_lt hc)]
      have hb03 := HWA.out.trans (hb3.mono HWA.out.size)
      obtain ⟨v', w4, hrun, hrow4, hg4⟩ := sh_rows w3 w.heap.size _ _ _ _ _ hr3 hu (by omega) hb03.size
      rw [← HT.out] at hrow4
      have HRun := Lib.hid hrun
      have HR4 := Lib.hid hrow4
      have HB4 := Lib.hid (hb03.grown hg4 hb03.size (fun k hk => (row_block hr3 hk).1))
      clear hrun hrow4 hg4 hr3 hu hb3 hb03
      go_wp2_with (at_builtin; refine Lib.wpList_append_run _ rfl _ _ 25 25 rfl _ _ rfl rfl _ _ HRun.out ?_)
      go_roundw
      case rel => exact ⟨k + 1, by go_num, by omega, HR4.out, HB4.out⟩
      case measure => simp [intOf]; omega
    · have hall : qs.take k = qs := List.take_of_length_le (by rw [HN.out]; omega)
      rw [hall] at hR
      go_wp2_with fail
      go_ret
      exact ⟨⟨_, rfl, hR.out⟩, hb.out⟩
end Go.Proofs.YtihjkkoaccmefaaGreatDoor
namespace Go.Proofs.YtihjkkoaccmefaaGreatDoor
open Go.RowKit Gram

/-- the shadows that a scan of a body's text finds -/
def spt (c : UInt8) : List UInt8 → List Jpt
  | [] => []
  | b :: r => (if b = 80 then [⟨none, [c]⟩] else if b = 67 then [⟨r.head?, [c]⟩] else []) ++ spt c r
/-- behind each 'C' stands a sign -/
def foC : List UInt8 → Bool
  | [] => true
  | b :: r => (b != 67 || !r.isEmpty) && foC r
theorem spt_dull (c b : UInt8) (r : List UInt8) (h1 : b ≠ 80) (h2 : b ≠ 67) : spt c (b :: r) = spt c r ∧ foC (b :: r) = foC r := by
  simp [spt, foC, h1, h2]
theorem dull_sgn {g : UInt8} (h : isSgn g = true) : g ≠ 80 ∧ g ≠ 67 := by
  simp only [isSgn, Bool.or_eq_true, beq_iff_eq] at h
  rcases h with (h | h) | h <;> subst h <;> decide
theorem dull_dig {g : UInt8} (h : isDig g = true) : g ≠ 80 ∧ g ≠ 67 := by
  constructor <;> rintro rfl <;> exact absurd h (by decide)
theorem dull_let {g : UInt8} (h : isLet g = true) : g ≠ 80 ∧ g ≠ 67 := by
  constructor <;> rintro rfl <;> exact absurd h (by decide)
theorem shOn_append (c : UInt8) (a b : List Stm) : shOn c (a ++ b) = shOn c a ++ shOn c b := List.filterMap_append ..
mutual
theorem spt_stm (c : UInt8) (x : Stm) (h : x.wf = true) (hk : x.nk = true) (r : List UInt8) : spt c (x.txt ++ r) = shOn c x.flat ++ spt c r ∧ foC (x.txt ++ r) = foC r := by
  match x with
  | .chg g d =>
    simp only [Stm.wf, Bool.and_eq_true] at h
    obtain ⟨a1, a2⟩ := spt_dull c g (d :: r) (dull_sgn h.1).1 (dull_sgn h.1).2
    obtain ⟨b1, b2⟩ := spt_dull c d r (dull_dig h.2).1 (dull_dig h.2).2
    simp only [Stm.txt, List.cons_append, List.nil_append, a1, a2, b1, b2, Stm.flat]
    exact ⟨by simp [shOn, jpOf], trivial⟩
  | .prt =>
    simp only [Stm.txt, List.cons_append, List.nil_append, Stm.flat]
    exact ⟨by simp [spt, shOn, jpOf], by simp [foC]⟩
  | .pro => simp [Stm.nk] at hk
  | .call d =>
    simp only [Stm.wf] at h
    obtain ⟨b1, b2⟩ := spt_dull c d r (dull_let h).1 (dull_let h).2
    simp only [Stm.txt, List.cons_append, List.nil_append, Stm.flat]
    constructor
    · rw [spt, b1]; simp [shOn, jpOf]
    · rw [foC, b2]; simp
  | .cho a b =>
    simp only [Stm.wf, Bool.and_eq_true] at h
    simp only [Stm.nk, Bool.and_eq_true] at hk
    have e1 := fun r => spt_dull c 63 r (by decide) (by decide)
    have e2 := fun r => spt_dull c 91 r (by decide) (by decide)
    have e3 := fun r => spt_dull c 93 r (by decide) (by decide)
    have h1 := fun r => spt_stms c a h.1 hk.1 r
    have h2 := fun r => spt_stms c b h.2 hk.2 r
    simp only [Stm.txt, List.cons_append, List.append_assoc, List.nil_append, (e1 _).1, (e1 _).2, (e2 _).1, (e2 _).2, (h1 _).1, (h1 _).2, (e3 _).1, (e3 _).2, (h2 _).1, (h2 _).2, Stm.flat]
    constructor
    · have : shOn c (.cho a b :: (flats a ++ flats b)) = shOn c (flats a) ++ shOn c (flats b) := by
        rw [← shOn_append]; simp [shOn, jpOf]
      rw [this, List.append_assoc]
    · trivial
theorem spt_stms (c : UInt8) (xs : List Stm) (h : wfs xs = true) (hk : nks xs = true) (r : List UInt8) : spt c (txts xs ++ r) = shOn c (flats xs) ++ spt c r ∧ foC (txts xs ++ r) = foC r := by
  match xs with
  | [] => simp [txts, flats, shOn]
  | x :: xs =>
    simp only [wfs, Bool.and_eq_true] at h
    simp only [nks, Bool.and_eq_true] at hk
    have h1 := fun r => spt_stm c x h.1 hk.1 r
    have h2 := fun r => spt_stms c xs h.2 hk.2 r
    simp only [txts, flats, List.append_assoc, (h1 _).1, (h1 _).2, (h2 _).1, (h2 _).2, shOn_append]
    exact ⟨trivial, trivial⟩
end
theorem sh_row0 (w : World) : (w.alloc (Obj.cells #[] 31)).ownsRow w.heap.size 31 3 (.slice (some ⟨w.heap.size, 0, none⟩) 0 0) 0 (jpC []) :=
  ⟨by simp [jpC], .inr ⟨w.heap.size, 0, #[], rfl, Nat.le_refl _, heap_alloc_new w _, Nat.le_refl _, by simp [maxLen], by simp, by simp [jpC]⟩⟩
theorem sh_row1 (w : World) (j : Jpt) (X Y Z : ByteArray) (hj : jpC [j] = [.string X, .string Y, .string Z]) : (w.alloc (Obj.cells #[.string X, .string Y, .string Z] 31)).ownsRow w.heap.size 31 3 (.slice (some ⟨w.heap.size, 0, none⟩) 1 1) [j].length (jpC [j]) :=
  ⟨by rw [hj]; rfl, .inr ⟨w.heap.size, 1, #[.string X, .string Y, .string Z], rfl, Nat.le_refl _, heap_alloc_new w _, Nat.le_refl _, by simp [maxLen], by simp, by rw [hj]; rfl⟩⟩

set_option maxHeartbeats 4000000 in
set_option maxRecDepth 100000 in
theorem places_any (c : UInt8) (l : List UInt8) (hok : foC l = true) (hl : l.length ≤ 400) (w : World) :
    Calls Tryz.prog 21 #[.string (txtOf l), .string (txtOf [c])] w fun e w' => (∃ u, e = .returned u ∧ w'.ownsRow w.heap.size 31 3 u (spt c l).length (jpC (spt c l))) ∧ Below w.heap.size w w' := by
  have HOk := Lib.hid hok
  have hsz : (txtOf l).size = l.length := rfl
  have hat : ∀ k (hk : k < l.length), (txtOf l)[k]'(by rw [hsz]; exact hk) = l[k] := fun k hk => rfl
  have hex : ∀ k (hk : k < l.length), (txtOf l).extract k (k + 1) = txtOf [l[k]] := fun k hk => one_extract l k hk
  have HAt := Lib.hid hat
  have HEx := Lib.hid hex
  clear hat hex hok
  generalize txtOf l = s at *
  generalize htc : txtOf [c] = tc at *
  have HTc := Lib.hid htc
  clear htc
  go_enter Tryz.func21, Tryz.ntmps21
  go_wp2_with fail
  go_loopw [5, 10] (fun x i wr => ∃ (k : Nat) (js : List Jpt), i = .int .i64 k ∧ k ≤ l.length ∧ js.length ≤ k ∧ Hid (wr.ownsRow w.heap.size 31 3 x js.length (jpC js)) ∧ Hid (js ++ spt c (l.drop k) = spt c l) ∧ Hid (foC (l.drop k) = true) ∧ Hid (Below w.heap.size w wr)) (fun _ i _ => l.length - (intOf i).toNat)
  case atStart => exact ⟨0, [], by go_num, Nat.zero_le _, Nat.le_refl _, sh_row0 w, rfl, HOk.out, (Below.refl _ _).alloc (Nat.le_refl _) _⟩
  case round =>
    obtain ⟨k, js, rfl, hk, hjk, hR, hS, hO, hb⟩ := hrel
    by_cases hlt : k < l.length
    · have hidx := HAt.out k hlt
      have hdrop : l.drop k = l[k] :: l.drop (k + 1) := List.drop_eq_getElem_cons hlt
      have hlen1 : (l.drop (k + 1)).length = l.length - (k + 1) := List.length_drop
      have HHd := Lib.hid (fun (h : k + 1 < l.length) => (by rw [List.head?_drop, List.getElem?_eq_getElem h] : (l.drop (k + 1)).head? = some l[k + 1]))
      have hS' := hS.out
      have hO' := hO.out
      rw [hdrop] at hS' hO'
      generalize hbk : l[k] = b at *
      by_cases h80 : b = 80
      · have e1 : ((b.toNat : Int) == 80) = true := by rw [beq_iff_eq, h80]; rfl
        have hj : jpC [⟨none, [c]⟩] = [.string ⟨#[112, 114, 105, 110, 116]⟩, .string ⟨#[]⟩, .string tc] := by rw [← HTc.out]; rfl
        have hu := sh_row1 wr ⟨none, [c]⟩ _ _ _ hj
        have hA := (Below.refl wr.heap.size wr).alloc (Nat.le_refl _) (Obj.cells #[.string ⟨#[112, 114, 105, 110, 116]⟩, .string ⟨#[]⟩, .string tc] 31)
        obtain ⟨v', w4, hrun, hrow4, hg4⟩ := sh_rows _ w.heap.size _ js _ _ _ (hR.out.alloc _) hu (by simp only [List.length_singleton]; omega) (by rw [alloc_size']; have := hb.out.size; omega)
        have HRun := Lib.hid hrun
        have HR4 := Lib.hid hrow4
        have HB4 := Lib.hid ((hb.out.trans (hA.mono hb.out.size)).grown hg4 (by rw [alloc_size']; have := hb.out.size; omega) (fun k hk => (row_block hR.out hk).1))
        have HS4 := Lib.hid (by rw [h80] at hS'; simpa [spt] using hS' : (js ++ [⟨none, [c]⟩]) ++ spt c (l.drop (k + 1)) = spt c l)
        have HO4 := Lib.hid (by simp only [foC, Bool.and_eq_true] at hO'; exact hO'.2 : foC (l.drop (k + 1)) = true)
        clear hrun hrow4 hg4 hu hA hS' hO' hdrop hlen1 hbk h80 hj
        go_wp2_with (at_builtin; refine Lib.wpList_append_run _ rfl _ _ 25 25 rfl _ _ rfl rfl _ _ HRun.out ?_)
        go_roundw
        case rel => exact ⟨k + 1, js ++ [(⟨none, [c]⟩ : Jpt)], by go_num, by omega, by simp; omega, HR4.out, HS4.out, HO4.out, HB4.out⟩
        case measure => simp [intOf]; omega
      · have e1 : ((b.toNat : Int) == 80) = false := by rw [beq_eq_false_iff_ne]; intro e; exact h80 (UInt8.toNat.inj (by show b.toNat = 80; omega))
        by_cases h67 : b = 67
        · have e2 : ((b.toNat : Int) == 67) = true := by rw [beq_iff_eq, h67]; rfl
          have hne : k + 1 < l.length := by
            rw [h67] at hO'
            simp only [foC, Bool.and_eq_true] at hO'
            have h1 := hO'.1
            simp only [bne_self_eq_false, Bool.false_or, Bool.not_eq_true', List.isEmpty_eq_false_iff] at h1
            have := List.length_pos_iff.2 h1
            omega
          have hx := HEx.out (k + 1) hne
          have hhd := HHd.out hne
          have hj : jpC [⟨some l[k + 1], [c]⟩] = [.string ⟨#[99, 97, 108, 108]⟩, .string (txtOf [l[k + 1]]), .string tc] := by rw [← HTc.out]; rfl
          have hS4 : (js ++ [⟨some l[k + 1], [c]⟩]) ++ spt c (l.drop (k + 1)) = spt c l := by
            rw [h67, spt, hhd] at hS'
            simpa using hS'
          have hO4 : foC (l.drop (k + 1)) = true := by simp only [foC, Bool.and_eq_true] at hO'; exact hO'.2
          generalize htx : txtOf [l[k + 1]] = tx at *
          generalize l[k + 1] = y at *
          have hu := sh_row1 wr ⟨some y, [c]⟩ _ _ _ hj
          have hA := (Below.refl wr.heap.size wr).alloc (Nat.le_refl _) (Obj.cells #[.string ⟨#[99, 97, 108, 108]⟩, .string tx, .string tc] 31)
          obtain ⟨v', w4, hrun, hrow4, hg4⟩ := sh_rows _ w.heap.size _ js _ _ _ (hR.out.alloc _) hu (by simp only [List.length_singleton]; omega) (by rw [alloc_size']; have := hb.out.size; omega)
          have HRun := Lib.hid hrun
          have HR4 := Lib.hid hrow4
          have HB4 := Lib.hid ((hb.out.trans (hA.mono hb.out.size)).grown hg4 (by rw [alloc_size']; have := hb.out.size; omega) (fun k hk => (row_block hR.out hk).1))
          have HS4 := Lib.hid hS4
          have HO4 := Lib.hid hO4
          clear hrun hrow4 hg4 hu hA hS' hO' hdrop hlen1 hbk h80 h67 hj hS4 hO4 hhd htx
          go_wp2_with (at_builtin; refine Lib.wpList_append_run _ rfl _ _ 25 25 rfl _ _ rfl rfl _ _ HRun.out ?_)
          go_roundw
          case rel => exact ⟨k + 1, js ++ [(⟨some y, [c]⟩ : Jpt)], by go_num, by omega, by simp; omega, HR4.out, HS4.out, HO4.out, HB4.out⟩
          case measure => simp [intOf]; omega
        · have e2 : ((b.toNat : Int) == 67) = false := by rw [beq_eq_false_iff_ne]; intro e; exact h67 (UInt8.toNat.inj (by show b.toNat = 67; omega))
          have HS4 := Lib.hid (by rw [(spt_dull c b _ h80 h67).1] at hS'; exact hS' : js ++ spt c (l.drop (k + 1)) = spt c l)
          have HO4 := Lib.hid (by rw [(spt_dull c b _ h80 h67).2] at hO'; exact hO' : foC (l.drop (k + 1)) = true)
          clear hS' hO' hdrop hlen1 hbk h80 h67
          go_wp2_with fail
          go_roundw
          case rel => exact ⟨k + 1, js, by go_num, by omega, by omega, hR.out, HS4.out, HO4.out, hb.out⟩
          case measure => simp [intOf]; omega
    · have HE := Lib.hid (by
        have := hS.out
        rw [List.drop_of_length_le (by omega)] at this
        simpa [spt] using this : js = spt c l)
      rw [HE.out] at hR
      go_wp2_with fail
      go_ret
      exact ⟨⟨_, rfl, hR.out⟩, hb.out⟩

theorem KpT.grown {T : TypeId → Prop} {B B' sz n : Nat} {a w w' : World} {e : TypeId} {v : Value} {xs : List Value} (h : KpT T B a w) (hr : w.ownsRow B' e sz v n xs) (hT : T e) (hB' : B ≤ B') (hB : B ≤ w.heap.size) (hg : w.grownBy w' v.ownBlock) : KpT T B a w' :=
  ⟨h.below.grown hg hB (fun k hk => Nat.le_trans hB' (row_block hr hk).1), fun k cur e' fz hk he => by
    have h1 := h.rest k cur e' fz hk he
    rw [hg.block k (heap_lt h1) (fun e2 => by
      obtain ⟨_, cur', hc⟩ := row_block hr e2.symm
      rw [h1] at hc
      injection hc with hc; injection hc with _ ht _
      exact he (ht ▸ hT))]
    exact h1⟩
theorem KpT.row {T : TypeId → Prop} {B B' sz n : Nat} {a w : World} {e : TypeId} {v : Value} {xs : List Value} (h : KpT T B a w) (hr : a.ownsRow B' e sz v n xs) (hT : ¬ T e) : w.ownsRow B' e sz v n xs :=
  ownsRow_of hr fun g hg => by
    obtain ⟨_, cur, hc⟩ := row_block hr hg
    rw [h.rest g cur e _ hc hT, hc]
theorem places_of (p : Pr) (h : Good p) (w : World) :
    Calls Tryz.prog 21 #[.string (txtOf (txts p.2)), .string (txtOf [p.1])] w fun e w' => (∃ u, e = .returned u ∧ w'.ownsRow w.heap.size 31 3 u (shOf p).length (jpC (shOf p))) ∧ Below w.heap.size w w' := by
  obtain ⟨h1, h2⟩ := spt_stms p.1 p.2 h.1 h.2.1 []
  rw [List.append_nil] at h1 h2
  rw [spt, List.append_nil] at h1
  have := places_any p.1 (txts p.2) (by rw [h2]; rfl) h.2.2.1 w
  rw [h1] at this
  exact this

/-- what ShadowsOf hands back -/
def ShTo (s : ByteArray) (w : World) (e : Ending) (w' : World) : Prop := (∃ u, e = .returned u ∧ w'.ownsRow w.heap.size 31 3 u (shP s).length (jpC (shP s))) ∧ Below w.heap.size w w'
theorem shP_small (s : ByteArray) : (shP s).length ≤ 10400 := by
  unfold shP
  cases h : progOf s with
  | none => simp
  | some ps =>
    have h1 := shAll_len ps (prog_facts h).2.1
    have h2 : ps.length ≤ 26 := by
      have := namesT_len s
      unfold namesT at this
      rw [h] at this
      simpa [namesOf] using this
    have h3 : ps.length * 400 ≤ 26 * 400 := Nat.mul_le_mul_right _ h2
    show (shAll ps).length ≤ 10400
    omega
theorem prog_26 {s : ByteArray} {ps : List Pr} (h : progOf s = some ps) : ps.length ≤ 26 := by
  have := namesT_len s
  unfold namesT at this
  rw [h] at this
  simpa [namesOf] using this

set_option maxHeartbeats 2000000 in
set_option maxRecDepth 100000 in
theorem spec_shadows (s : ByteArray) (w : World) (hs : s.size ≤ 1048576) : Calls Tryz.prog 7 #[.string s] w (ShTo s w) := by
  have HR := Lib.hid (fun w => (open_prog s w (by omega)).mono fun _ _ h => h.cases)
  unfold ShTo
  have hA := (Below.refl w.heap.size w).alloc (Nat.le_refl _) (Obj.cells #[] 31)
  have HA := Lib.hid hA
  have HR0 := Lib.hid (sh_row0 w)
  cases hp : progOf s with
  | none =>
    have HZ := Lib.hid (by rw [shP, hp] : shP s = [])
    rw [HZ.out]
    rw [hp] at HR
    clear hp
    go_enter Tryz.func7, Tryz.ntmps7
    go_wp2_with fail
    refine (HR.out _).mono ?_
    rintro e w2 ⟨a, n, c, qs, rfl, hb, hnl, ho, _⟩
    have HB := Lib.hid (HA.out.trans (hb.mono HA.out.size))
    have HR2 := Lib.hid (ownsRow_of HR0.out fun g hg => hb.block g (heap_lt (row_block HR0.out hg).2.choose_spec) : w2.ownsRow w.heap.size 31 3 (.slice (some ⟨w.heap.size, 0, none⟩) 0 0) 0 (jpC []))
    rw [← hnl] at ho
    have HO := Lib.hid ho
    have HN := Lib.hid hnl
    clear hb ho hnl hA
    have hn63 := row_max HO.out
    rw [HN.out] at hn63
    go_wp2_with fail
    go_loopw [3, 16] (fun o i wr => ∃ k : Nat, i = .int .i64 k ∧ k ≤ n ∧ o = .slice (some ⟨w.heap.size, 0, none⟩) 0 0 ∧ Hid (Below w2.heap.size w2 wr)) (fun _ i _ => n - (intOf i).toNat)
    case atStart => exact ⟨0, by go_num, Nat.zero_le _, rfl, Below.refl _ _⟩
    case round =>
      obtain ⟨k, rfl, hk, rfl, hb⟩ := hrel
      by_cases hlt : k < n
      · have hkp : k < qs.length := by rw [HN.out]; exact hlt
        obtain ⟨g, rfl, c0, c1⟩ := pr_get HO.out k hkp
        have hgl : g < w2.heap.size := World.block_lt_of_cell? w2 _ c0
        have d0 : wr.cell? ⟨g, k * 2, none⟩ = some (.int .u8 qs[k].1.toNat) := by rw [hb.out.cell (p := ⟨g, k * 2, none⟩) hgl]; exact c0
        have d1 : wr.cell? ⟨g, k * 2 + 1, none⟩ = some (.string (txtOf (txts qs[k].2))) := by rw [hb.out.cell (p := ⟨g, k * 2 + 1, none⟩) hgl]; exact c1
        clear c0 c1 hgl
        generalize txtOf (txts qs[k].2) = tx at *
        go_wp2_with fail
        go_roundw
        case rel => exact ⟨k + 1, by go_num, by omega, rfl, hb.out.alloc hb.out.size _⟩
        case measure => simp [intOf]; omega
      · go_wp2_with fail
        go_ret
        exact ⟨⟨_, rfl, ownsRow_of HR2.out fun g hg => hb.out.block g (heap_lt (row_block HR2.out hg).2.choose_spec)⟩, HB.out.trans (hb.out.mono HB.out.size)⟩
  | some ps =>
    have hf := prog_facts hp
    have h26 := prog_26 hp
    have HZ := Lib.hid (by rw [shP, hp] : shP s = shAll ps)
    rw [HZ.out]
    rw [hp] at HR
    clear hp
    go_enter Tryz.func7, Tryz.ntmps7
    go_wp2_with fail
    refine (HR.out _).mono ?_
    rintro e w2 ⟨a, n, c, qs, rfl, hb, hnl, ho, hq⟩
    have hqp := hq ps rfl
    subst hqp
    have hln : n ≤ 26 := by rw [← hnl]; exact h26
    have HB := Lib.hid (HA.out.trans (hb.mono HA.out.size))
    have HR2 := Lib.hid (ownsRow_of HR0.out fun g hg => hb.block g (heap_lt (row_block HR0.out hg).2.choose_spec) : w2.ownsRow w.heap.size 31 3 (.slice (some ⟨w.heap.size, 0, none⟩) 0 0) 0 (jpC []))
    have HN := Lib.hid hnl
    rw [← hnl] at ho
    have HO := Lib.hid ho
    have HG := Lib.hid hf.2.1
    clear ho hb hf hq hnl h26 hA
    go_wp2_with fail
    go_loopw [3, 16] (fun o i wr => ∃ k : Nat, i = .int .i64 k ∧ k ≤ n ∧ Hid (wr.ownsRow w.heap.size 31 3 o (shAll (qs.take k)).length (jpC (shAll (qs.take k)))) ∧ Hid (KpT ShT w.heap.size w2 wr) ∧ Hid (Below w.heap.size w wr)) (fun _ i _ => n - (intOf i).toNat)
    case atStart => exact ⟨0, by go_num, Nat.zero_le _, HR2.out, KpT.refl _ _ _, HB.out⟩
    case round =>
      obtain ⟨k, rfl, hk, hR, hb, hbw⟩ := hrel
      by_cases hlt : k < n
      · have hkp : k < qs.length := by rw [HN.out]; exact hlt
        obtain ⟨g, rfl, d0, d1⟩ := pr_get (hb.out.row HO.out (by rintro (h | h) <;> exact absurd h (by decide))) k hkp
        have hq := HG.out qs[k] (List.getElem_mem hkp)
        have HPl := Lib.hid (fun w => places_of qs[k] hq w)
        rw [show txtOf [qs[k].1] = ⟨#[qs[k].1]⟩ from rfl] at HPl
        have HT := Lib.hid (by rw [List.take_succ_eq_append_getElem hkp, shAll_snoc] : shAll (qs.take (k + 1)) = shAll (qs.take k) ++ shOf qs[k])
        have hl1 := shOf_len hq
        have hl2 := shAll_len (qs.take k) fun p hp => HG.out p (List.mem_of_mem_take hp)
        rw [List.length_take] at hl2
        have hl3 : (shAll (qs.take k)).length ≤ 10400 := by
          have : min k qs.length * 400 ≤ 26 * 400 := Nat.mul_le_mul_right _ (by omega)
          omega
        have e2 := fun o : Obj => chr1 qs[k].1 (wr.alloc o) (wr.heap.size + 1) (by rw [alloc_size'])
        clear hq hl2
        generalize hso : shOf qs[k] = so at *
        generalize htx : txtOf (txts qs[k].2) = tx at *
        generalize hch : qs[k].1 = ch at *
        clear hso htx hch
        have hA1 := (Below.refl wr.heap.size wr).alloc (Nat.le_refl _) (Obj.cells #[.int .u8 ch.toNat, .string tx] 53)
        have hA2 := hA1.alloc hA1.size (Obj.cells #[.int .u8 ch.toNat] 5)
        have HA2 := Lib.hid hA2
        clear hA1 hA2
        go_wp2_with fail
        refine (HPl.out _).mono ?_
        rintro e w3 ⟨⟨u, rfl, hu⟩, hb3⟩
        have hr3 : w3.ownsRow w.heap.size 31 3 _ (shAll (qs.take k)).length (jpC (shAll (qs.take k))) := ownsRow_of hR.out fun g hg => by
          obtain ⟨_, cur, hc⟩ := row_block hR.out hg
          rw [hb3.block g (Nat.lt_of_lt_of_le (heap_lt hc) HA2.out.size), HA2.out.block g (heap_lt hc)]
        have hb23 := HA2.out.trans (hb3.mono HA2.out.size)
        have hbw3 := hbw.out.trans (hb23.mono hbw.out.size)
        have hb03 := hb.out.trans (.of hb23 hbw.out.size)
        obtain ⟨v', w4, hrun, hrow4, hg4⟩ := sh_rows w3 w.heap.size _ _ _ _ _ hr3 hu (by omega) hbw3.size
        rw [← HT.out] at hrow4
        have HRun := Lib.hid hrun
        have HR4 := Lib.hid hrow4
        have HB4 := Lib.hid (hbw3.grown hg4 hbw3.size (fun k hk => (row_block hr3 hk).1))
        have HK4 := Lib.hid (hb03.grown hr3 (.inl rfl) (Nat.le_refl _) hbw3.size hg4)
        clear hrun hrow4 hg4 hr3 hu hb3 hb23 hbw3 hb03
        go_wp2_with (at_builtin; refine Lib.wpList_append_run _ rfl _ _ 25 25 rfl _ _ rfl rfl _ _ HRun.out ?_)
        go_roundw
        case rel => exact ⟨k + 1, by go_num, by omega, HR4.out, HK4.out, HB4.out⟩
        case measure => simp [intOf]; omega
      · have hall : qs.take k = qs := List.take_of_length_le (by rw [HN.out]; omega)
        rw [hall] at hR
        go_wp2_with fail
        go_ret
        exact ⟨⟨_, rfl, hR.out⟩, hbw.out⟩

set_option maxHeartbeats 1000000 in
set_option maxRecDepth 100000 in
theorem impl_shadows (s : ByteArray) (w : World) (hs : s.size ≤ 1073741824) (hm : MaxCell w) : Calls Tryz.prog 6 #[.string s] w (ShTo s w) := by
  have HR := Lib.hid ((read_prog s w hs hm).mono fun _ _ h => h.cases)
  clear hm
  unfold ShTo
  cases hp : progOf s with
  | none =>
    have HZ := Lib.hid (by rw [shP, hp] : shP s = [])
    rw [HZ.out]
    rw [hp] at HR
    clear hp
    go_enter Tryz.func6, Tryz.ntmps6
    go_wp2_with fail
    refine HR.out.mono ?_
    rintro e w2 ⟨a, n, c, rfl, hb, _⟩
    have HB := Lib.hid hb
    clear hb
    go_wp2_with fail
    go_ret
    exact ⟨⟨_, rfl, World.ownsRow_nil _ _ _ _⟩, HB.out⟩
  | some ps =>
    have h26 := prog_26 hp
    have HZ := Lib.hid (by rw [shP, hp] : shP s = shAll ps)
    rw [HZ.out]
    rw [hp] at HR
    clear hp
    go_enter Tryz.func6, Tryz.ntmps6
    go_wp2_with fail
    refine HR.out.mono ?_
    rintro e w2 ⟨a, n, c, rfl, hb, hq⟩
    obtain ⟨S, qs, hqp, hIP, hG⟩ := hq ps rfl
    have hnq : qs.length = n := by
      obtain ⟨a', c', h⟩ := hIP.form
      injection h with _ h _
      exact h.symm
    have HS := Lib.hid (prog_shadows hIP hnq (by rw [← hnq, ← List.length_map (f := fun q : Qr => q.1), hqp]; exact h26) hG)
    rw [hqp] at HS
    have HB := Lib.hid hb
    clear hb hq hqp hIP hG h26
    go_wp2_with fail
    refine HS.out.mono ?_
    rintro e w3 ⟨⟨u, rfl, hu⟩, hb3⟩
    have HU := Lib.hid hu
    have HB3 := Lib.hid (HB.out.trans (hb3.mono HB.out.size))
    have hsz := HB.out.size
    clear hb3 hu
    go_wp2_with fail
    go_ret
    exact ⟨⟨u, rfl, ownsRow_base HU.out (fun g hg => Nat.le_trans hsz (row_block HU.out hg).1)⟩, HB3.out⟩
theorem sh_form {s : ByteArray} {w : World} {e : Ending} {w' : World} (h : ShTo s w e w') : (∃ (a : Option Addr) (c : Nat), e = .returned (.slice a (shP s).length c) ∧ w'.ownsRow w.heap.size 31 3 (.slice a (shP s).length c) (shP s).length (jpC (shP s))) ∧ Below w.heap.size w w' := by
  obtain ⟨⟨u, rfl, hu⟩, hb⟩ := h
  refine ⟨?_, hb⟩
  have hu2 := hu
  rcases hu.2 with ⟨h1, h2⟩ | ⟨g, cap, cur, h1, _⟩
  · subst h1
    rw [h2] at hu2 ⊢
    exact ⟨none, 0, rfl, hu2⟩
  · subst h1
    exact ⟨_, cap, rfl, hu2⟩
theorem impl_sh2 (s : ByteArray) (w : World) (hs : s.size ≤ 1073741824) (hm : MaxCell w) : Calls Tryz.prog 6 #[.string s] w fun e w' => (∃ (a : Option Addr) (c : Nat), e = .returned (.slice a (shP s).length c) ∧ w'.ownsRow w.heap.size 31 3 (.slice a (shP s).length c) (shP s).length (jpC (shP s))) ∧ Below w.heap.size w w' :=
  (impl_shadows s w hs hm).mono fun _ _ h => sh_form h
theorem spec_sh2 (s : ByteArray) (w : World) (hs : s.size ≤ 1048576) : Calls Tryz.prog 7 #[.string s] w fun e w' => (∃ (a : Option Addr) (c : Nat), e = .returned (.slice a (shP s).length c) ∧ w'.ownsRow w.heap.size 31 3 (.slice a (shP s).length c) (shP s).length (jpC (shP s))) ∧ Below w.heap.size w w' :=
  (spec_shadows s w hs).mono fun _ _ h => sh_form h

end Go.Proofs.YtihjkkoaccmefaaGreatDoor
