/- eachStatement: what a visitor does to the variable that it has caught, at each statement in the order of the text. Condition: at most 2^20 statements. -/
import Derived.Test.YtfmmpahbjkiomaaGreatDoorSets
import Derived.Test.YtfmmpahbjkiomaaGreatDoorBut
import Derived.Test.YtfmmpahbjkiomaaGreatDoorRead
namespace Go.Proofs.YtfmmpahbjkiomaaGreatDoor
open Go.RowKit Gram

mutual
/-- a statement and those within it, in the order of the text -/
def _root_.Go.Proofs.YtfmmpahbjkiomaaGreatDoor.Gram.Stm.flat : Stm → List Stm
  | .cho a b => .cho a b :: (flats a ++ flats b)
  | .chg g d => [.chg g d]
  | .prt => [.prt]
  | .pro => [.pro]
  | .call c => [.call c]
def flats : List Stm → List Stm
  | [] => []
  | x :: xs => x.flat ++ flats xs
end
theorem flats_append (a b : List Stm) : flats (a ++ b) = flats a ++ flats b := by
  induction a with
  | nil => simp [flats]
  | cons x t ih => simp [flats, ih]
theorem flats_cons (x : Stm) (t : List Stm) : flats (x :: t) = x.flat ++ flats t := by simp [flats]
theorem flat_pos (x : Stm) : 0 < x.flat.length := by cases x <;> simp [Stm.flat]
theorem flats_ge (xs : List Stm) : xs.length ≤ (flats xs).length := by
  induction xs with
  | nil => simp
  | cons x t ih => have := flat_pos x; simp [flats]; omega
theorem flats_cut (xs : List Stm) (k : Nat) (x : Stm) (hx : xs[k]? = some x) : flats xs = flats (xs.take k) ++ (x.flat ++ flats (xs.drop (k + 1))) ∧ flats (xs.take (k + 1)) = flats (xs.take k) ++ x.flat := by
  obtain ⟨hk, rfl⟩ := List.getElem?_eq_some_iff.1 hx
  constructor
  · rw [← flats_cons, List.getElem_cons_drop, ← flats_append, List.take_append_drop]
  · rw [List.take_succ_eq_append_getElem hk, flats_append]; simp [flats]

def okAll (ok : Nat → Stm → Prop) (step : Nat → Stm → Nat) : Nat → List Stm → Prop
  | _, [] => True
  | a, x :: l => ok a x ∧ okAll ok step (step a x) l
theorem okAll_append (ok : Nat → Stm → Prop) (step : Nat → Stm → Nat) (l m : List Stm) : ∀ a, okAll ok step a (l ++ m) ↔ okAll ok step a l ∧ okAll ok step (l.foldl step a) m := by
  induction l with
  | nil => intro a; simp [okAll]
  | cons x t ih => intro a; simp only [List.cons_append, okAll, ih, List.foldl_cons]; exact and_assoc.symm

theorem ta_chg (pv : Value) (w : World) : (Instr.typeAssert (.iface 196 pv) 103 148 true).run Tryz.prog w = .ok (.tuple #[.agg #[.slice none 0 0, .slice none 0 0], .bool false]) w := by kernel_rfl
theorem ta_prt (pv : Value) (w : World) : (Instr.typeAssert (.iface 209 pv) 103 148 true).run Tryz.prog w = .ok (.tuple #[.agg #[.slice none 0 0, .slice none 0 0], .bool false]) w := by kernel_rfl
theorem ta_call (pv : Value) (w : World) : (Instr.typeAssert (.iface 114 pv) 103 148 true).run Tryz.prog w = .ok (.tuple #[.agg #[.slice none 0 0, .slice none 0 0], .bool false]) w := by kernel_rfl
theorem ta_pro (pv : Value) (w : World) : (Instr.typeAssert (.iface 219 pv) 103 148 true).run Tryz.prog w = .ok (.tuple #[.agg #[.slice none 0 0, .slice none 0 0], .bool false]) w := by kernel_rfl
theorem ta_cho (pv : Value) (w : World) : (Instr.typeAssert (.iface 148 pv) 103 148 true).run Tryz.prog w = .ok (.tuple #[pv, .bool true]) w := by kernel_rfl

section
variable (f : FuncId) (T : TypeId) (enc : Nat → Value) (step : Nat → Stm → Nat) (ok : Nat → Stm → Prop)
/-- what a visitor does -/
def Visits : Prop := ∀ (w : World) (S : Nat → Prop) (c a : Nat) (x : Stm) (ty : TypeId) (pv : Value), ok a x → IsStm w S x (.iface ty pv) → w.heap[c]? = some (.cells #[enc a] T (0, 0)) →
  Calls Tryz.prog f #[.iface ty pv, .pointer (some ⟨c, 0, none⟩)] w fun e w' => e = .returned (.tuple #[]) ∧ w'.heap[c]? = some (.cells #[enc (step a x)] T (0, 0)) ∧ But c w w'

def SaidEach (n : Nat) : Prop := ∀ (xs : List Stm) (w : World) (S : Nat → Prop) (v : Value) (c a : Nat), (flats xs).length ≤ n → n ≤ 1048576 → (∀ k, S k → k < w.heap.size ∧ k ≠ c) → IsBody w S xs v →
  w.heap[c]? = some (.cells #[enc a] T (0, 0)) → okAll ok step a (flats xs) →
  Calls Tryz.prog 68 #[v, .func (.func f) #[] #[.pointer (some ⟨c, 0, none⟩)]] w fun e w' => e = .returned (.tuple #[]) ∧ w'.heap[c]? = some (.cells #[enc ((flats xs).foldl step a)] T (0, 0)) ∧ But c w w'

theorem stms_get {w : World} {S : Nat → Prop} : ∀ (xs : List Stm) (vs : List Value), IsStms w S xs vs → ∀ k, k < xs.length → ∃ x v, xs[k]? = some x ∧ vs[k]? = some v ∧ IsStm w S x v
  | [], _, _, k, hk => by simp at hk
  | x :: xs, vs, h, k, hk => by
    simp only [IsStms] at h
    obtain ⟨v, t, rfl, h1, h2⟩ := h
    cases k with
    | zero => exact ⟨x, v, rfl, rfl, h1⟩
    | succ k =>
      obtain ⟨y, u, a, b, c⟩ := stms_get xs t h2 k (by simpa using hk)
      exact ⟨y, u, by simpa using a, by simpa using b, c⟩

set_option maxHeartbeats 2000000 in
set_option maxRecDepth 100000 in
theorem each_loop (hE : ∀ (args : Array Value) (w : World), (callFunc f args).run Tryz.prog w = .ok (.enter f args) w) (hv : Visits f T enc step ok) (n : Nat) (h : ∀ m, m < n → SaidEach f T enc step ok m) (xs : List Stm) (w : World) (S : Nat → Prop) (ad : Option Addr) (ln cp : Nat) (c a : Nat) (vs : List Value) (hx : (flats xs).length ≤ n) (hn : n ≤ 1048576)
    (hS : ∀ k, S k → k < w.heap.size ∧ k ≠ c) (hr : Row w S (.slice ad ln cp) vs) (hs : IsStms w S xs vs) (hln : ln = xs.length) (hc : w.heap[c]? = some (.cells #[enc a] T (0, 0))) (ho : okAll ok step a (flats xs)) :
    Calls Tryz.prog 68 #[.slice ad ln cp, .func (.func f) #[] #[.pointer (some ⟨c, 0, none⟩)]] w fun e w' => e = .returned (.tuple #[]) ∧ w'.heap[c]? = some (.cells #[enc ((flats xs).foldl step a)] T (0, 0)) ∧ But c w w' := by
  have hle := flats_ge xs
  have hlb : ln ≤ 1048576 := by omega
  have H := Lib.hid h
  have HV := Lib.hid hv
  have HR := Lib.hid hr
  have HS := Lib.hid hs
  have HL := Lib.hid hln
  have HSS := Lib.hid hS
  have HC := Lib.hid hc
  have HO := Lib.hid ho
  have HX := Lib.hid hx
  clear h hv hr hs hS hln hc ho hx hle
  go_enter Tryz.func68, Tryz.ntmps68
  go_wp2_with fail
  go_loopw [10] (fun i wr => ∃ k : Nat, k ≤ ln ∧ i = .int .i64 k ∧ Hid (wr.heap[c]? = some (.cells #[enc ((flats (xs.take k)).foldl step a)] T (0, 0))) ∧ Hid (But c w wr)) (fun i _ => ln - (intOf i).toNat)
  case atStart =>
    exact ⟨0, Nat.zero_le _, by go_num, HC.out, But.refl _ _⟩
  case round =>
    obtain ⟨k, hk, rfl, hI, hb⟩ := hrel
    by_cases hlt : k < ln
    · obtain ⟨x, v, hxk, hvk, hst⟩ := stms_get xs vs HS.out k (by rw [← HL.out]; exact hlt)
      obtain ⟨g, hga, hc1⟩ : ∃ g, ad = some ⟨g, 0, none⟩ ∧ wr.cell? ⟨g, k, none⟩ = some v := by
        rcases HR.out.1.2 with ⟨h1, h2⟩ | ⟨g, cap, cur, h1, _, _⟩
        · injection h1 with h3 h4; omega
        · injection h1 with h3 h4 h5
          subst h3; subst h4; subst h5
          have hg := HSS.out g (HR.out.2 g rfl)
          have := row_cell HR.out.1 k v hvk
          exact ⟨g, rfl, by rw [← this]; exact World.cell?_of_block (a := ⟨g, k, none⟩) (hb.out.block g hg.1 hg.2)⟩
      subst hga
      have hkeep : ∀ j, S j → wr.heap[j]? = w.heap[j]? := fun j hj => hb.out.block j (HSS.out j hj).1 (HSS.out j hj).2
      have hst2 := IsStm.kept hkeep (fun _ h => h) _ _ hst
      obtain ⟨ty, pv, rfl⟩ := hst2.iface
      obtain ⟨hf1, hf2⟩ := flats_cut xs k x hxk
      have ho2 := HO.out
      rw [hf1, okAll_append, okAll_append] at ho2
      have hx2 := HX.out
      rw [hf1] at hx2
      simp only [List.length_append] at hx2
      have HF2 := Lib.hid hf2
      have HOK := Lib.hid ho2.2.1
      clear hf1 hf2 ho2 hst hkeep hxk hvk
      have HB0 := Lib.hid hb
      generalize hacc : (flats (xs.take k)).foldl step a = acc at *
      have HA := Lib.hid hacc
      clear hacc
      cases x with
      | pro =>
        have HC2 := Lib.hid (HV.out wr S c acc _ ty pv HOK.out.1 hst2 hI.out)
        simp only [IsStm] at hst2
        injection hst2 with h1 h2; subst h1; subst h2
        go_wp2_with fail
        refine HC2.out.mono ?_
        rintro e w2 ⟨rfl, hc2, hb2⟩
        have HH := Lib.hid hc2
        have HB2 := Lib.hid hb2
        clear hc2 hb2
        have hta := ta_pro
        go_wp2_with fail
        go_roundw
        case rel =>
          refine ⟨k + 1, by omega, by go_num, ?_, (hb.out.trans HB2.out).trans (But.of_below ((Below.refl _ _).alloc (Nat.le_refl _) _))⟩
          show (World.heap _)[c]? = _
          rw [HF2.out, List.foldl_append, HA.out, Lib.alloc_old _ _ _ (heap_lt HH.out)]
          exact HH.out
        case measure => simp [intOf]; omega
      | chg g' d =>
        have HC2 := Lib.hid (HV.out wr S c acc _ ty pv HOK.out.1 hst2 hI.out)
        simp only [IsStm] at hst2
        injection hst2 with h1 h2; subst h1; subst h2
        go_wp2_with fail
        refine HC2.out.mono ?_
        rintro e w2 ⟨rfl, hc2, hb2⟩
        have HH := Lib.hid hc2
        have HB2 := Lib.hid hb2
        clear hc2 hb2
        have hta := ta_chg
        go_wp2_with fail
        go_roundw
        case rel =>
          refine ⟨k + 1, by omega, by go_num, ?_, (hb.out.trans HB2.out).trans (But.of_below ((Below.refl _ _).alloc (Nat.le_refl _) _))⟩
          show (World.heap _)[c]? = _
          rw [HF2.out, List.foldl_append, HA.out, Lib.alloc_old _ _ _ (heap_lt HH.out)]
          exact HH.out
        case measure => simp [intOf]; omega
      | prt =>
        have HC2 := Lib.hid (HV.out wr S c acc _ ty pv HOK.out.1 hst2 hI.out)
        simp only [IsStm] at hst2
        injection hst2 with h1 h2; subst h1; subst h2
        go_wp2_with fail
        refine HC2.out.mono ?_
        rintro e w2 ⟨rfl, hc2, hb2⟩
        have HH := Lib.hid hc2
        have HB2 := Lib.hid hb2
        clear hc2 hb2
        have hta := ta_prt
        go_wp2_with fail
        go_roundw
        case rel =>
          refine ⟨k + 1, by omega, by go_num, ?_, (hb.out.trans HB2.out).trans (But.of_below ((Below.refl _ _).alloc (Nat.le_refl _) _))⟩
          show (World.heap _)[c]? = _
          rw [HF2.out, List.foldl_append, HA.out, Lib.alloc_old _ _ _ (heap_lt HH.out)]
          exact HH.out
        case measure => simp [intOf]; omega
      | call d =>
        have HC2 := Lib.hid (HV.out wr S c acc _ ty pv HOK.out.1 hst2 hI.out)
        simp only [IsStm] at hst2
        injection hst2 with h1 h2; subst h1; subst h2
        go_wp2_with fail
        refine HC2.out.mono ?_
        rintro e w2 ⟨rfl, hc2, hb2⟩
        have HH := Lib.hid hc2
        have HB2 := Lib.hid hb2
        clear hc2 hb2
        have hta := ta_call
        go_wp2_with fail
        go_roundw
        case rel =>
          refine ⟨k + 1, by omega, by go_num, ?_, (hb.out.trans HB2.out).trans (But.of_below ((Below.refl _ _).alloc (Nat.le_refl _) _))⟩
          show (World.heap _)[c]? = _
          rw [HF2.out, List.foldl_append, HA.out, Lib.alloc_old _ _ _ (heap_lt HH.out)]
          exact HH.out
        case measure => simp [intOf]; omega
      | cho p q =>
        have HC2 := Lib.hid (HV.out wr S c acc _ ty pv HOK.out.1 hst2 hI.out)
        have hst3 := hst2
        simp only [IsStm] at hst2
        obtain ⟨va, vb, vas, vbs, he, r1, s1, r2, s2⟩ := hst2
        injection he with h1 h2; subst h1; subst h2
        obtain ⟨la, l1, lc, rfl⟩ := slice_form r1.1
        obtain ⟨fa, l2, fc, rfl⟩ := slice_form r2.1
        have hS2 : ∀ w', But c wr w' → (∀ k, S k → k < w'.heap.size ∧ k ≠ c) ∧ ∀ k, S k → w'.heap[k]? = wr.heap[k]? := by
          intro w' hb'
          have h1 : ∀ k, S k → k < wr.heap.size := fun k hk => Nat.lt_of_lt_of_le (HSS.out k hk).1 hb.out.size
          exact ⟨fun k hk => ⟨Nat.lt_of_lt_of_le (h1 k hk) hb'.size, (HSS.out k hk).2⟩, fun k hk => hb'.block k (h1 k hk) (HSS.out k hk).2⟩
        have hok2 := HOK.out
        simp only [Stm.flat, okAll, okAll_append] at hok2
        simp only [Stm.flat, List.length_cons, List.length_append] at hx2
        have HP := Lib.hid (fun w' acc' (hb' : But c wr w') hc' ho' => H.out (flats p).length (by omega) p w' S (.slice la l1 lc) c acc' (Nat.le_refl _) (by omega) (hS2 w' hb').1 (IsBody.kept (hS2 w' hb').2 (fun _ h => h) ⟨vas, r1, s1⟩) hc' ho')
        have HQ := Lib.hid (fun w' acc' (hb' : But c wr w') hc' ho' => H.out (flats q).length (by omega) q w' S (.slice fa l2 fc) c acc' (Nat.le_refl _) (by omega) (hS2 w' hb').1 (IsBody.kept (hS2 w' hb').2 (fun _ h => h) ⟨vbs, r2, s2⟩) hc' ho')
        have HOP := Lib.hid hok2.2.1
        have HOQ := Lib.hid hok2.2.2
        clear hok2 hS2 r1 s1 r2 s2 hst3 hx2
        go_wp2_with fail
        refine HC2.out.mono ?_
        rintro e w2 ⟨rfl, hc2, hb2⟩
        have HH := Lib.hid hc2
        have HB2 := Lib.hid hb2
        clear hc2 hb2
        have hta := ta_cho
        go_wp2_with fail
        have hl1 : w2.heap.size + 0 < (w2.alloc (.cells #[.slice la l1 lc, .slice fa l2 fc] 148)).heap.size := by rw [alloc_size']; omega
        have hne : w2.heap.size ≠ c := by have := heap_lt HH.out; omega
        have hal := But.of_below (c := c) ((Below.refl w2.heap.size w2).alloc (Nat.le_refl _) (.cells #[.slice la l1 lc, .slice fa l2 fc] 148))
        have HAL := Lib.hid hal
        have HNE := Lib.hid hne
        clear hal hne hl1
        refine (HP.out _ (step acc (.cho p q)) (HB2.out.trans HAL.out) (by rw [Lib.alloc_old _ _ _ (heap_lt HH.out)]; exact HH.out) HOP.out).mono ?_
        rintro e w3 ⟨rfl, hc3, hb3⟩
        have HH3 := Lib.hid hc3
        have HB3 := Lib.hid hb3
        have hblk : w3.heap[w2.heap.size]? = some (.cells #[.slice la l1 lc, .slice fa l2 fc] 148 (0, 0)) := by
          rw [hb3.block _ (by rw [alloc_size']; omega) HNE.out]; exact heap_alloc_new _ _
        have q1 : w3.cell? ⟨w2.heap.size, 1, none⟩ = some (.slice fa l2 fc) := by rw [Lib.cell_of_heap hblk]; rfl
        clear hc3 hb3 hblk
        go_wp2_with fail
        refine (HQ.out _ _ ((HB2.out.trans HAL.out).trans HB3.out) HH3.out HOQ.out).mono ?_
        rintro e w4 ⟨rfl, hc4, hb4⟩
        have HH4 := Lib.hid hc4
        have HB4 := Lib.hid hb4
        clear hc4 hb4
        go_wp2_with fail
        go_roundw
        case rel =>
          refine ⟨k + 1, by omega, by go_num, ?_, (((hb.out.trans HB2.out).trans HAL.out).trans HB3.out).trans HB4.out⟩
          show (World.heap _)[c]? = _
          rw [HF2.out, List.foldl_append, HA.out, Stm.flat, List.foldl_cons, List.foldl_append]
          exact HH4.out
        case measure => simp [intOf]; omega
    · have hall : xs.take k = xs := List.take_of_length_le (by rw [← HL.out]; omega)
      rw [hall] at hI
      go_wp2_with fail
      go_end0
      exact ⟨rfl, hI.out, hb.out⟩

theorem each_all (hE : ∀ (args : Array Value) (w : World), (callFunc f args).run Tryz.prog w = .ok (.enter f args) w) (hv : Visits f T enc step ok) (n : Nat) : SaidEach f T enc step ok n := by
  induction n using Nat.strongRecOn with
  | _ n ih =>
    intro xs w S v c a hx hn hS hB hc ho
    obtain ⟨vs, hr, hs⟩ := hB
    obtain ⟨ad, ln, cp, rfl⟩ := slice_form hr.1
    have hl := IsStms.len _ _ hs
    refine each_loop f T enc step ok hE hv n ih xs w S ad ln cp c a vs hx hn hS hr hs ?_ hc ho
    rcases hr.1.2 with ⟨h1, h2⟩ | ⟨g, cap, cur, h1, _⟩
    · injection h1 with _ h3; omega
    · injection h1 with _ h3; omega
end
end Go.Proofs.YtfmmpahbjkiomaaGreatDoor
