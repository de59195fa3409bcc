/- eachCut: what a visitor does to the variable that it has caught, at each cut in the order of the text. Condition: cuts of at most 2^20 bytes. -/
import Derived.Test.YtfmbfbbmhnplcaaCr
import Derived.Test.YtfmbfbbmhnplcaaBits
import Derived.Test.YtfmbfbbmhnplcaaBut
import Derived.Deep.RegionWith
namespace Go.Proofs.Ytfmbfbbmhnplcaa
open Go.RowKit Gram

/-- the function that tells a cut's parts -/
def partsFn : Ct → FuncId
  | .prt => 82
  | .lt _ _ => 77
  | .fix _ => 86
  | .opp _ => 73
  | .two _ _ _ => 69
theorem meth_parts (x : Ct) (w : World) : (method 211 x.ty x.arg "loop.example/wovenprograms/impl.parts").run Try.prog w = .ok (partsFn x, x.arg) w := by cases x <;> kernel_rfl
theorem enters_parts (x : Ct) (args : Array Value) (w : World) : (callFunc (partsFn x) args).run Try.prog w = .ok (.enter (partsFn x) args) w := by cases x <;> kernel_rfl

def kids : Ct → List Ct
  | .opp x => [x]
  | .two _ x y => [x, y]
  | _ => []

set_option maxHeartbeats 400000 in
theorem parts_prt (w : World) : Calls Try.prog 82 #[.agg #[]] w fun e w' => e = .returned (.slice none 0 0) ∧ Below w.heap.size w w' := by
  go_enter Try.func82, Try.ntmps82
  go_wp2_with fail
  go_ret
  exact ⟨rfl, (Below.refl _ _).alloc (Nat.le_refl _) _⟩
set_option maxHeartbeats 400000 in
theorem parts_fix (b : Bool) (w : World) : Calls Try.prog 86 #[.agg #[.bool b]] w fun e w' => e = .returned (.slice none 0 0) ∧ Below w.heap.size w w' := by
  go_enter Try.func86, Try.ntmps86
  go_wp2_with fail
  go_ret
  exact ⟨rfl, (Below.refl _ _).alloc (Nat.le_refl _) _⟩
set_option maxHeartbeats 400000 in
theorem parts_lt (g c : UInt8) (w : World) : Calls Try.prog 77 #[.agg #[.int .u8 g.toNat, .int .u8 c.toNat]] w fun e w' => e = .returned (.slice none 0 0) ∧ Below w.heap.size w w' := by
  go_enter Try.func77, Try.ntmps77
  go_wp2_with fail
  go_ret
  exact ⟨rfl, (Below.refl _ _).alloc (Nat.le_refl _) _⟩
set_option maxHeartbeats 400000 in
theorem parts_opp (ty : TypeId) (av : Value) (w : World) : Calls Try.prog 73 #[.agg #[.iface ty av]] w fun e w' => ∃ g, e = .returned (.slice (some ⟨g, 0, none⟩) 1 1) ∧ w'.heap[g]? = some (.cells #[.iface ty av] 29 (0, 0)) ∧ w.heap.size ≤ g ∧ Below w.heap.size w w' := by
  go_enter Try.func73, Try.ntmps73
  go_wp2_with fail
  go_ret
  have h := heap_alloc_new (w.alloc (Obj.cells #[Value.iface ty av] 60)) (Obj.cells #[Value.iface ty av] 29)
  rw [alloc_size'] at h
  exact ⟨_, rfl, h, by omega, ((Below.refl _ w).alloc (Nat.le_refl _) _).alloc (by simp) _⟩
set_option maxHeartbeats 400000 in
theorem parts_two (g : UInt8) (ty : TypeId) (av : Value) (ty2 : TypeId) (av2 : Value) (w : World) : Calls Try.prog 69 #[.agg #[.int .u8 g.toNat, .iface ty av, .iface ty2 av2]] w fun e w' => ∃ g, e = .returned (.slice (some ⟨g, 0, none⟩) 2 2) ∧ w'.heap[g]? = some (.cells #[.iface ty av, .iface ty2 av2] 29 (0, 0)) ∧ w.heap.size ≤ g ∧ Below w.heap.size w w' := by
  go_enter Try.func69, Try.ntmps69
  go_wp2_with fail
  go_ret
  have h := heap_alloc_new (w.alloc (Obj.cells #[.int .u8 g.toNat, Value.iface ty av, Value.iface ty2 av2] 31)) (Obj.cells #[Value.iface ty av, Value.iface ty2 av2] 29)
  rw [alloc_size'] at h
  exact ⟨_, rfl, h, by omega, ((Below.refl _ w).alloc (Nat.le_refl _) _).alloc (by simp) _⟩

/-- what parts hands back -/
def PartsTo (x : Ct) (w : World) (e : Ending) (w' : World) : Prop :=
  ∃ a n, e = .returned (.slice a n n) ∧ n = (kids x).length ∧ (∀ k (h : k < (kids x).length), ∃ g, a = some ⟨g, 0, none⟩ ∧ w.heap.size ≤ g ∧ g < w'.heap.size ∧ w'.cell? ⟨g, k, none⟩ = some ((kids x)[k].val)) ∧ Below w.heap.size w w'
theorem parts_all (x : Ct) (w : World) : Calls Try.prog (partsFn x) #[x.arg] w (PartsTo x w) := by
  have none_ : ∀ e w', kids x = [] → (e = .returned (.slice none 0 0) ∧ Below w.heap.size w w') → PartsTo x w e w' := by
    rintro e w' hk ⟨rfl, hb⟩
    exact ⟨none, 0, rfl, by rw [hk]; rfl, fun k h => by rw [hk] at h; simp at h, hb⟩
  cases x with
  | prt => exact (parts_prt w).mono fun e w' h => none_ e w' rfl h
  | fix b => exact (parts_fix b w).mono fun e w' h => none_ e w' rfl h
  | lt g c => exact (parts_lt g c w).mono fun e w' h => none_ e w' rfl h
  | opp x =>
    refine (parts_opp x.ty x.arg w).mono ?_
    rintro e w' ⟨g, rfl, hc, hg, hb⟩
    refine ⟨_, 1, rfl, rfl, fun k hk => ⟨g, rfl, hg, heap_lt hc, ?_⟩, hb⟩
    have : k = 0 := by simp [kids] at hk; omega
    subst this
    rw [Lib.cell_of_heap hc]; rfl
  | two g0 x y =>
    refine (parts_two g0 x.ty x.arg y.ty y.arg w).mono ?_
    rintro e w' ⟨g, rfl, hc, hg, hb⟩
    refine ⟨_, 2, rfl, rfl, fun k hk => ⟨g, rfl, hg, heap_lt hc, ?_⟩, hb⟩
    have : k = 0 ∨ k = 1 := by simp [kids] at hk; omega
    rcases this with rfl | rfl
    · rw [Lib.cell_of_heap hc]; rfl
    · rw [Lib.cell_of_heap hc]; rfl

theorem flat_kids (x : Ct) : x.flat = x :: (kids x).flatMap Ct.flat := by cases x <;> simp [Ct.flat, kids]
theorem kids_short (x y : Ct) (h : y ∈ kids x) : y.txt.length < x.txt.length := by
  cases x with
  | opp x => simp [kids] at h; subst h; simp [Ct.txt]
  | two g a b =>
    simp [kids] at h
    rcases h with rfl | rfl <;> simp [Ct.txt] <;> omega
  | prt => cases h
  | fix b => cases h
  | lt g c => cases h
theorem kids_len (x : Ct) : (kids x).length ≤ 2 := by cases x <;> simp [kids]

section
variable (f : FuncId) (d c : Nat) (sg : ByteArray) (step : Nat → Ct → Nat) (ok : Nat → Ct → Prop)
/-- what a visitor has caught: a text at block d, a set at block c -/
structure Caught (w : World) (a : Nat) : Prop where
  text : w.heap[d]? = some (.cells #[.string sg] 9 (0, 0))
  set : w.heap[c]? = some (.cells #[.int .u32 a] 44 (0, 0))
/-- what a visitor does -/
def VisitsC : Prop := ∀ (w : World) (a : Nat) (x : Ct), ok a x → Caught d c sg w a →
  Calls Try.prog f #[x.val, .pointer (some ⟨d, 0, none⟩), .pointer (some ⟨c, 0, none⟩)] w fun e w' => e = .returned (.tuple #[]) ∧ Caught d c sg w' (step a x) ∧ But c w w'
def okAllC : Nat → List Ct → Prop
  | _, [] => True
  | a, x :: l => ok a x ∧ okAllC (step a x) l
theorem okAllC_append (l m : List Ct) : ∀ a, okAllC step ok a (l ++ m) ↔ okAllC step ok a l ∧ okAllC step ok (l.foldl step a) m := by
  induction l with
  | nil => intro a; simp [okAllC]
  | cons x t ih => intro a; simp only [List.cons_append, okAllC, ih, List.foldl_cons]; exact and_assoc.symm

def SaidEachC (n : Nat) : Prop := ∀ (x : Ct) (w : World) (a : Nat), x.txt.length ≤ n → okAllC step ok a x.flat → Caught d c sg w a →
  Calls Try.prog 33 #[x.val, .func (.func f) #[] #[.pointer (some ⟨d, 0, none⟩), .pointer (some ⟨c, 0, none⟩)]] w fun e w' => e = .returned (.tuple #[]) ∧ Caught d c sg w' (x.flat.foldl step a) ∧ But c w w'

set_option maxHeartbeats 2000000 in
set_option maxRecDepth 100000 in
theorem each_cut (hE : ∀ (args : Array Value) (w : World), (callFunc f args).run Try.prog w = .ok (.enter f args) w) (hv : VisitsC f d c sg step ok) (n : Nat) (h : ∀ m, m < n → SaidEachC f d c sg step ok m) : SaidEachC f d c sg step ok n := by
  intro x w a hx ho hc
  have HV := Lib.hid hv
  have H := Lib.hid h
  rw [flat_kids] at ho ⊢
  simp only [okAllC] at ho
  have HF := Lib.hid (hv w a x ho.1 hc)
  have HO := Lib.hid ho.2
  have HP := Lib.hid (parts_all x)
  have hm := meth_parts x
  have he := enters_parts x
  have hkl := kids_len x
  have HK := Lib.hid (fun y hy => kids_short x y hy)
  simp only [List.foldl_cons]
  clear hv h ho hc
  unfold Ct.val
  unfold Ct.val at HF
  generalize step a x = a1 at *
  generalize hks : kids x = ks at *
  have HKS := Lib.hid hks
  clear hks
  unfold PartsTo at HP
  rw [HKS.out] at HP
  have HX := Lib.hid hx
  clear hx HKS
  generalize partsFn x = fx at *
  generalize x.arg = ax at *
  go_enter Try.func33, Try.ntmps33
  go_wp2_with fail
  refine HF.out.mono ?_
  rintro e w2 ⟨rfl, hc2, hb2⟩
  have HC2 := Lib.hid hc2
  have HB2 := Lib.hid hb2
  clear hc2 hb2
  go_wp2_with fail
  refine (HP.out _).mono ?_
  rintro e w3 ⟨ad, ln, rfl, hln, hkid, hb3⟩
  have HKid := Lib.hid hkid
  have HB3 := Lib.hid (hb3.mono (Nat.le_refl _) : Below w2.heap.size w2 w3)
  clear hb3 hkid
  have hln2 : ln ≤ 2 := by omega
  have HLn := Lib.hid hln
  clear hln
  have HC3 := Lib.hid (show Caught d c sg w3 a1 from ⟨by rw [HB3.out.block _ (heap_lt HC2.out.text)]; exact HC2.out.text, by rw [HB3.out.block _ (heap_lt HC2.out.set)]; exact HC2.out.set⟩)
  go_wp2_with fail
  go_loopw [12] (fun i wr => ∃ k : Nat, k ≤ ln ∧ i = .int .i64 k ∧ Hid (Caught d c sg wr (((ks.take k).flatMap Ct.flat).foldl step a1)) ∧ Hid (But c w3 wr)) (fun i _ => ln - (intOf i).toNat)
  case atStart => exact ⟨0, Nat.zero_le _, by go_num, HC3.out, But.refl _ _⟩
  case round =>
    obtain ⟨k, hk, rfl, hI, hb⟩ := hrel
    by_cases hlt : k < ln
    · have hk2 : k < ks.length := by rw [← HLn.out]; exact hlt
      obtain ⟨g, rfl, hg1, hg2, hcell⟩ := HKid.out k hk2
      have hne : g ≠ c := by have := heap_lt HC2.out.set; omega
      have q1 : wr.cell? ⟨g, k, none⟩ = some (ks[k].val) := by
        rw [World.cell?_of_block (a := ⟨g, k, none⟩) (hb.out.block g hg2 hne)]; exact hcell
      have hsplit : ks.flatMap Ct.flat = (ks.take k).flatMap Ct.flat ++ (ks[k].flat ++ (ks.drop (k + 1)).flatMap Ct.flat) := by
        have h1 : ks = ks.take k ++ (ks[k] :: ks.drop (k + 1)) := by
          rw [List.getElem_cons_drop, List.take_append_drop]
        conv => lhs; rw [h1]
        rw [List.flatMap_append, List.flatMap_cons]
      have ho := HO.out
      rw [hsplit, okAllC_append, okAllC_append] at ho
      have HR := Lib.hid (H.out ks[k].txt.length (by have := HK.out _ (List.getElem_mem hk2); have := HX.out; omega) ks[k] wr _ (Nat.le_refl _) ho.2.1 hI.out)
      have HN := Lib.hid (show (ks.take (k + 1)).flatMap Ct.flat = (ks.take k).flatMap Ct.flat ++ ks[k].flat by
        rw [List.take_succ_eq_append_getElem hk2, List.flatMap_append]; simp)
      clear hcell hsplit ho hg1 hg2 hne
      unfold Ct.val at q1 HR
      generalize ks[k] = y at *
      generalize y.arg = ay at *
      go_wp2_with fail
      refine HR.out.mono ?_
      rintro e w4 ⟨rfl, hc4, hb4⟩
      have HC4 := Lib.hid hc4
      have HB4 := Lib.hid hb4
      clear hc4 hb4
      go_wp2_with fail
      go_roundw
      case rel => exact ⟨k + 1, by omega, by go_num, by rw [HN.out, List.foldl_append]; exact HC4.out, hb.out.trans HB4.out⟩
      case measure => simp [intOf]; omega
    · have hall : ks.take k = ks := List.take_of_length_le (by rw [← HLn.out]; omega)
      rw [hall] at hI
      go_wp2_with fail
      go_end0
      exact ⟨rfl, hI.out, (HB2.out.trans (But.of_below HB3.out)).trans hb.out⟩

theorem each_cut_all (hE : ∀ (args : Array Value) (w : World), (callFunc f args).run Try.prog w = .ok (.enter f args) w) (hv : VisitsC f d c sg step ok) (n : Nat) : SaidEachC f d c sg step ok n := by
  induction n using Nat.strongRecOn with
  | _ n ih => exact each_cut f d c sg step ok hE hv n ih
end
end Go.Proofs.Ytfmbfbbmhnplcaa
