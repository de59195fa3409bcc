/- The words of the program's cuts. Condition: cuts of at most 2^20 bytes. -/
import Derived.Test.YthenpjcijmfgjaaRRRCr
import Derived.Deep.RegionHeld3
import Derived.Deep.RegionWith
namespace Go.Proofs.YthenpjcijmfgjaaRRR
open Go.RowKit Gram

/-- the function that tells a cut's words -/
def wordsFn : Ct → FuncId
  | .prt => 82
  | .lt _ _ => 78
  | .fix _ => 85
  | .opp _ => 88
  | .two _ _ _ => 91

theorem meth_words (x : Ct) (w : World) : (method 208 x.ty x.arg "loop.example/wovenprograms/impl.words").run Try.prog w = .ok (wordsFn x, x.arg) w := by cases x <;> kernel_rfl

theorem enters_words (x : Ct) (args : Array Value) (w : World) : (callFunc (wordsFn x) args).run Try.prog w = .ok (.enter (wordsFn x) args) w := by cases x <;> kernel_rfl

def wordsT (x : Ct) : ByteArray := txtOf x.words

set_option maxHeartbeats 400000 in
theorem words_prt (w : World) : Calls Try.prog 82 #[.agg #[]] w fun e w' => e = .returned (.string (wordsT .prt)) ∧ Below w.heap.size w w' := by
  go_enter Try.func82, Try.ntmps82
  go_wp2_with fail
  go_ret
  exact ⟨rfl, (Below.refl _ _).alloc (Nat.le_refl _) _⟩
set_option maxHeartbeats 400000 in
theorem words_fix (b : Bool) (w : World) : Calls Try.prog 85 #[.agg #[.bool b]] w fun e w' => e = .returned (.string (wordsT (.fix b))) ∧ Below w.heap.size w w' := by
  cases b
  all_goals
    go_enter Try.func85, Try.ntmps85
    go_wp2_with fail
    go_ret
    exact ⟨rfl, (Below.refl _ _).alloc (Nat.le_refl _) _⟩
theorem enc1 (c : UInt8) (h : c.toNat < 128) : Utf8.encode (c.toNat : Int) = ⟨#[c]⟩ := by
  unfold Utf8.encode
  have hv : Utf8.valid (c.toNat : Int) = true := by simp [Utf8.valid]; omega
  simp only [hv, if_true, Int.toNat_natCast, h]
  simp
theorem str1 (c : UInt8) (h : c.toNat < 128) (w : World) : (convert 21 9 (.int .i32 (c.toNat : Int))).run Try.prog w = .ok (.string ⟨#[c]⟩) w := by
  rw [run_convert_int_string w _ _ _ _ (by rw [Try.underlying21]; rfl) Try.underlying9, enc1 c h]

set_option maxHeartbeats 400000 in
set_option maxRecDepth 100000 in
theorem words_lt (g c : UInt8) (hg : g = 67 ∨ g = 87 ∨ g = 70) (hc : isLet c = true) (w : World) : Calls Try.prog 78 #[.agg #[.int .u8 g.toNat, .int .u8 c.toNat]] w fun e w' => e = .returned (.string (wordsT (.lt g c))) ∧ Below w.heap.size w w' := by
  have hu : c.toNat < 128 := by rw [isLet_int] at hc; simp at hc; omega
  have hcv := str1 c hu
  have e1 := str_sum ⟨#[99, 97, 108, 108, 32]⟩ ⟨#[c]⟩ (by show 5 + 1 ≤ 9223372036854775807; decide)
  have e2 := str_sum ⟨#[119, 105, 116, 104, 105, 110, 32]⟩ ⟨#[c]⟩ (by show 7 + 1 ≤ 9223372036854775807; decide)
  have e3 := str_sum ⟨#[97, 99, 116, 105, 118, 101, 32]⟩ ⟨#[c]⟩ (by show 7 + 1 ≤ 9223372036854775807; decide)
  clear hc
  rcases hg with rfl | rfl | rfl
  all_goals
    go_enter Try.func78, Try.ntmps78
    go_wp2_with fail
    go_ret
    exact ⟨rfl, (Below.refl _ _).alloc (Nat.le_refl _) _⟩

theorem lit_size (l : List UInt8) : (txtOf l).size = l.length := rfl

set_option maxHeartbeats 400000 in
theorem words_opp (x : Ct) (w : World) (hl : x.words.length ≤ 1048576) (h : ∀ w, Calls Try.prog (wordsFn x) #[x.arg] w fun e w' => e = .returned (.string (wordsT x)) ∧ Below w.heap.size w w') :
    Calls Try.prog 88 #[.agg #[x.val]] w fun e w' => e = .returned (.string (wordsT (.opp x))) ∧ Below w.heap.size w w' := by
  have H := Lib.hid h
  have hm := meth_words x
  have he := enters_words x
  have HT := Lib.hid (show wordsT (.opp x) = ⟨#[110, 111, 116, 32]⟩ ++ wordsT x by
    apply ByteArray.ext; apply Array.ext'; simp [wordsT, txtOf, Ct.words])
  have e1 := str_sum ⟨#[110, 111, 116, 32]⟩ (wordsT x) (by rw [wordsT, lit_size, show (⟨#[110, 111, 116, 32]⟩ : ByteArray).size = 4 from rfl]; omega)
  unfold Ct.val
  generalize wordsFn x = fx at *
  generalize x.arg = ax at *
  generalize wordsT x = tx at *
  clear h
  go_enter Try.func88, Try.ntmps88
  go_wp2_with fail
  refine (H.out _).mono ?_
  rintro e w2 ⟨rfl, hb2⟩
  have HB := Lib.hid (((Below.refl _ w).alloc (Nat.le_refl _) _).trans (hb2.mono (by simp)))
  clear hb2
  go_wp2_with fail
  go_ret
  exact ⟨by rw [HT.out]; rfl, HB.out⟩

theorem two_start (w : World) (g x y : Value) : ((w.alloc (Obj.cells #[g, x, y] 87)).drew).cell? ⟨w.heap.size, 1, none⟩ = some x ∧ ((w.alloc (Obj.cells #[g, x, y] 87)).drew).cell? ⟨w.heap.size, 2, none⟩ = some y ∧
    Below w.heap.size w ((w.alloc (Obj.cells #[g, x, y] 87)).drew) ∧ w.heap.size < ((w.alloc (Obj.cells #[g, x, y] 87)).drew).heap.size := by
  have h : ((w.alloc (Obj.cells #[g, x, y] 87)).drew).heap[w.heap.size]? = some (Obj.cells #[g, x, y] 87 (0, 0)) := heap_alloc_new w _
  refine ⟨by rw [Lib.cell_of_heap h]; rfl, by rw [Lib.cell_of_heap h]; rfl, ((Below.refl _ _).alloc (Nat.le_refl _) _).drew, (Array.getElem?_eq_some_iff.1 h).1⟩
theorem cell_after {w w' : World} {p : Addr} {v : Value} (hb : Below w.heap.size w w') (h : w.cell? p = some v) : w'.cell? p = some v := by
  rw [hb.cell (World.block_lt_of_cell? w _ h)]; exact h
theorem two_later {w w1 w2 : World} {x y : Value} (h : w1.cell? ⟨w.heap.size, 1, none⟩ = some x ∧ w1.cell? ⟨w.heap.size, 2, none⟩ = some y ∧ Below w.heap.size w w1 ∧ w.heap.size < w1.heap.size) (hb : Below w1.heap.size w1 w2) :
    w2.cell? ⟨w.heap.size, 1, none⟩ = some x ∧ w2.cell? ⟨w.heap.size, 2, none⟩ = some y ∧ Below w.heap.size w w2 ∧ w.heap.size < w2.heap.size :=
  ⟨cell_after hb h.1, cell_after hb h.2.1, h.2.2.1.trans (hb.mono (Nat.le_of_lt h.2.2.2)), Nat.lt_of_lt_of_le h.2.2.2 hb.size⟩
theorem two_below {w w1 : World} {x y : Value} (h : w1.cell? ⟨w.heap.size, 1, none⟩ = some x ∧ w1.cell? ⟨w.heap.size, 2, none⟩ = some y ∧ Below w.heap.size w w1 ∧ w.heap.size < w1.heap.size) : Below w.heap.size w w1 := h.2.2.1

set_option maxHeartbeats 1000000 in
theorem words_two (g : UInt8) (x y : Ct) (w : World) (hg : g = 38 ∨ g = 124) (hl : x.words.length ≤ 1048576) (hl2 : y.words.length ≤ 1048576) (h : ∀ w, Calls Try.prog (wordsFn x) #[x.arg] w fun e w' => e = .returned (.string (wordsT x)) ∧ Below w.heap.size w w')
    (h2 : ∀ w, Calls Try.prog (wordsFn y) #[y.arg] w fun e w' => e = .returned (.string (wordsT y)) ∧ Below w.heap.size w w') :
    Calls Try.prog 91 #[.agg #[.int .u8 g.toNat, x.val, y.val]] w fun e w' => e = .returned (.string (wordsT (.two g x y))) ∧ Below w.heap.size w w' := by
  have H := Lib.hid h
  have H2 := Lib.hid h2
  have hm := meth_words x
  have he := enters_words x
  have hm2 := meth_words y
  have he2 := enters_words y
  have zx : (wordsT x).size ≤ 1048576 := hl
  have zy : (wordsT y).size ≤ 1048576 := hl2
  have z1 : (⟨#[40]⟩ : ByteArray).size = 1 := rfl
  have z2 : (⟨#[41]⟩ : ByteArray).size = 1 := rfl
  have e1 := str_sum ⟨#[40]⟩ (wordsT x) (by omega)
  unfold Ct.val
  clear h h2
  rcases hg with rfl | rfl
  · have HT := Lib.hid (show wordsT (.two 38 x y) = ⟨#[40]⟩ ++ wordsT x ++ ⟨#[32, 97, 110, 100, 32]⟩ ++ wordsT y ++ ⟨#[41]⟩ by
      apply ByteArray.ext; apply Array.ext'; simp [wordsT, txtOf, Ct.words])
    have z3 : (⟨#[32, 97, 110, 100, 32]⟩ : ByteArray).size = 5 := rfl
    have e2 := str_sum (⟨#[40]⟩ ++ wordsT x) ⟨#[32, 97, 110, 100, 32]⟩ (by simp; omega)
    have e3 := str_sum (⟨#[40]⟩ ++ wordsT x ++ ⟨#[32, 97, 110, 100, 32]⟩) (wordsT y) (by simp; omega)
    have e4 := str_sum (⟨#[40]⟩ ++ wordsT x ++ ⟨#[32, 97, 110, 100, 32]⟩ ++ wordsT y) ⟨#[41]⟩ (by simp; omega)
    generalize wordsFn x = fx at *
    generalize x.arg = ax at *
    generalize wordsT x = tx at *
    generalize wordsFn y = fy at *
    generalize y.arg = ay at *
    generalize wordsT y = ty at *
    clear z1 z2 z3 zx zy hl hl2
    go_enter Try.func91, Try.ntmps91
    go_wp2_with fail
    go_region_held3 (fun w' => w'.cell? ⟨w.heap.size, 1, none⟩ = some (.iface x.ty ax) ∧ w'.cell? ⟨w.heap.size, 2, none⟩ = some (.iface y.ty ay) ∧ Below w.heap.size w w' ∧ w.heap.size < w'.heap.size) ((first | assumption | exact two_start _ _ _ _ | (apply two_later; assumption; assumption)))
      ((first | (with_reducible refine (H.out _).mono ?_; rintro e w' ⟨rfl, hb1⟩) | (with_reducible refine (H2.out _).mono ?_; rintro e w' ⟨rfl, hb1⟩)))
    all_goals go_wp2_with fail
    all_goals go_ret
    all_goals exact ⟨by rw [HT.out]; rfl, two_below (by assumption)⟩
  · have HT := Lib.hid (show wordsT (.two 124 x y) = ⟨#[40]⟩ ++ wordsT x ++ ⟨#[32, 111, 114, 32]⟩ ++ wordsT y ++ ⟨#[41]⟩ by
      apply ByteArray.ext; apply Array.ext'; simp [wordsT, txtOf, Ct.words])
    have z3 : (⟨#[32, 111, 114, 32]⟩ : ByteArray).size = 4 := rfl
    have e2 := str_sum (⟨#[40]⟩ ++ wordsT x) ⟨#[32, 111, 114, 32]⟩ (by simp; omega)
    have e3 := str_sum (⟨#[40]⟩ ++ wordsT x ++ ⟨#[32, 111, 114, 32]⟩) (wordsT y) (by simp; omega)
    have e4 := str_sum (⟨#[40]⟩ ++ wordsT x ++ ⟨#[32, 111, 114, 32]⟩ ++ wordsT y) ⟨#[41]⟩ (by simp; omega)
    generalize wordsFn x = fx at *
    generalize x.arg = ax at *
    generalize wordsT x = tx at *
    generalize wordsFn y = fy at *
    generalize y.arg = ay at *
    generalize wordsT y = ty at *
    clear z1 z2 z3 zx zy hl hl2
    go_enter Try.func91, Try.ntmps91
    go_wp2_with fail
    go_region_held3 (fun w' => w'.cell? ⟨w.heap.size, 1, none⟩ = some (.iface x.ty ax) ∧ w'.cell? ⟨w.heap.size, 2, none⟩ = some (.iface y.ty ay) ∧ Below w.heap.size w w' ∧ w.heap.size < w'.heap.size) ((first | assumption | exact two_start _ _ _ _ | (apply two_later; assumption; assumption)))
      ((first | (with_reducible refine (H.out _).mono ?_; rintro e w' ⟨rfl, hb1⟩) | (with_reducible refine (H2.out _).mono ?_; rintro e w' ⟨rfl, hb1⟩)))
    all_goals go_wp2_with fail
    all_goals go_ret
    all_goals exact ⟨by rw [HT.out]; rfl, two_below (by assumption)⟩

theorem words_all : ∀ (x : Ct), x.wf = true → x.txt.length ≤ 100000 → ∀ w, Calls Try.prog (wordsFn x) #[x.arg] w fun e w' => e = .returned (.string (wordsT x)) ∧ Below w.heap.size w w'
  | .prt, _, _, w => words_prt w
  | .fix b, _, _, w => words_fix b w
  | .lt g c, hw, _, w => by
    simp only [Ct.wf, Bool.and_eq_true] at hw
    exact words_lt g c (cwf_or hw.1) hw.2 w
  | .opp x, hw, hl, w => by
    simp only [Ct.txt, List.length_cons] at hl
    have := x.words_len
    exact words_opp x w (by omega) (words_all x hw (by omega))
  | .two g x y, hw, hl, w => by
    simp only [Ct.wf, Bool.and_eq_true] at hw
    simp only [Ct.txt, List.length_cons, List.length_append] at hl
    have h1 := x.words_len
    have h2 := y.words_len
    exact words_two g x y w (by simpa only [isAO, Bool.or_eq_true, beq_iff_eq] using hw.1) (by omega) (by omega) (words_all x hw.2.1 (by omega)) (words_all y hw.2.2 (by omega))

/-- the text that ShowCut tells -/
def showT (s : ByteArray) : ByteArray := match cutOf s with | some x => wordsT x | none => ⟨#[]⟩

set_option maxHeartbeats 400000 in
theorem impl_show (s : ByteArray) (w : World) (hs : s.size ≤ 1073741824) :
    Calls Try.prog 21 #[.string s] w fun e w' => e = .returned (.string (showT s)) ∧ Below w.heap.size w w' := by
  have HR := Lib.hid (read_cut s w hs)
  cases hc : cutOf s with
  | none =>
    have HC := Lib.hid hc
    have HT := Lib.hid (show showT s = ⟨#[]⟩ by rw [showT, hc])
    clear hc
    go_enter Try.func21, Try.ntmps21
    go_wp2_with fail
    refine HR.out.mono ?_
    rintro e w1 ⟨h1, hb⟩
    rw [HC.out] at h1
    subst h1
    go_wp2_with fail
    go_ret
    exact ⟨by rw [HT.out]; rfl, hb⟩
  | some x =>
    have HC := Lib.hid hc
    have HT := Lib.hid (show showT s = wordsT x by rw [showT, hc])
    obtain ⟨z1, z2, z3, _⟩ := cutOf_some hc
    have HW := Lib.hid (words_all x z3 (by rw [← z2]; simp; omega))
    have hm := meth_words x
    have he := enters_words x
    clear hc z1 z2 z3
    go_enter Try.func21, Try.ntmps21
    go_wp2_with fail
    refine HR.out.mono ?_
    rintro e w1 ⟨h1, hb⟩
    rw [HC.out] at h1
    subst h1
    unfold Ct.val
    generalize wordsFn x = fx at *
    generalize x.arg = ax at *
    go_wp2_with fail
    refine (HW.out _).mono ?_
    rintro e w2 ⟨rfl, hb2⟩
    have HB := Lib.hid (hb.trans (hb2.mono hb.size))
    clear hb2
    go_wp2_with fail
    go_ret
    exact ⟨by rw [HT.out]; rfl, HB.out⟩
end Go.Proofs.YthenpjcijmfgjaaRRR
