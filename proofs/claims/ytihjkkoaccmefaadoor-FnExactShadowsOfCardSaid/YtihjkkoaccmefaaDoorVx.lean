/- ProgramValid of the program and of the model. Condition: for the program's, the library's own number can be read. The law FnExactProgramValid answers true at every text. Condition: the library's own number can be read. The size of a procedure. Condition: a program as readProgram lays it. The law FnExactSizeOf answers true at every text. Condition: the library's own number can be read. The law FnExactProcsOf answers true at every text. Condition: the library's own number can be read. -/
import Derived.Test.YtihjkkoaccmefaaDoorFacts
import Derived.Test.YtihjkkoaccmefaaDoorCalls
import Derived.Test.YtihjkkoaccmefaaDoorByte
namespace Go.Proofs.YtihjkkoaccmefaaDoor
open Go.RowKit Gram

end Go.Proofs.YtihjkkoaccmefaaDoor
namespace Go.Proofs.YtihjkkoaccmefaaDoor
open Go.RowKit Gram

end Go.Proofs.YtihjkkoaccmefaaDoor
namespace Go.Proofs.YtihjkkoaccmefaaDoor
open Go.RowKit Gram

def stepN (m : Nat) (_ : Stm) : Nat := m + 1
def okN (m : Nat) (_ : Stm) : Prop := m < 1048576
theorem fold_size (l : List Stm) : ∀ m, l.foldl stepN m = m + l.length := by
  induction l with
  | nil => intro m; rfl
  | cons x t ih => intro m; rw [List.foldl_cons, ih, stepN, List.length_cons]; omega
theorem okAll_size (l : List Stm) : ∀ m, m + l.length ≤ 1048576 → okAll okN stepN m l := by
  induction l with
  | nil => intro m _; trivial
  | cons x t ih => intro m h; simp only [List.length_cons] at h; exact ⟨show m < 1048576 by omega, ih (m + 1) (by omega)⟩
end Go.Proofs.YtihjkkoaccmefaaDoor
namespace Go.Proofs.YtihjkkoaccmefaaDoor
open Go.RowKit Gram

def isMark (c : UInt8) : Bool := ([43, 45, 42, 80, 67, 75, 63] : List UInt8).contains c
theorem mark_sgn (g : UInt8) (h : isSgn g = true) : isMark g = true := by
  simp only [isSgn, Bool.or_eq_true, beq_iff_eq] at h
  rcases h with (h | h) | h <;> subst h <;> decide
theorem mark_dig (g : UInt8) (h : isDig g = true) : isMark g = false := by
  cases hm : isMark g with
  | false => rfl
  | true =>
    simp only [isMark, List.contains_iff_mem, List.mem_cons, List.not_mem_nil, or_false] at hm
    rcases hm with hm | hm | hm | hm | hm | hm | hm <;> subst hm <;> exact absurd h (by decide)
theorem mark_let (g : UInt8) (h : isLet g = true) : isMark g = false := by
  cases hm : isMark g with
  | false => rfl
  | true =>
    simp only [isMark, List.contains_iff_mem, List.mem_cons, List.not_mem_nil, or_false] at hm
    rcases hm with hm | hm | hm | hm | hm | hm | hm <;> subst hm <;> exact absurd h (by decide)
mutual
theorem count_stm (x : Stm) (h : x.wf = true) : x.txt.countP isMark = x.flat.length := by
  match x with
  | .chg g d =>
    simp only [Stm.wf, Bool.and_eq_true] at h
    simp [Stm.txt, Stm.flat, List.countP_cons, mark_sgn g h.1, mark_dig d h.2]
  | .prt => rfl
  | .pro => rfl
  | .call c =>
    simp only [Stm.wf] at h
    simp [Stm.txt, Stm.flat, List.countP_cons, mark_let c h]; rfl
  | .cho a b =>
    simp only [Stm.wf, Bool.and_eq_true] at h
    have h1 := count_stms a h.1
    have h2 := count_stms b h.2
    have e1 : isMark 63 = true := by decide
    have e2 : isMark 91 = false := by decide
    have e3 : isMark 93 = false := by decide
    simp [Stm.txt, Stm.flat, List.countP_cons, List.countP_append, h1, h2, e1, e2, e3]
theorem count_stms (xs : List Stm) (h : wfs xs = true) : (txts xs).countP isMark = (flats xs).length := by
  match xs with
  | [] => rfl
  | x :: xs =>
    simp only [wfs, Bool.and_eq_true] at h
    simp [txts, flats, List.countP_append, count_stm x h.1, count_stms xs h.2]
end

def sizeSum (ps : List Pr) : Nat := (ps.map fun p => (flats p.2).length).sum
def sizeP (s : ByteArray) : Int := match progOf s with | none => -1 | some ps => (sizeSum ps : Int)
theorem sizeSum_take (ps : List Pr) (k : Nat) (hk : k < ps.length) : sizeSum (ps.take (k + 1)) = sizeSum (ps.take k) + (flats ps[k].2).length := by
  rw [List.take_succ_eq_append_getElem hk, sizeSum, List.map_append, List.sum_append]; simp [sizeSum]
theorem sizeSum_le (ps : List Pr) (hg : ∀ p ∈ ps, Good p) : sizeSum ps ≤ ps.length * 400 := by
  induction ps with
  | nil => simp [sizeSum]
  | cons p t ih =>
    have h1 := ih fun q hq => hg q (List.mem_cons_of_mem _ hq)
    have h2 := flats_le p.2
    have h3 := (hg p (List.mem_cons_self ..)).2.2.1
    simp only [sizeSum, List.map_cons, List.sum_cons, List.length_cons] at h1 ⊢
    omega

end Go.Proofs.YtihjkkoaccmefaaDoor
namespace Go.Proofs.YtihjkkoaccmefaaDoor
open Go.RowKit Gram

def procsP (s : ByteArray) : ByteArray := match progOf s with | none => ⟨#[]⟩ | some ps => txtOf (namesOf ps)

theorem names_take (ps : List Pr) (k : Nat) (hk : k < ps.length) : txtOf (namesOf (ps.take (k + 1))) = txtOf (namesOf (ps.take k)) ++ ⟨#[ps[k].1]⟩ := by
  have h1 : namesOf (ps.take (k + 1)) = namesOf (ps.take k) ++ [ps[k].1] := by rw [List.take_succ_eq_append_getElem hk, namesOf, List.map_append]; rfl
  rw [h1]
  apply ByteArray.ext
  apply Array.ext'
  simp [txtOf]
theorem row_max {w : World} {B n c : Nat} {a : Option Addr} {e : TypeId} {xs : List Value} (h : w.ownsRow B e 2 (.slice a n c) n xs) : n ≤ 9223372036854775807 := by
  rcases h.2 with ⟨h1, h2⟩ | ⟨g, cap, cur, h1, _, _, h3, h4, _⟩
  · omega
  · unfold maxLen at h4; omega

set_option maxHeartbeats 1000000 in
theorem spec_procs (s : ByteArray) (w : World) (hs : s.size ≤ 1048576) :
    Calls Tryd.prog 21 #[.string s] w fun e w' => e = .returned (.string (procsP s)) ∧ Below w.heap.size w w' := by
  have HR := Lib.hid ((open_prog s w (by omega)).mono fun _ _ h => h.cases)
  cases hp : progOf s with
  | none =>
    rw [hp] at HR
    have HZ := Lib.hid (by rw [procsP, hp] : procsP s = ⟨#[]⟩)
    clear hp
    go_enter Tryd.func21, Tryd.ntmps21
    go_wp2_with fail
    refine HR.out.mono ?_
    rintro e w2 ⟨a, n, c, qs, rfl, hb, hnl, ho, _⟩
    have HB := Lib.hid hb
    rw [← hnl] at ho
    have HO := Lib.hid ho
    have HN := Lib.hid hnl
    clear hb ho hnl
    have hn63 := row_max HO.out
    rw [HN.out] at hn63
    go_wp2_with fail
    go_loopw [3, 15] (fun o i wr => ∃ k : Nat, i = .int .i64 k ∧ k ≤ n ∧ o = .string ⟨#[]⟩ ∧ Hid (Below w2.heap.size w2 wr)) (fun _ i _ => n - (intOf i).toNat)
    case atStart => exact ⟨0, by go_num, Nat.zero_le _, rfl, Below.refl _ _⟩
    case round =>
      obtain ⟨k, rfl, hk, rfl, hb⟩ := hrel
      by_cases hlt : k < n
      · have hkp : k < qs.length := by rw [HN.out]; exact hlt
        obtain ⟨g, rfl, c0, c1⟩ := pr_get HO.out k hkp
        have hgl : g < w2.heap.size := World.block_lt_of_cell? w2 _ c0
        have d0 : wr.cell? ⟨g, k * 2, none⟩ = some (.int .u8 qs[k].1.toNat) := by rw [hb.out.cell (p := ⟨g, k * 2, none⟩) hgl]; exact c0
        have d1 : wr.cell? ⟨g, k * 2 + 1, none⟩ = some (.string (txtOf (txts qs[k].2))) := by rw [hb.out.cell (p := ⟨g, k * 2 + 1, none⟩) hgl]; exact c1
        clear c0 c1 hgl
        generalize txtOf (txts qs[k].2) = tx at *
        go_wp2_with fail
        go_roundw
        case rel => exact ⟨k + 1, by go_num, by omega, rfl, hb.out.alloc hb.out.size _⟩
        case measure => simp [intOf]; omega
      · go_wp2_with fail
        go_ret
        exact ⟨by rw [HZ.out]; rfl, HB.out.trans (hb.out.mono HB.out.size)⟩
  | some ps =>
    rw [hp] at HR
    have hf := prog_facts hp
    have HZ := Lib.hid (by rw [procsP, hp] : procsP s = txtOf (namesOf ps))
    clear hp
    go_enter Tryd.func21, Tryd.ntmps21
    go_wp2_with fail
    refine HR.out.mono ?_
    rintro e w2 ⟨a, n, c, qs, rfl, hb, hnl, ho, hq⟩
    have hqp := hq ps rfl
    subst hqp
    have hln : n ≤ 401 := by rw [← hnl]; exact hf.1
    have HN := Lib.hid hnl
    rw [← hnl] at ho
    have HO := Lib.hid ho
    have HB := Lib.hid hb
    clear ho hb hf hq hnl
    go_wp2_with fail
    go_loopw [3, 15] (fun o i wr => ∃ k : Nat, i = .int .i64 k ∧ k ≤ n ∧ o = .string (txtOf (namesOf (qs.take k))) ∧ Hid (Below w2.heap.size w2 wr)) (fun _ i _ => n - (intOf i).toNat)
    case atStart => exact ⟨0, by go_num, Nat.zero_le _, rfl, Below.refl _ _⟩
    case round =>
      obtain ⟨k, rfl, hk, rfl, hb⟩ := hrel
      by_cases hlt : k < n
      · have hkp : k < qs.length := by rw [HN.out]; exact hlt
        obtain ⟨g, rfl, c0, c1⟩ := pr_get HO.out k hkp
        have hgl : g < w2.heap.size := World.block_lt_of_cell? w2 _ c0
        have d0 : wr.cell? ⟨g, k * 2, none⟩ = some (.int .u8 qs[k].1.toNat) := by rw [hb.out.cell (p := ⟨g, k * 2, none⟩) hgl]; exact c0
        have d1 : wr.cell? ⟨g, k * 2 + 1, none⟩ = some (.string (txtOf (txts qs[k].2))) := by rw [hb.out.cell (p := ⟨g, k * 2 + 1, none⟩) hgl]; exact c1
        have HT := Lib.hid (names_take qs k hkp)
        have e1 := str_sum (txtOf (namesOf (qs.take k))) ⟨#[qs[k].1]⟩ (by rw [txtOf_size, show (⟨#[qs[k].1]⟩ : ByteArray).size = 1 from rfl]; simp [namesOf]; omega)
        have e2 := fun o : Obj => chr1 qs[k].1 (wr.alloc o) (wr.heap.size + 1) (by rw [alloc_size'])
        clear c0 c1 hgl
        generalize txtOf (txts qs[k].2) = tx at *
        generalize txtOf (namesOf (qs.take k)) = nm at *
        generalize qs[k].1 = ch at *
        go_wp2_with fail
        go_roundw
        case rel => exact ⟨k + 1, by go_num, by omega, by rw [HT.out], (hb.out.alloc hb.out.size _).alloc (by rw [alloc_size']; exact Nat.le_succ_of_le hb.out.size) _⟩
        case measure => simp [intOf]; omega
      · have hall : qs.take k = qs := List.take_of_length_le (by rw [HN.out]; omega)
        rw [hall]
        go_wp2_with fail
        go_ret
        exact ⟨by rw [HZ.out]; rfl, HB.out.trans (hb.out.mono HB.out.size)⟩

end Go.Proofs.YtihjkkoaccmefaaDoor
