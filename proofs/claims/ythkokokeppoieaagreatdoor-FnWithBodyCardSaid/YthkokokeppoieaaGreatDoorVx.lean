/- The law FnExactProgramValid answers true at every text. Condition: the library's own number can be read. The size of a procedure. Condition: a program as readProgram lays it. The law FnExactSizeOf answers true at every text. Condition: the library's own number can be read. The law FnExactProcsOf answers true at every text. Condition: the library's own number can be read. -/
import Derived.Test.YthkokokeppoieaaGreatDoorWx
import Derived.Test.YthkokokeppoieaaGreatDoorOx
import Derived.Test.YthkokokeppoieaaGreatDoorTx
namespace Go.Proofs.YthkokokeppoieaaGreatDoor
open Go.RowKit Gram

end Go.Proofs.YthkokokeppoieaaGreatDoor
namespace Go.Proofs.YthkokokeppoieaaGreatDoor
open Go.RowKit Gram

def stepN (m : Nat) (_ : Stm) : Nat := m + 1
def okN (m : Nat) (_ : Stm) : Prop := m < 1048576
theorem fold_size (l : List Stm) : ∀ m, l.foldl stepN m = m + l.length := by
  induction l with
  | nil => intro m; rfl
  | cons x t ih => intro m; rw [List.foldl_cons, ih, stepN, List.length_cons]; omega
theorem okAll_size (l : List Stm) : ∀ m, m + l.length ≤ 1048576 → okAll okN stepN m l := by
  induction l with
  | nil => intro m _; trivial
  | cons x t ih => intro m h; simp only [List.length_cons] at h; exact ⟨show m < 1048576 by omega, ih (m + 1) (by omega)⟩
end Go.Proofs.YthkokokeppoieaaGreatDoor
namespace Go.Proofs.YthkokokeppoieaaGreatDoor
open Go.RowKit Gram

def isMark (c : UInt8) : Bool := ([43, 45, 42, 80, 67, 75, 63] : List UInt8).contains c
theorem mark_sgn (g : UInt8) (h : isSgn g = true) : isMark g = true := by
  simp only [isSgn, Bool.or_eq_true, beq_iff_eq] at h
  rcases h with (h | h) | h <;> subst h <;> decide
theorem mark_dig (g : UInt8) (h : isDig g = true) : isMark g = false := by
  cases hm : isMark g with
  | false => rfl
  | true =>
    simp only [isMark, List.contains_iff_mem, List.mem_cons, List.not_mem_nil, or_false] at hm
    rcases hm with hm | hm | hm | hm | hm | hm | hm <;> subst hm <;> exact absurd h (by decide)
theorem mark_let (g : UInt8) (h : isLet g = true) : isMark g = false := by
  cases hm : isMark g with
  | false => rfl
  | true =>
    simp only [isMark, List.contains_iff_mem, List.mem_cons, List.not_mem_nil, or_false] at hm
    rcases hm with hm | hm | hm | hm | hm | hm | hm <;> subst hm <;> exact absurd h (by decide)
mutual
theorem count_stm (x : Stm) (h : x.wf = true) : x.txt.countP isMark = x.flat.length := by
  match x with
  | .chg g d =>
    simp only [Stm.wf, Bool.and_eq_true] at h
    simp [Stm.txt, Stm.flat, List.countP_cons, mark_sgn g h.1, mark_dig d h.2]
  | .prt => rfl
  | .pro => rfl
  | .call c =>
    simp only [Stm.wf] at h
    simp [Stm.txt, Stm.flat, List.countP_cons, mark_let c h]; rfl
  | .cho a b =>
    simp only [Stm.wf, Bool.and_eq_true] at h
    have h1 := count_stms a h.1
    have h2 := count_stms b h.2
    have e1 : isMark 63 = true := by decide
    have e2 : isMark 91 = false := by decide
    have e3 : isMark 93 = false := by decide
    simp [Stm.txt, Stm.flat, List.countP_cons, List.countP_append, h1, h2, e1, e2, e3]
theorem count_stms (xs : List Stm) (h : wfs xs = true) : (txts xs).countP isMark = (flats xs).length := by
  match xs with
  | [] => rfl
  | x :: xs =>
    simp only [wfs, Bool.and_eq_true] at h
    simp [txts, flats, List.countP_append, count_stm x h.1, count_stms xs h.2]
end

def sizeSum (ps : List Pr) : Nat := (ps.map fun p => (flats p.2).length).sum
def sizeP (s : ByteArray) : Int := match progOf s with | none => -1 | some ps => (sizeSum ps : Int)
theorem sizeSum_take (ps : List Pr) (k : Nat) (hk : k < ps.length) : sizeSum (ps.take (k + 1)) = sizeSum (ps.take k) + (flats ps[k].2).length := by
  rw [List.take_succ_eq_append_getElem hk, sizeSum, List.map_append, List.sum_append]; simp [sizeSum]
theorem sizeSum_le (ps : List Pr) (hg : ∀ p ∈ ps, Good p) : sizeSum ps ≤ ps.length * 400 := by
  induction ps with
  | nil => simp [sizeSum]
  | cons p t ih =>
    have h1 := ih fun q hq => hg q (List.mem_cons_of_mem _ hq)
    have h2 := flats_le p.2
    have h3 := (hg p (List.mem_cons_self ..)).2.2.1
    simp only [sizeSum, List.map_cons, List.sum_cons, List.length_cons] at h1 ⊢
    omega

end Go.Proofs.YthkokokeppoieaaGreatDoor
namespace Go.Proofs.YthkokokeppoieaaGreatDoor
open Go.RowKit Gram

def procsP (s : ByteArray) : ByteArray := match progOf s with | none => ⟨#[]⟩ | some ps => txtOf (namesOf ps)

set_option maxHeartbeats 1000000 in
theorem impl_procs (s : ByteArray) (w : World) (hs : s.size ≤ 1073741824) (hm : MaxCell w) :
    Calls Tryz.prog 10 #[.string s] w fun e w' => e = .returned (.string (procsP s)) ∧ Below w.heap.size w w' := by
  have HR := Lib.hid ((read_prog s w hs hm).mono fun _ _ h => h.cases)
  clear hm
  cases hp : progOf s with
  | none =>
    rw [hp] at HR
    have HZ := Lib.hid (by rw [procsP, hp] : procsP s = ⟨#[]⟩)
    clear hp
    go_enter Tryz.func10, Tryz.ntmps10
    go_wp2_with fail
    refine HR.out.mono ?_
    rintro e w2 ⟨a, n, c, rfl, hb, _⟩
    have HB := Lib.hid hb
    clear hb
    go_wp2_with fail
    go_ret
    exact ⟨by rw [HZ.out]; rfl, HB.out⟩
  | some ps =>
    rw [hp] at HR
    have hf := prog_facts hp
    have HZ := Lib.hid (by rw [procsP, hp] : procsP s = txtOf (namesOf ps))
    clear hp
    go_enter Tryz.func10, Tryz.ntmps10
    go_wp2_with fail
    refine HR.out.mono ?_
    rintro e w2 ⟨a, n, c, rfl, hb, hq⟩
    obtain ⟨S, qs, hqp, hP, hG⟩ := hq ps rfl
    have hnq : qs.length ≤ 1048576 := by rw [← List.length_map (f := fun q : Qr => q.1), hqp]; exact Nat.le_trans hf.1 (by decide)
    have HN := Lib.hid (names_set hP hG hnq)
    have hnm : namesQ qs = namesOf ps := by rw [← hqp, namesOf, List.map_map]; rfl
    rw [hnm] at HN
    have hlets : lets (namesOf ps) := by rw [← hnm]; exact namesQ_lets hG
    have HT := Lib.hid (fun w => text_set (namesOf ps) hlets w)
    rw [upTo_asc _ (procs_asc _ _ _ hf.2.2.2 (by simp [asc, namesOf])) hlets] at HT
    have HB := Lib.hid hb
    clear hb hq hqp hP hG hnq hnm hlets hf
    generalize namesOf ps = nm at *
    go_wp2_with fail
    refine HN.out.mono ?_
    rintro e w3 ⟨rfl, hb3⟩
    have HB3 := Lib.hid (HB.out.trans (hb3.mono HB.out.size))
    clear hb3
    go_wp2_with fail
    refine (HT.out _).mono ?_
    rintro e w4 ⟨rfl, hb4⟩
    have HB4 := Lib.hid (HB3.out.trans (hb4.mono HB3.out.size))
    clear hb4
    go_wp2_with fail
    go_ret
    exact ⟨by rw [HZ.out]; rfl, HB4.out⟩

theorem names_take (ps : List Pr) (k : Nat) (hk : k < ps.length) : txtOf (namesOf (ps.take (k + 1))) = txtOf (namesOf (ps.take k)) ++ ⟨#[ps[k].1]⟩ := by
  have h1 : namesOf (ps.take (k + 1)) = namesOf (ps.take k) ++ [ps[k].1] := by rw [List.take_succ_eq_append_getElem hk, namesOf, List.map_append]; rfl
  rw [h1]
  apply ByteArray.ext
  apply Array.ext'
  simp [txtOf]
theorem row_max {w : World} {B n c : Nat} {a : Option Addr} {e : TypeId} {xs : List Value} (h : w.ownsRow B e 2 (.slice a n c) n xs) : n ≤ 9223372036854775807 := by
  rcases h.2 with ⟨h1, h2⟩ | ⟨g, cap, cur, h1, _, _, h3, h4, _⟩
  · omega
  · unfold maxLen at h4; omega

end Go.Proofs.YthkokokeppoieaaGreatDoor
