/- Plain mathematics: the letters behind each F of a text, of a cut's tree, of a list of aspects. No condition. -/
import Derived.Test.YtpahbkjogljndaaGreatDoorBehind
import Derived.Test.YtpahbkjogljndaaGreatDoorLset
import Derived.Test.YtpahbkjogljndaaGreatDoorAsps2
namespace Go.Proofs.YtpahbkjogljndaaGreatDoor
open Go.RowKit Gram

/-- the signs behind each F -/
def watT : List UInt8 → List UInt8
  | [] => []
  | a :: r => (if a == 70 then r.take 1 else []) ++ watT r
/-- each F has a sign behind it -/
def okF : List UInt8 → Bool
  | [] => true
  | a :: r => (a != 70 || !r.isEmpty) && okF r

theorem let_not {c g : UInt8} (h : isLet c = true) (hg : isLet g = false) : (c == g) = false := by
  rw [beq_eq_false_iff_ne]; rintro rfl; rw [h] at hg; cases hg
theorem let70 {c : UInt8} (h : isLet c = true) : (c == 70) = false := let_not h (by decide)
theorem ao70 {g : UInt8} (h : isAO g = true) : (g == 70) = false := by
  simp only [isAO, Bool.or_eq_true, beq_iff_eq] at h
  rcases h with rfl | rfl <;> decide
theorem bne70 {c : UInt8} (h : (c == 70) = false) : (c != 70) = true := by rw [bne, h]; rfl

theorem watT_ct : ∀ (x : Ct) (r : List UInt8), x.wf = true → watT (x.txt ++ r) = behind [70] x ++ watT r
  | .prt, r, _ => by simp [Ct.txt, watT, behind]
  | .fix true, r, _ => by simp [Ct.txt, watT, behind]
  | .fix false, r, _ => by simp [Ct.txt, watT, behind]
  | .lt g c, r, h => by
    simp only [Ct.wf, Bool.and_eq_true] at h
    have hc := let70 h.2
    simp only [Ct.txt, List.cons_append, List.nil_append, watT, behind, hc, Bool.false_eq_true, if_false]
    have : ([70] : List UInt8).contains g = (g == 70) := by rw [List.contains_cons]; simp
    rw [this]
    cases hg : (g == 70) <;> simp
  | .opp x, r, h => by
    have := watT_ct x r h
    simp only [Ct.txt, List.cons_append, watT, behind, this]
    rfl
  | .two g x y, r, h => by
    simp only [Ct.wf, Bool.and_eq_true] at h
    have h1 := watT_ct x (y.txt ++ r) h.2.1
    have h2 := watT_ct y r h.2.2
    simp only [Ct.txt, List.cons_append, List.append_assoc, watT, behind, ao70 h.1, h1, h2]
    rfl
theorem okF_ct : ∀ (x : Ct) (r : List UInt8), x.wf = true → okF (x.txt ++ r) = okF r
  | .prt, r, _ => by simp [Ct.txt, okF]
  | .fix true, r, _ => by simp [Ct.txt, okF]
  | .fix false, r, _ => by simp [Ct.txt, okF]
  | .lt g c, r, h => by
    simp only [Ct.wf, Bool.and_eq_true] at h
    simp [Ct.txt, okF, bne70 (let70 h.2)]
  | .opp x, r, h => by
    have := okF_ct x r h
    simp [Ct.txt, okF, this]
  | .two g x y, r, h => by
    simp only [Ct.wf, Bool.and_eq_true] at h
    have h1 := okF_ct x (y.txt ++ r) h.2.1
    have h2 := okF_ct y r h.2.2
    simp only [Ct.txt, List.cons_append, List.append_assoc, okF, bne70 (ao70 h.1), h1, h2]
    rfl
theorem behind_len (sg : List UInt8) : ∀ (x : Ct), (behind sg x).length ≤ x.txt.length
  | .prt => by simp [behind]
  | .fix b => by simp [behind]
  | .lt g c => by simp only [behind]; split <;> simp [Ct.txt]
  | .opp x => by have := behind_len sg x; simp [behind, Ct.txt]; omega
  | .two g x y => by have := behind_len sg x; have := behind_len sg y; simp [behind, Ct.txt]; omega

/-- what an aspect watches -/
def watA (p : As) : List UInt8 := match cutOf p.2.1 with | some x => behind [70] x | none => []
def watL (zs : List As) : List UInt8 := zs.flatMap watA
theorem watA_lets (p : As) : lets (watA p) := by
  unfold watA
  split
  · rename_i x hx; exact behind_lets [70] x (cutOf_some hx).2.2.1
  · intro c hc; cases hc
theorem watL_lets (zs : List As) : lets (watL zs) := by
  intro c hc
  rw [watL, List.mem_flatMap] at hc
  obtain ⟨p, _, hp⟩ := hc
  exact watA_lets p c hp
theorem watA_len (p : As) : (watA p).length ≤ 40 := by
  unfold watA
  split
  · rename_i x hx
    obtain ⟨h1, h2, _⟩ := cutOf_some hx
    have := behind_len [70] x
    rw [← h2] at this
    simp at this
    omega
  · simp
theorem watL_take (zs : List As) (k : Nat) (h : k < zs.length) : watL (zs.take (k + 1)) = watL (zs.take k) ++ watA zs[k] := by
  rw [watL, List.take_succ_eq_append_getElem h, List.flatMap_append]; simp [watL]
theorem setOf_or (a b : List UInt8) : setOf a ||| setOf b = setOf (a ++ b) := by
  apply Nat.eq_of_testBit_eq
  intro i
  rw [Nat.testBit_or, setOf_bit, setOf_bit, setOf_bit, List.any_append]
/-- the text that WatchedBy tells -/
def watR (zs : List As) : ByteArray := if aspsP zs = true then txtOf (setText (watL zs)) else ⟨#[]⟩
end Go.Proofs.YtpahbkjogljndaaGreatDoor
