/- Plain mathematics: advice proceeds no more often than its text has signs, just as often where nothing is asked, and once more with one sign more. No walk, no condition. -/
import Derived.Test.YtecifbncfglckaaDoorPof
namespace Go.Proofs.YtecifbncfglckaaDoor
open Go.RowKit Gram

def cK (l : List UInt8) : Nat := l.count 75
def Cnt (d : Dd) (l : List UInt8) : Prop := d.most ≤ cK l ∧ (l.contains 63 = false → d.least = cK l ∧ d.most = cK l)

theorem cnt_append {a b : Dd} {l m : List UInt8} (h : Cnt a l) (k : Cnt b m) : Cnt (a.plus b) (l ++ m) := by
  unfold Cnt cK at *
  rw [List.count_append]
  refine ⟨by simp only [Dd.plus]; omega, fun hc => ?_⟩
  rw [List.contains_append, Bool.or_eq_false_iff] at hc
  obtain ⟨h1, h2⟩ := h.2 hc.1
  obtain ⟨k1, k2⟩ := k.2 hc.2
  simp only [Dd.plus]; omega
theorem cnt_either {a b : Dd} {l m : List UInt8} (h : Cnt a l) (k : Cnt b m) : Cnt (a.either b) (63 :: 91 :: (l ++ 93 :: 91 :: (m ++ [93]))) := by
  refine ⟨?_, fun hc => by simp at hc⟩
  have h1 := h.1
  have k1 := k.1
  unfold cK at *
  simp only [List.count_cons, List.count_append, List.count_nil, Dd.either]
  simp
  omega

mutual
theorem Stm.cnt (x : Stm) (h : x.wf = true) : Cnt x.dd x.txt := by
  match x with
  | .chg g d =>
    simp only [Stm.wf, Bool.and_eq_true] at h
    have h6 := (dig_ne h.2).2.2.2.2.2
    have e : cK [g, d] = 0 := by
      rcases sgn_cases h.1 with rfl | rfl | rfl <;> simp [cK, h6]
    exact ⟨Nat.zero_le _, fun _ => ⟨e.symm, e.symm⟩⟩
  | .prt => exact ⟨by decide, fun _ => by decide⟩
  | .pro => exact ⟨by decide, fun _ => by decide⟩
  | .call c =>
    simp only [Stm.wf] at h
    have h6 := (let_ne h).2.2.2.2.2
    have e : cK [67, c] = 0 := by simp [cK, h6]
    exact ⟨Nat.zero_le _, fun _ => ⟨e.symm, e.symm⟩⟩
  | .cho a b =>
    simp only [Stm.wf, Bool.and_eq_true] at h
    simp only [Stm.dd, Stm.txt]
    exact cnt_either (cnts a h.1) (cnts b h.2)
theorem cnts (xs : List Stm) (h : wfs xs = true) : Cnt (dds xs) (txts xs) := by
  match xs with
  | [] => exact ⟨by decide, fun _ => by decide⟩
  | x :: xs =>
    simp only [wfs, Bool.and_eq_true] at h
    simp only [dds, txts]
    exact cnt_append (Stm.cnt x h.1) (cnts xs h.2)
end
theorem txts_snoc (xs : List Stm) (x : Stm) : txts (xs ++ [x]) = txts xs ++ x.txt := by
  induction xs with
  | nil => simp [txts]
  | cons y t ih => simp [txts, ih]
theorem wfs_snoc (xs : List Stm) (x : Stm) (h : wfs xs = true) (hx : x.wf = true) : wfs (xs ++ [x]) = true := by
  induction xs with
  | nil => simp [wfs, hx]
  | cons y t ih => simp only [wfs, Bool.and_eq_true, List.cons_append] at h ⊢; exact ⟨h.1, ih h.2⟩

/-- one sign more -/
theorem pof_more {k c b : ByteArray} {xs : List Stm} (h : aspOf k c b = some (2, xs)) (hv : (aspOf k c (b ++ ⟨#[75]⟩)).isSome = true) :
    pof k c (b ++ ⟨#[75]⟩) = ((pof k c b).1 + 1, (pof k c b).2 + 1) := by
  obtain ⟨hk, _, ha, _⟩ := aspOf_some h
  obtain ⟨_, htx, hwf, _⟩ := advOf_some ha
  obtain ⟨⟨n, ys⟩, hy⟩ := Option.isSome_iff_exists.1 hv
  obtain ⟨hk', _, ha', _⟩ := aspOf_some hy
  obtain rfl : n = 2 := by rw [hk] at hk'; exact (Option.some.inj hk').symm
  have hp : pA (b ++ ⟨#[75]⟩ : ByteArray).data.toList = some (xs ++ [.pro]) := (pA_iff _ _).2 ⟨by
    rw [txts_snoc, ← htx]; simp [Stm.txt], wfs_snoc xs _ hwf rfl⟩
  have hq : pA (b ++ ⟨#[75]⟩ : ByteArray).data.toList = some ys := by
    unfold advOf at ha'
    split at ha'
    · exact ha'
    · cases ha'
  obtain rfl : ys = xs ++ [.pro] := by rw [hp] at hq; exact (Option.some.inj hq).symm
  simp only [pof, h, hy, pofN, dds_snoc, Dd.plus, Stm.dd]
  simp
/-- what is to be said of advice around -/
theorem pof_around {k c b : ByteArray} {xs : List Stm} (h : aspOf k c b = some (2, xs)) :
    isAround k = true ∧ 0 ≤ (pof k c b).1 ∧ (pof k c b).1 ≤ (pof k c b).2 ∧ (pof k c b).2 ≤ cK b.data.toList ∧ cK b.data.toList ≤ 60 ∧ (b.data.toList.contains 63 = false → (pof k c b).1 = cK b.data.toList ∧ (pof k c b).2 = cK b.data.toList) := by
  obtain ⟨hk, _, ha, _⟩ := aspOf_some h
  obtain ⟨h60, htx, hwf, ht⟩ := advOf_some ha
  have hc := cnts xs hwf
  rw [← htx] at hc
  have hl := ht.least
  have hcl : cK b.data.toList ≤ 60 := Nat.le_trans List.count_le_length (by simpa using h60)
  have hka : isAround k = true := by
    rcases kindOf_cases hk with ⟨e, _⟩ | ⟨e, _⟩ | ⟨_, e, _⟩
    · cases e
    · cases e
    · exact e
  have e1 : (pof k c b).1 = ((dds xs).least : Int) := by simp [pof, h, pofN]
  have e2 : (pof k c b).2 = ((dds xs).most : Int) := by simp [pof, h, pofN]
  rw [e1, e2]
  refine ⟨hka, by omega, by omega, by have := hc.1; omega, hcl, fun h63 => ?_⟩
  obtain ⟨h1, h2⟩ := hc.2 h63
  omega
/-- and of advice before and after -/
theorem pof_once {k c b : ByteArray} {n : Nat} {xs : List Stm} (h : aspOf k c b = some (n, xs)) (hn : n ≠ 2) : isAround k = false ∧ pof k c b = (1, 1) ∧ cK b.data.toList = 0 := by
  obtain ⟨hk, _, ha, hm⟩ := aspOf_some h
  obtain ⟨_, _, _, ht⟩ := advOf_some ha
  rw [mayStand_says ht] at hm
  have hb : (n == 2) = false := by rw [beq_eq_false_iff_ne]; exact hn
  rw [hb, Bool.false_or, Bool.and_eq_true] at hm
  refine ⟨?_, by simp [pof, h, pofN, hn], ?_⟩
  · rcases kindOf_cases hk with ⟨_, e⟩ | ⟨_, e, _⟩ | ⟨e, _⟩
    · have e := eq_of_beq e
      rw [isAround, e]; rfl
    · have e := eq_of_beq e
      rw [isAround, e]; rfl
    · exact absurd e hn
  · exact List.count_eq_zero.2 (by have := hm.2; simpa using this)
theorem cK_take (l : List UInt8) (k : Nat) (h : k < l.length) : cK (l.take (k + 1)) = cK (l.take k) + if (l[k] == 75) = true then 1 else 0 := by
  unfold cK
  rw [List.take_succ_eq_append_getElem h, List.count_append, List.count_singleton]
end Go.Proofs.YtecifbncfglckaaDoor
