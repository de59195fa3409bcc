/- Rows of aspects put behind rows of one's own; slices of rows; two neighbours that change places, plainly. Condition: at most 2000 elements together. -/
import Derived.Test.YtcahnffgpmanpaaDoorAmk
import Derived.Deep.AppendLies
import Derived.Deep.Upon
import Derived.Lib.AppendZeros
namespace Go.Proofs.YtcahnffgpmanpaaDoor
open Go.RowKit Gram

/-- a row's cells -/
def asC (zs : List As) : List Value := (asF zs).map Value.string
theorem asC_len (zs : List As) : (asC zs).length = zs.length * 3 := by rw [asC, List.length_map, asF_len]
theorem asC_add (xs ys : List As) : asC (xs ++ ys) = asC xs ++ asC ys := by simp [asC, asF]
theorem asC_ones (zs : List As) : ∀ u ∈ asC zs, u.oneCell' = true := by
  intro u hu
  simp only [asC, List.mem_map] at hu
  obtain ⟨x, _, rfl⟩ := hu
  rfl

/-- a row of aspects at block g -/
def Arow (w : World) (B g n c : Nat) (zs : List As) : Prop := w.ownsRow B 35 3 (.slice (some ⟨g, 0, none⟩) n c) n (asC zs)
theorem Arow.lt {w : World} {B g n c : Nat} {zs : List As} (h : Arow w B g n c zs) : B ≤ g ∧ g < w.heap.size := World.ownsRow.lt h g rfl
theorem Arow.room {w : World} {B g n c : Nat} {zs : List As} (h : Arow w B g n c zs) : n ≤ c ∧ c ≤ maxLen := by
  rcases h.2 with ⟨hv, _⟩ | ⟨g', cap, cur, hv, _, _, h1, h2, _⟩
  · cases hv
  · injection hv with _ _ hc; subst hc; exact ⟨h1, h2⟩
theorem Arow.keep {w w' : World} {B g n c : Nat} {zs : List As} (h : Arow w B g n c zs) (hk : w'.heap[g]? = w.heap[g]?) : Arow w' B g n c zs :=
  ownsRow_of h (fun j hj => by injection hj with hj; subst hj; exact hk)
/-- the cells of a part of a row -/
theorem Arow.part {w : World} {B g n c : Nat} {xs ys us : List As} (h : Arow w B g n c (xs ++ ys ++ us)) : ∀ (j : Nat) (u : Value), (asC ys)[j]? = some u → w.cell? ((⟨g, xs.length * 3, none⟩ : Addr).add j) = some u := by
  intro j u hu
  rw [Go.WideShapes.add_plain]
  refine row_cell h _ u ?_
  have hj : j < (asC ys).length := (List.getElem?_eq_some_iff.1 hu).1
  rw [asC_add, asC_add, List.append_assoc, List.getElem?_append_right (by rw [asC_len]; omega), asC_len, Nat.add_sub_cancel_left, List.getElem?_append_left hj]
  exact hu

theorem arow_e {w : World} {B H : Nat} (h : w.heap[H]? = some (.cells #[] 35 (0, 0))) (hb : B ≤ H) : Arow w B H 0 0 [] :=
  ⟨by simp [asC, asF], .inr ⟨H, 0, #[], rfl, hb, h, Nat.le_refl _, Nat.zero_le _, by simp, by simp [asC, asF]⟩⟩

/-- elements put behind a row -/
theorem more_asps (w : World) (B g t cap : Nat) (xs : List As) (hown : Arow w B g t cap xs) (gs off m c : Nat) (ys : List As) (hl : ys.length = m)
    (hnews : ∀ (j : Nat) (u : Value), (asC ys)[j]? = some u → w.cell? ((⟨gs, off, none⟩ : Addr).add j) = some u) (hmax : t + m ≤ 2000) (hB : B ≤ w.heap.size) :
    ∃ g' c' w', (Builtin.append_ #[24, 24] 24 #[.slice (some ⟨g, 0, none⟩) t cap, .slice (some ⟨gs, off, none⟩) m c]).run Tryd.prog w = .ok (.slice (some ⟨g', 0, none⟩) (t + m) c') w' ∧
      Arow w' B g' (t + m) c' (xs ++ ys) ∧ w.grownBy w' (some g) := by
  obtain ⟨i0, hi, hz0, hz1, hz2⟩ := info_parts info_asp
  by_cases h0 : m = 0
  · subst h0
    have hys : ys = [] := List.length_eq_zero_iff.1 hl
    subst hys
    have hsrc : Src Tryd.prog i0.size 24 (.slice (some ⟨gs, off, none⟩) 0 c) 0 [] w := Src.ofSlice w Tryd.underlying24 ⟨gs, off, none⟩ 0 c [] (by simp) (fun j u h => by simp at h) (fun _ h => by cases h)
    exact ⟨g, cap, w, run_append_nothing w _ _ _ 35 i0 Tryd.underlying24 hi (some ⟨g, 0, none⟩) t cap hown.room.1 _ hsrc, by simpa using hown, ⟨rfl, rfl, rfl, Nat.le_refl _, fun _ _ _ => rfl⟩⟩
  · obtain ⟨g', c', w', hrun, h2, h3, _, _⟩ := run_append_lies (P := Tryd.prog) w 24 24 B 35 i0 (aspV ⟨#[]⟩ ⟨#[]⟩ ⟨#[]⟩) 3 48 Tryd.underlying24 hi hz0 hz1 hz2 rfl (by decide) (.slice (some ⟨g, 0, none⟩) t cap) t (asC xs) hown ⟨gs, off, none⟩ m c (asC ys) (by rw [asC_len, hl])
      hnews (asC_ones ys) (by omega) (by unfold maxLen; omega) (by omega) hB w.heap.size rfl
    exact ⟨g', c', w', hrun, by rw [← asC_add] at h2; exact h2, h3⟩

theorem size_asp (w : World) : (sizeOf (Tryd.prog.elem 24)).run Tryd.prog w = .ok 3 w := by kernel_rfl
theorem aslice_low (g n c k : Nat) (i : Int) (hi : i = (k : Int)) (hk : k ≤ n) (w : World) :
    (Instr.slice 24 (.slice (some ⟨g, 0, none⟩) n c) (some (.int .i64 i)) none none).run Tryd.prog w = .ok (.slice (some ⟨g, if c = k then 0 else k * 3, none⟩) (n - k) (c - k)) w := by
  subst hi
  rw [run_slice_l (P := Tryd.prog) (w := w) (t := 24) (ht := by kernel_rfl) (kl := .i64) (l := (k : Int)) (h0 := by omega) (h1 := by omega), size_asp]
  simp only [Result.andThen, sliced, Int.toNat_natCast]
  split
  · rfl
  · rw [Option.map_some, Go.WideShapes.add_plain, Nat.zero_add]
theorem aslice_high (g n c k : Nat) (i : Int) (hi : i = (k : Int)) (hk : k ≤ c) (w : World) :
    (Instr.slice 24 (.slice (some ⟨g, 0, none⟩) n c) none (some (.int .i64 i)) none).run Tryd.prog w = .ok (.slice (some ⟨g, 0, none⟩) k c) w := by
  subst hi
  rw [run_slice_h (P := Tryd.prog) (w := w) (t := 24) (ht := by kernel_rfl) (kh := .i64) (h := (k : Int)) (h0 := by omega) (h2 := by omega), size_asp]
  simp only [Result.andThen, sliced, Int.toNat_natCast]
  split
  · rfl
  · rw [Option.map_some, Go.WideShapes.add_plain]; rfl

theorem step_append_asp {ops : Array Oper} {o : Oper} {a : Act} {w : World} {K : Act → World → Prop} {Q : Exit → Act → World → Prop} {E : Prop} (hgd : o.guard = none) (s x : Operand)
    (ho : o.op = .call { callee := .builtin .append, args := #[s, x], argTypes := #[24, 24] }) (hty : o.type = 24) (vs vx : Value) (hs : a.eval s = vs) (hx : a.eval x = vx) (n : Nat) (R : Nat → Nat → World → Prop)
    (hr : ∃ g c w', (Builtin.append_ #[24, 24] 24 #[vs, vx]).run Tryd.prog w = .ok (.slice (some ⟨g, 0, none⟩) n c) w' ∧ R g c w')
    (h : ∀ g c w', R g c w' → K (a.put o.dst (.slice (some ⟨g, 0, none⟩) n c)) w') :
    if Region.wanted o (yielded ops a.tmps) = true then Oper.wp Tryd.prog o a w K Q else E := by
  have hw : Region.wanted o (yielded ops a.tmps) = true := by simp [Region.wanted, hgd]
  rw [if_pos hw]
  obtain ⟨g, c, w', hrun, hR⟩ := hr
  exact Lib.wp_append_run w s x _ _ ho vs vx hs hx _ w' (by rw [hty]; exact hrun) (h _ _ _ hR)

/-- whether two neighbours may change places, and what comes of it -/
def swOk (zs : List As) (i : Int) : Bool := aspsP zs && (decide (0 ≤ i) && decide (i < (zs.length : Int) - 1))
def swZ (zs : List As) (i : Int) : List As := if swOk zs i = true then zs.take i.toNat ++ (zs.drop (i.toNat + 1)).take 1 ++ (zs.drop i.toNat).take 1 ++ zs.drop (i.toNat + 2) else []
theorem swOk_cut {zs : List As} {i : Int} (h : swOk zs i = true) : aspsP zs = true ∧ ∃ (xs ys : List As) (p q : As), i = (xs.length : Int) ∧ zs = xs ++ [p] ++ [q] ++ ys ∧ swZ zs i = xs ++ [q, p] ++ ys ∧ zs.length ≤ 5 := by
  have h' := h
  unfold swOk at h
  rw [Bool.and_eq_true, Bool.and_eq_true, decide_eq_true_eq, decide_eq_true_eq] at h
  obtain ⟨h1, h2, h3⟩ := h
  have h5 : zs.length ≤ 5 := by
    unfold aspsP at h1
    rw [Bool.and_eq_true, decide_eq_true_eq] at h1
    exact h1.2
  obtain ⟨k, rfl⟩ := Int.eq_ofNat_of_zero_le h2
  have hk : k + 1 < zs.length := by omega
  refine ⟨h1, zs.take k, zs.drop (k + 2), zs[k], zs[k + 1], by rw [List.length_take]; omega, ?_, ?_, h5⟩
  · conv => lhs; rw [← List.take_append_drop k zs, List.drop_eq_getElem_cons (by omega), List.drop_eq_getElem_cons hk]
    simp
  · unfold swZ
    have e1 : (zs.drop (k + 1)).take 1 = [zs[k + 1]] := by rw [List.drop_eq_getElem_cons hk]; rfl
    have e2 : (zs.drop k).take 1 = [zs[k]] := by rw [List.drop_eq_getElem_cons (by omega)]; rfl
    rw [if_pos h', Int.toNat_natCast, e1, e2]
    simp
theorem swZ_len (zs : List As) (i : Int) : (swZ zs i).length ≤ 5 := by
  cases h : swOk zs i with
  | false => unfold swZ; rw [h]; simp
  | true =>
    obtain ⟨_, xs, ys, p, q, _, h2, h3, h4⟩ := swOk_cut h
    rw [h3]
    rw [h2] at h4
    simp at h4 ⊢
    omega

/-- what SwapAspects hands back -/
def SwTo (zs : List As) (i : Int) (w : World) (e : Ending) (w' : World) : Prop :=
  (∃ a c, e = .returned (.tuple #[.slice a (swZ zs i).length c, .bool (swOk zs i)]) ∧ w'.ownsRow w.heap.size 35 3 (.slice a (swZ zs i).length c) (swZ zs i).length ((asF (swZ zs i)).map Value.string)) ∧ Below w.heap.size w w'
theorem swTo_none {zs : List As} {i : Int} {w w' : World} {a : Option Addr} {c : Nat} (h : swOk zs i = false) (ho : w'.ownsRow w.heap.size 35 3 (.slice a 0 c) 0 []) (hb : Below w.heap.size w w') : SwTo zs i w (.returned (.tuple #[.slice a 0 c, .bool false])) w' := by
  have hz : swZ zs i = [] := by unfold swZ; rw [h]; rfl
  exact ⟨⟨a, c, by rw [hz, h]; rfl, by rw [hz]; exact ho⟩, hb⟩
theorem swTo_some {zs : List As} {i : Int} {w w' : World} {g n c : Nat} {us : List As} (h : swOk zs i = true) (hz : swZ zs i = us) (hl : us.length = n) (ho : Arow w' w.heap.size g n c us) (hb : Below w.heap.size w w') : SwTo zs i w (.returned (.tuple #[.slice (some ⟨g, 0, none⟩) n c, .bool true])) w' := by
  subst hz; subst hl
  exact ⟨⟨_, c, by rw [h], ho⟩, hb⟩
end Go.Proofs.YtcahnffgpmanpaaDoor
