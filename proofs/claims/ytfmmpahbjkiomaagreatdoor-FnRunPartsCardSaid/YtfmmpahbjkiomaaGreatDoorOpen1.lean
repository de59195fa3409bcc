/- What l1Open's walk leans on: rows of procedures, names one behind the other, the ways that fail. Plain lemmas; no walk. -/
import Derived.Test.YtfmmpahbjkiomaaGreatDoorCut
import Derived.Test.YtfmmpahbjkiomaaGreatDoorTxt
import Derived.Test.YtfmmpahbjkiomaaGreatDoorProc
import Derived.Deep.QuietTactic
import Derived.BigQuiet
import Derived.Deep.AppendLies
import Derived.Deep.RegionLaw
namespace Go.Proofs.YtfmmpahbjkiomaaGreatDoor
open Go.RowKit Gram

theorem info_pr : (Tryz.prog.info? 75).map (fun i => (i.zero, i.size, i.bytes)) = some (some (.agg #[.int .u8 0, .string ⟨#[]⟩]), 2, 24) := by kernel_rfl

def prV (p : Pr) : List Value := [.int .u8 p.1.toNat, .string ⟨(txts p.2).toArray⟩]
def prVs (ps : List Pr) : List Value := ps.flatMap prV
theorem prVs_len (ps : List Pr) : (prVs ps).length = ps.length * 2 := by
  induction ps with
  | nil => rfl
  | cons p t ih => simp [prVs, prV] at ih ⊢; omega
theorem prVs_snoc (ps : List Pr) (p : Pr) : prVs (ps ++ [p]) = prVs ps ++ prV p := by simp [prVs]

theorem part_get {w : World} {B : Nat} {e : TypeId} {v : Value} {ps : List (List UInt8)} (h : w.ownsRow B e 1 v ps.length (partVs ps)) (k : Nat) (hk : k < ps.length) :
    ∃ g c, v = .slice (some ⟨g, 0, none⟩) ps.length c ∧ w.cell? ⟨g, k, none⟩ = some (.string (txtOf ps[k])) := by
  rcases h.2 with ⟨h1, h2⟩ | ⟨g, cap, cur, h1, _, _⟩
  · omega
  · subst h1
    exact ⟨g, cap, rfl, row_cell h k _ (by rw [partVs, List.getElem?_map, List.getElem?_eq_getElem hk]; rfl)⟩

theorem procOf_short {p : List UInt8} (h : p.length < 2) : procOf p = none := by
  match p, h with
  | [], _ => rfl
  | [_], _ => rfl
theorem procOf_long {p : List UInt8} (h : 2 ≤ p.length) : procOf p = if isLet (p.getD 0 0) = true ∧ p.getD 1 0 = 58 then (bodyOf (txtOf (p.drop 2))).map fun b => (p.getD 0 0, b) else none := by
  match p, h with
  | n :: c :: r, _ => rfl
theorem procsOf_step (ps : List Pr) (parts : List (List UInt8)) (k : Nat) (h : k < parts.length) : procsOf ps (parts.drop k) = match procOf parts[k] with
    | none => none
    | some x => if lastBelow ps x.1 = true then procsOf (ps ++ [x]) (parts.drop (k + 1)) else none := by
  rw [List.drop_eq_getElem_cons h]; rfl

/-- the rest behind the second sign -/
theorem rest_eq (t : ByteArray) : t.extract (min 2 t.size) t.size = txtOf (t.data.toList.drop 2) := by
  rw [txtOf]
  apply ByteArray.ext
  apply Array.ext'
  simp [Array.toList_extract, List.extract_eq_take_drop]
  rcases Nat.lt_or_ge t.size 2 with h | h
  · rw [Nat.min_eq_right (by omega), List.drop_of_length_le (by simp), List.drop_of_length_le (by simp; omega)]; simp
  · rw [Nat.min_eq_left h, List.take_of_length_le (by simp)]

theorem txt_get (l : List UInt8) (j : Nat) (h : j < (txtOf l).size) : (txtOf l)[j] = l.getD j 0 := by
  have hl : j < l.length := h
  rw [List.getD_eq_getElem?_getD, List.getElem?_eq_getElem hl]; rfl
theorem last_name (ps : List Pr) (n : UInt8) (h : 0 < ps.length) : ∃ j, ∃ hj : j < (txtOf (namesOf ps)).size, (txtOf (namesOf ps)).size = j + 1 ∧ lastBelow ps n = decide ((txtOf (namesOf ps))[j].toNat < n.toNat) := by
  rcases List.eq_nil_or_concat ps with rfl | ⟨qs, q, rfl⟩
  · simp at h
  · rw [List.concat_eq_append] at h ⊢
    have hz : (txtOf (namesOf (qs ++ [q]))).size = qs.length + 1 := by rw [txtOf_size]; simp [namesOf]
    refine ⟨qs.length, by rw [hz]; omega, hz, ?_⟩
    rw [txt_get]
    have : (namesOf (qs ++ [q])).getD qs.length 0 = q.1 := by simp [namesOf, List.getD_eq_getElem?_getD]
    rw [this]
    simp [lastBelow, UInt8.lt_iff_toNat_lt]

theorem names_snoc (ps : List Pr) (t : ByteArray) (h : 0 < t.size) (b : List Stm) : txtOf (namesOf ps) ++ t.extract 0 1 = txtOf (namesOf (ps ++ [(sgn t 0, b)])) := by
  apply ByteArray.ext
  apply Array.toList_inj.1
  have hl : 0 < t.data.toList.length := by simpa using h
  have : (t.extract 0 1).data.toList = [sgn t 0] := by
    rw [sgn, List.getD_eq_getElem?_getD, List.getElem?_eq_getElem hl]
    simp [Array.toList_extract, List.extract_eq_take_drop]
    rw [List.take_one]
    simp [List.head?_eq_getElem?]
  simp only [ByteArray.toList_data_append, this, txtOf, namesOf]
  simp
theorem pr_snoc (ps : List Pr) (t : ByteArray) (h : 0 < t.size) (b : List Stm) (hb : bodyOf (txtOf (t.data.toList.drop 2)) = some b) : prVs ps ++ [.int .u8 t[0].toNat, .string (t.extract 2 t.size)] = prVs (ps ++ [(sgn t 0, b)]) := by
  obtain ⟨_, h2, _⟩ := bodyOf_some hb
  rw [prVs_snoc, prV, sgn_at]
  have : t.extract 2 t.size = ⟨(txts b).toArray⟩ := by
    apply ByteArray.ext
    apply Array.toList_inj.1
    rw [txtOf_data] at h2
    rw [← h2]
    simp [Array.toList_extract, List.extract_eq_take_drop]
    rw [List.take_of_length_le (by simp)]
  rw [this]

theorem last_of (ps : List Pr) (n : UInt8) (nm : ByteArray) (h : 0 < ps.length) (hn : txtOf (namesOf ps) = nm) : ∃ j, ∃ hj : j < nm.size, nm.size = j + 1 ∧ lastBelow ps n = decide (nm[j].toNat < n.toNat) := by
  subst hn; exact last_name ps n h
/-- what l1Open hands back -/
def OpenTo (s : ByteArray) (w : World) (e : Ending) (w' : World) : Prop := ∃ v b ps, e = .returned (.tuple #[v, .bool b]) ∧ Hid ((b = false ∧ progOf s = none) ∨ (b = true ∧ progOf s = some ps)) ∧
  w'.ownsRow w.heap.size 75 2 v ps.length (prVs ps) ∧ Below w.heap.size w w'

theorem prog_none {s : ByteArray} {parts : List (List UInt8)} (hp : cuts s.data.toList = parts) (h : procsOf [] parts = none) : progOf s = none := by
  unfold progOf
  split
  · rw [hp, h]; rfl
  · rfl

theorem row_empty (w wr : World) (h : Below w.heap.size w wr) : (wr.alloc (.cells #[] 75)).ownsRow w.heap.size 75 2 (.slice (some ⟨wr.heap.size, 0, none⟩) 0 0) (List.length ([] : List Pr)) (prVs []) :=
  ⟨by simp [prVs], .inr ⟨wr.heap.size, 0, #[], rfl, h.size, heap_alloc_new wr _, Nat.le_refl _, by simp [maxLen], by simp, by simp [prVs]⟩⟩
theorem failed {s : ByteArray} {w wr : World} {n : Nat} (hN : progOf s = none) (h : Below w.heap.size w wr) : OpenTo s w (.returned (.tuple #[.slice (some ⟨wr.heap.size, 0, none⟩) 0 0, .bool false])) ((wr.drewN n).alloc (.cells #[] 75)) :=
  have h' : Below w.heap.size w (wr.drewN n) := h.trans ⟨rfl, rfl, rfl, Nat.le_refl _, fun _ _ => rfl⟩
  ⟨_, false, [], rfl, .inl ⟨rfl, hN⟩, row_empty w (wr.drewN n) h', h'.alloc h'.size _⟩

theorem cuts_le (l : List UInt8) : ∀ p : List UInt8, (cutsP p l).length ≤ l.length + 1 ∧ ∀ x ∈ cutsP p l, x.length ≤ p.length + l.length := by
  induction l with
  | nil => intro p; simp [cutsP]
  | cons c t ih =>
    intro p
    rw [cutsP]
    split
    · have h := ih []
      refine ⟨by simp; exact h.1, fun x hx => ?_⟩
      rcases List.mem_cons.1 hx with rfl | hx
      · omega
      · have := h.2 x hx; simp at this ⊢; omega
    · have h := ih (p ++ [c])
      refine ⟨by simp; omega, fun x hx => ?_⟩
      have := h.2 x hx; simp at this ⊢; omega

end Go.Proofs.YtfmmpahbjkiomaaGreatDoor
