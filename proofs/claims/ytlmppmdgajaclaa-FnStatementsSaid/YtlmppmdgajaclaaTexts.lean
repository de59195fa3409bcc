/- The law FnStatements answers true, whatever bytes it is given: each statement of a drawn body is a body of one, they make the body, and the body twice has twice as many, if it is one. No condition but that the bytes can be read. -/
import Derived.Test.YtlmppmdgajaclaaDraw5
import Derived.Test.YtlmppmdgajaclaaLaw
namespace Go.Proofs.Ytlmppmdgajaclaa
open Go.RowKit Gram

set_option maxHeartbeats 1000000 in
theorem texts_true (a b : Option Addr) (n c d : Nat) (B B' : Nat) (ss : List ByteArray) (w : World) (hn : n ≤ 1000) (ha : w.ownsRow B 9 1 (.slice a n c) n (ss.map Value.string)) (hb : w.ownsRow B' 9 1 (.slice b n d) n (ss.map Value.string)) :
    Calls Try.prog 8 #[.slice a n c, .slice b n d] w fun e w' => e = .returned (.bool true) ∧ Still w w' := by
  have HA := Lib.hid ha
  have HB := Lib.hid hb
  clear ha hb
  go_enter Try.func8, Try.ntmps8
  go_wp2_with fail
  go_loopw [11] (fun i wr => ∃ k : Nat, k ≤ n ∧ i = .int .i64 k ∧ Still w wr) (fun i _ => n - (intOf i).toNat)
  case atStart => exact ⟨0, Nat.zero_le _, by go_num, Still.refl w⟩
  case round =>
    obtain ⟨k, hk, rfl, hst⟩ := hrel
    by_cases hlt : k < n
    · obtain ⟨g, s, rfl, hs, hc1, _⟩ := strs_get HA.out k hlt
      obtain ⟨g', s', rfl, hs', hc2, _⟩ := strs_get HB.out k hlt
      have he : s' = s := by rw [hs] at hs'; injection hs' with h; exact h.symm
      subst he
      have c1 : wr.cell? ⟨g, k, none⟩ = some (.string s') := by rw [← hc1]; exact World.cell?_of_block (a := ⟨g, k, none⟩) (by rw [hst.1])
      have c2 : wr.cell? ⟨g', k, none⟩ = some (.string s') := by rw [← hc2]; exact World.cell?_of_block (a := ⟨g', k, none⟩) (by rw [hst.1])
      clear hs hs' hc1 hc2
      go_wp2_with fail
      go_quiet (fail)
      go_wp2_with fail
      go_roundw
      case rel => exact ⟨k + 1, by omega, by go_num, hst.drewN _⟩
      case measure => simp [intOf]; omega
    · go_wp2_with fail
      go_ret
      exact ⟨rfl, hst⟩

theorem data_append (a b : ByteArray) : (a ++ b).data.toList = a.data.toList ++ b.data.toList := by simp
theorem size_data (a : ByteArray) : a.data.toList.length = a.size := by simp

theorem len_mem {x : Stm} : ∀ {xs : List Stm}, x ∈ xs → x.txt.length ≤ (txts xs).length
  | [], h => by cases h
  | y :: ys, h => by
    rcases List.mem_cons.1 h with rfl | h
    · simp [txts]
    · have := len_mem h; simp [txts]; omega
theorem wf_mem {x : Stm} : ∀ {xs : List Stm}, x ∈ xs → wfs xs = true → x.wf = true
  | [], h, _ => by cases h
  | y :: ys, h, hw => by
    simp [wfs] at hw
    rcases List.mem_cons.1 h with rfl | h
    · exact hw.1
    · exact wf_mem h hw.2
theorem nk_mem {x : Stm} : ∀ {xs : List Stm}, x ∈ xs → nks xs = true → x.nk = true
  | [], h, _ => by cases h
  | y :: ys, h, hw => by
    simp [nks] at hw
    rcases List.mem_cons.1 h with rfl | h
    · exact hw.1
    · exact nk_mem h hw.2

theorem piece_of {s : ByteArray} {xs : List Stm} {x : Stm} (h : bodyOf s = some xs) (hx : x ∈ xs) : bodyOf ⟨x.txt.toArray⟩ = some [x] := by
  obtain ⟨h1, h2, h3, h4⟩ := bodyOf_some h
  have hl := len_mem hx
  have hs := size_data s
  rw [h2] at hs
  have hz : (⟨x.txt.toArray⟩ : ByteArray).size = x.txt.length := by simp [ByteArray.size]
  unfold bodyOf
  rw [if_pos (by rw [hz]; omega)]
  have := reads_complete false [x] (by simp [wfs, wf_mem hx h3]) (by rw [fks_false]; simp [nks, nk_mem hx h4])
  simpa [txts] using this

theorem piece_plain {s : ByteArray} {ss : List ByteArray} (he : txtsOf s = ss) (k : Nat) (hk : k < ss.length) (t : ByteArray) (ht : ss[k]? = some t) : txtsOf t = [t] ∧ okOf t = true := by
  subst he
  simp only [txtsOf, List.getElem?_map, Option.map_eq_some_iff] at ht
  obtain ⟨x, hx, rfl⟩ := ht
  unfold stmsOf at hx
  cases h : bodyOf s with
  | none => rw [h] at hx; simp at hx
  | some xs =>
    rw [h] at hx
    have hp := piece_of h (List.mem_of_getElem? hx)
    exact ⟨by simp [txtsOf, stmsOf, hp], by simp [okOf, hp]⟩

/-- the texts one behind the other -/
def cat (ss : List ByteArray) : ByteArray := ⟨(ss.flatMap fun t => t.data.toList).toArray⟩
theorem cat_nil : cat [] = ⟨#[]⟩ := rfl
theorem cat_snoc (ss : List ByteArray) (t : ByteArray) : cat (ss ++ [t]) = cat ss ++ t := by
  apply ByteArray.ext
  apply Array.toList_inj.1
  rw [data_append]
  simp [cat]
theorem cat_take (ss : List ByteArray) (k : Nat) (t : ByteArray) (h : ss[k]? = some t) : cat (ss.take (k + 1)) = cat (ss.take k) ++ t := by
  rw [← cat_snoc, List.take_add_one, h]; rfl
theorem cat_size_le (ss : List ByteArray) (k : Nat) : (cat (ss.take k)).size ≤ (cat ss).size := by
  have h : ∀ l : List ByteArray, (cat l).size = (l.map fun t => t.size).sum := by
    intro l
    show (List.toArray _).size = _
    rw [List.size_toArray, List.length_flatMap]
    rfl
  rw [h, h]
  have : (ss.map fun t => t.size).sum = ((ss.take k).map fun t => t.size).sum + ((ss.drop k).map fun t => t.size).sum := by
    rw [← List.sum_append, ← List.map_append, List.take_append_drop]
  omega
theorem flat_txts (xs : List Stm) : (xs.map fun x => (⟨x.txt.toArray⟩ : ByteArray)).flatMap (fun t => t.data.toList) = txts xs := by
  induction xs with
  | nil => rfl
  | cons x xs ih => simp [txts] at ih ⊢; exact ih
theorem cat_all {s : ByteArray} (h : okOf s = true) : cat (txtsOf s) = s := by
  unfold okOf at h
  cases hb : bodyOf s with
  | none => rw [hb] at h; simp at h
  | some xs =>
    obtain ⟨h1, h2, h3, h4⟩ := bodyOf_some hb
    have : txtsOf s = xs.map fun x => (⟨x.txt.toArray⟩ : ByteArray) := by simp [txtsOf, stmsOf, hb]
    rw [this, cat, flat_txts, ← h2]

theorem twice_of {s : ByteArray} (h : okOf s = true) (h2 : okOf (s ++ s) = true) : (txtsOf (s ++ s)).length = 2 * (txtsOf s).length := by
  unfold okOf at h h2
  cases hb : bodyOf s with
  | none => rw [hb] at h; simp at h
  | some xs =>
    cases hc : bodyOf (s ++ s) with
    | none => rw [hc] at h2; simp at h2
    | some ys =>
      obtain ⟨_, b2, b3, _⟩ := bodyOf_some hb
      obtain ⟨_, c2, c3, _⟩ := bodyOf_some hc
      have e1 : pA (s ++ s).data.toList = some ys := (pA_iff _ _).2 ⟨c2, c3⟩
      have e2 : pA (s ++ s).data.toList = some (xs ++ xs) := (pA_iff _ _).2 ⟨by rw [data_append, b2, txts_append], by rw [wfs_append, b3]; rfl⟩
      rw [e1] at e2
      injection e2 with e2
      simp [txtsOf, stmsOf, hb, hc, e2]
      omega
end Go.Proofs.Ytlmppmdgajaclaa
