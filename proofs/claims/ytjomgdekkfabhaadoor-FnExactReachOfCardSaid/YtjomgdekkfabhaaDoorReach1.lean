/- What is reached by calls, plainly: closed and least sets of letters, and the steps by which they are found. No condition; no walk. -/
import Derived.Test.YtjomgdekkfabhaaDoorCallsOf
namespace Go.Proofs.YtjomgdekkfabhaaDoor
open Go.RowKit Gram

/-- x calls y in a program -/
def CallsIn (ps : List Pr) (x y : UInt8) : Prop := ∃ p ∈ ps, p.1 = x ∧ y ∈ callsIn p.2

/-- l has just what is reached from c -/
structure Reached (C : UInt8 → UInt8 → Prop) (c : UInt8) (l : List UInt8) : Prop where
  first : ∀ y, C c y → y ∈ l
  closed : ∀ x ∈ l, ∀ y, C x y → y ∈ l
  least : ∀ T : UInt8 → Prop, (∀ y, C c y → T y) → (∀ x y, T x → C x y → T y) → ∀ y ∈ l, T y
theorem Reached.same {C : UInt8 → UInt8 → Prop} {c : UInt8} {l l' : List UInt8} (h : Reached C c l) (h' : Reached C c l') (y : UInt8) : y ∈ l ↔ y ∈ l' :=
  ⟨fun hy => h.least (· ∈ l') h'.first (fun x y hx hc => h'.closed x hx y hc) y hy, fun hy => h'.least (· ∈ l) h.first (fun x y hx hc => h.closed x hx y hc) y hy⟩
theorem upTo_same {l l' : List UInt8} (h : ∀ y, y ∈ l ↔ y ∈ l') (n : Nat) : upTo l n = upTo l' n := by
  rw [upTo, upTo]
  apply List.filter_congr
  intro y _
  rw [Bool.eq_iff_iff, List.contains_iff_mem, List.contains_iff_mem]
  exact h y
theorem mem_upTo {l : List UInt8} (hl : lets l) (y : UInt8) : y ∈ setText l ↔ y ∈ l := by
  rw [setText, upTo, List.mem_filter, List.contains_iff_mem]
  constructor
  · exact fun h => h.2
  · intro h
    refine ⟨?_, h⟩
    have := let_rng (hl y h)
    rw [List.mem_map]
    exact ⟨y.toNat, by rw [List.mem_range'_1]; omega, by simp⟩
theorem setText_lets (l : List UInt8) : lets (setText l) := by
  intro c hc
  rw [setText, upTo, List.mem_filter, List.mem_map] at hc
  obtain ⟨⟨n, hn, rfl⟩, _⟩ := hc
  rw [List.mem_range'_1] at hn
  rw [isLet_int]
  have : (UInt8.ofNat n).toNat = n := by rw [UInt8.toNat_ofNat']; omega
  simp [this]; omega

/-- how many letters a set has -/
def card (l : List UInt8) : Nat := (setText l).length
theorem card_le (l : List UInt8) : card l ≤ 26 := by
  refine Nat.le_trans (List.length_filter_le ..) ?_
  simp
theorem filter_lt {α : Type} (p q : α → Bool) (h : ∀ x, p x = true → q x = true) : ∀ l : List α, (l.filter p).length ≤ (l.filter q).length ∧ ((∃ x ∈ l, q x = true ∧ p x = false) → (l.filter p).length < (l.filter q).length)
  | [] => ⟨Nat.le_refl _, fun ⟨_, hx, _⟩ => by simp at hx⟩
  | a :: t => by
    obtain ⟨h1, h2⟩ := filter_lt p q h t
    cases hp : p a with
    | true =>
      have hq := h a hp
      simp only [List.filter_cons, hp, hq, if_true, List.length_cons]
      refine ⟨by omega, ?_⟩
      rintro ⟨x, hx, hxq, hxp⟩
      rcases List.mem_cons.1 hx with rfl | hx
      · rw [hp] at hxp; cases hxp
      · have := h2 ⟨x, hx, hxq, hxp⟩; omega
    | false =>
      cases hq : q a with
      | true =>
        simp only [List.filter_cons, hp, hq, if_true, List.length_cons, Bool.false_eq_true, if_false]
        exact ⟨by omega, fun _ => by omega⟩
      | false =>
        simp only [List.filter_cons, hp, hq, Bool.false_eq_true, if_false]
        refine ⟨h1, ?_⟩
        rintro ⟨x, hx, hxq, hxp⟩
        rcases List.mem_cons.1 hx with rfl | hx
        · rw [hq] at hxq; cases hxq
        · exact h2 ⟨x, hx, hxq, hxp⟩
theorem card_lt {l l' : List UInt8} (h : ∀ y ∈ l, y ∈ l') (y : UInt8) (hy : y ∈ l') (hn : y ∉ l) (hl : isLet y = true) : card l < card l' := by
  refine (filter_lt _ _ (fun x hx => ?_) _).2 ⟨y, ?_, ?_, ?_⟩
  · rw [List.contains_iff_mem] at hx ⊢; exact h x hx
  · have := let_rng hl
    rw [List.mem_map]
    exact ⟨y.toNat, by rw [List.mem_range'_1]; omega, by simp⟩
  · rw [List.contains_iff_mem]; exact hy
  · rw [← Bool.not_eq_true, List.contains_iff_mem]; exact hn
theorem card_mono {l l' : List UInt8} (h : ∀ y ∈ l, y ∈ l') : card l ≤ card l' :=
  (filter_lt _ _ (fun x hx => by rw [List.contains_iff_mem] at hx ⊢; exact h x hx) _).1

/-- what the program's loop keeps -/
structure Reaching (C : UInt8 → UInt8 → Prop) (c : UInt8) (re fr : List UInt8) : Prop where
  done : ∀ x, (x = c ∨ x ∈ re) → x ∉ fr → ∀ y, C x y → y ∈ re
  least : ∀ T : UInt8 → Prop, (∀ y, C c y → T y) → (∀ x y, T x → C x y → T y) → (∀ y ∈ re, T y) ∧ ∀ y ∈ fr, y = c ∨ T y
theorem Reaching.start (C : UInt8 → UInt8 → Prop) (c : UInt8) : Reaching C c [] [c] :=
  ⟨fun x h hn => by rcases h with rfl | h; · simp at hn
                    · simp at h, fun T _ _ => ⟨by simp, fun y hy => .inl (by simpa using hy)⟩⟩
theorem Reaching.step {C : UInt8 → UInt8 → Prop} {c : UInt8} {re fr ca : List UInt8} (h : Reaching C c re fr) (hc : ∀ y, y ∈ ca ↔ ∃ x ∈ fr, C x y) :
    Reaching C c (re ++ ca) (ca.filter fun y => !re.contains y) := by
  refine ⟨?_, ?_⟩
  · intro x hx hn y hy
    rw [List.mem_append]
    by_cases hf : x ∈ fr
    · exact .inr ((hc y).2 ⟨x, hf, hy⟩)
    · left
      refine h.done x ?_ hf y hy
      rcases hx with hx | hx
      · exact .inl hx
      · right
        rcases List.mem_append.1 hx with hx | hx
        · exact hx
        · by_cases hr : x ∈ re
          · exact hr
          · exact absurd (List.mem_filter.2 ⟨hx, by simpa using hr⟩) hn
  · intro T h1 h2
    obtain ⟨a, b⟩ := h.least T h1 h2
    have hca : ∀ y ∈ ca, T y := by
      intro y hy
      obtain ⟨x, hx, hxy⟩ := (hc y).1 hy
      rcases b x hx with rfl | ht
      · exact h1 y hxy
      · exact h2 x y ht hxy
    refine ⟨fun y hy => ?_, fun y hy => .inr (hca y (List.mem_filter.1 hy).1)⟩
    rcases List.mem_append.1 hy with hy | hy
    · exact a y hy
    · exact hca y hy
theorem Reaching.finish {C : UInt8 → UInt8 → Prop} {c : UInt8} {re : List UInt8} (h : Reaching C c re []) : Reached C c re :=
  ⟨fun y hy => h.done c (.inl rfl) (by simp) y hy, fun x hx y hy => h.done x (.inr hx) (by simp) y hy, fun T h1 h2 => (h.least T h1 h2).1⟩

/-- sets as numbers -/
theorem lets_append {a b : List UInt8} (ha : lets a) (hb : lets b) : lets (a ++ b) := by
  intro c hc
  rcases List.mem_append.1 hc with h | h
  · exact ha c h
  · exact hb c h
theorem setOf_append (a b : List UInt8) : setOf (a ++ b) = setOf a ||| setOf b := by
  apply Nat.eq_of_testBit_eq
  intro i
  rw [Nat.testBit_or, setOf_bit, setOf_bit, setOf_bit, List.any_append]
theorem setOf_zero {l : List UInt8} (h : l ≠ []) : setOf l ≠ 0 := by
  cases l with
  | nil => exact absurd rfl h
  | cons c t =>
    intro h0
    have h1 := setOf_bit (c :: t) (c.toNat - 97)
    rw [h0, Nat.zero_testBit] at h1
    simp at h1
theorem less_filter (a b : List UInt8) (ha : lets a) (hb : lets b) : lessOf (setOf a) (setOf b) = setOf (a.filter fun y => !b.contains y) := by
  apply Nat.eq_of_testBit_eq
  intro i
  rw [lessOf_bit, setOf_bit, setOf_bit, setOf_bit, Bool.eq_iff_iff]
  simp only [Bool.and_eq_true, decide_eq_true_eq, Bool.not_eq_true', List.any_eq_true, List.any_eq_false, beq_iff_eq, List.mem_filter]
  constructor
  · rintro ⟨⟨_, c, hc, he⟩, hn⟩
    refine ⟨c, ⟨hc, ?_⟩, he⟩
    rw [← Bool.not_eq_true, List.contains_iff_mem]
    intro hm; exact hn c hm he
  · rintro ⟨c, ⟨hc, hn⟩, he⟩
    have h1 := let_rng (ha c hc)
    refine ⟨⟨by omega, c, hc, he⟩, ?_⟩
    intro d hd hde
    have h2 := let_rng (hb d hd)
    have : d = c := UInt8.toNat.inj (by omega)
    rw [this] at hd
    rw [← Bool.not_eq_true, List.contains_iff_mem] at hn
    exact hn hd
end Go.Proofs.YtjomgdekkfabhaaDoor
