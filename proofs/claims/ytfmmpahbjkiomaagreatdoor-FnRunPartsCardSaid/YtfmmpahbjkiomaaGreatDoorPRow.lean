/- How a program lies in memory: the row of its procedures, and the bodies that they lead to. Plain lemmas; no walk. -/
import Derived.Test.YtfmmpahbjkiomaaGreatDoorOpen1
namespace Go.Proofs.YtfmmpahbjkiomaaGreatDoor
open Go.RowKit Gram

/-- a procedure and the slice of its body -/
abbrev Qr := Pr × Value
def qV (q : Qr) : List Value := [.int .u8 q.1.1.toNat, q.2]
def qVs (qs : List Qr) : List Value := qs.flatMap qV
theorem qVs_len (qs : List Qr) : (qVs qs).length = qs.length * 2 := by
  induction qs with
  | nil => rfl
  | cons p t ih => simp [qVs, qV] at ih ⊢; omega
theorem qVs_snoc (qs : List Qr) (q : Qr) : qVs (qs ++ [q]) = qVs qs ++ qV q := by simp [qVs]
theorem qVs_get (qs : List Qr) (k : Nat) (hk : k < qs.length) : (qVs qs)[k * 2]? = some (.int .u8 qs[k].1.1.toNat) ∧ (qVs qs)[k * 2 + 1]? = some qs[k].2 := by
  induction qs generalizing k with
  | nil => simp at hk
  | cons p t ih =>
    cases k with
    | zero => exact ⟨rfl, rfl⟩
    | succ k =>
      have := ih k (by simpa using hk)
      simp only [qVs, List.flatMap_cons, qV] at this ⊢
      rw [show (k + 1) * 2 = k * 2 + 2 by omega, show k * 2 + 2 + 1 = (k * 2 + 1) + 2 by omega]
      simpa using this

/-- a program in memory: its procedures' row, and what their bodies lead to -/
structure IsProg (w : World) (B : Nat) (S : Nat → Prop) (qs : List Qr) (v : Value) : Prop where
  row : w.ownsRow B 65 2 v qs.length (qVs qs)
  body : ∀ q ∈ qs, IsBody w S q.1.2 q.2
  set : ∀ k, S k → B ≤ k ∧ ∃ cur fz, w.heap[k]? = some (.cells cur 103 fz)

theorem IsProg.lt {w : World} {B : Nat} {S : Nat → Prop} {qs : List Qr} {v : Value} (h : IsProg w B S qs v) : ∀ k, S k → k < w.heap.size := by
  intro k hk
  obtain ⟨_, cur, fz, hc⟩ := h.set k hk
  exact heap_lt hc
theorem IsProg.row_block {w : World} {B : Nat} {S : Nat → Prop} {qs : List Qr} {v : Value} (h : IsProg w B S qs v) {g : Nat} (hg : v.ownBlock = some g) : B ≤ g ∧ ∃ cur, w.heap[g]? = some (.cells cur 65 (0, 0)) := by
  rcases h.row.2 with ⟨h1, h2⟩ | ⟨g', cap, cur, h1, hb, hc, _⟩
  · rw [h1] at hg; cases hg
  · rw [h1] at hg
    have : g' = g := by simpa [Value.ownBlock] using hg
    subst this
    exact ⟨hb, cur, hc⟩
theorem IsProg.apart {w : World} {B : Nat} {S : Nat → Prop} {qs : List Qr} {v : Value} (h : IsProg w B S qs v) {g : Nat} (hg : v.ownBlock = some g) : ¬ S g := by
  intro hS
  obtain ⟨_, cur, hc⟩ := h.row_block hg
  obtain ⟨_, cur', fz, hc'⟩ := h.set g hS
  rw [hc] at hc'
  injection hc' with hc'
  injection hc' with _ ht _
  exact absurd ht (by decide)
theorem IsProg.kept {w w' : World} {B : Nat} {S : Nat → Prop} {qs : List Qr} {v : Value} (h : IsProg w B S qs v) (hb : ∀ k, k < w.heap.size → w'.heap[k]? = w.heap[k]?) : IsProg w' B S qs v :=
  ⟨ownsRow_of h.row fun g hg => hb g (by obtain ⟨_, cur, hc⟩ := h.row_block hg; exact heap_lt hc),
   fun q hq => (h.body q hq).kept (fun k hk => hb k (h.lt k hk)) (fun _ h => h),
   fun k hk => by obtain ⟨h1, cur, fz, hc⟩ := h.set k hk; exact ⟨h1, cur, fz, by rw [hb k (heap_lt hc)]; exact hc⟩⟩
theorem IsProg.form {w : World} {B : Nat} {S : Nat → Prop} {qs : List Qr} {v : Value} (h : IsProg w B S qs v) : ∃ a c, v = .slice a qs.length c := by
  rcases h.row.2 with ⟨h1, h2⟩ | ⟨g, cap, cur, h1, _⟩
  · exact ⟨none, 0, by rw [h1, h2]⟩
  · exact ⟨_, _, h1⟩
theorem IsProg.empty (w : World) (B : Nat) : IsProg w B (fun _ => False) [] (.slice none 0 0) :=
  ⟨World.ownsRow_nil _ _ _ _, fun q hq => by simp at hq, fun _ h => h.elim⟩
theorem IsProg.get {w : World} {B : Nat} {S : Nat → Prop} {qs : List Qr} {a : Option Addr} {n c : Nat} (h : IsProg w B S qs (.slice a n c)) (k : Nat) (hk : k < qs.length) :
    ∃ g, a = some ⟨g, 0, none⟩ ∧ B ≤ g ∧ w.cell? ⟨g, k * 2, none⟩ = some (.int .u8 qs[k].1.1.toNat) ∧ w.cell? ⟨g, k * 2 + 1, none⟩ = some qs[k].2 := by
  rcases h.row.2 with ⟨h1, h2⟩ | ⟨g, cap, cur, h1, hb, _⟩
  · omega
  · have hr := h.row
    rw [h1] at hr
    have hr2 := hr
    injection h1 with h3 h4 h5
    subst h3
    exact ⟨g, rfl, hb, row_cell hr _ _ (qVs_get qs k hk).1, row_cell hr _ _ (qVs_get qs k hk).2⟩
/-- one procedure more -/
theorem IsProg.snoc {w w1 w2 : World} {B : Nat} {S S2 : Nat → Prop} {qs : List Qr} {v v' : Value} {q : Qr} (h : IsProg w B S qs v) (hB : IsBody w S2 q.1.2 q.2) (hS : ∀ k, S2 k → B ≤ k ∧ ∃ cur fz, w.heap[k]? = some (.cells cur 103 fz))
    (hb : ∀ k, k < w.heap.size → w1.heap[k]? = w.heap[k]?) (hz : w.heap.size ≤ w1.heap.size) (hrow : w2.ownsRow B 65 2 v' (qs.length + 1) (qVs qs ++ qV q)) (hg : w1.grownBy w2 v.ownBlock) :
    IsProg w2 B (fun k => S k ∨ S2 k) (qs ++ [q]) v' := by
  have hk : ∀ k, (S k ∨ S2 k) → w2.heap[k]? = w.heap[k]? := by
    intro k hk
    have hne : v.ownBlock ≠ some k := by
      intro he
      rcases hk with hk | hk
      · exact h.apart he hk
      · obtain ⟨_, cur, hc⟩ := h.row_block he
        obtain ⟨_, cur', fz, hc'⟩ := hS k hk
        rw [hc] at hc'
        injection hc' with hc'
        injection hc' with _ ht _
        exact absurd ht (by decide)
    have hlt : k < w.heap.size := by
      rcases hk with hk | hk
      · exact h.lt k hk
      · obtain ⟨_, cur', fz, hc'⟩ := hS k hk; exact heap_lt hc'
    rw [hg.block k (by omega) (fun e => hne e.symm), hb k hlt]
  refine ⟨by rw [qVs_snoc]; simpa using hrow, ?_, ?_⟩
  · intro p hp
    rcases List.mem_append.1 hp with hp | hp
    · exact (h.body p hp).kept (fun k hS => hk k (.inl hS)) (fun _ h => .inl h)
    · rw [List.mem_singleton.1 hp]
      exact hB.kept (fun k hS => hk k (.inr hS)) (fun _ h => .inr h)
  · intro k hS'
    rcases hS' with h1 | h1
    · obtain ⟨a, cur, fz, hc⟩ := h.set k h1; exact ⟨a, cur, fz, by rw [hk k (.inl h1)]; exact hc⟩
    · obtain ⟨a, cur, fz, hc⟩ := hS k h1; exact ⟨a, cur, fz, by rw [hk k (.inr h1)]; exact hc⟩
end Go.Proofs.YtfmmpahbjkiomaaGreatDoor
