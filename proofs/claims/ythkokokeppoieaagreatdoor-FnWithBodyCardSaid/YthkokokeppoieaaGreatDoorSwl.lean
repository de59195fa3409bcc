/- WithBody of the model where program, name and body are what they must be. Condition: texts of at most 2^20 bytes. -/
import Derived.Test.YthkokokeppoieaaGreatDoorWx
import Derived.Test.YthkokokeppoieaaGreatDoorJx
import Derived.Test.YthkokokeppoieaaGreatDoorStof
import Derived.Deep.AppendLies
import Derived.Deep.Upon
import Derived.BigQuiet
namespace Go.Proofs.YthkokokeppoieaaGreatDoor
open Go.RowKit Gram

theorem size_pr (w : World) : (sizeOf (Tryz.prog.elem 61)).run Tryz.prog w = .ok 2 w := by kernel_rfl
theorem slice_low (g o n c k : Nat) (i : Int) (hi : i = (k : Int)) (hk : k ≤ n) (w : World) :
    (Instr.slice 61 (.slice (some ⟨g, o, none⟩) n c) (some (.int .i64 i)) none none).run Tryz.prog w = .ok (.slice (some ⟨g, o + (if c = k then 0 else k * 2), none⟩) (n - k) (c - k)) w := by
  subst hi
  rw [run_slice_l (P := Tryz.prog) (w := w) (t := 61) (ht := by kernel_rfl) (kl := .i64) (l := (k : Int)) (h0 := by omega) (h1 := by omega), size_pr]
  simp only [Result.andThen, sliced, Int.toNat_natCast]
  split
  · rfl
  · rw [Option.map_some, Go.WideShapes.add_plain]

theorem slice_high (g n c k : Nat) (i : Int) (hi : i = (k : Int)) (hk : k ≤ c) (w : World) :
    (Instr.slice 61 (.slice (some ⟨g, 0, none⟩) n c) none (some (.int .i64 i)) none).run Tryz.prog w = .ok (.slice (some ⟨g, 0, none⟩) k c) w := by
  subst hi
  rw [run_slice_h (P := Tryz.prog) (w := w) (t := 61) (ht := by kernel_rfl) (kh := .i64) (h := (k : Int)) (h0 := by omega) (h2 := by omega), size_pr]
  simp only [Result.andThen, sliced, Int.toNat_natCast]
  split
  · rfl
  · rw [Option.map_some, Go.WideShapes.add_plain]; rfl
theorem row_made2 (w : World) (B : Nat) (hb : B ≤ w.heap.size) : (w.alloc (.cells #[] 69)).ownsRow B 69 2 (.slice (some ⟨w.heap.size, 0, none⟩) 0 0) 0 [] :=
  ⟨by simp, .inr ⟨w.heap.size, 0, #[], rfl, hb, heap_alloc_new _ _, Nat.le_refl _, Nat.zero_le _, by simp, by simp⟩⟩

theorem told_any (T : ByteArray) (hT : T.size ≤ 1073741824) (w : World) : Calls Tryz.prog 30 #[.string T] w fun e w' => e = .returned (validT T) ∧ Below w.heap.size w w' := by
  have HV := Lib.hid (spec_valid T w hT)
  unfold validT
  cases hv : (progOf T).isSome with
  | true =>
    rw [hv] at HV
    rw [if_pos rfl]
    go_enter Tryz.func30, Tryz.ntmps30
    go_wp2_with fail
    refine HV.out.mono ?_
    rintro e w1 ⟨rfl, hb⟩
    go_wp2_with fail
    go_ret2
    exact ⟨rfl, hb⟩
  | false =>
    rw [hv] at HV
    rw [if_neg (by decide)]
    go_enter Tryz.func30, Tryz.ntmps30
    go_wp2_with fail
    refine HV.out.mono ?_
    rintro e w1 ⟨rfl, hb⟩
    go_wp2_with fail
    go_ret2
    exact ⟨rfl, hb⟩
theorem prVs_drop (ps : List Pr) (k : Nat) : prVs (ps.drop k) = (prVs ps).drop (k * 2) := by
  induction ps generalizing k with
  | nil => simp [prVs]
  | cons p t ih =>
    cases k with
    | zero => simp [prVs]
    | succ k => rw [List.drop_succ_cons, ih, show prVs (p :: t) = prV p ++ prVs t from rfl, show (k + 1) * 2 = k * 2 + 1 + 1 by omega]; rfl
theorem news_drop {w W : World} {B g n c q : Nat} {ps : List Pr} (h : w.ownsRow B 69 2 (.slice (some ⟨g, 0, none⟩) n c) n (prVs ps)) (hb : W.heap[g]? = w.heap[g]?) :
    ∀ (j : Nat) (u : Value), (prVs (ps.drop q))[j]? = some u → W.cell? ((⟨g, q * 2, none⟩ : Addr).add j) = some u := by
  intro j u hu
  rw [prVs_drop, List.getElem?_drop] at hu
  rw [Go.WideShapes.add_plain, World.cell?_of_block (a := ⟨g, q * 2 + j, none⟩) hb]
  exact row_cell h _ u hu
theorem asc_lets (l : List UInt8) (h : asc l) : ∀ b, (∀ x ∈ l, b ≤ x.toNat) → (∀ x ∈ l, x.toNat ≤ 122) → b ≤ 123 → l.length ≤ 123 - b := by
  induction l with
  | nil => intro b _ _ _; exact Nat.zero_le _
  | cons c t ih =>
    intro b hb hu hb2
    rw [asc, List.pairwise_cons] at h
    have h1 := hb c List.mem_cons_self
    have h2 := hu c List.mem_cons_self
    have h3 := ih h.2 (c.toNat + 1) (fun x hx => h.1 x hx) (fun x hx => hu x (List.mem_cons_of_mem _ hx)) (by omega)
    rw [List.length_cons]
    omega
theorem prog_len {ps : List Pr} (h : asc (namesOf ps)) (hg : ∀ p ∈ ps, Good p) : ps.length ≤ 26 := by
  have hl : ∀ x ∈ namesOf ps, 97 ≤ x.toNat ∧ x.toNat ≤ 122 := by
    intro x hx
    rw [namesOf, List.mem_map] at hx
    obtain ⟨p, hp, rfl⟩ := hx
    exact let_rng (hg p hp).2.2.2
  have := asc_lets _ h 97 (fun x hx => (hl x hx).1) (fun x hx => (hl x hx).2) (by omega)
  simpa [namesOf] using this
theorem rows_pr (ps : List Pr) : prVs ps = rVs (ps.map rwOf) := by
  rw [prVs, rVs, List.flatMap_map]; rfl
theorem step_append_run {ops : Array Oper} {o : Oper} {a : Act} {w : World} {K : Act → World → Prop} {Q : Exit → Act → World → Prop} {E : Prop} (hgd : o.guard = none) (s x : Operand) (t : TypeId)
    (ho : o.op = .call { callee := .builtin .append, args := #[s, x], argTypes := #[t, t] }) (vs vx : Value) (hs : a.eval s = vs) (hx : a.eval x = vx) (v' : Value) (w' : World)
    (hr : (Builtin.append_ #[t, t] o.type #[vs, vx]).run Tryz.prog w = .ok v' w') (h : K (a.put o.dst v') w') :
    if Region.wanted o (yielded ops a.tmps) = true then Oper.wp Tryz.prog o a w K Q else E := by
  have hw : Region.wanted o (yielded ops a.tmps) = true := by simp [Region.wanted, hgd]
  rw [if_pos hw]
  exact Lib.wp_append_run w s x t t ho vs vx hs hx v' w' hr h
theorem app_none (w : World) (b : Nat) (l cap : Nat) (hle : l ≤ cap) (g o cc m : Nat) (hm : m = 0) :
    (Builtin.append_ #[61, 61] 61 #[.slice (some ⟨b, 0, none⟩) l cap, .slice (some ⟨g, o, none⟩) m cc]).run Tryz.prog w = .ok (.slice (some ⟨b, 0, none⟩) l cap) w := by
  subst hm
  obtain ⟨i0, hi, hz0, hz1, hz2⟩ := info_parts info_pr
  exact run_append_nothing w 61 61 61 69 i0 Tryz.underlying61 hi _ l cap hle _ (Src.ofSlice (P := Tryz.prog) (w := w) (hk := Tryz.underlying61) (a := ⟨g, o, none⟩) (n := 0) (c := cc) (news := []) (hl := by simp) (hnews := by simp) (h1 := by simp))
theorem row_e {W : World} {B H : Nat} (h : W.heap[H]? = some (.cells #[] 69 (0, 0))) (hb : B ≤ H) : W.ownsRow B 69 2 (.slice (some ⟨H, 0, none⟩) 0 0) 0 [] :=
  ⟨by simp, .inr ⟨H, 0, #[], rfl, hb, h, Nat.le_refl _, Nat.zero_le _, by simp, by simp⟩⟩
theorem row_zero {W : World} {B k c : Nat} {a : Option Addr} {xs : List Value} (h : W.ownsRow B 69 2 (.slice a (0 + k) c) (0 + k) ([] ++ xs)) : W.ownsRow B 69 2 (.slice a k c) k xs := by
  rw [Nat.zero_add, List.nil_append] at h; exact h
theorem heap_two (w : World) (o : Obj) (cs : Array Value) {e : TypeId} : ((w.alloc o).alloc (.cells cs e)).heap[w.heap.size + 1]? = some (.cells cs e (0, 0)) := by
  rw [← alloc_size' w o]; exact heap_alloc_new _ _
theorem prVs_take (ps : List Pr) (k : Nat) : prVs (ps.take k) = (prVs ps).take (k * 2) := by
  induction ps generalizing k with
  | nil => simp [prVs]
  | cons p t ih =>
    cases k with
    | zero => simp [prVs]
    | succ k => rw [List.take_succ_cons, show prVs (p :: t.take k) = prV p ++ prVs (t.take k) from rfl, ih, show (k + 1) * 2 = k * 2 + 1 + 1 by omega]; rfl
theorem news_row {w W : World} {B g n c k : Nat} {ps : List Pr} (h : w.ownsRow B 69 2 (.slice (some ⟨g, 0, none⟩) n c) n (prVs ps)) (_hk : k ≤ n) (hb : W.heap[g]? = w.heap[g]?) :
    ∀ (j : Nat) (u : Value), (prVs (ps.take k))[j]? = some u → W.cell? ((⟨g, 0, none⟩ : Addr).add j) = some u := by
  intro j u hu
  rw [prVs_take, List.getElem?_take] at hu
  split at hu
  · rw [Go.WideShapes.add_plain, Nat.zero_add, World.cell?_of_block (a := ⟨g, j, none⟩) hb]
    exact row_cell h j u hu
  · cases hu
theorem ones_pr (ps : List Pr) : ∀ u ∈ prVs ps, u.oneCell' = true := by
  intro u hu
  rw [prVs, List.mem_flatMap] at hu
  obtain ⟨p, _, hp⟩ := hu
  simp [prV] at hp
  rcases hp with rfl | rfl <;> rfl

theorem has_at {l : List UInt8} {t : UInt8} (h : asc l) {k : Nat} (hk : k = rank l t) (hl : k < l.length) : l.contains t = (l[k] == t) := by
  rw [Bool.eq_iff_iff, rank_has l t h, beq_iff_eq]
  subst hk
  exact ⟨fun ⟨_, h⟩ => h, fun h => ⟨hl, h⟩⟩
theorem has_end {l : List UInt8} {t : UInt8} (h : asc l) {k : Nat} (hk : k = rank l t) (hl : l.length ≤ k) : l.contains t = false := by
  rw [Bool.eq_false_iff, Ne, rank_has l t h]
  rintro ⟨h1, _⟩
  omega
/-- the procedures of the result -/
def outP (ps : List Pr) (t : UInt8) (xs : List Stm) (r q : Nat) : List Pr := ps.take r ++ [(t, xs)] ++ ps.drop q
theorem out_rows {ps : List Pr} {bt : ByteArray} {xs : List Stm} (hg : ∀ p ∈ ps, Good p) (hb : bodyOf bt = some xs) (r q : Nat) (t : UInt8) :
    prVs (ps.take r) ++ [.int .u8 t.toNat, .string bt] ++ prVs (ps.drop q) = rVs ((outP ps t xs r q).map rwOf) ∧ ∀ p ∈ (outP ps t xs r q).map rwOf, p.2.size ≤ 400 := by
  obtain ⟨h1, h2, _⟩ := bodyOf_some hb
  have hbt : bt = txtOf (txts xs) := by
    rw [← h2]; rfl
  constructor
  · rw [← rows_pr, outP]
    simp only [prVs, List.flatMap_append, List.flatMap_cons, List.flatMap_nil, List.append_nil]
    rw [hbt]; rfl
  · intro p hp
    rw [List.mem_map] at hp
    obtain ⟨p', hp', rfl⟩ := hp
    simp only [rwOf, txtOf_size]
    rw [outP, List.mem_append, List.mem_append] at hp'
    rcases hp' with (hp' | hp') | hp'
    · exact (hg p' (List.mem_of_mem_take hp')).2.2.1
    · rw [List.mem_singleton] at hp'
      subst hp'
      rw [← h2]; simpa using h1
    · exact (hg p' (List.mem_of_mem_drop hp')).2.2.1
theorem out_len (ps : List Pr) (t : UInt8) (xs : List Stm) (r q : Nat) (hr : r ≤ ps.length) : ((outP ps t xs r q).map rwOf).length = r + 1 + (ps.length - q) := by
  simp [outP]; omega
end Go.Proofs.YthkokokeppoieaaGreatDoor
