/- What is reached by calls, plainly: closed and least sets of letters, and the steps by which they are found. No condition; no walk. reach: a set that is closed under calls and least. Condition: a program as readProgram lays it. The law FnExactReachOf answers true at every pair of texts. Condition: the library's own number can be read. -/
import Derived.Test.YtihjkkoaccmefaaDoorCallsOf
namespace Go.Proofs.YtihjkkoaccmefaaDoor
open Go.RowKit Gram

/-- x calls y in a program -/
def CallsIn (ps : List Pr) (x y : UInt8) : Prop := ∃ p ∈ ps, p.1 = x ∧ y ∈ callsIn p.2

/-- l has just what is reached from c -/
structure Reached (C : UInt8 → UInt8 → Prop) (c : UInt8) (l : List UInt8) : Prop where
  first : ∀ y, C c y → y ∈ l
  closed : ∀ x ∈ l, ∀ y, C x y → y ∈ l
  least : ∀ T : UInt8 → Prop, (∀ y, C c y → T y) → (∀ x y, T x → C x y → T y) → ∀ y ∈ l, T y
theorem Reached.same {C : UInt8 → UInt8 → Prop} {c : UInt8} {l l' : List UInt8} (h : Reached C c l) (h' : Reached C c l') (y : UInt8) : y ∈ l ↔ y ∈ l' :=
  ⟨fun hy => h.least (· ∈ l') h'.first (fun x y hx hc => h'.closed x hx y hc) y hy, fun hy => h'.least (· ∈ l) h.first (fun x y hx hc => h.closed x hx y hc) y hy⟩
theorem upTo_same {l l' : List UInt8} (h : ∀ y, y ∈ l ↔ y ∈ l') (n : Nat) : upTo l n = upTo l' n := by
  rw [upTo, upTo]
  apply List.filter_congr
  intro y _
  rw [Bool.eq_iff_iff, List.contains_iff_mem, List.contains_iff_mem]
  exact h y
theorem mem_upTo {l : List UInt8} (hl : lets l) (y : UInt8) : y ∈ setText l ↔ y ∈ l := by
  rw [setText, upTo, List.mem_filter, List.contains_iff_mem]
  constructor
  · exact fun h => h.2
  · intro h
    refine ⟨?_, h⟩
    have := let_rng (hl y h)
    rw [List.mem_map]
    exact ⟨y.toNat, by rw [List.mem_range'_1]; omega, by simp⟩
theorem setText_lets (l : List UInt8) : lets (setText l) := by
  intro c hc
  rw [setText, upTo, List.mem_filter, List.mem_map] at hc
  obtain ⟨⟨n, hn, rfl⟩, _⟩ := hc
  rw [List.mem_range'_1] at hn
  rw [isLet_int]
  have : (UInt8.ofNat n).toNat = n := by rw [UInt8.toNat_ofNat']; omega
  simp [this]; omega

/-- how many letters a set has -/
def card (l : List UInt8) : Nat := (setText l).length
theorem card_le (l : List UInt8) : card l ≤ 26 := by
  refine Nat.le_trans (List.length_filter_le ..) ?_
  simp
theorem filter_lt {α : Type} (p q : α → Bool) (h : ∀ x, p x = true → q x = true) : ∀ l : List α, (l.filter p).length ≤ (l.filter q).length ∧ ((∃ x ∈ l, q x = true ∧ p x = false) → (l.filter p).length < (l.filter q).length)
  | [] => ⟨Nat.le_refl _, fun ⟨_, hx, _⟩ => by simp at hx⟩
  | a :: t => by
    obtain ⟨h1, h2⟩ := filter_lt p q h t
    cases hp : p a with
    | true =>
      have hq := h a hp
      simp only [List.filter_cons, hp, hq, if_true, List.length_cons]
      refine ⟨by omega, ?_⟩
      rintro ⟨x, hx, hxq, hxp⟩
      rcases List.mem_cons.1 hx with rfl | hx
      · rw [hp] at hxp; cases hxp
      · have := h2 ⟨x, hx, hxq, hxp⟩; omega
    | false =>
      cases hq : q a with
      | true =>
        simp only [List.filter_cons, hp, hq, if_true, List.length_cons, Bool.false_eq_true, if_false]
        exact ⟨by omega, fun _ => by omega⟩
      | false =>
        simp only [List.filter_cons, hp, hq, Bool.false_eq_true, if_false]
        refine ⟨h1, ?_⟩
        rintro ⟨x, hx, hxq, hxp⟩
        rcases List.mem_cons.1 hx with rfl | hx
        · rw [hq] at hxq; cases hxq
        · exact h2 ⟨x, hx, hxq, hxp⟩
theorem card_lt {l l' : List UInt8} (h : ∀ y ∈ l, y ∈ l') (y : UInt8) (hy : y ∈ l') (hn : y ∉ l) (hl : isLet y = true) : card l < card l' := by
  refine (filter_lt _ _ (fun x hx => ?_) _).2 ⟨y, ?_, ?_, ?_⟩
  · rw [List.contains_iff_mem] at hx ⊢; exact h x hx
  · have := let_rng hl
    rw [List.mem_map]
    exact ⟨y.toNat, by rw [List.mem_range'_1]; omega, by simp⟩
  · rw [List.contains_iff_mem]; exact hy
  · rw [← Bool.not_eq_true, List.contains_iff_mem]; exact hn
theorem card_mono {l l' : List UInt8} (h : ∀ y ∈ l, y ∈ l') : card l ≤ card l' :=
  (filter_lt _ _ (fun x hx => by rw [List.contains_iff_mem] at hx ⊢; exact h x hx) _).1

/-- what the program's loop keeps -/
structure Reaching (C : UInt8 → UInt8 → Prop) (c : UInt8) (re fr : List UInt8) : Prop where
  done : ∀ x, (x = c ∨ x ∈ re) → x ∉ fr → ∀ y, C x y → y ∈ re
  least : ∀ T : UInt8 → Prop, (∀ y, C c y → T y) → (∀ x y, T x → C x y → T y) → (∀ y ∈ re, T y) ∧ ∀ y ∈ fr, y = c ∨ T y
theorem Reaching.start (C : UInt8 → UInt8 → Prop) (c : UInt8) : Reaching C c [] [c] :=
  ⟨fun x h hn => by rcases h with rfl | h; · simp at hn
                    · simp at h, fun T _ _ => ⟨by simp, fun y hy => .inl (by simpa using hy)⟩⟩
theorem Reaching.step {C : UInt8 → UInt8 → Prop} {c : UInt8} {re fr ca : List UInt8} (h : Reaching C c re fr) (hc : ∀ y, y ∈ ca ↔ ∃ x ∈ fr, C x y) :
    Reaching C c (re ++ ca) (ca.filter fun y => !re.contains y) := by
  refine ⟨?_, ?_⟩
  · intro x hx hn y hy
    rw [List.mem_append]
    by_cases hf : x ∈ fr
    · exact .inr ((hc y).2 ⟨x, hf, hy⟩)
    · left
      refine h.done x ?_ hf y hy
      rcases hx with hx | hx
      · exact .inl hx
      · right
        rcases List.mem_append.1 hx with hx | hx
        · exact hx
        · by_cases hr : x ∈ re
          · exact hr
          · exact absurd (List.mem_filter.2 ⟨hx, by simpa using hr⟩) hn
  · intro T h1 h2
    obtain ⟨a, b⟩ := h.least T h1 h2
    have hca : ∀ y ∈ ca, T y := by
      intro y hy
      obtain ⟨x, hx, hxy⟩ := (hc y).1 hy
      rcases b x hx with rfl | ht
      · exact h1 y hxy
      · exact h2 x y ht hxy
    refine ⟨fun y hy => ?_, fun y hy => .inr (hca y (List.mem_filter.1 hy).1)⟩
    rcases List.mem_append.1 hy with hy | hy
    · exact a y hy
    · exact hca y hy
theorem Reaching.finish {C : UInt8 → UInt8 → Prop} {c : UInt8} {re : List UInt8} (h : Reaching C c re []) : Reached C c re :=
  ⟨fun y hy => h.done c (.inl rfl) (by simp) y hy, fun x hx y hy => h.done x (.inr hx) (by simp) y hy, fun T h1 h2 => (h.least T h1 h2).1⟩

/-- sets as numbers -/
theorem lets_append {a b : List UInt8} (ha : lets a) (hb : lets b) : lets (a ++ b) := by
  intro c hc
  rcases List.mem_append.1 hc with h | h
  · exact ha c h
  · exact hb c h
theorem setOf_append (a b : List UInt8) : setOf (a ++ b) = setOf a ||| setOf b := by
  apply Nat.eq_of_testBit_eq
  intro i
  rw [Nat.testBit_or, setOf_bit, setOf_bit, setOf_bit, List.any_append]
theorem setOf_zero {l : List UInt8} (h : l ≠ []) : setOf l ≠ 0 := by
  cases l with
  | nil => exact absurd rfl h
  | cons c t =>
    intro h0
    have h1 := setOf_bit (c :: t) (c.toNat - 97)
    rw [h0, Nat.zero_testBit] at h1
    simp at h1
theorem less_filter (a b : List UInt8) (ha : lets a) (hb : lets b) : lessOf (setOf a) (setOf b) = setOf (a.filter fun y => !b.contains y) := by
  apply Nat.eq_of_testBit_eq
  intro i
  rw [lessOf_bit, setOf_bit, setOf_bit, setOf_bit, Bool.eq_iff_iff]
  simp only [Bool.and_eq_true, decide_eq_true_eq, Bool.not_eq_true', List.any_eq_true, List.any_eq_false, beq_iff_eq, List.mem_filter]
  constructor
  · rintro ⟨⟨_, c, hc, he⟩, hn⟩
    refine ⟨c, ⟨hc, ?_⟩, he⟩
    rw [← Bool.not_eq_true, List.contains_iff_mem]
    intro hm; exact hn c hm he
  · rintro ⟨c, ⟨hc, hn⟩, he⟩
    have h1 := let_rng (ha c hc)
    refine ⟨⟨by omega, c, hc, he⟩, ?_⟩
    intro d hd hde
    have h2 := let_rng (hb d hd)
    have : d = c := UInt8.toNat.inj (by omega)
    rw [this] at hd
    rw [← Bool.not_eq_true, List.contains_iff_mem] at hn
    exact hn hd
end Go.Proofs.YtihjkkoaccmefaaDoor
namespace Go.Proofs.YtihjkkoaccmefaaDoor
open Go.RowKit Gram

/-- how many bits of the first 26 are set -/
def nb (m : Nat) : Nat := (((List.range' 97 26).map UInt8.ofNat).filter fun c => m.testBit (c.toNat - 97)).length
theorem nb_set (l : List UInt8) (hl : lets l) : nb (setOf l) = card l := by
  rw [nb, card, setText, upTo]
  congr 1
  apply List.filter_congr
  intro c hc
  rw [List.mem_map] at hc
  obtain ⟨n, hn, rfl⟩ := hc
  rw [List.mem_range'_1] at hn
  refine set_has l _ hl ?_
  have : (UInt8.ofNat n).toNat = n := by rw [UInt8.toNat_ofNat']; omega
  rw [isLet_int, this]
  simp; omega
theorem set_one (t : UInt8) : setOf [t] = bitOf t := by simp [setOf, setFrom]

def callsOfQ (qs : List Qr) (fr : List UInt8) (y : UInt8) : Prop := ∃ q ∈ qs, q.1.1 ∈ fr ∧ y ∈ callsIn q.1.2
theorem callsOfQ_all (qs : List Qr) (fr : List UInt8) (y : UInt8) : callsOfQ qs fr y ↔ ∃ x ∈ fr, CallsIn (qs.map (·.1)) x y := by
  constructor
  · rintro ⟨q, hq, hf, hy⟩
    exact ⟨q.1.1, hf, q.1, List.mem_map.2 ⟨q, hq, rfl⟩, rfl, hy⟩
  · rintro ⟨x, hx, p, hp, rfl, hy⟩
    obtain ⟨q, hq, rfl⟩ := List.mem_map.1 hp
    exact ⟨q, hq, hx, hy⟩
theorem callsOfQ_take (qs : List Qr) (k : Nat) (hk : k < qs.length) (fr : List UInt8) (y : UInt8) : callsOfQ (qs.take (k + 1)) fr y ↔ callsOfQ (qs.take k) fr y ∨ (qs[k].1.1 ∈ fr ∧ y ∈ callsIn qs[k].1.2) := by
  rw [List.take_succ_eq_append_getElem hk]
  constructor
  · rintro ⟨q, hq, h⟩
    rcases List.mem_append.1 hq with hq | hq
    · exact .inl ⟨q, hq, h⟩
    · rw [List.mem_singleton.1 hq] at h; exact .inr h
  · rintro (⟨q, hq, h⟩ | h)
    · exact ⟨q, List.mem_append.2 (.inl hq), h⟩
    · exact ⟨_, List.mem_append.2 (.inr (List.mem_singleton.2 rfl)), h⟩

theorem measure_reach {re ca : List UInt8} {fr : List UInt8} (hre : lets re) (hca : lets ca) (hne : fr ≠ []) :
    2 * (26 - nb (setOf (re ++ ca))) + (if setOf (ca.filter fun y => !re.contains y) = 0 then 0 else 1) < 2 * (26 - nb (setOf re)) + (if setOf fr = 0 then 0 else 1) := by
  rw [nb_set _ (lets_append hre hca), nb_set _ hre, if_neg (setOf_zero hne)]
  have h1 : card re ≤ card (re ++ ca) := card_mono fun y hy => List.mem_append.2 (.inl hy)
  have h3 := card_le (re ++ ca)
  split
  case isTrue => omega
  case isFalse h0 =>
    have hnil : (ca.filter fun y => !re.contains y) ≠ [] := fun e => h0 (by rw [e]; rfl)
    obtain ⟨y, hy⟩ := List.exists_mem_of_ne_nil _ hnil
    obtain ⟨hy1, hy2⟩ := List.mem_filter.1 hy
    have h2 : card re < card (re ++ ca) := card_lt (fun z hz => List.mem_append.2 (.inl hz)) y (List.mem_append.2 (.inr hy1)) (by simpa using hy2) (hca y hy1)
    omega

set_option maxHeartbeats 4000000 in
set_option maxRecDepth 100000 in
theorem reach_any {w : World} {B : Nat} {S : Nat → Prop} {qs : List Qr} {a : Option Addr} {n c : Nat} (h : IsProg w B S qs (.slice a n c)) (hn : qs.length = n) (hl : n ≤ 401) (hg : ∀ q ∈ qs, Good q.1) (t : UInt8) (ht : isLet t = true) :
    Calls Tryd.prog 60 #[.slice a n c, .int .u32 (bitOf t)] w fun e w' => (∃ re, lets re ∧ Reached (CallsIn (qs.map (·.1))) t re ∧ e = .returned (.int .u32 (setOf re))) ∧ Below w.heap.size w w' := by
  have H := Lib.hid h
  have HN := Lib.hid hn
  have HG := Lib.hid hg
  rw [← set_one]
  clear h hn hg
  go_enter Tryd.func60, Tryd.ntmps60
  go_wp2_with fail
  go_loopw [1, 5] (fun x y wr => ∃ fr re : List UInt8, x = .int .u32 (setOf fr) ∧ y = .int .u32 (setOf re) ∧ Hid (lets fr) ∧ Hid (lets re) ∧ Hid (Reaching (CallsIn (qs.map (·.1))) t re fr) ∧ Hid (Below w.heap.size w wr))
    (fun x y _ => 2 * (26 - nb (intOf y).toNat) + (if (intOf x).toNat = 0 then 0 else 1))
  case atStart =>
    refine ⟨[t], [], rfl, rfl, ?_, ?_, Reaching.start _ _, Below.refl _ _⟩
    · show lets _
      intro d hd
      rw [List.mem_singleton.1 hd]; exact ht
    · show lets _
      intro d hd; simp at hd
  case round =>
    obtain ⟨fr, re, rfl, rfl, hfr, hre, hR, hb⟩ := hrel
    obtain ⟨w5, hw5⟩ : ∃ x, x = wr := ⟨_, rfl⟩
    subst hw5
    by_cases hne : fr = []
    · subst hne
      have HF := Lib.hid hR.out.finish
      clear hR
      have e0 : setOf ([] : List UInt8) = 0 := rfl
      go_wp2_with fail
      go_ret
      exact ⟨⟨re, hre.out, HF.out, rfl⟩, hb.out⟩
    · have hnz := setOf_zero hne
      have e1 : (((setOf fr : Nat) : Int) != 0) = true := by rw [bne_iff_ne]; omega
      have HNE := Lib.hid hne
      clear hnz hne
      go_wp2_with fail
      go_loopw [6, 13] (fun x i wr => ∃ (k : Nat) (ca : List UInt8), i = .int .i64 k ∧ k ≤ n ∧ x = .int .u32 (setOf ca) ∧ Hid (lets ca) ∧ Hid (∀ y, y ∈ ca ↔ callsOfQ (qs.take k) fr y) ∧ Hid (Below w.heap.size w wr)) (fun _ i _ => n - (intOf i).toNat)
      case atStart =>
        refine ⟨0, [], by go_num, Nat.zero_le _, rfl, ?_, ?_, hb.out⟩
        · show lets _
          intro d hd; simp at hd
        · show ∀ y, _
          intro y; simp [callsOfQ]
      case round =>
        obtain ⟨k, ca, rfl, hk, rfl, hca, hC, hb2⟩ := hrel
        by_cases hlt : k < n
        · have hkq : k < qs.length := by rw [HN.out]; exact hlt
          obtain ⟨g, rfl, _, c0, c1⟩ := H.out.get k hkq
          have hgl : g < w.heap.size := World.block_lt_of_cell? w _ c0
          have hbody := prog_body H.out k hkq
          obtain ⟨ba, bn, bc, hbv⟩ := hbody.form
          rw [hbv] at c1 hbody
          have d0 : wr.cell? ⟨g, k * 2, none⟩ = some (.int .u8 qs[k].1.1.toNat) := by rw [hb2.out.cell (p := ⟨g, k * 2, none⟩) hgl]; exact c0
          have d1 : wr.cell? ⟨g, k * 2 + 1, none⟩ = some (.slice ba bn bc) := by rw [hb2.out.cell (p := ⟨g, k * 2 + 1, none⟩) hgl]; exact c1
          have hq := HG.out qs[k] (List.getElem_mem hkq)
          have HCa := Lib.hid (fun w2 (hb3 : Below w.heap.size w w2) => calls_any (w := w2) (S := S) (p := qs[k].1) (hbody.kept (w' := w2) (fun j hj => hb3.block j (H.out.lt j hj)) (fun _ h => h)) (fun j hj => Nat.lt_of_lt_of_le (H.out.lt j hj) hb3.size) hq)
          have HH := Lib.hid (fun w => has_set fr qs[k].1.1 hfr.out hq.2.2.2 w)
          have HT := Lib.hid (callsOfQ_take qs k hkq fr)
          have hlc := callsIn_lets _ hq.1
          have h1 := setOf_lt ca hca.out
          have h2 := setOf_lt (callsIn qs[k].1.2) hlc
          have e2 := or32 (setOf ca) (setOf (callsIn qs[k].1.2)) (by omega) (by omega)
          have HLc := Lib.hid hlc
          clear c0 c1 hgl hbv hbody h1 h2 hlc
          cases hin : fr.contains qs[k].1.1 with
          | true =>
            rw [hin] at HH
            have HIn := Lib.hid (List.contains_iff_mem.1 hin)
            clear hin hq
            go_wp2_with fail
            refine (HH.out _).mono ?_
            rintro e w2 ⟨rfl, rfl⟩
            go_wp2_with fail
            refine (HCa.out _ (hb2.out.alloc hb2.out.size _)).mono ?_
            rintro e w3 ⟨rfl, hb3⟩
            have HB3 := Lib.hid ((hb2.out.alloc hb2.out.size _).trans (hb3.mono (Nat.le_trans hb2.out.size (by rw [alloc_size']; omega))))
            clear hb3
            go_wp2_with fail
            go_roundw
            case rel =>
              refine ⟨k + 1, ca ++ callsIn qs[k].1.2, by go_num, by omega, by rw [setOf_append], lets_append hca.out HLc.out, ?_, HB3.out⟩
              show ∀ y, _
              intro y
              rw [List.mem_append, HT.out y, hC.out y]
              constructor
              · rintro (h | h)
                · exact .inl h
                · exact .inr ⟨HIn.out, h⟩
              · rintro (h | h)
                · exact .inl h
                · exact .inr h.2
            case measure => simp [intOf]; omega
          | false =>
            rw [hin] at HH
            have HIn := Lib.hid (show ¬ qs[k].1.1 ∈ fr from fun hm => Bool.noConfusion ((List.contains_iff_mem.2 hm).symm.trans hin))
            clear hin hq
            go_wp2_with fail
            refine (HH.out _).mono ?_
            rintro e w2 ⟨rfl, rfl⟩
            go_wp2_with fail
            go_roundw
            case rel =>
              refine ⟨k + 1, ca, by go_num, by omega, rfl, hca.out, ?_, hb2.out.alloc hb2.out.size _⟩
              show ∀ y, _
              intro y
              rw [HT.out y, hC.out y]
              constructor
              · exact .inl
              · rintro (h | h)
                · exact h
                · exact absurd h.1 HIn.out
            case measure => simp [intOf]; omega
        · have HAll := Lib.hid (fun y => by
            have h1 := hC.out y
            rw [List.take_of_length_le (by rw [HN.out]; omega)] at h1
            exact h1.trans (callsOfQ_all qs fr y) : ∀ y, y ∈ ca ↔ ∃ x ∈ fr, CallsIn (qs.map (·.1)) x y)
          have h1 := setOf_lt ca hca.out
          have h2 := setOf_lt re hre.out
          have e2 := or32 (setOf re) (setOf ca) (by omega) (by omega)
          have e3 := less32 (setOf ca) (setOf re)
          have HLF := Lib.hid (less_filter ca re hca.out hre.out)
          have HMs := Lib.hid (measure_reach hre.out hca.out HNE.out)
          clear hC h1 h2
          go_wp2_with fail
          go_roundw
          case rel =>
            refine ⟨ca.filter fun y => !re.contains y, re ++ ca, by rw [HLF.out], by rw [setOf_append], ?_, lets_append hre.out hca.out, hR.out.step HAll.out, hb2.out⟩
            show lets _
            intro d hd
            exact hca.out d (List.mem_filter.1 hd).1
          case measure =>
            have := HMs.out
            rw [setOf_append, ← HLF.out] at this
            simp only [intOf, Int.toNat_natCast]
            exact this
end Go.Proofs.YtihjkkoaccmefaaDoor
namespace Go.Proofs.YtihjkkoaccmefaaDoor
open Go.RowKit Gram

def startOf (s nm : ByteArray) : List UInt8 := match lookP s nm with | some p => callsIn p.2 | none => []
def stepOf (s : ByteArray) (x y : UInt8) : Prop := ∃ p, lookP s (txtOf [x]) = some p ∧ y ∈ callsIn p.2
/-- l has just what is reached from the letters of a list -/
structure ReachF (F : List UInt8) (C : UInt8 → UInt8 → Prop) (l : List UInt8) : Prop where
  first : ∀ y ∈ F, y ∈ l
  closed : ∀ x ∈ l, ∀ y, C x y → y ∈ l
  least : ∀ T : UInt8 → Prop, (∀ y ∈ F, T y) → (∀ x y, T x → C x y → T y) → ∀ y ∈ l, T y
theorem ReachF.same {F : List UInt8} {C : UInt8 → UInt8 → Prop} {l l' : List UInt8} (h : ReachF F C l) (h' : ReachF F C l') (y : UInt8) : y ∈ l ↔ y ∈ l' :=
  ⟨fun hy => h.least (· ∈ l') h'.first (fun x y hx hc => h'.closed x hx y hc) y hy, fun hy => h'.least (· ∈ l) h.first (fun x y hx hc => h.closed x hx y hc) y hy⟩
def RT (s nm : ByteArray) (l : List UInt8) : Prop := ∃ re, lets re ∧ l = setText re ∧ ReachF (startOf s nm) (stepOf s) re
theorem RT.same {s nm : ByteArray} {l l' : List UInt8} (h : RT s nm l) (h' : RT s nm l') : l = l' := by
  obtain ⟨re, _, rfl, h2⟩ := h
  obtain ⟨re', _, rfl, h2'⟩ := h'
  exact upTo_same (fun y => h2.same h2' y) _

theorem asc_unique : ∀ {ps : List Pr}, asc (namesOf ps) → ∀ p ∈ ps, ∀ q ∈ ps, p.1 = q.1 → p = q
  | [], _, p, hp, _, _, _ => by simp at hp
  | a :: t, h, p, hp, q, hq, he => by
    rw [namesOf, List.map_cons, asc, List.pairwise_cons] at h
    rcases List.mem_cons.1 hp with hp | hp <;> rcases List.mem_cons.1 hq with hq | hq
    · rw [hp, hq]
    · have := h.1 q.1 (List.mem_map.2 ⟨q, hq, rfl⟩)
      rw [hp] at he; rw [he] at this; omega
    · have := h.1 p.1 (List.mem_map.2 ⟨p, hp, rfl⟩)
      rw [hq] at he; rw [he] at this; omega
    · exact asc_unique (ps := t) h.2 p hp q hq he
theorem look_in {s : ByteArray} {ps : List Pr} (h : progOf s = some ps) (x y : UInt8) : CallsIn ps x y ↔ stepOf s x y := by
  have hf := prog_facts h
  have hasc : asc (namesOf ps) := procs_asc _ _ _ hf.2.2.2 (by simp [asc, namesOf])
  constructor
  · rintro ⟨p, hp, rfl, hy⟩
    refine ⟨p, ?_, hy⟩
    have hno : nameOf (txtOf [p.1]).data.toList = some p.1 := by rw [txtOf_data, nameOf, if_pos (hf.2.1 p hp).2.2.2]
    rw [lookP, h, hno]
    dsimp only
    cases hq : ps.find? (fun q => q.1 == p.1) with
    | none =>
      rw [List.find?_eq_none] at hq
      exact absurd (by simp) (hq p hp)
    | some q =>
      have h1 := List.find?_some hq
      have h2 := List.mem_of_find?_eq_some hq
      rw [asc_unique hasc q h2 p hp (by simpa using h1)]
  · rintro ⟨p, hl, hy⟩
    unfold lookP at hl
    rw [h] at hl
    split at hl
    · rename_i ps' c hp hno
      injection hp with hp
      subst hp
      have h1 := List.find?_some hl
      have h2 := List.mem_of_find?_eq_some hl
      have h3 := (nameOf_some hno).1
      rw [txtOf_data] at h3
      have h4 : x = c := by injection h3
      exact ⟨p, h2, by rw [h4]; simpa using h1, hy⟩
    · cases hl
theorem look_mem {s nm : ByteArray} {ps : List Pr} {p : Pr} (h : progOf s = some ps) (hl : lookP s nm = some p) : p ∈ ps := by
  unfold lookP at hl
  rw [h] at hl
  split at hl
  · rename_i ps' c hp hno
    injection hp with hp
    subst hp
    exact List.mem_of_find?_eq_some hl
  · cases hl
theorem reached_F {s nm : ByteArray} {ps : List Pr} {p : Pr} {re : List UInt8} (h : progOf s = some ps) (hl : lookP s nm = some p) (hr : Reached (CallsIn ps) p.1 re) : ReachF (startOf s nm) (stepOf s) re := by
  have hf := prog_facts h
  have hasc : asc (namesOf ps) := procs_asc _ _ _ hf.2.2.2 (by simp [asc, namesOf])
  have hm := look_mem h hl
  have hs : ∀ y, CallsIn ps p.1 y ↔ y ∈ startOf s nm := by
    intro y
    rw [startOf, hl]
    constructor
    · rintro ⟨q, hq, he, hy⟩
      rw [asc_unique hasc q hq p hm he] at hy; exact hy
    · intro hy; exact ⟨p, hm, rfl, hy⟩
  refine ⟨fun y hy => hr.first y ((hs y).2 hy), fun x hx y hy => hr.closed x hx y ((look_in h x y).2 hy), ?_⟩
  intro T h1 h2
  exact hr.least T (fun y hy => h1 y ((hs y).1 hy)) (fun x y hx hy => h2 x y hx ((look_in h x y).1 hy))
theorem reached_none {s nm : ByteArray} (hl : lookP s nm = none) : RT s nm [] := by
  refine ⟨[], fun c hc => by simp at hc, rfl, ?_⟩
  have : startOf s nm = [] := by rw [startOf, hl]
  rw [this]
  exact ⟨by simp, by simp, fun T _ _ => by simp⟩

theorem start_step (s : ByteArray) (x y : UInt8) : y ∈ startOf s (txtOf [x]) ↔ stepOf s x y := by
  rw [startOf, stepOf]
  cases lookP s (txtOf [x]) with
  | none => simp
  | some p => simp
def strLen : Value → Nat | .string b => b.size | _ => 0
theorem setText_len (l : List UInt8) : (setText l).length ≤ 26 := card_le l

end Go.Proofs.YtihjkkoaccmefaaDoor
