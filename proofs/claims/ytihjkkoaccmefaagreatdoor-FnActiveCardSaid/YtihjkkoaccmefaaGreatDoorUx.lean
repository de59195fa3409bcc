/- The program's ways of calls: reachWith, readCallWays, may, MayBeActive. Condition: the library's own number can be read. A map of letters that are seen, and a list of letters that is read at its front and grows at its end. Plain lemmas; no walk. leadPast, must and MustBeActive of the program. Condition: the library's own number can be read. must and MustBeActive of the program. Condition: the library's own number can be read. The model's search for a way of calls: l6Reaches, l6Run. No condition but the text's size. The model's MustBeActive. No condition but the text's size. -/
import Derived.Test.YtihjkkoaccmefaaGreatDoorQx
import Derived.Maps.OwnSet
import Derived.Lib.AppendStr
import Derived.Lib.AppendZeros
import Derived.WalkMore
namespace Go.Proofs.YtihjkkoaccmefaaGreatDoor
open Go.RowKit Gram

set_option maxHeartbeats 1000000 in
theorem reach_with {w : World} {B : Nat} {S : Nat → Prop} {qs : List Qr} {a : Option Addr} {n c : Nat} (h : IsProg w B S qs (.slice a n c)) (hn : qs.length = n) (hl : n ≤ 401) (hg : ∀ q ∈ qs, Good q.1) (t : UInt8) (ht : isLet t = true) :
    Calls Tryz.prog 58 #[.slice a n c, .int .u8 t.toNat] w fun e w' => (∃ re, lets re ∧ (∀ y, y ∈ re ↔ Way (CallsIn (qs.map (·.1))) t y) ∧ e = .returned (.int .u32 (setOf re))) ∧ Below w.heap.size w w' := by
  have HR := Lib.hid (reach_any h hn hl hg t ht)
  have HO := Lib.hid (fun w => one_letter t ht w)
  have HT := Lib.hid ht
  clear h hn hl hg ht
  go_enter Tryz.func58, Tryz.ntmps58
  go_wp2_with fail
  refine (HO.out _).mono ?_
  rintro e w2 ⟨rfl, rfl⟩
  go_wp2_with fail
  refine (HO.out _).mono ?_
  rintro e w2 ⟨rfl, rfl⟩
  go_wp2_with fail
  refine HR.out.mono ?_
  rintro e w3 ⟨⟨re, hlre, hre, rfl⟩, hb3⟩
  have hl2 : lets (t :: re) := fun y hy => by
    rcases List.mem_cons.1 hy with rfl | hy
    · exact HT.out
    · exact hlre y hy
  have h1 := bit_lt HT.out
  have h2 := setOf_lt re hlre
  have e2 := or32 (bitOf t) (setOf re) (by omega) (by omega)
  have HS := Lib.hid (by rw [← set_one, ← setOf_append]; rfl : bitOf t ||| setOf re = setOf (t :: re))
  have HB := Lib.hid hb3
  have HL := Lib.hid hl2
  have HW := Lib.hid (fun y => way_reached hre y)
  clear h1 h2 hl2 hlre hre hb3
  go_wp2_with fail
  go_ret
  exact ⟨⟨t :: re, HL.out, HW.out, by rw [HS.out]; rfl⟩, HB.out⟩

theorem has_some (l : List UInt8) (c : UInt8) (hl : lets l) (hc : isLet c = true) : ∃ b : Bool, (b = true ↔ c ∈ l) ∧ ∀ w, Calls Tryz.prog 55 #[.int .u32 (setOf l), .int .u8 c.toNat] w fun e w' => e = .returned (.bool b) ∧ w = w' :=
  ⟨l.contains c, List.contains_iff_mem, fun w => has_set l c hl hc w⟩
theorem held_start {w : World} {p0 p1 p2 : Addr} {v0 v1 v2 : Value} (h0 : w.cell? p0 = some v0) (h1 : w.cell? p1 = some v1) (h2 : w.cell? p2 = some v2) {u : World} {m : Nat} (hb : Below m u w) :
    w.drew.cell? p0 = some v0 ∧ w.drew.cell? p1 = some v1 ∧ w.drew.cell? p2 = some v2 ∧ Below m u w.drew := ⟨h0, h1, h2, hb.drew⟩
theorem held_later {w w' : World} {p0 p1 p2 : Addr} {v0 v1 v2 : Value} {u : World} {m : Nat} (h : w.cell? p0 = some v0 ∧ w.cell? p1 = some v1 ∧ w.cell? p2 = some v2 ∧ Below m u w) (hm : m ≤ u.heap.size) (hb : Below w.heap.size w w') :
    w'.cell? p0 = some v0 ∧ w'.cell? p1 = some v1 ∧ w'.cell? p2 = some v2 ∧ Below m u w' :=
  ⟨cell_later hb h.1, cell_later hb h.2.1, cell_later hb h.2.2.1, h.2.2.2.trans (hb.mono (Nat.le_trans hm h.2.2.2.size))⟩
theorem held_below {w : World} {p0 p1 p2 : Addr} {v0 v1 v2 : Value} {u : World} {m : Nat} (h : w.cell? p0 = some v0 ∧ w.cell? p1 = some v1 ∧ w.cell? p2 = some v2 ∧ Below m u w) : Below m u w := h.2.2.2

set_option maxHeartbeats 4000000 in
set_option maxRecDepth 100000 in
theorem may_any {w : World} {B : Nat} {S : Nat → Prop} {qs : List Qr} {a : Option Addr} {n c : Nat} (h : IsProg w B S qs (.slice a n c)) (hn : qs.length = n) (hl : n ≤ 401) (hg : ∀ q ∈ qs, Good q.1) (st wi : UInt8) (hst : isLet st = true) (hwi : isLet wi = true) :
    Calls Tryz.prog 27 #[.agg #[.slice a n c, .int .u8 st.toNat, .int .u8 wi.toNat]] w fun e w' =>
      (∃ re, lets re ∧ (∀ y, y ∈ re ↔ y ∈ namesQ qs ∧ Way (CallsIn (qs.map (·.1))) st y ∧ Way (CallsIn (qs.map (·.1))) y wi) ∧ e = .returned (.int .u32 (setOf re))) ∧ Below w.heap.size w w' := by
  have H := Lib.hid h
  have HN := Lib.hid hn
  have HG := Lib.hid hg
  have HRw := Lib.hid (fun (t : UInt8) (ht : isLet t = true) (w' : World) (hb : Below w.heap.size w w') => reach_with (h.kept fun k hk => hb.block k hk) hn hl hg t ht)
  have HSt := Lib.hid hst
  have HWi := Lib.hid hwi
  clear h hn hg hst hwi
  go_enter Tryz.func27, Tryz.ntmps27
  go_wp2_with fail
  refine (HRw.out st HSt.out _ ((Below.refl w.heap.size w).alloc (Nat.le_refl _) _)).mono ?_
  rintro e w3 ⟨⟨re, hlre, hre, rfl⟩, hb3⟩
  have HB3 := Lib.hid (((Below.refl w.heap.size w).alloc (Nat.le_refl _) _).trans (hb3.mono (by rw [alloc_size']; omega)))
  have HBx := Lib.hid hb3
  have HL := Lib.hid hlre
  have HRe := Lib.hid hre
  have q0 : w3.cell? ⟨w.heap.size, 0, none⟩ = some (.slice a n c) := cell_later hb3 (by rw [Lib.cell_of_heap (heap_alloc_new _ _)]; rfl)
  clear hb3 hlre hre
  go_wp2_with fail
  clear q0
  go_loopw [3, 15] (fun x i wr => ∃ (k : Nat) (ms : List UInt8), i = .int .i64 k ∧ k ≤ n ∧ x = .int .u32 (setOf ms) ∧ Hid (lets ms) ∧ Hid (∀ y, y ∈ ms ↔ y ∈ namesQ (qs.take k) ∧ Way (CallsIn (qs.map (·.1))) st y ∧ Way (CallsIn (qs.map (·.1))) y wi) ∧ Hid (Below w3.heap.size w3 wr)) (fun _ i _ => n - (intOf i).toNat)
  case atStart =>
    refine ⟨0, [], by go_num, Nat.zero_le _, rfl, ?_, ?_, Below.refl _ _⟩
    · show lets _
      intro d hd; simp at hd
    · show ∀ y, _
      intro y; simp [namesQ]
  case round =>
    obtain ⟨k, ms, rfl, hk, rfl, hms, hM, hb⟩ := hrel
    have hbx : (w.alloc (Obj.cells #[.slice a n c, .int .u8 st.toNat, .int .u8 wi.toNat] 69)).heap.size ≤ w3.heap.size := HBx.out.size
    have hbw := Lib.hid (hb.out.mono HB3.out.size)
    have HBw := Lib.hid (HB3.out.trans hbw.out)
    by_cases hlt : k < n
    · have hkq : k < qs.length := by rw [HN.out]; exact hlt
      obtain ⟨g, rfl, _, c0, c1⟩ := H.out.get k hkq
      have hgl : g < w.heap.size := World.block_lt_of_cell? w _ c0
      obtain ⟨ba, bn, bc, hbv⟩ := (prog_body H.out k hkq).form
      rw [hbv] at c1
      have d0 : wr.cell? ⟨g, k * 2, none⟩ = some (.int .u8 qs[k].1.1.toNat) := by rw [HBw.out.cell (p := ⟨g, k * 2, none⟩) hgl]; exact c0
      have d1 : wr.cell? ⟨g, k * 2 + 1, none⟩ = some (.slice ba bn bc) := by rw [HBw.out.cell (p := ⟨g, k * 2 + 1, none⟩) hgl]; exact c1
      have hq := HG.out qs[k] (List.getElem_mem hkq)
      have b0 : wr.cell? ⟨w.heap.size, 0, none⟩ = some (.slice (some ⟨g, 0, none⟩) n c) := cell_later (HBx.out.trans (hb.out.mono HBx.out.size)) (by rw [Lib.cell_of_heap (heap_alloc_new _ _)]; rfl)
      have b2 : wr.cell? ⟨w.heap.size, 2, none⟩ = some (.int .u8 wi.toNat) := cell_later (HBx.out.trans (hb.out.mono HBx.out.size)) (by rw [Lib.cell_of_heap (heap_alloc_new _ _)]; rfl)
      have HNm := Lib.hid (namesQ_take qs k hkq)
      have HLq := Lib.hid hq.2.2.2
      generalize hch : qs[k].1.1 = ch at *
      have HH := Lib.hid (fun w => has_set re ch HL.out HLq.out w)
      clear c0 c1 hgl hbv hq hch
      cases hin : re.contains ch with
      | false =>
        have hno : ¬ Way (CallsIn (qs.map (·.1))) st ch := fun hw => by
          have := List.contains_iff_mem.2 ((HRe.out ch).2 hw)
          rw [hin] at this; cases this
        have HNo := Lib.hid hno
        rw [hin] at HH
        clear hin hno b0 b2
        go_wp2_with fail
        go_quiet ((go_at_call 55; exact Calls.quiet_of_same ((HH.out _).mono fun e w' h => ⟨h.1, h.2.symm⟩)))
        go_wp2_with fail
        go_roundw
        case rel =>
          refine ⟨k + 1, ms, by go_num, by omega, rfl, hms.out, ?_, ?_⟩
          · show ∀ y, _
            intro y
            rw [hM.out y, HNm.out, List.mem_append]
            constructor
            · rintro ⟨h1, h2⟩; exact ⟨.inl h1, h2⟩
            · rintro ⟨h1 | h1, h2, h3⟩
              · exact ⟨h1, h2, h3⟩
              · rw [List.mem_singleton.1 h1] at h2; exact absurd h2 HNo.out
          · exact below_drewN (hb.out.alloc hb.out.size _) _
        case measure => simp [intOf]; omega
      | true =>
        have HYes := Lib.hid ((HRe.out ch).1 (List.contains_iff_mem.1 hin))
        rw [hin] at HH
        clear hin
        have HA := Lib.hid ((Below.refl wr.heap.size wr).alloc (Nat.le_refl _) (Obj.cells #[.int .u8 ch.toNat, .slice ba bn bc] 66))
        have ke : (wr.alloc (Obj.cells #[.int .u8 ch.toNat, .slice ba bn bc] 66)).cell? ⟨wr.heap.size, 0, none⟩ = some (.int .u8 ch.toNat) := by rw [Lib.cell_of_heap (heap_alloc_new _ _)]; rfl
        have HS0 := Lib.hid (held_start (cell_later HA.out b0) (cell_later HA.out b2) ke (hb.out.trans (HA.out.mono hb.out.size)))
        clear ke
        have tok1 : True := trivial
        go_wp2_with fail
        go_region_held3 (fun w' => w'.cell? ⟨w.heap.size, 0, none⟩ = some (.slice (some ⟨g, 0, none⟩) n c) ∧ w'.cell? ⟨w.heap.size, 2, none⟩ = some (.int .u8 wi.toNat) ∧ w'.cell? ⟨wr.heap.size, 0, none⟩ = some (.int .u8 ch.toNat) ∧ Below w3.heap.size w3 w')
          ((first | assumption | exact HS0.out | (refine held_later (by assumption) (Nat.le_refl _) ?_; assumption)))
          ((first
          | (go_at_call 55; have _t := tok1; refine (HH.out _).mono ?_; rintro e w' ⟨rfl, rfl⟩; clear tok1)
          | (go_at_call 58; refine (HRw.out ch HLq.out _ (HB3.out.trans ((held_below (by assumption)).mono HB3.out.size))).mono ?_; rintro e w6 ⟨⟨re2, hl2, hm2, rfl⟩, hb6⟩)
          | (go_at_call 55; obtain ⟨b2, hb2, HH2⟩ := has_some re2 wi hl2 HWi.out; refine (HH2 _).mono ?_; rintro e w' ⟨rfl, rfl⟩; clear HH2)))
        obtain ⟨_, _, xe, xb⟩ := (by assumption : w6.cell? ⟨w.heap.size, 0, none⟩ = some (.slice (some ⟨g, 0, none⟩) n c) ∧ w6.cell? ⟨w.heap.size, 2, none⟩ = some (.int .u8 wi.toNat) ∧ w6.cell? ⟨wr.heap.size, 0, none⟩ = some (.int .u8 ch.toNat) ∧ Below w3.heap.size w3 w6)
        have XB := Lib.hid xb
        clear xb hb6
        cases b2 with
        | true =>
          have HW2 := Lib.hid ((hm2 wi).1 (hb2.1 rfl))
          have HO := Lib.hid (fun w => one_letter ch HLq.out w)
          have h1 := setOf_lt ms hms.out
          have h2 := bit_lt HLq.out
          have e2 := or32 (setOf ms) (bitOf ch) (by omega) (by omega)
          rw [← setOf_snoc] at e2
          clear hb2 hm2 h1 h2
          go_wp2_with fail
          refine (HO.out _).mono ?_
          rintro e w7 ⟨rfl, rfl⟩
          go_wp2_with fail
          go_roundw
          case rel =>
            refine ⟨k + 1, ms ++ [ch], by go_num, by omega, rfl, ?_, ?_, XB.out⟩
            · show lets _
              refine lets_append hms.out fun y hy => ?_
              rw [List.mem_singleton.1 hy]; exact HLq.out
            · show ∀ y, _
              intro y
              rw [HNm.out, List.mem_append, List.mem_append, hM.out y]
              constructor
              · rintro (⟨h1, h2⟩ | h1)
                · exact ⟨.inl h1, h2⟩
                · rw [List.mem_singleton.1 h1]; exact ⟨.inr (by simp), HYes.out, HW2.out⟩
              · rintro ⟨h1 | h1, h2⟩
                · exact .inl ⟨h1, h2⟩
                · exact .inr h1
          case measure => simp [intOf]; omega
        | false =>
          have hno : ¬ Way (CallsIn (qs.map (·.1))) ch wi := fun h => by
            have := hb2.2 ((hm2 wi).2 h)
            cases this
          have HNo := Lib.hid hno
          clear hb2 hm2 hno xe
          go_wp2_with fail
          go_roundw
          case rel =>
            refine ⟨k + 1, ms, by go_num, by omega, rfl, hms.out, ?_, XB.out⟩
            show ∀ y, _
            intro y
            rw [hM.out y, HNm.out, List.mem_append]
            constructor
            · rintro ⟨h1, h2⟩; exact ⟨.inl h1, h2⟩
            · rintro ⟨h1 | h1, h2, h3⟩
              · exact ⟨h1, h2, h3⟩
              · rw [List.mem_singleton.1 h1] at h3; exact absurd h3 HNo.out
          case measure => simp [intOf]; omega
    · have hall : qs.take k = qs := List.take_of_length_le (by rw [HN.out]; omega)
      rw [hall] at hM
      go_wp2_with fail
      go_ret
      exact ⟨⟨ms, hms.out, hM.out, rfl⟩, HBw.out⟩

theorem IsProg.from {w w' : World} {B : Nat} {S : Nat → Prop} {qs : List Qr} {v : Value} (h : IsProg w B S qs v) (hb : ∀ k, B ≤ k → k < w.heap.size → w'.heap[k]? = w.heap[k]?) : IsProg w' B S qs v :=
  ⟨ownsRow_of h.row fun g hg => by obtain ⟨h1, cur, hc⟩ := h.row_block hg; exact hb g h1 (heap_lt hc),
   fun q hq => (h.body q hq).kept (fun k hk => hb k (h.set k hk).1 (h.lt k hk)) (fun _ h => h),
   fun k hk => by obtain ⟨h1, cur, fz, hc⟩ := h.set k hk; exact ⟨h1, cur, fz, by rw [hb k h1 (heap_lt hc)]; exact hc⟩⟩
theorem ways_new {w w2 : World} {o : Obj} (h : Below (w.alloc o).heap.size (w.alloc o) w2) : w2.heap[w.heap.size]? = some o ∧ Below w.heap.size w w2 := by
  have h1 : (w.alloc o).heap.size = w.heap.size + 1 := alloc_size' _ _
  exact ⟨by rw [h.block _ (by omega)]; exact heap_alloc_new _ _, ((Below.refl w.heap.size w).alloc (Nat.le_refl _) _).trans (h.mono (by omega))⟩
theorem ways_set {w3 : World} {g : Nat} {e : TypeId} {x0 y0 z0 : Value} (hb : w3.heap[g]? = some (Obj.cells #[x0, y0, z0] e (0, 0))) (x y z : Value) :
    (((w3.setCell ⟨g, 0, none⟩ x).setCell ⟨g, 1, none⟩ y).setCell ⟨g, 2, none⟩ z).cell? ⟨g, 0, none⟩ = some x ∧ (((w3.setCell ⟨g, 0, none⟩ x).setCell ⟨g, 1, none⟩ y).setCell ⟨g, 2, none⟩ z).cell? ⟨g, 1, none⟩ = some y ∧
      (((w3.setCell ⟨g, 0, none⟩ x).setCell ⟨g, 1, none⟩ y).setCell ⟨g, 2, none⟩ z).cell? ⟨g, 2, none⟩ = some z ∧ ∀ k, k ≠ g → (((w3.setCell ⟨g, 0, none⟩ x).setCell ⟨g, 1, none⟩ y).setCell ⟨g, 2, none⟩ z).heap[k]? = w3.heap[k]? := by
  have h2 := heap_set_same (k := 2) (heap_set_same (k := 1) (heap_set_same (k := 0) hb x) y) z
  exact ⟨by rw [Lib.cell_of_heap h2]; rfl, by rw [Lib.cell_of_heap h2]; rfl, by rw [Lib.cell_of_heap h2]; rfl, fun k hk => by rw [heap_set_other hk, heap_set_other hk, heap_set_other hk]⟩

/-- what readCallWays hands back -/
def WaysTo (s st wi : ByteArray) (w : World) (e : Ending) (w' : World) : Prop :=
  (match lookP s st, nameOf wi.data.toList with
   | some p, some d => ∃ (a : Option Addr) (n c B : Nat) (S : Nat → Prop) (qs : List Qr), e = .returned (.tuple #[.agg #[.slice a n c, .int .u8 p.1.toNat, .int .u8 d.toNat], .bool true]) ∧ progOf s = some (qs.map (·.1)) ∧ IsProg w' B S qs (.slice a n c) ∧ (∀ q ∈ qs, Good q.1) ∧ qs.length = n ∧ n ≤ 401 ∧ p.1 ∈ namesQ qs
   | _, _ => e = .returned (.tuple #[.agg #[.slice none 0 0, .int .u8 0, .int .u8 0], .bool false])) ∧ Below w.heap.size w w'

set_option maxHeartbeats 4000000 in
set_option maxRecDepth 100000 in
theorem read_ways (s st wi : ByteArray) (w : World) (hs : s.size ≤ 1073741824) (hm : MaxCell w) :
    Calls Tryz.prog 24 #[.string s, .string st, .string wi] w (WaysTo s st wi w) := by
  have hF := fun (w' : World) (hb : Below w.heap.size w w') => find_proc s st w' hs (hm.later hb)
  have HL := Lib.hid (fun w => letter_of wi w)
  have HB0 := Lib.hid ((Below.refl w.heap.size w).alloc (Nat.le_refl _) (.cells #[.slice none 0 0, .int .u8 0, .int .u8 0] 69))
  clear hm
  unfold FindTo at hF
  unfold WaysTo
  cases hl : lookP s st with
  | none =>
    rw [hl] at hF
    have HF := Lib.hid hF
    dsimp only
    clear hF hl
    generalize nameOf wi.data.toList = nw at *
    generalize nw.isSome = ni at *
    go_enter Tryz.func24, Tryz.ntmps24
    go_wp2_with fail
    refine (HF.out _ HB0.out).mono ?_
    rintro e w2 ⟨hr, hb2⟩
    obtain ⟨qb, hbw⟩ := ways_new hb2
    have q0 : w2.cell? ⟨w.heap.size, 0, none⟩ = some (.slice none 0 0) := by rw [Lib.cell_of_heap qb]; rfl
    have q1 : w2.cell? ⟨w.heap.size, 1, none⟩ = some (.int .u8 0) := by rw [Lib.cell_of_heap qb]; rfl
    have q2 : w2.cell? ⟨w.heap.size, 2, none⟩ = some (.int .u8 0) := by rw [Lib.cell_of_heap qb]; rfl
    have f0 : w2.frozen? ⟨w.heap.size, 0, none⟩ = false := Lib.frozen_of_heap qb 0
    have f1 : w2.frozen? ⟨w.heap.size, 1, none⟩ = false := Lib.frozen_of_heap qb 1
    have f2 : w2.frozen? ⟨w.heap.size, 2, none⟩ = false := Lib.frozen_of_heap qb 2
    have QB := Lib.hid qb
    have HB := Lib.hid hbw
    clear qb hbw hb2
    obtain ⟨a, n, c, k, rfl⟩ := hr
    go_wp2_with fail
    refine (HL.out _).mono ?_
    rintro e w3 ⟨rfl, rfl⟩
    go_wp2_with fail
    clear q0 q1 q2 f0 f1 f2
    obtain ⟨c0, c1, c2, hk⟩ := ways_set QB.out (.slice none 0 0) (.int .u8 0) (.int .u8 0)
    refine bodyPost_ret (v := .tuple #[.agg #[.slice none 0 0, .int .u8 0, .int .u8 0], .bool false]) ?_ rfl ⟨rfl, ((HB.out.setCell (Nat.le_refl _) _).setCell (Nat.le_refl _) _).setCell (Nat.le_refl _) _⟩
    simp [results, Tryz.results24, go_sem, c0, c1, c2]

  | some p =>
    rw [hl] at hF
    have HF := Lib.hid hF
    clear hF
    cases hno : nameOf wi.data.toList with
    | none =>
      rw [hno] at HL
      clear hno hl
      dsimp only
      go_enter Tryz.func24, Tryz.ntmps24
      go_wp2_with fail
      refine (HF.out _ HB0.out).mono ?_
      rintro e w2 ⟨hr, hb2⟩
      obtain ⟨qb, hbw⟩ := ways_new hb2
      have q0 : w2.cell? ⟨w.heap.size, 0, none⟩ = some (.slice none 0 0) := by rw [Lib.cell_of_heap qb]; rfl
      have q1 : w2.cell? ⟨w.heap.size, 1, none⟩ = some (.int .u8 0) := by rw [Lib.cell_of_heap qb]; rfl
      have q2 : w2.cell? ⟨w.heap.size, 2, none⟩ = some (.int .u8 0) := by rw [Lib.cell_of_heap qb]; rfl
      have f0 : w2.frozen? ⟨w.heap.size, 0, none⟩ = false := Lib.frozen_of_heap qb 0
      have f1 : w2.frozen? ⟨w.heap.size, 1, none⟩ = false := Lib.frozen_of_heap qb 1
      have f2 : w2.frozen? ⟨w.heap.size, 2, none⟩ = false := Lib.frozen_of_heap qb 2
      have QB := Lib.hid qb
      have HB := Lib.hid hbw
      clear qb hbw hb2
      obtain ⟨a, n, c, k, S, qs, hk, rfl, hpo, hP, hG, hqk, hn, hn4, hnm⟩ := hr
      have hkn : k < n := by omega
      clear hpo hP hG hqk hnm hk
      go_wp2_with fail
      refine (HL.out _).mono ?_
      rintro e w3 ⟨rfl, rfl⟩
      go_wp2_with fail
      clear q0 q1 q2 f0 f1 f2
      obtain ⟨c0, c1, c2, hk⟩ := ways_set QB.out (.slice none 0 0) (.int .u8 0) (.int .u8 0)
      refine bodyPost_ret (v := .tuple #[.agg #[.slice none 0 0, .int .u8 0, .int .u8 0], .bool false]) ?_ rfl ⟨rfl, ((HB.out.setCell (Nat.le_refl _) _).setCell (Nat.le_refl _) _).setCell (Nat.le_refl _) _⟩
      simp [results, Tryz.results24, go_sem, c0, c1, c2]

    | some d =>
      rw [hno, show letN (some d) = d from rfl] at HL
      clear hno
      have HLk := Lib.hid (look_nm hl)
      clear hl
      dsimp only
      go_enter Tryz.func24, Tryz.ntmps24
      go_wp2_with fail
      refine (HF.out _ HB0.out).mono ?_
      rintro e w2 ⟨⟨a, n, c, k, S, qs, hk, rfl, hpo, hP, hG, hqk, hn, hn4, hnm⟩, hb2⟩
      have hkn : k < n := by omega
      obtain ⟨qb, hbw⟩ := ways_new hb2
      have q0 : w2.cell? ⟨w.heap.size, 0, none⟩ = some (.slice none 0 0) := by rw [Lib.cell_of_heap qb]; rfl
      have q1 : w2.cell? ⟨w.heap.size, 1, none⟩ = some (.int .u8 0) := by rw [Lib.cell_of_heap qb]; rfl
      have q2 : w2.cell? ⟨w.heap.size, 2, none⟩ = some (.int .u8 0) := by rw [Lib.cell_of_heap qb]; rfl
      have f0 : w2.frozen? ⟨w.heap.size, 0, none⟩ = false := Lib.frozen_of_heap qb 0
      have f1 : w2.frozen? ⟨w.heap.size, 1, none⟩ = false := Lib.frozen_of_heap qb 1
      have f2 : w2.frozen? ⟨w.heap.size, 2, none⟩ = false := Lib.frozen_of_heap qb 2
      obtain ⟨g, rfl, _, d0, d1⟩ := hP.get k hk
      rw [hqk] at d0
      have HQm := Lib.hid (by rw [← hqk]; exact List.mem_map.2 ⟨_, List.getElem_mem hk, rfl⟩ : p.1 ∈ namesQ qs)
      have QB := Lib.hid qb
      have HB := Lib.hid hbw
      have HP := Lib.hid hP
      have HG := Lib.hid hG
      have HPo := Lib.hid hpo
      clear qb hbw hb2 hP hG hpo hqk hnm d1
      go_wp2_with fail
      refine (HL.out _).mono ?_
      rintro e w3 ⟨rfl, rfl⟩
      go_wp2_with fail
      clear q0 q1 q2 f0 f1 f2
      obtain ⟨c0, c1, c2, hk⟩ := ways_set QB.out (.slice (some ⟨g, 0, none⟩) n c) (.int .u8 p.1.toNat) (.int .u8 d.toNat)
      refine bodyPost_ret (v := .tuple #[.agg #[.slice (some ⟨g, 0, none⟩) n c, .int .u8 p.1.toNat, .int .u8 d.toNat], .bool true]) ?_ rfl ⟨⟨_, n, c, _, S, qs, rfl, HPo.out, HP.out.from ?_, HG.out, hn, hn4, HQm.out⟩, ((HB.out.setCell (Nat.le_refl _) _).setCell (Nat.le_refl _) _).setCell (Nat.le_refl _) _⟩
      · simp [results, Tryz.results24, go_sem, c0, c1, c2]
      · intro k hk1 _
        refine hk k ?_
        rw [alloc_size'] at hk1
        omega

theorem namesQ_names {s : ByteArray} {qs : List Qr} (h : progOf s = some (qs.map (·.1))) : namesQ qs = namesT s := by
  unfold namesT
  rw [h]
  show _ = namesOf _
  rw [namesOf, List.map_map]; rfl
theorem way_calls {s : ByteArray} {qs : List Qr} (h : progOf s = some (qs.map (·.1))) (x y : UInt8) : Way (CallsIn (qs.map (·.1))) x y ↔ Way (stepOf s) x y := by
  have hc : ∀ u v, CallsIn (qs.map (·.1)) u v ↔ stepOf s u v := look_in h
  constructor
  · intro hw
    induction hw with
    | here => exact .here
    | next _ hs ih => exact .next ih ((hc _ _).1 hs)
  · intro hw
    induction hw with
    | here => exact .here
    | next _ hs ih => exact .next ih ((hc _ _).2 hs)
theorem name_txt {wi : ByteArray} {d : UInt8} (h : nameOf wi.data.toList = some d) : wi = txtOf [d] := by
  apply ByteArray.ext
  apply Array.ext'
  rw [(nameOf_some h).1]; rfl
/-- what may finds is what may be active -/
theorem may_of {s st wi : ByteArray} {p : Pr} {d : UInt8} {qs : List Qr} (h1 : lookP s st = some p) (h2 : nameOf wi.data.toList = some d) (h : progOf s = some (qs.map (·.1))) (y : UInt8) :
    (y ∈ namesQ qs ∧ Way (CallsIn (qs.map (·.1))) p.1 y ∧ Way (CallsIn (qs.map (·.1))) y d) ↔ MayOf s st wi y := by
  rw [namesQ_names h, way_calls h, way_calls h]
  constructor
  · rintro ⟨h3, h4, h5⟩
    obtain ⟨q, h6, h7⟩ := name_look (way_name h3 h5)
    rw [← name_txt h2] at h6
    exact ⟨h3, p, q, h1, h6, h4, by rw [h7]; exact h5⟩
  · rintro ⟨h3, p', q, h4, h5, h6, h7⟩
    rw [h1] at h4
    injection h4 with h4
    subst h4
    have h8 := (look_nm h5).1
    rw [name_txt h2] at h8
    have h9 : d = q.1 := by
      have := congrArg (fun b : ByteArray => b.data.toList) h8
      simpa [txtOf] using this
    rw [h9]; exact ⟨h3, h6, h7⟩
theorem no_ways {s st wi : ByteArray} (h : lookP s st = none ∨ nameOf wi.data.toList = none) (y : UInt8) : ¬ MayOf s st wi y := by
  rintro ⟨_, p, q, h1, h2, _⟩
  rcases h with h | h
  · rw [h] at h1; cases h1
  · unfold lookP at h2
    rw [h] at h2
    split at h2
    · rename_i hc; cases hc
    · cases h2
theorem at_none {P : UInt8 → Prop} (h : ∀ y, ¬ P y) : AT P [] :=
  ⟨[], fun c hc => by simp at hc, rfl, fun y => ⟨fun hy => by simp at hy, fun hy => absurd hy (h y)⟩⟩

set_option maxHeartbeats 4000000 in
set_option maxRecDepth 100000 in
theorem impl_may (s st wi : ByteArray) (w : World) (hs : s.size ≤ 1073741824) (hm : MaxCell w) :
    Calls Tryz.prog 11 #[.string s, .string st, .string wi] w fun e w' => (∃ l, AT (MayOf s st wi) l ∧ e = .returned (.string (txtOf l))) ∧ Below w.heap.size w w' := by
  have hR := read_ways s st wi w hs hm
  have none_way : (lookP s st = none ∨ nameOf wi.data.toList = none) → Calls Tryz.prog 11 #[.string s, .string st, .string wi] w fun e w' => (∃ l, AT (MayOf s st wi) l ∧ e = .returned (.string (txtOf l))) ∧ Below w.heap.size w w' := by
    intro hn
    have HN := Lib.hid (at_none (no_ways hn))
    have hR2 : Calls Tryz.prog 24 #[.string s, .string st, .string wi] w fun e w' => e = .returned (.tuple #[.agg #[.slice none 0 0, .int .u8 0, .int .u8 0], .bool false]) ∧ Below w.heap.size w w' := by
      refine hR.mono ?_
      rintro e w' ⟨h1, h2⟩
      refine ⟨?_, h2⟩
      rcases hn with h | h
      · rw [h] at h1; exact h1
      · rw [h] at h1
        cases hl : lookP s st with
        | none => rw [hl] at h1; exact h1
        | some p => rw [hl] at h1; exact h1
    have HR := Lib.hid hR2
    clear hR hm hn hR2
    go_enter Tryz.func11, Tryz.ntmps11
    go_wp2_with fail
    refine HR.out.mono ?_
    rintro e w2 ⟨rfl, hb2⟩
    have HB2 := Lib.hid hb2
    clear hb2
    go_wp2_with fail
    go_ret
    exact ⟨⟨[], HN.out, rfl⟩, HB2.out.alloc HB2.out.size _⟩
  unfold WaysTo at hR
  cases hl : lookP s st with
  | none => exact none_way (.inl hl)
  | some p =>
    cases hno : nameOf wi.data.toList with
    | none => exact none_way (.inr hno)
    | some d =>
      rw [hl, hno] at hR
      dsimp only at hR
      have HMay := Lib.hid (fun qs h => may_of (qs := qs) hl hno h)
      have HL := Lib.hid ((look_nm hl).2.1)
      have HD := Lib.hid (nameOf_some hno).2
      have HR := Lib.hid hR
      clear hR none_way hl hno hm
      go_enter Tryz.func11, Tryz.ntmps11
      go_wp2_with fail
      refine HR.out.mono ?_
      rintro e w2 ⟨⟨a, n, c, B, S, qs, rfl, hpo, hP, hG, hn, hn4, _⟩, hb2⟩
      have hb3 := (Below.refl w2.heap.size w2).alloc (Nat.le_refl _) (Obj.cells #[.slice a n c, .int .u8 p.1.toNat, .int .u8 d.toNat] 69)
      have HC := Lib.hid (may_any (hP.kept fun k hk => hb3.block k hk) hn hn4 hG p.1 d HL.out HD.out)
      have HB := Lib.hid (hb2.trans (hb3.mono hb2.size))
      have HPo := Lib.hid hpo
      clear hb2 hb3 hP hG hpo
      go_wp2_with fail
      refine HC.out.mono ?_
      rintro e w3 ⟨⟨re, hre, hmem, rfl⟩, hb3⟩
      have HB3 := Lib.hid (HB.out.trans (hb3.mono HB.out.size))
      have HT := Lib.hid (fun w => text_set re hre w)
      have HZ := Lib.hid (⟨re, hre, rfl, fun y => (hmem y).trans (HMay.out qs HPo.out y)⟩ : AT (MayOf s st wi) (setText re))
      clear hb3 hre hmem
      go_wp2_with fail
      refine (HT.out _).mono ?_
      rintro e w4 ⟨rfl, hb4⟩
      have HB4 := Lib.hid (HB3.out.trans (hb4.mono HB3.out.size))
      clear hb4
      go_wp2_with fail
      go_ret
      exact ⟨⟨_, HZ.out, rfl⟩, HB4.out⟩
end Go.Proofs.YtihjkkoaccmefaaGreatDoor
namespace Go.Proofs.YtihjkkoaccmefaaGreatDoor
open Go.RowKit Gram Go.ChangeMaps

theorem u8_wf (c : UInt8) : (Lit.int .u8 (c.toNat : Int)).wf = true := by
  have := c.toNat_lt
  simp only [Lit.wf, Bool.and_eq_true, decide_eq_true_eq]
  exact ⟨by show (0 : Int) ≤ _; omega, by show (_ : Int) ≤ 255; omega⟩
theorem u8_lit {c d : UInt8} (h : Lit.int .u8 (c.toNat : Int) = Lit.int .u8 (d.toNat : Int)) : c = d := by
  injection h with _ h
  exact UInt8.toNat.inj (by omega)

theorem plain_bool {P : Program} {e : TypeId} {v : Value} {x : Bool} {ps : List MemPlace} (he : P.underlying e = some .bool) (h : plainElem (H := Unit) P e v = some (.lit (.bool x), ps)) : v = .bool x := by
  unfold plainElem at h
  rw [he] at h
  cases v <;> simp at h
  rw [h.1]
/-- the map in block b says of each letter whether it is on the list -/
def Seen (w : World) (b : Nat) (sn : List UInt8) : Prop :=
  ∃ (n : Nat) (D : DataW Unit), n ≤ sn.length ∧ w.ownsMap Tryz.prog 5 (plainElem Tryz.prog 4) b n D ∧ ∀ c : UInt8, D.atKey (.int .u8 (c.toNat : Int)) (.lit (.bool false)) = .lit (.bool (sn.contains c))
theorem Seen.made (w : World) : Seen (w.alloc (.map #[] 0)) w.heap.size [] :=
  ⟨0, .map [], Nat.le_refl _, World.ownsMap_made _ _ _ _, fun _ => rfl⟩
theorem Seen.look {w : World} {b : Nat} {sn : List UInt8} (h : Seen w b sn) (c : UInt8) : (Instr.lookup 134 (.map (some b)) (.int .u8 (c.toNat : Int)) false).run Tryz.prog w = .ok (.bool (sn.contains c)) w := by
  obtain ⟨n, D, _, hown, hat⟩ := h
  obtain ⟨v, ps, hrun, hv⟩ := hown.lookup (t := 134) (e := 4) (Maps.int_keyed Tryz.underlying5) Tryz.underlying134 (z := .bool false) (by kernel_rfl) (plainElem_bool Tryz.underlying4 false) (Maps.keyOf_int_mk Tryz.underlying5 (u8_wf c))
  rw [hat c] at hv
  rw [hrun, plain_bool Tryz.underlying4 hv]
theorem Seen.put {w : World} {b : Nat} {sn : List UInt8} (h : Seen w b sn) (hl : sn.length ≤ 1000) (c : UInt8) :
    ∃ w', (Instr.mapUpdate 134 (.map (some b)) (.int .u8 (c.toNat : Int)) (.bool true)).run Tryz.prog w = .ok () w' ∧ Seen w' b (c :: sn) ∧ w.grownBy w' (some b) := by
  obtain ⟨n, D, hn, hown, hat⟩ := h
  obtain ⟨w', hrun, hown', hg⟩ := hown.update (t := 134) (e := 4) (Maps.int_keyed Tryz.underlying5) Tryz.underlying134 (by unfold maxLen; omega) (Maps.keyOf_int_mk Tryz.underlying5 (u8_wf c)) (plainElem_bool Tryz.underlying4 true)
  refine ⟨w', hrun, ⟨n + 1, _, by simp only [List.length_cons]; omega, hown', fun d => ?_⟩, hg⟩
  by_cases hd : d = c
  · subst hd
    rw [Maps.atKey_put_same hown.isMap (by trivial)]
    simp
  · rw [Maps.atKey_put_other (fun e => hd (u8_lit e)), hat d]
    have : (c :: sn).contains d = sn.contains d := by
      rw [List.contains_cons]
      have : (d == c) = false := by rw [beq_eq_false_iff_ne]; exact hd
      rw [this, Bool.false_or]
    rw [this]
theorem Seen.kept {w w' : World} {b : Nat} {sn : List UInt8} {row : Option Nat} (h : Seen w b sn) (hg : w.grownBy w' row) (hne : some b ≠ row) : Seen w' b sn := by
  obtain ⟨n, D, hn, hown, hat⟩ := h
  exact ⟨n, D, hn, hown.kept hg hne, hat⟩
theorem grown_below {w w' : World} (h : Below w.heap.size w w') : w.grownBy w' none := ⟨h.os, h.tape, h.output, h.size, fun k hk _ => h.block k hk⟩
theorem Seen.later {w w' : World} {b : Nat} {sn : List UInt8} (h : Seen w b sn) (hb : Below w.heap.size w w') : Seen w' b sn := h.kept (grown_below hb) (by simp)
theorem Seen.lt {w : World} {b : Nat} {sn : List UInt8} (h : Seen w b sn) : b < w.heap.size := by
  obtain ⟨n, D, hn, hown, hat⟩ := h
  exact hown.lt
theorem below_grown {w w' : World} {b m : Nat} (h : w.grownBy w' (some b)) (hm : m ≤ b) (hs : m ≤ w.heap.size) : Below m w w' :=
  ⟨h.os, h.tape, h.output, h.size, fun k hk => h.block k (by omega) (fun e => by injection e with e; omega)⟩

/-- the letters that are still to be looked at -/
structure Wk (w : World) (g off n c : Nat) (q : List UInt8) : Prop where
  len : n = q.length
  blk : ∃ cur, w.heap[g]? = some (.cells cur 5 (0, 0)) ∧ off + c ≤ cur.size ∧ ∀ j (hj : j < q.length), cur[off + j]? = some (.int .u8 (q[j].toNat : Int))
  room : n ≤ c
  small : c ≤ maxLen
theorem Wk.lt {w : World} {g off n c : Nat} {q : List UInt8} (h : Wk w g off n c q) : g < w.heap.size := by
  obtain ⟨cur, hc, _⟩ := h.blk
  exact heap_lt hc
theorem Wk.at_ {w : World} {g off n c : Nat} {q : List UInt8} (h : Wk w g off n c q) (j : Nat) (hj : j < q.length) : w.cell? ⟨g, off + j, none⟩ = some (.int .u8 (q[j].toNat : Int)) := by
  obtain ⟨cur, hc, _, hq⟩ := h.blk
  rw [Lib.cell_of_heap hc]; exact hq j hj
theorem Wk.start (w : World) (c : UInt8) : Wk (w.alloc (Obj.cells #[.int .u8 (c.toNat : Int)] 5)) w.heap.size 0 1 1 [c] := by
  refine ⟨rfl, ⟨_, heap_alloc_new _ _, by simp, ?_⟩, Nat.le_refl _, by unfold maxLen; omega⟩
  intro j hj
  have : j = 0 := by simp at hj; omega
  subst this; rfl
theorem Wk.tail {w : World} {g off n c : Nat} {x : UInt8} {q : List UInt8} (h : Wk w g off n c (x :: q)) : Wk w g (if c = 1 then off else off + 1) (n - 1) (c - 1) q := by
  obtain ⟨hl, ⟨cur, hc, hs, hq⟩, hr, hsm⟩ := h
  simp only [List.length_cons] at hl
  refine ⟨by omega, ⟨cur, hc, by split <;> omega, ?_⟩, by omega, by omega⟩
  intro j hj
  have h1 : c ≠ 1 := by omega
  rw [if_neg h1]
  have := hq (j + 1) (by simp; omega)
  rw [List.getElem_cons_succ] at this
  rw [← this]
  congr 1; omega
theorem Wk.kept {w w' : World} {g off n c : Nat} {q : List UInt8} (h : Wk w g off n c q) (hb : w'.heap[g]? = w.heap[g]?) : Wk w' g off n c q := by
  obtain ⟨hl, ⟨cur, hc, hs, hq⟩, hr, hsm⟩ := h
  exact ⟨hl, ⟨cur, by rw [hb]; exact hc, hs, hq⟩, hr, hsm⟩
theorem Wk.later {w w' : World} {g off n c : Nat} {q : List UInt8} (h : Wk w g off n c q) (hb : Below w.heap.size w w') : Wk w' g off n c q := h.kept (hb.block g h.lt)

theorem u8_info : (Tryz.prog.info? 5).map (fun i => (i.zero, i.size, i.bytes)) = some (some (.int .u8 0), 1, 1) := by kernel_rfl
set_option maxRecDepth 100000 in
/-- letters appended -/
theorem Wk.more {w : World} {g off n c : Nat} {q : List UInt8} (h : Wk w g off n c q) (l : List UInt8) (hl : q.length + l.length ≤ 1024) :
    ∃ g' off' c' w', (Builtin.append_ #[22, 9] 22 #[.slice (some ⟨g, off, none⟩) n c, .string (txtOf l)]).run Tryz.prog w = .ok (.slice (some ⟨g', off', none⟩) (n + l.length) c') w' ∧
      Wk w' g' off' (n + l.length) c' (q ++ l) ∧ w.grownBy w' (some g) ∧ (g' = g ∨ g' = w.heap.size) := by
  obtain ⟨hln, ⟨cur, hc, hs, hq⟩, hr, hsm⟩ := h
  have hzl : (txtOf l).size = l.length := txtOf_size _
  have hsl : (Lib.strCells (txtOf l)).length = l.length := by rw [Lib.strCells_length, hzl]
  have hcl : ∀ j (hj : j < l.length), (Lib.strCells (txtOf l))[j]? = some (.int .u8 (l[j].toNat : Int)) := by
    intro j hj
    have : Lib.strCells (txtOf l) = l.map fun b => Value.int .u8 (b.toNat : Int) := rfl
    rw [this, List.getElem?_map, List.getElem?_eq_getElem hj]; rfl
  obtain ⟨i0, hi, hz0, hz1, hz2⟩ := info_parts u8_info
  by_cases hroom : n + l.length ≤ c
  · have hst := run_storeCells_at Tryz.prog g (off + n) 5 (Lib.strCells (txtOf l)) 0 cur w hc (by rw [hsl]; omega) (Lib.strCells_oneCell _)
    have hf := Lib.run_firstCells_string (P := Tryz.prog) w 1 (txtOf l)
    simp only [Nat.add_zero, hsl] at hst
    refine ⟨g, off, c, w.setRow g (cur.toList.take (off + n) ++ Lib.strCells (txtOf l) ++ cur.toList.drop (off + n + l.length)).toArray, ?_, ?_, ?_, .inl rfl⟩
    · rw [hzl] at hf
      simp [Builtin.append_, run_underlying Tryz.underlying22, run_underlying Tryz.underlying9, sizeOf, typeInfo, hi, hz1, Builtin.lenOf, hzl, hroom, hf, Addr.add_lit, hst]
    · refine ⟨by rw [List.length_append]; omega, ⟨_, setRow_heap w g cur _ _ _ hc, ?_, ?_⟩, hroom, hsm⟩
      · simp only [List.size_toArray, List.length_append, List.length_take, List.length_drop, Array.length_toList, hsl]
        omega
      · intro j hj
        rw [List.getElem?_toArray, List.append_assoc]
        by_cases hjq : j < q.length
        · rw [List.getElem?_append_left (by rw [List.length_take, Array.length_toList]; omega), List.getElem?_take_of_lt (by omega), Array.getElem?_toList, hq j hjq, List.getElem_append_left hjq]
        · have hjl : j - q.length < l.length := by simp at hj; omega
          have htk : (cur.toList.take (off + n)).length = off + n := by rw [List.length_take, Array.length_toList]; omega
          rw [List.getElem?_append_right (by rw [htk]; omega), htk, show off + j - (off + n) = j - q.length by omega, List.getElem?_append_left (by rw [hsl]; exact hjl), List.getElem_append_right (by omega)]
          exact hcl _ hjl
    · exact ⟨rfl, rfl, rfl, by simp, fun k _ hk => setRow_other w g k _ (fun e => hk (by rw [e]))⟩
  · have hge := grownCap_ge w (n + l.length) c 5
    have hcm := grownCap_le_maxLen w (n + l.length) c 5 (by unfold maxLen; omega)
    have hr := Lib.run_append_grow_string (P := Tryz.prog) w 22 9 22 5 i0 (.int .u8 0) Tryz.underlying22 Tryz.underlying9 hi hz0 ⟨g, off, none⟩ n c (q.map fun b => Value.int .u8 (b.toNat : Int)) (by rw [List.length_map, hz1]; omega) (by
      intro j v hv
      rw [List.getElem?_map] at hv
      by_cases hjq : j < q.length
      · rw [List.getElem?_eq_getElem hjq] at hv
        injection hv with hv
        rw [Addr.add_lit, Lib.cell_of_heap hc, ← hv]
        exact hq j hjq
      · rw [List.getElem?_eq_none (by omega)] at hv; cases hv) (txtOf l) (by rw [hzl]; omega) (by rw [hzl]; omega) (by rw [hzl, hz2]; exact growslice_fits (by omega) (by omega))
    rw [hzl] at hr
    refine ⟨w.heap.size, 0, _, _, hr, ?_, ?_, .inr rfl⟩
    · refine ⟨by rw [List.length_append]; omega, ⟨_, heap_alloc_new w.drew _, ?_, ?_⟩, hge, hcm⟩
      · have hz1' : (Value.int IntKind.u8 0).cells.size = 1 := rfl
        simp only [Array.size_append, List.size_toArray, size_zeroCells, hz1', List.length_map, hsl]
        omega
      · intro j hj
        rw [Nat.zero_add, ← Array.getElem?_toList]
        simp only [Array.toList_append, List.append_assoc]
        by_cases hjq : j < q.length
        · rw [List.getElem?_append_left (by rw [List.length_map]; exact hjq), List.getElem?_map, List.getElem?_eq_getElem hjq, List.getElem_append_left hjq]; rfl
        · have hjl : j - q.length < l.length := by simp at hj; omega
          rw [List.getElem?_append_right (by rw [List.length_map]; omega), List.length_map, List.getElem?_append_left (by rw [hsl]; exact hjl), List.getElem_append_right (by omega)]
          exact hcl _ hjl
    · exact ⟨rfl, rfl, rfl, by simp, fun k hk _ => heap_alloc_old w.drew _ hk⟩
end Go.Proofs.YtihjkkoaccmefaaGreatDoor
namespace Go.Proofs.YtihjkkoaccmefaaGreatDoor
open Go.RowKit Gram

theorem least_of (P : Nat → Prop) (h : ∃ m, P m) : ∃ m, P m ∧ ∀ k, P k → m ≤ k := by
  obtain ⟨m, hm⟩ := h
  induction m using Nat.strongRecOn with
  | _ m ih =>
    by_cases hs : ∃ k, k < m ∧ P k
    · obtain ⟨k, hk, hp⟩ := hs
      exact ih k hk hp
    · refine ⟨m, hm, fun k hk => ?_⟩
      rcases Nat.lt_or_ge k m with hlt | hge
      · exact absurd ⟨k, hlt, hk⟩ hs
      · exact hge
open Classical in
/-- the least number of which something is true -/
noncomputable def least (P : Nat → Prop) : Nat := if h : ∃ m, P m then Classical.choose (least_of P h) else 0
theorem least_spec {P : Nat → Prop} (h : ∃ m, P m) : P (least P) := by
  rw [least, dif_pos h]; exact (Classical.choose_spec (least_of P h)).1
theorem least_le {P : Nat → Prop} {m : Nat} (h : P m) : least P ≤ m := by
  rw [least, dif_pos ⟨m, h⟩]; exact (Classical.choose_spec (least_of P ⟨m, h⟩)).2 m h

/-- what the program's search keeps -/
structure Pinv (C : UInt8 → UInt8 → Prop) (N : List UInt8) (x c d : UInt8) (sn q : List UInt8) : Prop where
  nodup : sn.Nodup
  ok : ∀ y ∈ sn, y ∈ N
  okq : ∀ y ∈ q, y ∈ N
  first : x ∈ sn
  ways : ∀ y ∈ q, Way (Past [x] C) c y
  came : c ∈ sn ∨ c ∈ q
  done : ∀ y ∈ sn, y = x ∨ (y ≠ d ∧ ∀ z, C y z → z ∈ sn ∨ z ∈ q)
theorem Pinv.start {C : UInt8 → UInt8 → Prop} {N : List UInt8} {x c d : UInt8} (hx : x ∈ N) (hc : c ∈ N) : Pinv C N x c d [x] [c] :=
  ⟨by simp, fun y hy => by rw [List.mem_singleton.1 hy]; exact hx, fun y hy => by rw [List.mem_singleton.1 hy]; exact hc, by simp, fun y hy => by rw [List.mem_singleton.1 hy]; exact .here, .inr (by simp),
   fun y hy => .inl (List.mem_singleton.1 hy)⟩
theorem Pinv.none {C : UInt8 → UInt8 → Prop} {N : List UInt8} {x c d : UInt8} {sn : List UInt8} (h : Pinv C N x c d sn []) : ¬ LeadTo C [x] c d := by
  rintro ⟨h1, h2⟩
  have key : ∀ y, Way (Past [x] C) c y → y ∈ sn := by
    intro y hy
    induction hy with
    | here => exact h.came.resolve_right (by simp)
    | next _ hc ih =>
      rcases h.done _ ih with h3 | ⟨_, h3⟩
      · exact absurd (by rw [h3]; simp) hc.1
      · exact (h3 _ hc.2).resolve_right (by simp)
  rcases h.done _ (key d h2) with h3 | ⟨h3, _⟩
  · exact h1 (by rw [h3]; simp)
  · exact h3 rfl
theorem Pinv.skip {C : UInt8 → UInt8 → Prop} {N : List UInt8} {x c d y : UInt8} {sn q : List UInt8} (h : Pinv C N x c d sn (y :: q)) (hy : y ∈ sn) : Pinv C N x c d sn q := by
  have key : ∀ z, z ∈ sn ∨ z ∈ y :: q → z ∈ sn ∨ z ∈ q := by
    rintro z (hz | hz)
    · exact .inl hz
    · rcases List.mem_cons.1 hz with rfl | hz
      · exact .inl hy
      · exact .inr hz
  refine ⟨h.nodup, h.ok, fun z hz => h.okq z (List.mem_cons.2 (.inr hz)), h.first, fun z hz => h.ways z (List.mem_cons.2 (.inr hz)), key c h.came, ?_⟩
  intro z hz
  rcases h.done z hz with h1 | ⟨h1, h2⟩
  · exact .inl h1
  · exact .inr ⟨h1, fun u hu => key u (h2 u hu)⟩
theorem Pinv.found {C : UInt8 → UInt8 → Prop} {N : List UInt8} {x c d y : UInt8} {sn q : List UInt8} (h : Pinv C N x c d sn (y :: q)) (hy : y ∉ sn) (hd : y = d) : LeadTo C [x] c d := by
  subst hd
  refine ⟨?_, h.ways y (by simp)⟩
  intro hm
  rw [List.mem_singleton.1 hm] at hy
  exact hy h.first
theorem Pinv.more {C : UInt8 → UInt8 → Prop} {N : List UInt8} {x c d y : UInt8} {sn q l : List UInt8} (h : Pinv C N x c d sn (y :: q)) (hy : y ∉ sn) (hd : y ≠ d) (hl : ∀ z, z ∈ l ↔ C y z) (hN : ∀ z, C y z → z ∈ N) : Pinv C N x c d (y :: sn) (q ++ l) := by
  have hyx : y ≠ x := fun e => hy (e ▸ h.first)
  have key : ∀ z, z ∈ sn ∨ z ∈ y :: q → z ∈ y :: sn ∨ z ∈ q ++ l := by
    rintro z (hz | hz)
    · exact .inl (List.mem_cons.2 (.inr hz))
    · rcases List.mem_cons.1 hz with rfl | hz
      · exact .inl (by simp)
      · exact .inr (List.mem_append.2 (.inl hz))
  refine ⟨List.nodup_cons.2 ⟨hy, h.nodup⟩, ?_, ?_, List.mem_cons.2 (.inr h.first), ?_, key c h.came, ?_⟩
  · intro z hz
    rcases List.mem_cons.1 hz with rfl | hz
    · exact h.okq z (by simp)
    · exact h.ok z hz
  · intro z hz
    rcases List.mem_append.1 hz with hz | hz
    · exact h.okq z (List.mem_cons.2 (.inr hz))
    · exact hN z ((hl z).1 hz)
  · intro z hz
    rcases List.mem_append.1 hz with hz | hz
    · exact h.ways z (List.mem_cons.2 (.inr hz))
    · exact .next (h.ways y (by simp)) ⟨by simpa using hyx, (hl z).1 hz⟩
  · intro z hz
    rcases List.mem_cons.1 hz with rfl | hz
    · exact .inr ⟨hd, fun u hu => .inr (List.mem_append.2 (.inr ((hl u).2 hu)))⟩
    · rcases h.done z hz with h1 | ⟨h1, h2⟩
      · exact .inl h1
      · exact .inr ⟨h1, fun u hu => key u (h2 u hu)⟩

/-- what holds ahead of each round, and how many there may be -/
structure Lp (w : World) (C : UInt8 → UInt8 → Prop) (N : List UInt8) (x c d : UInt8) (bx : Array Value) (T : TypeId) (m : Nat) (v : Value) (wr : World) : Prop where
  ex : ∃ (g off n' c' : Nat) (sn q : List UInt8), v = .slice (some ⟨g, off, none⟩) n' c' ∧ Wk wr g off n' c' q ∧ Seen wr (w.heap.size + 1) sn ∧ Pinv C N x c d sn q ∧ q.length ≤ 26 * sn.length ∧ m = 27 * (27 - sn.length) + q.length ∧ w.heap.size + 2 ≤ g
  box : wr.heap[w.heap.size]? = some (.cells bx T (0, 0))
  bel : Below w.heap.size w wr

set_option maxHeartbeats 8000000 in
set_option maxRecDepth 100000 in
theorem lead_past {w : World} {B : Nat} {S : Nat → Prop} {qs : List Qr} {a : Option Addr} {n c : Nat} (h : IsProg w B S qs (.slice a n c)) (hn : qs.length = n) (hl : n ≤ 401) (hg : ∀ q ∈ qs, Good q.1) (ha : asc (namesQ qs))
    (ho : ∀ y z, CallsIn (qs.map (·.1)) y z → z ∈ namesQ qs) (st wi x : UInt8) (hst : st ∈ namesQ qs) (hx : x ∈ namesQ qs) :
    Calls Tryz.prog 53 #[.agg #[.slice a n c, .int .u8 st.toNat, .int .u8 wi.toNat], .int .u8 x.toNat] w fun e w' =>
      (∃ b : Bool, e = .returned (.bool b) ∧ (b = true ↔ LeadTo (CallsIn (qs.map (·.1))) [x] st wi)) ∧ Below w.heap.size w w' := by
  have hls : ∀ y ∈ namesQ qs, isLet y = true := namesQ_lets hg
  have hN26 : (namesQ qs).length ≤ 26 := nodup_26 (asc_nodup ha) hls
  have H := Lib.hid h
  have HN := Lib.hid hn
  have HG := Lib.hid hg
  have HA := Lib.hid ha
  have HOw := Lib.hid ho
  have HLs := Lib.hid hls
  have HP0 := Lib.hid (Pinv.start (C := CallsIn (qs.map (·.1))) (d := wi) hx hst)
  clear h hn hg ha ho hls hst hx
  have hmm := @run_makeMap Tryz.prog
  obtain ⟨w2, hput, hsn, hgr⟩ := (Seen.made (w.alloc (Obj.cells #[.slice a n c, .int .u8 st.toNat, .int .u8 wi.toNat] 69))).put (by simp) x
  rw [alloc_size'] at hput hsn hgr
  have hbx : w2.heap[w.heap.size]? = some (.cells #[.slice a n c, .int .u8 st.toNat, .int .u8 wi.toNat] 69 (0, 0)) := by
    rw [hgr.block w.heap.size (by simp; omega) (by simp), Lib.alloc_old _ _ _ (by simp)]
    exact heap_alloc_new _ _
  have hb2 : Below w.heap.size w w2 := (((Below.refl w.heap.size w).alloc (Nat.le_refl _) _).alloc (by simp) _).trans (below_grown hgr (by omega) (by simp; omega))
  have hsz : w.heap.size + 2 ≤ w2.heap.size := by have := hgr.size; simp at this; omega
  have b1 : w2.cell? ⟨w.heap.size, 1, none⟩ = some (.int .u8 st.toNat) := by rw [Lib.cell_of_heap hbx]; rfl
  have HSn := Lib.hid hsn
  have HBx := Lib.hid hbx
  have HB2 := Lib.hid hb2
  clear hsn hgr hbx hb2
  go_enter Tryz.func53, Tryz.ntmps53
  go_wp2_with fail
  go_step3
  go_wp2_with fail
  go_step3
  go_wp2_with fail
  clear hmm hput b1
  go_loopw [6] (fun v wr => ∃ m, Lp w (CallsIn (qs.map (·.1))) (namesQ qs) x st wi #[.slice a n c, .int .u8 st.toNat, .int .u8 wi.toNat] 69 m v wr) (fun v wr => least fun m => Lp w (CallsIn (qs.map (·.1))) (namesQ qs) x st wi #[.slice a n c, .int .u8 st.toNat, .int .u8 wi.toNat] 69 m v wr)
  case atStart =>
    have hb3 := (Below.refl w2.heap.size w2).alloc (Nat.le_refl _) (Obj.cells #[.int .u8 (st.toNat : Int)] 5)
    exact ⟨_, ⟨_, _, _, _, [x], [st], rfl, Wk.start w2 st, HSn.out.later hb3, HP0.out, by simp, rfl, hsz⟩, by rw [Lib.alloc_old _ _ _ (by omega)]; exact HBx.out, HB2.out.alloc (by omega) _⟩
  case round =>
    have hR := least_spec hrel
    obtain ⟨⟨g, off, n', c', sn, q, rfl, hwk, hseen, hinv, hqs, hmeq, hg2⟩, hbox, hb⟩ := hR
    have HMe := Lib.hid hmeq
    have HWk := Lib.hid hwk
    have HSe := Lib.hid hseen
    have HIn := Lib.hid hinv
    have HBo := Lib.hid hbox
    have HB := Lib.hid hb
    have hs26 : sn.length ≤ 26 := nodup_26 hinv.nodup fun y hy => HLs.out y (hinv.ok y hy)
    have hln := hwk.len
    have hnc := hwk.room
    have hcm := hwk.small
    unfold maxLen at hcm
    clear hrel hmeq hwk hseen hinv hbox hb
    cases q with
    | nil =>
      have HNo := Lib.hid HIn.out.none
      simp only [List.length_nil] at hln
      subst hln
      go_wp2_with fail
      rw [Exit.noGoto_ret]
      go_ret
      exact ⟨⟨false, rfl, iff_of_false (by simp) HNo.out⟩, HB.out⟩
    | cons y t =>
      simp only [List.length_cons] at hln hqs
      have hy0 := HWk.out.at_ 0 (by simp)
      rw [Nat.add_zero, List.getElem_cons_zero] at hy0
      have htl := HWk.out.tail
      rw [show n' - 1 = t.length by omega] at htl
      have HTl := Lib.hid htl
      clear htl
      have hif : (if c' = 1 then some (⟨g, off, none⟩ : Addr) else some ⟨g, off + 1, none⟩) = some ⟨g, if c' = 1 then off else off + 1, none⟩ := by split <;> rfl
      generalize (if c' = 1 then off else off + 1) = off' at *
      have HLk := Lib.hid (HSe.out.look y)
      have hlook := HLk.out
      have b2 : wr.cell? ⟨w.heap.size, 2, none⟩ = some (.int .u8 wi.toNat) := by rw [Lib.cell_of_heap HBo.out]; rfl
      cases hin : sn.contains y with
      | true =>
        rw [hin] at hlook
        have HSk := Lib.hid (HIn.out.skip (List.contains_iff_mem.1 hin))
        have HNew := Lib.hid (fun (v : Value) (hv : v = .slice (some ⟨g, off', none⟩) t.length (c' - 1)) => (⟨⟨g, off', t.length, c' - 1, sn, t, hv, HTl.out, HSe.out, HSk.out, by omega, rfl, hg2⟩, HBo.out, HB.out⟩ : Lp w (CallsIn (qs.map (·.1))) (namesQ qs) x st wi #[.slice a n c, .int .u8 st.toNat, .int .u8 wi.toNat] 69 (27 * (27 - sn.length) + t.length) v wr))
        clear hin
        go_wp2_with fail
        go_roundw
        case rel => exact ⟨_, HNew.out _ rfl⟩
        case measure =>
          refine Nat.lt_of_le_of_lt (least_le (HNew.out _ rfl)) ?_
          have := HMe.out
          simp only [List.length_cons] at this
          show _ < least fun m => Lp w (CallsIn (qs.map (·.1))) (namesQ qs) x st wi #[.slice a n c, .int .u8 st.toNat, .int .u8 wi.toNat] 69 m (.slice (some ⟨g, off, none⟩) n' c') wr
          rw [this]; omega
      | false =>
        rw [hin] at hlook
        have hni : y ∉ sn := fun hm => by rw [List.contains_iff_mem.2 hm] at hin; cases hin
        by_cases hd : y = wi
        · have HF := Lib.hid (HIn.out.found hni hd)
          have heq : ((y.toNat : Int) == wi.toNat) = true := by rw [beq_iff_eq, hd]
          clear hin hni hd
          go_wp2_with fail
          rw [Exit.noGoto_ret]
          go_ret
          exact ⟨⟨true, rfl, iff_of_true rfl HF.out⟩, HB.out⟩
        · have heq : ((y.toNat : Int) == wi.toNat) = false := by
            rw [beq_eq_false_iff_ne]; intro e; exact hd (UInt8.toNat.inj (by omega))
          have hyN := HIn.out.okq y (by simp)
          obtain ⟨w3, hput, hsn3, hgr3⟩ := HSe.out.put (by omega) y
          have hb3 := HB.out.trans (below_grown (m := w.heap.size) hgr3 (by omega) HB.out.size)
          have HB3 := Lib.hid hb3
          have HBo3 := Lib.hid (by rw [hgr3.block w.heap.size (heap_lt HBo.out) (by simp)]; exact HBo.out : w3.heap[w.heap.size]? = some (.cells #[.slice a n c, .int .u8 st.toNat, .int .u8 wi.toNat] 69 (0, 0)))
          have HTl3 := Lib.hid (HTl.out.kept (hgr3.block g HTl.out.lt (by simp; omega)))
          have HSe3 := Lib.hid hsn3
          have HFi := Lib.hid (find_in (H.out.kept fun k hk => hb3.block k hk) HN.out hl HA.out y)
          have hcon : (namesQ qs).contains y = true := List.contains_iff_mem.2 hyN
          rw [hcon] at HFi
          obtain ⟨hr, hre⟩ := (rank_has _ _ HA.out).1 hcon
          have hrq : rank (namesQ qs) y < qs.length := by simpa [namesQ] using hr
          have hry : qs[rank (namesQ qs) y].1.1 = y := by
            have : (namesQ qs)[rank (namesQ qs) y] = qs[rank (namesQ qs) y].1.1 := by simp [namesQ]
            rw [← this]; exact hre
          have hrn : rank (namesQ qs) y < n := by have := HN.out; omega
          have hcalls : ∀ z, z ∈ callsIn qs[rank (namesQ qs) y].1.2 ↔ CallsIn (qs.map (·.1)) y z := by
            intro z
            constructor
            · intro hz
              exact ⟨_, List.mem_map.2 ⟨_, List.getElem_mem hrq, rfl⟩, hry, hz⟩
            · rintro ⟨p, hp, he, hz⟩
              have h1 : asc (namesOf (qs.map (·.1))) := by
                have : namesOf (qs.map (·.1)) = namesQ qs := by rw [namesOf, List.map_map]; rfl
                rw [this]; exact HA.out
              have h2 := asc_unique h1 p hp qs[rank (namesQ qs) y].1 (List.mem_map.2 ⟨_, List.getElem_mem hrq, rfl⟩) (by rw [he, hry])
              rw [← h2]; exact hz
          obtain ⟨gq, rfl, _, c0, c1⟩ := H.out.get _ hrq
          have hgl : gq < w.heap.size := World.block_lt_of_cell? w _ c0
          have hbody := prog_body H.out _ hrq
          obtain ⟨ba, bn, bc, hbv⟩ := hbody.form
          have hq := HG.out qs[rank (namesQ qs) y] (List.getElem_mem hrq)
          rw [hbv] at c1 hbody
          have HC0 := Lib.hid c0
          have HC1 := Lib.hid c1
          have HBody := Lib.hid hbody
          have hlc := callsIn_lets _ hq.1
          have HLc := Lib.hid hlc
          have HCa := Lib.hid (fun w2 (hb3 : Below w.heap.size w w2) => calls_any (w := w2) (S := S) (p := qs[rank (namesQ qs) y].1) (HBody.out.kept (w' := w2) (fun j hj => hb3.block j (H.out.lt j hj)) (fun _ h => h)) (fun j hj => Nat.lt_of_lt_of_le (H.out.lt j hj) hb3.size) hq)
          have HCs := Lib.hid hcalls
          clear c0 c1 hbv hbody hcon hr hre hcalls hlc hq hsn3 hb3 hin
          rw [hry] at HC0 HCa
          generalize callsIn qs[rank (namesQ qs) y].1.2 = cl at *
          have hll := setText_len cl
          have HMore := Lib.hid (HIn.out.more (l := setText cl) hni hd (fun z => by rw [mem_upTo HLc.out, HCs.out z]) (fun z => HOw.out y z))
          have x3 : w3.cell? ⟨w.heap.size, 0, none⟩ = some (.slice (some ⟨gq, 0, none⟩) n c) := by rw [Lib.cell_of_heap HBo3.out]; rfl
          clear hgr3 hni hd hry
          generalize rank (namesQ qs) y = rk at *
          go_wp2_with fail
          refine HFi.out.mono ?_
          rintro e w4 ⟨rfl, hb4⟩
          have hb04 := HB3.out.trans (hb4.mono HB3.out.size)
          have d0 : w4.cell? ⟨gq, rk * 2, none⟩ = some (.int .u8 y.toNat) := by rw [hb04.cell (p := ⟨gq, rk * 2, none⟩) hgl]; exact HC0.out
          have d1 : w4.cell? ⟨gq, rk * 2 + 1, none⟩ = some (.slice ba bn bc) := by rw [hb04.cell (p := ⟨gq, rk * 2 + 1, none⟩) hgl]; exact HC1.out
          have hbo4 : w4.heap[w.heap.size]? = some (.cells #[.slice (some ⟨gq, 0, none⟩) n c, .int .u8 st.toNat, .int .u8 wi.toNat] 69 (0, 0)) := by rw [hb4.block _ (heap_lt HBo3.out)]; exact HBo3.out
          have x0 : w4.cell? ⟨w.heap.size, 0, none⟩ = some (.slice (some ⟨gq, 0, none⟩) n c) := by rw [Lib.cell_of_heap hbo4]; rfl
          have HBo4 := Lib.hid hbo4
          have HB4 := Lib.hid hb04
          have HTl4 := Lib.hid (HTl3.out.later hb4)
          have HSe4 := Lib.hid (HSe3.out.later hb4)
          clear hb4 hb04 hbo4 hput x3
          go_wp2_with fail
          refine (HCa.out _ HB4.out).mono ?_
          rintro e w5 ⟨rfl, hb5⟩
          have HB5 := Lib.hid hb5
          clear hb5
          go_wp2_with fail
          refine (text_set cl HLc.out _).mono ?_
          rintro e w6 ⟨rfl, hb6⟩
          have hb46 := HB5.out.trans (hb6.mono HB5.out.size)
          obtain ⟨g', off2, c2, w7, hrun, hwk7, hgr7, hg7⟩ := (HTl4.out.later hb46).more (setText cl) (by omega)
          have hlt6 := (HTl4.out.later hb46).lt
          have hsz6 : w.heap.size + 2 ≤ w6.heap.size := by omega
          have hlen7 : (t ++ setText cl).length = t.length + (setText cl).length := List.length_append
          have HNew := Lib.hid (⟨⟨g', off2, _, c2, y :: sn, t ++ setText cl, rfl, hwk7, (HSe4.out.later hb46).kept hgr7 (by simp; omega), HMore.out, by simp only [List.length_cons]; omega, rfl, by omega⟩,
            by rw [hgr7.block _ (by omega) (by simp; omega), hb46.block _ (heap_lt HBo4.out)]; exact HBo4.out, (HB4.out.trans (hb46.mono HB4.out.size)).trans (below_grown hgr7 (by omega) (by omega))⟩ : Lp w (CallsIn (qs.map (·.1))) (namesQ qs) x st wi #[.slice (some ⟨gq, 0, none⟩) n c, .int .u8 st.toNat, .int .u8 wi.toNat] 69 (27 * (27 - (y :: sn).length) + (t ++ setText cl).length) (.slice (some ⟨g', off2, none⟩) (t.length + (setText cl).length) c2) w7)
          have HRun := Lib.hid hrun
          clear hb6 hb46 hrun hwk7 hgr7 hg7 hlt6 hsz6
          go_wp2_with (at_builtin; refine Lib.wpList_append_run _ rfl _ _ 22 9 rfl _ _ rfl rfl _ _ HRun.out ?_)
          go_roundw
          case rel => exact ⟨_, HNew.out⟩
          case measure =>
            refine Nat.lt_of_le_of_lt (least_le HNew.out) ?_
            have := HMe.out
            simp only [List.length_cons] at this ⊢
            show _ < least fun m => Lp w (CallsIn (qs.map (·.1))) (namesQ qs) x st wi #[.slice (some ⟨gq, 0, none⟩) n c, .int .u8 st.toNat, .int .u8 wi.toNat] 69 m (.slice (some ⟨g, off, none⟩) n' c') wr
            rw [this]; omega
end Go.Proofs.YtihjkkoaccmefaaGreatDoor
namespace Go.Proofs.YtihjkkoaccmefaaGreatDoor
open Go.RowKit Gram

set_option maxHeartbeats 4000000 in
set_option maxRecDepth 100000 in
theorem must_any {w : World} {B : Nat} {S : Nat → Prop} {qs : List Qr} {a : Option Addr} {n c : Nat} (h : IsProg w B S qs (.slice a n c)) (hn : qs.length = n) (hl : n ≤ 401) (hg : ∀ q ∈ qs, Good q.1) (ha : asc (namesQ qs))
    (ho : ∀ y z, CallsIn (qs.map (·.1)) y z → z ∈ namesQ qs) (st wi : UInt8) (hst : st ∈ namesQ qs) (hwi : isLet wi = true) :
    Calls Tryz.prog 25 #[.agg #[.slice a n c, .int .u8 st.toNat, .int .u8 wi.toNat]] w fun e w' =>
      (∃ re, lets re ∧ (∀ y, y ∈ re ↔ (y ∈ namesQ qs ∧ Way (CallsIn (qs.map (·.1))) st y ∧ Way (CallsIn (qs.map (·.1))) y wi) ∧ ¬ LeadTo (CallsIn (qs.map (·.1))) [y] st wi) ∧ e = .returned (.int .u32 (setOf re))) ∧ Below w.heap.size w w' := by
  have hb1 := (Below.refl w.heap.size w).alloc (Nat.le_refl _) (Obj.cells #[.slice a n c, .int .u8 st.toNat, .int .u8 wi.toNat] 69)
  have HB1 := Lib.hid hb1
  have H := Lib.hid h
  have HN := Lib.hid hn
  have HG := Lib.hid hg
  have HMa := Lib.hid (may_any (h.kept fun k hk => hb1.block k hk) hn hl hg st wi (namesQ_lets hg st hst) hwi)
  have HLe := Lib.hid (fun (x : UInt8) (hx : x ∈ namesQ qs) (w' : World) (hb : Below w.heap.size w w') => lead_past (h.kept fun k hk => hb.block k hk) hn hl hg ha ho st wi x hst hx)
  clear h hn hg hst hwi ha ho hb1
  go_enter Tryz.func25, Tryz.ntmps25
  go_wp2_with fail
  refine HMa.out.mono ?_
  rintro e w3 ⟨⟨re, hlre, hre, rfl⟩, hb3⟩
  have HB3 := Lib.hid (HB1.out.trans (hb3.mono HB1.out.size))
  have hbo : w3.heap[w.heap.size]? = some (.cells #[.slice a n c, .int .u8 st.toNat, .int .u8 wi.toNat] 69 (0, 0)) := by
    rw [hb3.block _ (by rw [alloc_size']; omega)]; exact heap_alloc_new _ _
  have HBo := Lib.hid hbo
  have HL := Lib.hid hlre
  have HRe := Lib.hid hre
  have q0 : w3.cell? ⟨w.heap.size, 0, none⟩ = some (.slice a n c) := by rw [Lib.cell_of_heap hbo]; rfl
  clear hb3 hlre hre hbo
  go_wp2_with fail
  clear q0
  go_loopw [3, 11] (fun x i wr => ∃ (k : Nat) (ms : List UInt8), i = .int .i64 k ∧ k ≤ n ∧ x = .int .u32 (setOf ms) ∧ Hid (lets ms) ∧ Hid (∀ y, y ∈ ms ↔ (y ∈ namesQ qs ∧ Way (CallsIn (qs.map (·.1))) st y ∧ Way (CallsIn (qs.map (·.1))) y wi) ∧ (y ∈ namesQ (qs.take k) → ¬ LeadTo (CallsIn (qs.map (·.1))) [y] st wi)) ∧ Hid (Below w3.heap.size w3 wr)) (fun _ i _ => n - (intOf i).toNat)
  case atStart =>
    refine ⟨0, re, by go_num, Nat.zero_le _, rfl, HL.out, ?_, Below.refl _ _⟩
    show ∀ y, _
    intro y
    rw [HRe.out y]; simp [namesQ]
  case round =>
    obtain ⟨k, ms, rfl, hk, rfl, hms, hM, hb⟩ := hrel
    have HBw := Lib.hid (HB3.out.trans (hb.out.mono HB3.out.size))
    by_cases hlt : k < n
    · have hkq : k < qs.length := by rw [HN.out]; exact hlt
      obtain ⟨g, rfl, _, c0, c1⟩ := H.out.get k hkq
      have hgl : g < w.heap.size := World.block_lt_of_cell? w _ c0
      obtain ⟨ba, bn, bc, hbv⟩ := (prog_body H.out k hkq).form
      rw [hbv] at c1
      have d0 : wr.cell? ⟨g, k * 2, none⟩ = some (.int .u8 qs[k].1.1.toNat) := by rw [HBw.out.cell (p := ⟨g, k * 2, none⟩) hgl]; exact c0
      have d1 : wr.cell? ⟨g, k * 2 + 1, none⟩ = some (.slice ba bn bc) := by rw [HBw.out.cell (p := ⟨g, k * 2 + 1, none⟩) hgl]; exact c1
      have hq := HG.out qs[k] (List.getElem_mem hkq)
      have hbr : wr.heap[w.heap.size]? = some (.cells #[.slice (some ⟨g, 0, none⟩) n c, .int .u8 st.toNat, .int .u8 wi.toNat] 69 (0, 0)) := by rw [hb.out.block _ (heap_lt HBo.out)]; exact HBo.out
      have b0 : wr.cell? ⟨w.heap.size, 0, none⟩ = some (.slice (some ⟨g, 0, none⟩) n c) := by rw [Lib.cell_of_heap hbr]; rfl
      have b1 : wr.cell? ⟨w.heap.size, 1, none⟩ = some (.int .u8 st.toNat) := by rw [Lib.cell_of_heap hbr]; rfl
      have b2 : wr.cell? ⟨w.heap.size, 2, none⟩ = some (.int .u8 wi.toNat) := by rw [Lib.cell_of_heap hbr]; rfl
      have HNm := Lib.hid (namesQ_take qs k hkq)
      have HLq := Lib.hid hq.2.2.2
      have HIq := Lib.hid (List.mem_map.2 ⟨_, List.getElem_mem hkq, rfl⟩ : qs[k].1.1 ∈ namesQ qs)
      generalize hch : qs[k].1.1 = ch at *
      have HA := Lib.hid ((Below.refl wr.heap.size wr).alloc (Nat.le_refl _) (Obj.cells #[.int .u8 ch.toNat, .slice ba bn bc] 66))
      have HLp := Lib.hid (HLe.out ch HIq.out _ (HBw.out.trans (HA.out.mono HBw.out.size)))
      have k0 := cell_later HA.out b0
      have k1 := cell_later HA.out b1
      have k2 := cell_later HA.out b2
      clear c0 c1 hgl hbv hq hch hbr b0 b1 b2
      go_wp2_with fail
      refine HLp.out.mono ?_
      rintro e w5 ⟨⟨b, rfl, hiff⟩, hb5⟩
      have HB5 := Lib.hid (hb.out.trans ((HA.out.trans (hb5.mono HA.out.size)).mono hb.out.size))
      have e0 : w5.cell? ⟨wr.heap.size, 0, none⟩ = some (.int .u8 ch.toNat) := cell_later hb5 (by rw [Lib.cell_of_heap (heap_alloc_new _ _)]; rfl)
      clear hb5 k0 k1 k2 d0 d1
      cases b with
      | true =>
        have HLd := Lib.hid (hiff.1 rfl)
        have HO := Lib.hid (fun w => one_letter ch HLq.out w)
        have e2 := less32 (setOf ms) (bitOf ch)
        have HLf := Lib.hid (by rw [← set_one]; exact less_filter ms [ch] hms.out (fun y hy => by rw [List.mem_singleton.1 hy]; exact HLq.out) : lessOf (setOf ms) (bitOf ch) = setOf (ms.filter fun y => ![ch].contains y))
        clear hiff
        go_wp2_with fail
        refine (HO.out _).mono ?_
        rintro e w6 ⟨rfl, rfl⟩
        go_wp2_with fail
        go_roundw
        case rel =>
          refine ⟨k + 1, ms.filter fun y => ![ch].contains y, by go_num, by omega, by rw [HLf.out], ?_, ?_, HB5.out⟩
          · show lets _
            exact fun y hy => hms.out y (List.mem_filter.1 hy).1
          · show ∀ y, _
            intro y
            rw [List.mem_filter, hM.out y, HNm.out, List.mem_append]
            have hc : (![ch].contains y) = true ↔ y ≠ ch := by simp
            rw [hc]
            constructor
            · rintro ⟨⟨h1, h2⟩, h3⟩
              refine ⟨h1, ?_⟩
              rintro (h4 | h4)
              · exact h2 h4
              · exact absurd (List.mem_singleton.1 h4) h3
            · rintro ⟨h1, h2⟩
              refine ⟨⟨h1, fun h => h2 (.inl h)⟩, ?_⟩
              rintro rfl
              exact h2 (.inr (by simp)) HLd.out
        case measure => simp [intOf]; omega
      | false =>
        have hld : ¬ LeadTo (CallsIn (qs.map (·.1))) [ch] st wi := fun h => by have := hiff.2 h; cases this
        have HLd := Lib.hid hld
        clear hiff e0 hld
        go_wp2_with fail
        go_roundw
        case rel =>
          refine ⟨k + 1, ms, by go_num, by omega, rfl, hms.out, ?_, HB5.out⟩
          show ∀ y, _
          intro y
          rw [hM.out y, HNm.out, List.mem_append]
          constructor
          · rintro ⟨h1, h2⟩
            refine ⟨h1, ?_⟩
            rintro (h4 | h4)
            · exact h2 h4
            · rw [List.mem_singleton.1 h4]; exact HLd.out
          · rintro ⟨h1, h2⟩
            exact ⟨h1, fun h => h2 (.inl h)⟩
        case measure => simp [intOf]; omega
    · have hall : qs.take k = qs := List.take_of_length_le (by rw [HN.out]; omega)
      rw [hall] at hM
      go_wp2_with fail
      go_ret
      refine ⟨⟨ms, hms.out, fun y => ?_, rfl⟩, HBw.out⟩
      rw [hM.out y]
      exact ⟨fun ⟨h1, h2⟩ => ⟨h1, h2 h1.1⟩, fun ⟨h1, h2⟩ => ⟨h1, fun _ => h2⟩⟩

/-- what must finds is what must be active -/
theorem must_of {s st wi : ByteArray} {p : Pr} {d : UInt8} {qs : List Qr} (h1 : lookP s st = some p) (h2 : nameOf wi.data.toList = some d) (h : progOf s = some (qs.map (·.1))) (y : UInt8) :
    ((y ∈ namesQ qs ∧ Way (CallsIn (qs.map (·.1))) p.1 y ∧ Way (CallsIn (qs.map (·.1))) y d) ∧ ¬ LeadTo (CallsIn (qs.map (·.1))) [y] p.1 d) ↔ MustOf s st wi y := by
  have hc : ∀ u v, CallsIn (qs.map (·.1)) u v ↔ stepOf s u v := look_in h
  have hCC : CallsIn (qs.map (·.1)) = stepOf s := by funext u v; exact propext (hc u v)
  rw [may_of h1 h2 h y, hCC]
  constructor
  · rintro ⟨⟨h3, p', q, h4, h5, h6, h7⟩, h8⟩
    refine ⟨h3, p', q, h4, h5, h6.trans h7, ?_⟩
    rw [h1] at h4
    injection h4 with h4
    subst h4
    have h9 := (look_nm h5).1
    rw [name_txt h2] at h9
    have h10 : d = q.1 := by
      have := congrArg (fun b : ByteArray => b.data.toList) h9
      simpa [txtOf] using this
    rw [← h10]; exact h8
  · intro hm
    refine ⟨hm.may, ?_⟩
    obtain ⟨h3, p', q, h4, h5, h6, h7⟩ := hm
    rw [h1] at h4
    injection h4 with h4
    subst h4
    have h9 := (look_nm h5).1
    rw [name_txt h2] at h9
    have h10 : d = q.1 := by
      have := congrArg (fun b : ByteArray => b.data.toList) h9
      simpa [txtOf] using this
    rw [h10]; exact h7

set_option maxHeartbeats 4000000 in
set_option maxRecDepth 100000 in
theorem impl_must (s st wi : ByteArray) (w : World) (hs : s.size ≤ 1073741824) (hm : MaxCell w) :
    Calls Tryz.prog 10 #[.string s, .string st, .string wi] w fun e w' => (∃ l, AT (MustOf s st wi) l ∧ e = .returned (.string (txtOf l))) ∧ Below w.heap.size w w' := by
  have hR := read_ways s st wi w hs hm
  have none_way : (lookP s st = none ∨ nameOf wi.data.toList = none) → Calls Tryz.prog 10 #[.string s, .string st, .string wi] w fun e w' => (∃ l, AT (MustOf s st wi) l ∧ e = .returned (.string (txtOf l))) ∧ Below w.heap.size w w' := by
    intro hn
    have HN := Lib.hid (at_none fun y (hy : MustOf s st wi y) => no_ways hn y hy.may)
    have hR2 : Calls Tryz.prog 24 #[.string s, .string st, .string wi] w fun e w' => e = .returned (.tuple #[.agg #[.slice none 0 0, .int .u8 0, .int .u8 0], .bool false]) ∧ Below w.heap.size w w' := by
      refine hR.mono ?_
      rintro e w' ⟨h1, h2⟩
      refine ⟨?_, h2⟩
      rcases hn with h | h
      · rw [h] at h1; exact h1
      · rw [h] at h1
        cases hl : lookP s st with
        | none => rw [hl] at h1; exact h1
        | some p => rw [hl] at h1; exact h1
    have HR := Lib.hid hR2
    clear hR hm hn hR2
    go_enter Tryz.func10, Tryz.ntmps10
    go_wp2_with fail
    refine HR.out.mono ?_
    rintro e w2 ⟨rfl, hb2⟩
    have HB2 := Lib.hid hb2
    clear hb2
    go_wp2_with fail
    go_ret
    exact ⟨⟨[], HN.out, rfl⟩, HB2.out.alloc HB2.out.size _⟩
  unfold WaysTo at hR
  cases hl : lookP s st with
  | none => exact none_way (.inl hl)
  | some p =>
    cases hno : nameOf wi.data.toList with
    | none => exact none_way (.inr hno)
    | some d =>
      rw [hl, hno] at hR
      dsimp only at hR
      have HMust := Lib.hid (fun qs h => must_of (qs := qs) hl hno h)
      have HL := Lib.hid ((look_nm hl).2.1)
      have HD := Lib.hid (nameOf_some hno).2
      have HR := Lib.hid hR
      clear hR none_way hl hno hm
      go_enter Tryz.func10, Tryz.ntmps10
      go_wp2_with fail
      refine HR.out.mono ?_
      rintro e w2 ⟨⟨a, n, c, B, S, qs, rfl, hpo, hP, hG, hn, hn4, hsq⟩, hb2⟩
      have hb3 := (Below.refl w2.heap.size w2).alloc (Nat.le_refl _) (Obj.cells #[.slice a n c, .int .u8 p.1.toNat, .int .u8 d.toNat] 69)
      have HC := Lib.hid (must_any (hP.kept fun k hk => hb3.block k hk) hn hn4 hG (by rw [namesQ_names hpo]; exact namesT_asc s) (fun y z h => by rw [namesQ_names hpo]; exact step_name ((look_in hpo y z).1 h)) p.1 d hsq HD.out)
      have HB := Lib.hid (hb2.trans (hb3.mono hb2.size))
      have HPo := Lib.hid hpo
      clear hb2 hb3 hP hG hpo hsq
      go_wp2_with fail
      refine HC.out.mono ?_
      rintro e w3 ⟨⟨re, hre, hmem, rfl⟩, hb3⟩
      have HB3 := Lib.hid (HB.out.trans (hb3.mono HB.out.size))
      have HT := Lib.hid (fun w => text_set re hre w)
      have HZ := Lib.hid (⟨re, hre, rfl, fun y => (hmem y).trans (HMust.out qs HPo.out y)⟩ : AT (MustOf s st wi) (setText re))
      clear hb3 hre hmem
      go_wp2_with fail
      refine (HT.out _).mono ?_
      rintro e w4 ⟨rfl, hb4⟩
      have HB4 := Lib.hid (HB3.out.trans (hb4.mono HB3.out.size))
      clear hb4
      go_wp2_with fail
      go_ret
      exact ⟨⟨_, HZ.out, rfl⟩, HB4.out⟩
end Go.Proofs.YtihjkkoaccmefaaGreatDoor
namespace Go.Proofs.YtihjkkoaccmefaaGreatDoor
open Go.RowKit Gram

/-- what the model's search keeps -/
structure Rinv (C : UInt8 → UInt8 → Prop) (W : List UInt8) (c d : UInt8) (S : List UInt8) (k : Nat) : Prop where
  nodup : S.Nodup
  ok : lets S
  first : c ∈ S
  ways : ∀ y ∈ S, Way (Past W C) c y
  done : ∀ i (h : i < S.length), i < k → S[i] ∈ W ∨ (S[i] ≠ d ∧ ∀ y, C S[i] y → y ∈ S)
theorem Rinv.start {C : UInt8 → UInt8 → Prop} {W : List UInt8} {c d : UInt8} (hc : isLet c = true) : Rinv C W c d [c] 0 :=
  ⟨by simp, fun x hx => by rw [List.mem_singleton.1 hx]; exact hc, by simp, fun y hy => by rw [List.mem_singleton.1 hy]; exact .here, fun i _ hk => absurd hk (Nat.not_lt_zero i)⟩
theorem Rinv.skip {C : UInt8 → UInt8 → Prop} {W : List UInt8} {c d : UInt8} {S : List UInt8} {k : Nat} (h : Rinv C W c d S k) (hk : k < S.length) (hw : S[k] ∈ W) : Rinv C W c d S (k + 1) := by
  refine ⟨h.nodup, h.ok, h.first, h.ways, ?_⟩
  intro i hi hlt
  by_cases he : i = k
  · subst he; exact .inl hw
  · exact h.done i hi (by omega)
theorem Rinv.more {C : UInt8 → UInt8 → Prop} {W : List UInt8} {c d : UInt8} {S E : List UInt8} {k : Nat} (h : Rinv C W c d S k) (hk : k < S.length) (hw : S[k] ∉ W) (hd : S[k] ≠ d)
    (hn : (S ++ E).Nodup) (hl : lets (S ++ E)) (hm : ∀ y, y ∈ S ++ E ↔ y ∈ S ∨ C S[k] y) : Rinv C W c d (S ++ E) (k + 1) := by
  refine ⟨hn, hl, List.mem_append.2 (.inl h.first), ?_, ?_⟩
  · intro y hy
    rcases (hm y).1 hy with hy | hy
    · exact h.ways y hy
    · exact .next (h.ways _ (List.getElem_mem hk)) ⟨hw, hy⟩
  · intro i hi hlt
    have hiS : i < S.length := by omega
    have he : (S ++ E)[i] = S[i] := List.getElem_append_left hiS
    rw [he]
    by_cases hik : i = k
    · subst hik
      exact .inr ⟨hd, fun y hy => (hm y).2 (.inr hy)⟩
    · rcases h.done i hiS (by omega) with h1 | ⟨h1, h2⟩
      · exact .inl h1
      · exact .inr ⟨h1, fun y hy => (hm y).2 (.inl (h2 y hy))⟩
theorem Rinv.found {C : UInt8 → UInt8 → Prop} {W : List UInt8} {c d : UInt8} {S : List UInt8} {k : Nat} (h : Rinv C W c d S k) (hk : k < S.length) (hw : S[k] ∉ W) (hd : S[k] = d) : LeadTo C W c d :=
  ⟨hd ▸ hw, hd ▸ h.ways _ (List.getElem_mem hk)⟩
theorem Rinv.none {C : UInt8 → UInt8 → Prop} {W : List UInt8} {c d : UInt8} {S : List UInt8} {k : Nat} (h : Rinv C W c d S k) (hk : S.length ≤ k) : ¬ LeadTo C W c d := by
  rintro ⟨h1, h2⟩
  have key : ∀ y, Way (Past W C) c y → y ∈ S := by
    intro y hy
    induction hy with
    | here => exact h.first
    | next _ hc ih =>
      obtain ⟨i, hi, he⟩ := List.mem_iff_getElem.1 ih
      rcases h.done i hi (by omega) with h3 | ⟨_, h3⟩
      · rw [he] at h3; exact absurd h3 hc.1
      · rw [he] at h3; exact h3 _ hc.2
  obtain ⟨i, hi, he⟩ := List.mem_iff_getElem.1 (key d h2)
  rcases h.done i hi (by omega) with h3 | ⟨h3, _⟩
  · rw [he] at h3; exact h1 h3
  · exact h3 he

theorem txt_beq (a b : List UInt8) : ((txtOf a).toList == (txtOf b).toList) = (a == b) := by
  rw [ByteArray.toList_eq, ByteArray.toList_eq]; rfl
theorem few_mem {W : List UInt8} (hW : W = [] ∨ ∃ x, W = [x]) (y : UInt8) : ([y] == W) = true ↔ y ∈ W := by
  rcases hW with rfl | ⟨x, rfl⟩
  · simp
  · rw [beq_iff_eq, List.mem_singleton]
    exact ⟨fun h => by injection h, fun h => by rw [h]⟩

set_option maxHeartbeats 4000000 in
set_option maxRecDepth 100000 in
theorem l6reaches_any (s : ByteArray) (c d : UInt8) (W : List UInt8) (hW : W = [] ∨ ∃ x, W = [x]) (hc : isLet c = true) (w : World) (hs : s.size ≤ 1073741824) :
    Calls Tryz.prog 31 #[.string s, .string (txtOf [c]), .string (txtOf [d]), .string (txtOf W)] w fun e w' => (∃ b : Bool, e = .returned (.bool b) ∧ (b = true ↔ LeadTo (stepOf s) W c d)) ∧ Below w.heap.size w w' := by
  have HC := Lib.hid (fun nm w => spec_calls s nm w hs)
  have HS0 := Lib.hid (Rinv.start (C := stepOf s) (W := W) (d := d) hc)
  have HW := Lib.hid hW
  generalize htw : txtOf W = tw at *
  generalize htd : txtOf [d] = td at *
  have HTw := Lib.hid htw
  have HTd := Lib.hid htd
  clear hW hc htw htd
  have hone : (txtOf [c]).size = 1 := rfl
  generalize htc : txtOf [c] = tc at *
  have HTc := Lib.hid htc
  clear htc
  go_enter Tryz.func31, Tryz.ntmps31
  go_wp2_with fail
  go_loopw [9, 10] (fun x i wr => ∃ (S : List UInt8) (k : Nat), x = .string (txtOf S) ∧ i = .int .i64 k ∧ k ≤ S.length ∧ Hid (Rinv (stepOf s) W c d S k) ∧ Hid (Below w.heap.size w wr)) (fun _ i _ => 27 - (intOf i).toNat)
  case atStart =>
    exact ⟨[c], 0, by rw [HTc.out], by go_num, Nat.zero_le _, HS0.out, Below.refl _ _⟩
  case round =>
    obtain ⟨S, k, rfl, rfl, hk, hR, hb⟩ := hrel
    obtain ⟨w5, hw5⟩ : ∃ x, x = wr := ⟨_, rfl⟩
    subst hw5
    have hlen : S.length ≤ 26 := nodup_26 hR.out.nodup hR.out.ok
    have hsz : (txtOf S).size = S.length := rfl
    by_cases hlt : k < S.length
    · have hex := one_extract S k hlt
      have hb1 : ((txtOf [S[k]]).toList == tw.toList) = decide (S[k] ∈ W) := by
        rw [← HTw.out, txt_beq, Bool.eq_iff_iff, few_mem HW.out, decide_eq_true_eq]
      have hb2 : ((txtOf [S[k]]).toList == td.toList) = decide (S[k] = d) := by
        rw [← HTd.out, txt_beq, Bool.eq_iff_iff, decide_eq_true_eq]; simp
      have hCk := HC.out (txtOf [S[k]])
      rw [callsT_of] at hCk
      have HCk := Lib.hid hCk
      clear hCk
      by_cases hw : S[k] ∈ W
      · rw [decide_eq_true hw] at hb1
        have HSk := Lib.hid (hR.out.skip hlt hw)
        clear hb2 hw
        generalize hts : txtOf S = ts at *
        have HTs := Lib.hid hts
        clear hts
        generalize htk : ts.extract k (k + 1) = tk at *
        subst hex
        generalize txtOf [S[k]] = tk at *
        go_wp2_with fail
        go_roundw
        case rel => exact ⟨S, k + 1, by rw [HTs.out], by go_num, by omega, HSk.out, hb.out⟩
        case measure => simp [intOf]; omega
      · rw [decide_eq_false hw] at hb1
        by_cases hd : S[k] = d
        · rw [decide_eq_true hd] at hb2
          have HF := Lib.hid (hR.out.found hlt hw hd)
          clear hw hd
          generalize hts : txtOf S = ts at *
          generalize htk : ts.extract k (k + 1) = tk at *
          subst hex
          generalize txtOf [S[k]] = tk at *
          clear hts
          go_wp2_with fail
          go_ret
          exact ⟨⟨true, rfl, iff_of_true rfl HF.out⟩, hb.out⟩
        · rw [decide_eq_false hd] at hb2
          have HSt := Lib.hid (fun E => hR.out.more (E := E) hlt hw hd)
          have HLl := Lib.hid (startOf_lets s (txtOf [S[k]]))
          have HSs := Lib.hid (fun y => start_step s S[k] y)
          have HR0 := Lib.hid hR.out
          clear hw hd hR
          generalize hts : txtOf S = ts at *
          have HTs := Lib.hid hts
          clear hts
          generalize hl : startOf s (txtOf [S[k]]) = l at *
          generalize htk2 : txtOf [S[k]] = tk at *
          clear htk2 hl
          have HMu := Lib.hid (fun y => mem_upTo HLl.out y)
          have HSl := Lib.hid (setText_lets l)
          have hll := setText_len l
          generalize hlz : setText l = lz at *
          have hlzs : (txtOf lz).size = lz.length := rfl
          generalize htl : txtOf lz = tl at *
          have HTl := Lib.hid htl
          clear htl hlz
          go_wp2_with fail
          refine (HCk.out _).mono ?_
          rintro e w6 ⟨rfl, hb6⟩
          have HB6 := Lib.hid (hb.out.trans (hb6.mono hb.out.size))
          clear hb6
          go_wp2_with fail
          go_loopw [9, 37] (fun x i wr => ∃ (E : List UInt8) (j : Nat), x = .string (txtOf (S ++ E)) ∧ i = .int .i64 j ∧ j ≤ lz.length ∧ Hid ((S ++ E).Nodup) ∧ Hid (lets (S ++ E)) ∧ Hid (∀ y, y ∈ S ++ E ↔ y ∈ S ∨ y ∈ lz.take j) ∧ Hid (Below w.heap.size w wr)) (fun _ i _ => lz.length - (intOf i).toNat)
          case atStart =>
            refine ⟨[], 0, by rw [List.append_nil, HTs.out], by go_num, Nat.zero_le _, ?_, ?_, ?_, HB6.out⟩
            · show List.Nodup _
              rw [List.append_nil]; exact HR0.out.nodup
            · show lets _
              rw [List.append_nil]; exact HR0.out.ok
            · show ∀ y, _
              intro y; simp
          case round =>
            obtain ⟨E, j, rfl, rfl, hj, hN, hL, hM, hb7⟩ := hrel
            have hA := nodup_26 hN.out hL.out
            have haz : (txtOf (S ++ E)).size = (S ++ E).length := rfl
            by_cases hlj : j < lz.length
            · have hjt : j < tl.size := by omega
              have hidx : tl[j] = lz[j] := by
                have := HTl.out
                subst this; rfl
              have hexj := one_extract lz j hlj
              rw [HTl.out] at hexj
              have HH := Lib.hid (fun w => has_any (txtOf (S ++ E)) lz[j] (by rw [haz]; omega) w)
              rw [show (txtOf (S ++ E)).data.toList = S ++ E from rfl] at HH
              have htake : lz.take (j + 1) = lz.take j ++ [lz[j]] := List.take_succ_eq_append_getElem hlj
              have HT := Lib.hid htake
              have hly : isLet lz[j] = true := HSl.out _ (List.getElem_mem hlj)
              have HLy := Lib.hid hly
              clear htake hly
              cases hin : (S ++ E).contains lz[j] with
              | true =>
                rw [hin] at HH
                have HIn := Lib.hid (List.contains_iff_mem.1 hin)
                clear hin hexj
                generalize hta : txtOf (S ++ E) = ta at *
                have HTa := Lib.hid hta
                clear hta
                go_wp2_with fail
                refine (HH.out _).mono ?_
                rintro e w8 ⟨rfl, rfl⟩
                go_wp2_with fail
                go_roundw
                case rel =>
                  refine ⟨E, j + 1, by rw [HTa.out], by go_num, by omega, hN.out, hL.out, ?_, hb7.out⟩
                  show ∀ y, _
                  intro y
                  rw [HT.out, List.mem_append (s := lz.take j), hM.out y]
                  constructor
                  · rintro (h | h)
                    · exact .inl h
                    · exact .inr (.inl h)
                  · rintro (h | h | h)
                    · exact .inl h
                    · exact .inr h
                    · rw [List.mem_singleton.1 h]; exact (hM.out _).1 HIn.out
                case measure => simp [intOf]; omega
              | false =>
                rw [hin] at HH
                have hni : lz[j] ∉ S ++ E := fun hm => Bool.noConfusion ((List.contains_iff_mem.2 hm).symm.trans hin)
                have HNi := Lib.hid hni
                have HNd := Lib.hid (nodup_snoc hN.out hni)
                have e1 := str_sum (txtOf (S ++ E)) (txtOf [lz[j]]) (by rw [txtOf_size, txtOf_size]; simp only [List.length_singleton]; omega)
                have HAp := Lib.hid (by apply ByteArray.ext; apply Array.ext'; simp [txtOf] : txtOf (S ++ E) ++ txtOf [lz[j]] = txtOf (S ++ (E ++ [lz[j]])))
                have hz1 : (txtOf [lz[j]]).size = 1 := rfl
                clear hin hni
                generalize hta : txtOf (S ++ E) = ta at *
                clear hta
                rw [← hexj] at e1 HAp hz1
                clear hexj
                generalize htj : tl.extract j (j + 1) = tj at *
                go_wp2_with fail
                refine (HH.out _).mono ?_
                rintro e w8 ⟨rfl, rfl⟩
                go_wp2_with fail
                go_roundw
                case rel =>
                  refine ⟨E ++ [lz[j]], j + 1, by rw [HAp.out], by go_num, by omega, ?_, ?_, ?_, hb7.out⟩
                  · show List.Nodup _
                    rw [← List.append_assoc]; exact HNd.out
                  · show lets _
                    rw [← List.append_assoc]
                    refine lets_append hL.out ?_
                    intro z hz
                    rw [List.mem_singleton.1 hz]; exact HLy.out
                  · show ∀ y, _
                    intro y
                    rw [← List.append_assoc, List.mem_append, HT.out, List.mem_append (s := lz.take j), hM.out y]
                    exact or_assoc
                case measure => simp [intOf]; omega
            · have htk : lz.take j = lz := List.take_of_length_le (by omega)
              rw [htk] at hM
              have HAll := Lib.hid (HSt.out E hN.out hL.out fun y => by rw [hM.out y, HMu.out y, HSs.out y])
              clear hM
              generalize hta : txtOf (S ++ E) = ta at *
              have HTa := Lib.hid hta
              clear hta
              go_wp2_with fail
              go_roundw
              case rel =>
                refine ⟨S ++ E, k + 1, by rw [HTa.out], by go_num, ?_, HAll.out, hb7.out⟩
                rw [List.length_append]; omega
              case measure => simp [intOf]; omega
    · have HNo := Lib.hid (hR.out.none (by omega))
      generalize txtOf S = ts at *
      go_wp2_with fail
      go_ret
      exact ⟨⟨false, rfl, iff_of_false (by simp) HNo.out⟩, hb.out⟩

theorem runOf_names {s st wi : ByteArray} {p q : Pr} (h1 : lookP s st = some p) (h2 : lookP s wi = some q) : RunOf s st wi ↔ LeadTo (stepOf s) [] p.1 q.1 := by
  rw [leads_all]
  constructor
  · rintro ⟨p', q', h3, h4, h⟩
    rw [h1] at h3; rw [h2] at h4
    injection h3 with h3; injection h4 with h4
    subst h3; subst h4; exact h
  · intro h; exact ⟨p, q, h1, h2, h⟩

set_option maxHeartbeats 1000000 in
set_option maxRecDepth 100000 in
theorem l6run_any (s st wi : ByteArray) (w : World) (hs : s.size ≤ 1073741824) :
    Calls Tryz.prog 30 #[.string s, .string st, .string wi] w fun e w' => (∃ b : Bool, e = .returned (.bool b) ∧ (b = true ↔ RunOf s st wi)) ∧ Below w.heap.size w w' := by
  have HB1 := Lib.hid (fun w => spec_body s st w hs)
  have HB2 := Lib.hid (fun w => spec_body s wi w hs)
  cases h1 : lookP s st with
  | none =>
    have hno : ¬ RunOf s st wi := by rintro ⟨p, q, h3, _⟩; rw [h1] at h3; cases h3
    have HNo := Lib.hid hno
    clear hno
    rw [h1] at HB1
    generalize hj : bodyT (lookP s wi) = bt at *
    generalize hk : bodyT none = bu at *
    generalize hb : (lookP s wi).isSome = b at *
    clear hj hk hb h1
    rw [Option.isSome_none] at HB1
    go_enter Tryz.func30, Tryz.ntmps30
    go_wp2_with fail
    refine (HB1.out _).mono ?_
    rintro e w1 ⟨rfl, hb1⟩
    have B1 := Lib.hid hb1
    clear hb1
    go_wp2_with fail
    refine (HB2.out _).mono ?_
    rintro e w2 ⟨rfl, hb2⟩
    have B2 := Lib.hid (B1.out.trans (hb2.mono B1.out.size))
    clear hb2
    go_wp2_with fail
    go_ret
    exact ⟨⟨false, rfl, iff_of_false (by simp) HNo.out⟩, B2.out⟩
  | some p =>
    cases h2 : lookP s wi with
    | none =>
      have hno : ¬ RunOf s st wi := by rintro ⟨p, q, _, h3, _⟩; rw [h2] at h3; cases h3
      have HNo := Lib.hid hno
      clear hno
      rw [h1] at HB1
      rw [h2] at HB2
      generalize hj : bodyT (some p) = bt at *
      generalize hk : bodyT none = bu at *
      clear hj hk h1 h2
      rw [Option.isSome_none] at HB2
      rw [Option.isSome_some] at HB1
      go_enter Tryz.func30, Tryz.ntmps30
      go_wp2_with fail
      refine (HB1.out _).mono ?_
      rintro e w1 ⟨rfl, hb1⟩
      have B1 := Lib.hid hb1
      clear hb1
      go_wp2_with fail
      refine (HB2.out _).mono ?_
      rintro e w2 ⟨rfl, hb2⟩
      have B2 := Lib.hid (B1.out.trans (hb2.mono B1.out.size))
      clear hb2
      go_wp2_with fail
      go_ret
      exact ⟨⟨false, rfl, iff_of_false (by simp) HNo.out⟩, B2.out⟩
    | some q =>
      obtain ⟨e1, hl1, _⟩ := look_nm h1
      obtain ⟨e2, hl2, _⟩ := look_nm h2
      have HL := Lib.hid (fun w => l6reaches_any s p.1 q.1 [] (.inl rfl) hl1 w hs)
      have HI := Lib.hid (runOf_names h1 h2)
      rw [← e1, ← e2] at HL
      have hnil : txtOf [] = ⟨#[]⟩ := rfl
      rw [hnil] at HL
      rw [h1] at HB1
      rw [h2] at HB2
      rw [Option.isSome_some] at HB1 HB2
      generalize hj : bodyT (some p) = bt at *
      generalize hk : bodyT (some q) = bu at *
      clear hj hk h1 h2 e1 e2 hl1 hl2 hnil
      go_enter Tryz.func30, Tryz.ntmps30
      go_wp2_with fail
      refine (HB1.out _).mono ?_
      rintro e w1 ⟨rfl, hb1⟩
      have B1 := Lib.hid hb1
      clear hb1
      go_wp2_with fail
      refine (HB2.out _).mono ?_
      rintro e w2 ⟨rfl, hb2⟩
      have B2 := Lib.hid (B1.out.trans (hb2.mono B1.out.size))
      clear hb2
      go_wp2_with fail
      refine (HL.out _).mono ?_
      rintro e w3 ⟨⟨b, rfl, hiff⟩, hb3⟩
      have B3 := Lib.hid (B2.out.trans (hb3.mono B2.out.size))
      have HIf := Lib.hid (hiff.trans HI.out.symm)
      clear hb3 hiff
      go_wp2_with fail
      go_ret
      exact ⟨⟨b, rfl, HIf.out⟩, B3.out⟩

theorem mayOf_names {s st wi : ByteArray} {y : UInt8} (hy : y ∈ namesT s) : MayOf s st wi y ↔ ∃ p q, lookP s st = some p ∧ lookP s wi = some q ∧ LeadTo (stepOf s) [] p.1 y ∧ LeadTo (stepOf s) [] y q.1 := by
  simp only [leads_all]
  exact ⟨fun h => h.2, fun h => ⟨hy, h⟩⟩

set_option maxHeartbeats 4000000 in
set_option maxRecDepth 100000 in
theorem spec_may (s st wi : ByteArray) (w : World) (hs : s.size ≤ 1048576) :
    Calls Tryz.prog 14 #[.string s, .string st, .string wi] w fun e w' => (∃ l, AT (MayOf s st wi) l ∧ e = .returned (.string (txtOf l))) ∧ Below w.heap.size w w' := by
  have HP := Lib.hid (fun w => spec_procs s w hs)
  rw [procs_names] at HP
  have HRun := Lib.hid (fun w => l6run_any s st wi w (by omega))
  have HLd := Lib.hid (fun c d (hc : isLet c = true) w => l6reaches_any s c d [] (.inl rfl) hc w (by omega))
  have hnl := namesT_len s
  generalize hnt : namesT s = nt at *
  have HNt := Lib.hid hnt
  clear hnt
  have htz : (txtOf nt).size = nt.length := rfl
  generalize htt : txtOf nt = tt at *
  have HTt := Lib.hid htt
  clear htt
  go_enter Tryz.func14, Tryz.ntmps14
  go_wp2_with fail
  refine (HP.out _).mono ?_
  rintro e w1 ⟨rfl, hb1⟩
  have B1 := Lib.hid hb1
  clear hb1
  go_wp2_with fail
  go_loopw [7, 15] (fun x i wr => ∃ (k : Nat) (A : List UInt8), i = .int .i64 k ∧ k ≤ nt.length ∧ x = .string (txtOf A) ∧ Hid (A.Sublist (nt.take k)) ∧ Hid (∀ y, y ∈ A ↔ y ∈ nt.take k ∧ MayOf s st wi y) ∧ Hid (Below w.heap.size w wr)) (fun _ i _ => nt.length - (intOf i).toNat)
  case atStart =>
    refine ⟨0, [], by go_num, Nat.zero_le _, rfl, ?_, ?_, B1.out⟩
    · show List.Sublist _ _
      simp
    · show ∀ y, _
      intro y; simp
  case round =>
    obtain ⟨k, A, rfl, hk, rfl, hA, hM, hb⟩ := hrel
    by_cases hlt : k < nt.length
    · have hAl : A.length ≤ 26 := Nat.le_trans hA.out.length_le (by rw [List.length_take]; omega)
      have hex := one_extract nt k hlt
      rw [HTt.out] at hex
      have HTk := Lib.hid (List.take_succ_eq_append_getElem hlt : nt.take (k + 1) = nt.take k ++ [nt[k]])
      have hmem : nt[k] ∈ namesT s := by rw [HNt.out]; exact List.getElem_mem hlt
      have hly := namesT_lets s _ hmem
      have HMem := Lib.hid hmem
      have HLy := Lib.hid hly
      have e1 := str_sum (txtOf A) (txtOf [nt[k]]) (by rw [txtOf_size, txtOf_size]; simp only [List.length_singleton]; omega)
      have HAp := Lib.hid (by apply ByteArray.ext; apply Array.ext'; simp [txtOf] : txtOf A ++ txtOf [nt[k]] = txtOf (A ++ [nt[k]]))
      generalize hy : nt[k] = y at *
      clear hy hmem hly
      have hno : ∀ b : Bool, (b = true ↔ MayOf s st wi y) → b = false → (∀ z, z ∈ A ↔ z ∈ nt.take (k + 1) ∧ MayOf s st wi z) := by
        intro b h hb z
        rw [HTk.out, List.mem_append, hM.out z]
        constructor
        · rintro ⟨h1, h2⟩; exact ⟨.inl h1, h2⟩
        · rintro ⟨h1 | h1, h2⟩
          · exact ⟨h1, h2⟩
          · rw [List.mem_singleton.1 h1] at h2
            have := h.2 h2
            rw [hb] at this; cases this
      have HNo := Lib.hid hno
      have HYes := Lib.hid (by
        intro h z
        rw [HTk.out, List.mem_append, List.mem_append, hM.out z]
        constructor
        · rintro (⟨h1, h2⟩ | h1)
          · exact ⟨.inl h1, h2⟩
          · rw [List.mem_singleton.1 h1]; exact ⟨.inr (by simp), h⟩
        · rintro ⟨h1 | h1, h2⟩
          · exact .inl ⟨h1, h2⟩
          · exact .inr h1 : MayOf s st wi y → ∀ z, z ∈ A ++ [y] ↔ z ∈ nt.take (k + 1) ∧ MayOf s st wi z)
      have HSubN := Lib.hid (by rw [HTk.out]; exact hA.out.trans (List.sublist_append_left _ _) : A.Sublist (nt.take (k + 1)))
      have HSubY := Lib.hid (by rw [HTk.out]; exact hA.out.append (List.Sublist.refl _) : (A ++ [y]).Sublist (nt.take (k + 1)))
      clear hno
      generalize hta : txtOf A = ta at *
      have HTa := Lib.hid hta
      clear hta
      clear hM hA
      go_wp2_with fail
      refine (HRun.out _).mono ?_
      rintro e w2 ⟨⟨b, rfl, hiff⟩, hb2⟩
      have B2 := Lib.hid (hb.out.trans (hb2.mono hb.out.size))
      clear hb2
      cases b with
      | false =>
        have HN := Lib.hid (HNo.out false (iff_of_false (by simp) fun h : MayOf s st wi y => by have := hiff.2 h.run; cases this) rfl)
        clear hiff
        go_wp2_with fail
        go_roundw
        case rel => exact ⟨k + 1, A, by go_num, by omega, by rw [HTa.out], HSubN.out, HN.out, B2.out⟩
        case measure => simp [intOf]; omega
      | true =>
        obtain ⟨p, q, h1, h2, hway⟩ := hiff.1 rfl
        obtain ⟨es, hl1, _⟩ := look_nm h1
        obtain ⟨ew, hl2, _⟩ := look_nm h2
        have HL1 := Lib.hid (fun w => HLd.out p.1 y hl1 w)
        have HL2 := Lib.hid (fun w => HLd.out y q.1 HLy.out w)
        rw [← es, show txtOf [] = ⟨#[]⟩ from rfl] at HL1
        rw [← ew, show txtOf [] = ⟨#[]⟩ from rfl] at HL2
        have HIff := Lib.hid (by
          rw [mayOf_names HMem.out]
          constructor
          · rintro ⟨p', q', h3, h4, h5⟩
            rw [h1] at h3; rw [h2] at h4
            injection h3 with h3; injection h4 with h4
            subst h3; subst h4; exact h5
          · intro h; exact ⟨p, q, h1, h2, h⟩ : MayOf s st wi y ↔ LeadTo (stepOf s) [] p.1 y ∧ LeadTo (stepOf s) [] y q.1)
        clear hiff es ew hl1 hl2 h1 h2 hway
        generalize hty : txtOf [y] = ty at *
        have HTy := Lib.hid hty
        clear hty
        go_wp2_with fail
        refine (HL1.out _).mono ?_
        rintro e w3 ⟨⟨b1, rfl, hi1⟩, hb3⟩
        have B3 := Lib.hid (B2.out.trans (hb3.mono B2.out.size))
        clear hb3
        cases b1 with
        | false =>
          have HN := Lib.hid (HNo.out false (iff_of_false (by simp) fun h : MayOf s st wi y => by have := hi1.2 (HIff.out.1 h).1; cases this) rfl)
          clear hi1
          go_wp2_with fail
          go_roundw
          case rel => exact ⟨k + 1, A, by go_num, by omega, by rw [HTa.out], HSubN.out, HN.out, B3.out⟩
          case measure => simp [intOf]; omega
        | true =>
          have HI1 := Lib.hid (hi1.1 rfl)
          clear hi1
          go_wp2_with fail
          refine (HL2.out _).mono ?_
          rintro e w4 ⟨⟨b2, rfl, hi2⟩, hb4⟩
          have B4 := Lib.hid (B3.out.trans (hb4.mono B3.out.size))
          clear hb4
          cases b2 with
          | false =>
            have HN := Lib.hid (HNo.out false (iff_of_false (by simp) fun h : MayOf s st wi y => by have := hi2.2 (HIff.out.1 h).2; cases this) rfl)
            clear hi2
            go_wp2_with fail
            go_roundw
            case rel => exact ⟨k + 1, A, by go_num, by omega, by rw [HTa.out], HSubN.out, HN.out, B4.out⟩
            case measure => simp [intOf]; omega
          | true =>
            have HY := Lib.hid (HYes.out (HIff.out.2 ⟨HI1.out, hi2.1 rfl⟩))
            clear hi2
            go_wp2_with fail
            go_roundw
            case rel => exact ⟨k + 1, A ++ [y], by go_num, by omega, by rw [HAp.out], HSubY.out, HY.out, B4.out⟩
            case measure => simp [intOf]; omega
    · have htk : nt.take k = nt := List.take_of_length_le (by omega)
      rw [htk] at hM hA
      have HZ := Lib.hid (at_asc (P := MayOf s st wi) (l := A) (s := s) (by rw [HNt.out]; exact hA.out) fun y => by
        rw [hM.out y]
        exact ⟨fun h => h.2, fun h => ⟨by rw [← HNt.out]; exact h.1, h⟩⟩)
      generalize hta : txtOf A = ta at *
      have HTa := Lib.hid hta
      clear hta
      go_wp2_with fail
      go_ret
      exact ⟨⟨A, HZ.out, by rw [HTa.out]; rfl⟩, hb.out⟩
end Go.Proofs.YtihjkkoaccmefaaGreatDoor
namespace Go.Proofs.YtihjkkoaccmefaaGreatDoor
open Go.RowKit Gram

set_option maxHeartbeats 4000000 in
set_option maxRecDepth 100000 in
theorem spec_must (s st wi : ByteArray) (w : World) (hs : s.size ≤ 1048576) :
    Calls Tryz.prog 15 #[.string s, .string st, .string wi] w fun e w' => (∃ l, AT (MustOf s st wi) l ∧ e = .returned (.string (txtOf l))) ∧ Below w.heap.size w w' := by
  have HP := Lib.hid (fun w => spec_procs s w hs)
  rw [procs_names] at HP
  have HRun := Lib.hid (fun w => l6run_any s st wi w (by omega))
  have HLd := Lib.hid (fun c d y (hc : isLet c = true) w => l6reaches_any s c d [y] (.inr ⟨y, rfl⟩) hc w (by omega))
  have hnl := namesT_len s
  generalize hnt : namesT s = nt at *
  have HNt := Lib.hid hnt
  clear hnt
  have htz : (txtOf nt).size = nt.length := rfl
  generalize htt : txtOf nt = tt at *
  have HTt := Lib.hid htt
  clear htt
  go_enter Tryz.func15, Tryz.ntmps15
  go_wp2_with fail
  refine (HP.out _).mono ?_
  rintro e w1 ⟨rfl, hb1⟩
  have B1 := Lib.hid hb1
  clear hb1
  go_wp2_with fail
  go_loopw [7, 15] (fun x i wr => ∃ (k : Nat) (A : List UInt8), i = .int .i64 k ∧ k ≤ nt.length ∧ x = .string (txtOf A) ∧ Hid (A.Sublist (nt.take k)) ∧ Hid (∀ y, y ∈ A ↔ y ∈ nt.take k ∧ MustOf s st wi y) ∧ Hid (Below w.heap.size w wr)) (fun _ i _ => nt.length - (intOf i).toNat)
  case atStart =>
    refine ⟨0, [], by go_num, Nat.zero_le _, rfl, ?_, ?_, B1.out⟩
    · show List.Sublist _ _
      simp
    · show ∀ y, _
      intro y; simp
  case round =>
    obtain ⟨k, A, rfl, hk, rfl, hA, hM, hb⟩ := hrel
    by_cases hlt : k < nt.length
    · have hAl : A.length ≤ 26 := Nat.le_trans hA.out.length_le (by rw [List.length_take]; omega)
      have hex := one_extract nt k hlt
      rw [HTt.out] at hex
      have HTk := Lib.hid (List.take_succ_eq_append_getElem hlt : nt.take (k + 1) = nt.take k ++ [nt[k]])
      have hmem : nt[k] ∈ namesT s := by rw [HNt.out]; exact List.getElem_mem hlt
      have hly := namesT_lets s _ hmem
      have HMem := Lib.hid hmem
      have HLy := Lib.hid hly
      have e1 := str_sum (txtOf A) (txtOf [nt[k]]) (by rw [txtOf_size, txtOf_size]; simp only [List.length_singleton]; omega)
      have HAp := Lib.hid (by apply ByteArray.ext; apply Array.ext'; simp [txtOf] : txtOf A ++ txtOf [nt[k]] = txtOf (A ++ [nt[k]]))
      generalize hy : nt[k] = y at *
      clear hy hmem hly
      have hno : ∀ b : Bool, (b = true ↔ MustOf s st wi y) → b = false → (∀ z, z ∈ A ↔ z ∈ nt.take (k + 1) ∧ MustOf s st wi z) := by
        intro b h hb z
        rw [HTk.out, List.mem_append, hM.out z]
        constructor
        · rintro ⟨h1, h2⟩; exact ⟨.inl h1, h2⟩
        · rintro ⟨h1 | h1, h2⟩
          · exact ⟨h1, h2⟩
          · rw [List.mem_singleton.1 h1] at h2
            have := h.2 h2
            rw [hb] at this; cases this
      have HNo := Lib.hid hno
      have HYes := Lib.hid (by
        intro h z
        rw [HTk.out, List.mem_append, List.mem_append, hM.out z]
        constructor
        · rintro (⟨h1, h2⟩ | h1)
          · exact ⟨.inl h1, h2⟩
          · rw [List.mem_singleton.1 h1]; exact ⟨.inr (by simp), h⟩
        · rintro ⟨h1 | h1, h2⟩
          · exact .inl ⟨h1, h2⟩
          · exact .inr h1 : MustOf s st wi y → ∀ z, z ∈ A ++ [y] ↔ z ∈ nt.take (k + 1) ∧ MustOf s st wi z)
      have HSubN := Lib.hid (by rw [HTk.out]; exact hA.out.trans (List.sublist_append_left _ _) : A.Sublist (nt.take (k + 1)))
      have HSubY := Lib.hid (by rw [HTk.out]; exact hA.out.append (List.Sublist.refl _) : (A ++ [y]).Sublist (nt.take (k + 1)))
      clear hno
      generalize hta : txtOf A = ta at *
      have HTa := Lib.hid hta
      clear hta
      clear hM hA
      go_wp2_with fail
      refine (HRun.out _).mono ?_
      rintro e w2 ⟨⟨b, rfl, hiff⟩, hb2⟩
      have B2 := Lib.hid (hb.out.trans (hb2.mono hb.out.size))
      clear hb2
      cases b with
      | false =>
        have HN := Lib.hid (HNo.out false (iff_of_false (by simp) fun h : MustOf s st wi y => by have := hiff.2 h.may.run; cases this) rfl)
        clear hiff
        go_wp2_with fail
        go_roundw
        case rel => exact ⟨k + 1, A, by go_num, by omega, by rw [HTa.out], HSubN.out, HN.out, B2.out⟩
        case measure => simp [intOf]; omega
      | true =>
        obtain ⟨p, q, h1, h2, hway⟩ := hiff.1 rfl
        obtain ⟨es, hl1, _⟩ := look_nm h1
        obtain ⟨ew, hl2, _⟩ := look_nm h2
        have HL1 := Lib.hid (fun w => HLd.out p.1 q.1 y hl1 w)
        rw [← es, ← ew] at HL1
        have HIff := Lib.hid (by
          constructor
          · rintro ⟨_, p', q', h3, h4, h5, h6⟩
            rw [h1] at h3; rw [h2] at h4
            injection h3 with h3; injection h4 with h4
            subst h3; subst h4; exact h6
          · intro h
            exact ⟨HMem.out, p, q, h1, h2, (leads_all.1 ((runOf_names h1 h2).1 (hiff.1 rfl))), h⟩ : MustOf s st wi y ↔ ¬ LeadTo (stepOf s) [y] p.1 q.1)
        clear hiff es ew hl1 hl2 h1 h2 hway
        generalize hty : txtOf [y] = ty at *
        have HTy := Lib.hid hty
        clear hty
        go_wp2_with fail
        refine (HL1.out _).mono ?_
        rintro e w3 ⟨⟨b1, rfl, hi1⟩, hb3⟩
        have B3 := Lib.hid (B2.out.trans (hb3.mono B2.out.size))
        clear hb3
        cases b1 with
        | true =>
          have HN := Lib.hid (HNo.out false (iff_of_false (by simp) fun h : MustOf s st wi y => HIff.out.1 h (hi1.1 rfl)) rfl)
          clear hi1
          go_wp2_with fail
          go_roundw
          case rel => exact ⟨k + 1, A, by go_num, by omega, by rw [HTa.out], HSubN.out, HN.out, B3.out⟩
          case measure => simp [intOf]; omega
        | false =>
          have HY := Lib.hid (HYes.out (HIff.out.2 fun h => by have := hi1.2 h; cases this))
          clear hi1
          go_wp2_with fail
          go_roundw
          case rel => exact ⟨k + 1, A ++ [y], by go_num, by omega, by rw [HAp.out], HSubY.out, HY.out, B3.out⟩
          case measure => simp [intOf]; omega
    · have htk : nt.take k = nt := List.take_of_length_le (by omega)
      rw [htk] at hM hA
      have HZ := Lib.hid (at_asc (P := MustOf s st wi) (l := A) (s := s) (by rw [HNt.out]; exact hA.out) fun y => by
        rw [hM.out y]
        exact ⟨fun h => h.2, fun h => ⟨by rw [← HNt.out]; exact h.1, h⟩⟩)
      generalize hta : txtOf A = ta at *
      have HTa := Lib.hid hta
      clear hta
      go_wp2_with fail
      go_ret
      exact ⟨⟨A, HZ.out, by rw [HTa.out]; rfl⟩, hb.out⟩
end Go.Proofs.YtihjkkoaccmefaaGreatDoor
