/- The model's l4List: what it draws is a short row of small aspects. Condition: counts up to 40000. The model's DrawAspectsValid: a short row of small aspects, whatever the bytes. -/
import Derived.Test.YtkdnbdgpcgookaaGreatDoorWx
import Derived.Test.YtkdnbdgpcgookaaGreatDoorL4o
import Derived.Test.YtkdnbdgpcgookaaGreatDoorZx
namespace Go.Proofs.YtkdnbdgpcgookaaGreatDoor
open Go.RowKit Gram

/-- small aspects -/
def SmallAs (zs : List As) : Prop := ∀ z ∈ zs, z.1.size ≤ 100 ∧ z.2.1.size ≤ 100 ∧ z.2.2.size ≤ 200
theorem SmallAs.nil : SmallAs [] := fun _ h => by cases h
theorem SmallAs.add {xs ys : List As} (h : SmallAs xs) (h' : SmallAs ys) : SmallAs (xs ++ ys) := fun z hz => by
  rcases List.mem_append.1 hz with h1 | h1
  · exact h z h1
  · exact h' z h1
theorem SmallAs.one {x y z : ByteArray} (hx : x.size ≤ 100) (hy : y.size ≤ 100) (hz : z.size ≤ 200) : SmallAs [(x, y, z)] := fun u hu => by
  rw [List.mem_singleton] at hu; subst hu; exact ⟨hx, hy, hz⟩
theorem SmallAs.total {zs : List As} (h : SmallAs zs) : asT zs ≤ 400 * zs.length := by
  induction zs with
  | nil => simp [asT]
  | cons p t ih =>
    have h1 := h p (List.mem_cons_self ..)
    have h2 := ih (fun z hz => h z (List.mem_cons_of_mem _ hz))
    unfold asT at h2 ⊢
    rw [List.map_cons, List.sum_cons, List.length_cons]
    unfold asZ at h2 ⊢
    omega
theorem grown_fresh {w w1 w2 : World} {r : Option Nat} {g : Nat} (h : w.grownBy w1 r) (h2 : w1.grownBy w2 (some g)) (hg : w.heap.size ≤ g) : w.grownBy w2 r :=
  ⟨by rw [h2.os, h.os], by rw [h2.tape, h.tape], by rw [h2.output, h.output], Nat.le_trans h.size h2.size, fun k hk hne => by
    rw [h2.block k (by have := h.size; omega) (by intro e; injection e; omega), h.block k hk hne]⟩
theorem Rdr.but {w w' : World} {rb : Nat} {a : Option Addr} {n c p g : Nat} (h : Rdr w rb a n c p) (hk : ∀ k, k < w.heap.size → some k ≠ some g → w'.heap[k]? = w.heap[k]?) (hr : rb < g) (ha : ∀ g' off, a = some ⟨g', off, none⟩ → 0 < n → g' < g) : Rdr w' rb a n c p := by
  refine ⟨by rw [hk _ (heap_lt h.own) (by intro e; injection e; omega)]; exact h.own, fun k hk' => ?_, h.off, h.small⟩
  obtain ⟨g', off, ha', b, hc⟩ := h.bytes k hk'
  exact ⟨g', off, ha', b, by rw [← hc]; exact World.cell?_of_block (a := ⟨g', off + k, none⟩) (hk g' (World.block_lt_of_cell? w _ hc) (by intro e; injection e with e; have := ha g' off ha' (by omega); omega))⟩
theorem wl_append_asp {ops : Array Oper} {rest : List Oper} {o : Oper} {a : Act} {w : World} {Q : Exit → Act → World → Prop} (hgd : o.guard = none) (s x : Operand)
    (ho : o.op = .call { callee := .builtin .append, args := #[s, x], argTypes := #[31, 31] }) (hty : o.type = 31) (vs vx : Value) (hs : a.eval s = vs) (hx : a.eval x = vx) (n : Nat) (R : Nat → Nat → World → Prop)
    (hr : ∃ g c w', (Builtin.append_ #[31, 31] 31 #[vs, vx]).run Tryz.prog w = .ok (.slice (some ⟨g, 0, none⟩) n c) w' ∧ R g c w')
    (h : ∀ g c w', R g c w' → wpList Tryz.prog ops Q rest (a.put o.dst (.slice (some ⟨g, 0, none⟩) n c)) w') : wpList Tryz.prog ops Q (o :: rest) a w := by
  obtain ⟨g, c, w', hrun, hR⟩ := hr
  exact Lib.wpList_append_run w hgd s x _ _ ho vs vx hs hx _ w' (by rw [hty]; exact hrun) (h _ _ _ hR)
theorem asp_news {w : World} {x y z : ByteArray} : ∀ (j : Nat) (u : Value), (asC [(x, y, z)])[j]? = some u → (w.alloc (.cells #[.string x, .string y, .string z] 24)).cell? ((⟨w.heap.size, 0, none⟩ : Addr).add j) = some u :=
  World.news_of_block (cs := #[.string x, .string y, .string z]) (heap_alloc_new _ _)

/-- what a draw of aspects hands back -/
def DrewL (w : World) (rb : Nat) (a : Option Addr) (n c p cost : Nat) (e : Ending) (w' : World) : Prop :=
  ∃ (g cc : Nat) (zs : List As) (q : Nat), e = .returned (.slice (some ⟨g, 0, none⟩) zs.length cc) ∧ Arow w' w.heap.size g zs.length cc zs ∧ zs.length ≤ 3 ∧ SmallAs zs ∧ q ≤ p + cost ∧ Rdr w' rb a n c q ∧ w.grownBy w' (some rb)

set_option maxHeartbeats 2000000 in
set_option maxRecDepth 100000 in
theorem l4l_any (w : World) (rb : Nat) (a : Option Addr) (n c p : Nat) (h : Rdr w rb a n c p) (hp : p ≤ 40000) :
    Calls Tryz.prog 38 #[.pointer (some ⟨rb, 0, none⟩)] w (DrewL w rb a n c p 400) := by
  have H := Lib.hid h
  have HA := Lib.hid (show ∀ g off, a = some ⟨g, off, none⟩ → 0 < n → g < w.heap.size from fun g off ha hn => by
    obtain ⟨g', off', ha', b, hc⟩ := h.bytes 0 hn
    rw [ha] at ha'
    injection ha' with ha'; injection ha' with e1 e2
    subst e1
    exact World.block_lt_of_cell? w _ hc)
  have hrb := heap_lt h.own
  clear h
  have HD := Lib.hid l4w_any
  unfold DrewW aspV at HD
  have H0 := Lib.hid (H.out.later (alloc_heap (w := w) (Obj.cells #[] 24)))
  have G0 := Lib.hid (World.grownBy_alloc w (Obj.cells #[] 24) (some rb))
  have R0 := Lib.hid (arow_e (B := w.heap.size) (heap_alloc_new w (Obj.cells #[] 24)) (Nat.le_refl _))
  have Z0 := Lib.hid (alloc_size' w (Obj.cells #[] 24))
  go_enter Tryz.func38, Tryz.ntmps38
  go_wp2_with fail
  generalize hw0 : w.alloc (Obj.cells #[] 24) = w0 at *
  clear hw0
  have hz0 := Z0.out
  clear Z0
  refine (num_any _ rb a n c p (w.heap.size + 1) 5 5 3 (H0.out.later (alloc_heap (w := w0) _)) (by omega) (by omega) (by omega) (by omega) (num_cells w0 (w.heap.size + 1) [2, 1, 2, 3, 0] 3 (by decide) hz0.symm)).mono ?_
  rintro e w1 ⟨d, rfl, hd, hr1, hg1⟩
  have H1 := Lib.hid hr1
  have G1 := Lib.hid (grownBy_trans G0.out (grownBy_trans (World.grownBy_alloc w0 _ _) hg1))
  have R1 := Lib.hid (R0.out.keep (w' := w1) (by rw [hg1.block w.heap.size (by rw [alloc_size']; omega) (by intro e; injection e; omega), alloc_heap _ _ (by omega)]))
  clear hr1 hg1
  go_wp2_with fail
  go_loopw [3, 8] (fun v i wr => ∃ (k g cc q : Nat) (zs : List As), k ≤ d ∧ i = .int .i64 k ∧ v = .slice (some ⟨g, 0, none⟩) k cc ∧ zs.length = k ∧ q ≤ p + 1 + 100 * k ∧ Hid (Arow wr w.heap.size g k cc zs) ∧ Hid (SmallAs zs) ∧ Hid (Rdr wr rb a n c q) ∧ Hid (w.grownBy wr (some rb))) (fun _ i _ => d - (intOf i).toNat)
  case atStart => exact ⟨0, _, _, p + 1, [], Nat.zero_le _, by go_num, rfl, rfl, by omega, R1.out, SmallAs.nil, H1.out, G1.out⟩
  case round =>
    obtain ⟨k, g, cc, q, zs, hk, rfl, rfl, hl, hq, hR, hS, hr, hG⟩ := hrel
    by_cases hlt : k < d
    · go_wp2_with fail
      refine (HD.out _ _ _ _ _ _ hr.out (by omega)).mono ?_
      rintro e w5 ⟨x, y, z, q5, rfl, ⟨_, hx, hy, hz⟩, hq5, hr5, hg5⟩
      have hgb := hR.out.lt
      have hz5 := hg5.size
      have HR5 := Lib.hid ((hR.out.keep (w' := w5) (hg5.block g hgb.2 (by intro e; injection e; omega))).keep (w' := w5.alloc (.cells #[.string x, .string y, .string z] 24)) (alloc_heap _ _ (by omega)))
      have Hr5 := Lib.hid (hr5.later (alloc_heap (w := w5) (.cells #[.string x, .string y, .string z] 24)))
      have HG5 := Lib.hid (grownBy_trans (grownBy_trans hG.out hg5) (World.grownBy_alloc w5 (.cells #[.string x, .string y, .string z] 24) (some rb)))
      have HS5 := Lib.hid (hS.out.add (SmallAs.one (z := z) hx hy (by omega)))
      have hgr := hG.out.size
      clear hr5 hg5
      go_wp2_with (at_builtin; go_loud (refine wl_append_asp rfl _ _ rfl rfl _ _ rfl rfl (k + 1) (fun g' c' w' => Arow w' w.heap.size g' (k + 1) c' (zs ++ [(x, y, z)]) ∧ (w5.alloc (.cells #[.string x, .string y, .string z] 24)).grownBy w' (some g)) (more_asps _ w.heap.size g k cc zs HR5.out w5.heap.size 0 1 1 [(x, y, z)] rfl asp_news (by omega) (by rw [alloc_size']; omega)) ?_); rintro g' c' w6 ⟨hown, hgrow⟩)
      have HR6 := Lib.hid hown
      have Hr6 := Lib.hid (Hr5.out.but hgrow.block (by omega) (fun g' off ha hn => by have := HA.out g' off ha hn; omega))
      have HG6 := Lib.hid (grown_fresh HG5.out hgrow hgb.1)
      clear hown hgrow
      go_wp2_with fail
      exact ⟨⟨k + 1, _, _, q5, _, by omega, by go_num, rfl, by simp [hl], by omega, HR6.out, HS5.out, Hr6.out, HG6.out⟩, by simp [intOf]; omega⟩
    · have hkd : k = d := by omega
      subst hkd
      go_wp2_with fail
      go_ret
      exact ⟨g, cc, zs, q, by rw [hl]; rfl, by rw [hl]; exact hR.out, by omega, hS.out, by omega, hr.out, hG.out⟩
end Go.Proofs.YtkdnbdgpcgookaaGreatDoor
namespace Go.Proofs.YtkdnbdgpcgookaaGreatDoor
open Go.RowKit Gram

theorem arow_low {w : World} {B B' g n c : Nat} {zs : List As} (h : Arow w B g n c zs) (hb : B' ≤ B) : Arow w B' g n c zs := by
  refine ⟨h.1, ?_⟩
  rcases h.2 with h1 | ⟨g', cap, cur, hv, h1, h2⟩
  · exact .inl h1
  · exact .inr ⟨g', cap, cur, hv, Nat.le_trans hb h1, h2⟩
theorem asp_news3 {w : World} {x y z x' y' z' x2 y2 z2 : ByteArray} : ∀ (j : Nat) (u : Value), (asC [(x, y, z), (x', y', z'), (x2, y2, z2)])[j]? = some u →
    (w.alloc (.cells #[.string x, .string y, .string z, .string x', .string y', .string z', .string x2, .string y2, .string z2] 24)).cell? ((⟨w.heap.size, 0, none⟩ : Addr).add j) = some u :=
  World.news_of_block (cs := #[.string x, .string y, .string z, .string x', .string y', .string z', .string x2, .string y2, .string z2]) (heap_alloc_new _ _)

set_option maxHeartbeats 2000000 in
set_option maxRecDepth 100000 in
theorem dav_any (w : World) (a : Option Addr) (n c : Nat) (h : BytesAt w a n) (hn : n ≤ c) (hc : c ≤ 9223372036854775807) (hnil : a = none → n = 0) :
    Calls Tryz.prog 14 #[.slice a n c] w fun e w' => (∃ (g cc : Nat) (zs : List As), e = .returned (.slice (some ⟨g, 0, none⟩) zs.length cc) ∧ Arow w' w.heap.size g zs.length cc zs ∧ zs.length ≤ 6 ∧ SmallAs zs) ∧ Below w.heap.size w w' := by
  have HO := Lib.hid (open_any w a n c h hn hc hnil)
  have HL := Lib.hid l4l_any
  have H1 := Lib.hid l4o_any
  clear h hnil
  unfold DrewL at HL
  unfold DrewA aspV at H1
  go_enter Tryz.func14, Tryz.ntmps14
  go_wp2_with fail
  refine HO.out.mono ?_
  rintro e w1 ⟨m, rfl, hr, hb⟩
  have HR1 := Lib.hid hr
  have HB1 := Lib.hid hb
  clear hr hb
  go_wp2_with fail
  refine (HL.out _ _ _ _ _ _ HR1.out (by omega)).mono ?_
  rintro e w2 ⟨g, cc, zs, q, rfl, hown, hl, hs, hq, hr2, hg2⟩
  have hz12 := HB1.out.size
  have HA2 := Lib.hid hown
  have HS2 := Lib.hid hs
  have HR2 := Lib.hid hr2
  have HG2 := Lib.hid hg2
  clear hown hr2 hg2 hs
  go_wp2_with fail
  refine (pick_to 6 HR2.out (by omega) (by omega)).mono ?_
  rintro e w3 ⟨v, rfl, hv, hr3, hg3⟩
  have hlt := HA2.out.lt
  have hrb := heap_lt HR1.out.own
  have HA3 := Lib.hid (HA2.out.keep (w' := w3) (hg3.block g hlt.2 (by intro e; injection e; omega)))
  have HR3 := Lib.hid hr3
  have HG3 := Lib.hid (grownBy_trans HG2.out hg3)
  clear hr3 hg3
  by_cases hv0 : v = 0
  · subst hv0
    go_wp2_with fail
    refine (H1.out _ _ _ _ _ _ HR3.out (by omega)).mono ?_
    rintro e w4 ⟨x, y, z, q4, rfl, hx, hy, hz, hq4, hr4, hg4⟩
    have HA4 := Lib.hid (HA3.out.keep (w' := w4) (hg4.block g HA3.out.lt.2 (by intro e; injection e; omega)))
    have HR4 := Lib.hid hr4
    have HG4 := Lib.hid (grownBy_trans HG3.out hg4)
    clear hr4 hg4
    go_wp2_with fail
    refine (H1.out _ _ _ _ _ _ HR4.out (by omega)).mono ?_
    rintro e w5 ⟨x', y', z', q5, rfl, hx', hy', hz', hq5, hr5, hg5⟩
    have HA5 := Lib.hid (HA4.out.keep (w' := w5) (hg5.block g HA4.out.lt.2 (by intro e; injection e; omega)))
    have HR5 := Lib.hid hr5
    have HG5 := Lib.hid (grownBy_trans HG4.out hg5)
    clear hr5 hg5
    go_wp2_with fail
    refine (H1.out _ _ _ _ _ _ HR5.out (by omega)).mono ?_
    rintro e w6 ⟨x2, y2, z2, q6, rfl, hx2, hy2, hz2, hq6, hr6, hg6⟩
    have HA6 := Lib.hid ((HA5.out.keep (w' := w6) (hg6.block g HA5.out.lt.2 (by intro e; injection e; omega))).keep (w' := w6.alloc (.cells #[.string x, .string y, .string z, .string x', .string y', .string z', .string x2, .string y2, .string z2] 24)) (alloc_heap _ _ (by have := (HA5.out.keep (w' := w6) (hg6.block g HA5.out.lt.2 (by intro e; injection e; omega))).lt; omega)))
    have HG6 := Lib.hid (grownBy_trans (grownBy_trans HG5.out hg6) (World.grownBy_alloc w6 (.cells #[.string x, .string y, .string z, .string x', .string y', .string z', .string x2, .string y2, .string z2] 24) (some w.heap.size)))
    have hz6 := (grownBy_trans HG5.out hg6).size
    have HS6 := Lib.hid (show SmallAs (zs ++ [(x, y, z), (x', y', z'), (x2, y2, z2)]) from HS2.out.add (((SmallAs.one (z := z) hx hy hz).add (SmallAs.one (z := z') hx' hy' hz')).add (SmallAs.one (z := z2) hx2 hy2 hz2)))
    clear hr6 hg6
    go_wp2_with (at_builtin; go_loud (refine wl_append_asp rfl _ _ rfl rfl _ _ rfl rfl (zs.length + 3) (fun g' c' w' => Arow w' w.heap.size g' (zs.length + 3) c' (zs ++ [(x, y, z), (x', y', z'), (x2, y2, z2)]) ∧ (w6.alloc (.cells #[.string x, .string y, .string z, .string x', .string y', .string z', .string x2, .string y2, .string z2] 24)).grownBy w' (some g)) (more_asps _ w.heap.size g zs.length cc zs (arow_low HA6.out hz12) w6.heap.size 0 3 3 [(x, y, z), (x', y', z'), (x2, y2, z2)] rfl asp_news3 (by omega) (by rw [alloc_size']; omega)) ?_); rintro g' c' w7 ⟨hown, hgrow⟩)
    have HA7 := Lib.hid hown
    have HG7 := Lib.hid (grown_fresh HG6.out hgrow hlt.1)
    clear hown hgrow
    go_wp2_with fail
    go_ret
    exact ⟨⟨g', c', zs ++ [(x, y, z), (x', y', z'), (x2, y2, z2)], by simp, by simpa using HA7.out, by simp; omega, HS6.out⟩, grown_new HB1.out HG7.out⟩
  · have hvb : ((v : Int) == 0) = false := by rw [beq_eq_false_iff_ne]; omega
    go_wp2_with fail
    go_ret
    exact ⟨⟨g, cc, zs, rfl, arow_low HA3.out hz12, by omega, HS2.out⟩, grown_new HB1.out HG3.out⟩
end Go.Proofs.YtkdnbdgpcgookaaGreatDoor
