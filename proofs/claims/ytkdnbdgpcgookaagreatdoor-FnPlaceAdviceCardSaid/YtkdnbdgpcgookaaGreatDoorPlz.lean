/- impl.place: the walk. Conditions as in Plw. -/
import Derived.Test.YtkdnbdgpcgookaaGreatDoorPlw
namespace Go.Proofs.YtkdnbdgpcgookaaGreatDoor
open Go.RowKit Go.Shelf Gram

attribute [local go_sem] Oper.semAt_some

/-- what place hands back -/
def PlTo (w : World) (bs : List (List Stm)) (s : List Stm) (e : Ending) (w' : World) : Prop :=
  (match plS bs s with
    | some o => ∃ v S, e = .returned (.tuple #[v, .bool true]) ∧ IsBody w' S o v ∧ ∀ k, S k → k < w'.heap.size
    | none => e = .returned (.tuple #[.slice none 0 0, .bool false])) ∧ Below w.heap.size w w'
theorem one_body {w : World} {x : Stm} {v : Value} {b : Nat} (hsv : ∀ w S, IsStm w S x v) (hb : w.heap[b]? = some (.cells #[v] 72 (0, 0))) : IsBody w (fun k => k = b) [x] (.slice (some ⟨b, 0, none⟩) 1 1) := by
  refine ⟨[v], ⟨⟨rfl, .inr ⟨b, 1, #[v], rfl, Nat.zero_le _, hb, Nat.le_refl _, by simp [maxLen], by simp, by simp⟩⟩, fun g hg => ?_⟩, ?_⟩
  · have h1 : b = g := by simpa [Value.ownBlock] using hg
    exact h1.symm
  · simp only [IsStms]; exact ⟨v, [], rfl, hsv w _, rfl⟩
/-- the elements of a row of inlined aspects, all indices taken round -/
def ctOf (vals : List Value) (len j : Nat) : TypeId := match vals.getD ((j % len) * 2) undef with | .iface t _ => t | _ => 0
def cpOf (vals : List Value) (len j : Nat) : Value := match vals.getD ((j % len) * 2) undef with | .iface _ p => p | _ => undef
def adrOf : Value → Nat
  | .pointer (some a) => a.block
  | _ => 0
def gbOf (vals : List Value) (len j : Nat) : Nat := match vals.getD ((j % len) * 2 + 1) undef with
  | .func _ _ cs => adrOf (cs.getD 0 undef)
  | _ => 0
def cvOf (vals : List Value) (len j : Nat) : Value := .iface (ctOf vals len j) (cpOf vals len j)
def fvOf (vals : List Value) (len j : Nat) : Value := .func (.func 93) #[] #[.pointer (some ⟨gbOf vals len j, 0, none⟩)]
theorem cvOf_is {vals : List Value} {len j : Nat} {t : TypeId} {p : Value} (h : vals[(j % len) * 2]? = some (.iface t p)) : cvOf vals len j = .iface t p := by
  have hg : vals.getD ((j % len) * 2) undef = .iface t p := by rw [List.getD_eq_getElem?_getD, h]; rfl
  unfold cvOf ctOf cpOf; rw [hg]
theorem fvOf_is {vals : List Value} {len j : Nat} {gb : Nat} (h : vals[(j % len) * 2 + 1]? = some (.func (.func 93) #[] #[.pointer (some ⟨gb, 0, none⟩)])) : gbOf vals len j = gb := by
  have hg : vals.getD ((j % len) * 2 + 1) undef = .func (.func 93) #[] #[.pointer (some ⟨gb, 0, none⟩)] := by rw [List.getD_eq_getElem?_getD, h]; rfl
  unfold gbOf; rw [hg]; rfl

set_option maxRecDepth 100000 in
set_option maxHeartbeats 4000000 in
theorem plz_in (w : World) (x : Stm) (ty : TypeId) (pv : Value) (hsv : ∀ w S, IsStm w S x (.iface ty pv)) (hx : (txts [x]).length ≤ 400 ∧ wfs [x] = true) (B g cap : Nat) (vals : List Value) (bs : List (List Stm)) (hI : Inl w B g bs.length cap vals bs)
    (hbs : ∀ b ∈ bs, wfs b = true ∧ (txts b).length ≤ 60) (hl : bs.length ≤ 1000) : CallsIn Fence.wide 9 Tryz.prog 42 #[.iface ty pv, .slice (some ⟨g, 0, none⟩) bs.length cap] w (PlTo w bs [x]) := by
  have hgw : g < w.heap.size := (World.ownsRow.lt hI.row g rfl).2
  refine callsIn_of_wp_marks Tryz.func42 rfl trivial ?_ rfl
  simp only [Tryz.ntmps42, List.size_toArray, List.length_cons, List.length_nil, Nat.reduceAdd, Nat.reduceSub, Array.replicate_succ, Array.replicate_zero, List.push_toArray, List.append_toArray, List.nil_append, List.cons_append]
  have HI := Lib.hid hI
  have HSV := Lib.hid hsv
  have HBS := Lib.hid hbs
  have HXL := Lib.hid hx
  clear hI hsv hbs hx
  gi_wp2_with (refine ⟨trivial, ?_⟩; gi_at_call 72; refine (bwd_in Fence.wide _ trivial rfl _ _ _ _).mono ?_; rintro e w' ⟨rfl, rfl⟩)
  have a0 := (((((Boxed.new w 55 (.slice none 0 0)).alloc (.cells #[.bool false] 4)).alloc (.cells #[.iface ty pv] 72)).alloc (.cells #[.slice (some ⟨w.heap.size + 1 + 1, 0, none⟩) 1 1] 55)).alloc (.cells #[.slice (some ⟨g, 0, none⟩) bs.length cap] 75))
  have a1 := ((((Boxed.new (w.alloc (.cells #[.slice none 0 0] 55)) 4 (.bool false)).alloc (.cells #[.iface ty pv] 72)).alloc (.cells #[.slice (some ⟨w.heap.size + 1 + 1, 0, none⟩) 1 1] 55)).alloc (.cells #[.slice (some ⟨g, 0, none⟩) bs.length cap] 75))
  have a2 := (((Boxed.new ((w.alloc (.cells #[.slice none 0 0] 55)).alloc (.cells #[.bool false] 4)) 72 (.iface ty pv)).alloc (.cells #[.slice (some ⟨w.heap.size + 1 + 1, 0, none⟩) 1 1] 55)).alloc (.cells #[.slice (some ⟨g, 0, none⟩) bs.length cap] 75))
  have a3 := ((Boxed.new (((w.alloc (.cells #[.slice none 0 0] 55)).alloc (.cells #[.bool false] 4)).alloc (.cells #[.iface ty pv] 72)) 55 (.slice (some ⟨w.heap.size + 1 + 1, 0, none⟩) 1 1)).alloc (.cells #[.slice (some ⟨g, 0, none⟩) bs.length cap] 75))
  have a4 := Boxed.new ((((w.alloc (.cells #[.slice none 0 0] 55)).alloc (.cells #[.bool false] 4)).alloc (.cells #[.iface ty pv] 72)).alloc (.cells #[.slice (some ⟨w.heap.size + 1 + 1, 0, none⟩) 1 1] 55)) 75 (.slice (some ⟨g, 0, none⟩) bs.length cap)
  simp only [World.size_alloc] at a1 a2 a3 a4
  have hB0 : Below w.heap.size w (((((w.alloc (.cells #[.slice none 0 0] 55)).alloc (.cells #[.bool false] 4)).alloc (.cells #[.iface ty pv] 72)).alloc (.cells #[.slice (some ⟨w.heap.size + 1 + 1, 0, none⟩) 1 1] 55)).alloc (.cells #[.slice (some ⟨g, 0, none⟩) bs.length cap] 75)) :=
    (((((Below.refl _ w).alloc (Nat.le_refl _) _).alloc (by simp) _).alloc (by simp; omega) _).alloc (by simp; omega) _).alloc (by simp; omega) _
  have hsz : (((((w.alloc (.cells #[.slice none 0 0] 55)).alloc (.cells #[.bool false] 4)).alloc (.cells #[.iface ty pv] 72)).alloc (.cells #[.slice (some ⟨w.heap.size + 1 + 1, 0, none⟩) 1 1] 55)).alloc (.cells #[.slice (some ⟨g, 0, none⟩) bs.length cap] 75)).heap.size = w.heap.size + 5 := by simp
  obtain ⟨W0, hW0⟩ : ∃ W0, ((((w.alloc (.cells #[.slice none 0 0] 55)).alloc (.cells #[.bool false] 4)).alloc (.cells #[.iface ty pv] 72)).alloc (.cells #[.slice (some ⟨w.heap.size + 1 + 1, 0, none⟩) 1 1] 55)).alloc (.cells #[.slice (some ⟨g, 0, none⟩) bs.length cap] 75) = W0 := ⟨_, rfl⟩
  rw [hW0] at a0 a1 a2 a3 a4 hB0 hsz ⊢
  clear hW0
  have hI0 := HI.out.later hB0
  have hcells : ∀ j, j < bs.length → W0.cell? ⟨g, j * 2, none⟩ = some (cvOf vals bs.length j) ∧ W0.cell? ⟨g, j * 2 + 1, none⟩ = some (fvOf vals bs.length j) := fun j hj => by
    obtain ⟨ct, cp, f, e1, e2, gb, _, _, _, _, hf, _⟩ := hI0.each j hj
    have hm : j % bs.length = j := Nat.mod_eq_of_lt hj
    subst hf
    refine ⟨row_cell hI0.row _ _ ?_, row_cell hI0.row _ _ ?_⟩
    · rw [cvOf_is (by rw [hm]; exact e1)]; exact e1
    · unfold fvOf; rw [fvOf_is (by rw [hm]; exact e2)]; exact e2
  refine wpIn_rangeFunc_ownH rfl (by omega) (gf := 96) (lb := #[.pointer (some ⟨w.heap.size + 1 + 1 + 1 + 1, 0, none⟩)]) rfl trivial (enters_of Tryz.func96 (by kernel_rfl) rfl)
    (bwd_stops Fence.wide (9 - 1) trivial rfl (by omega) (w.heap.size + 1 + 1 + 1 + 1) g bs.length cap (cvOf vals bs.length) (fvOf vals bs.length) hl W0 (by omega) (by omega) a4.cell hcells)
    (fun h k => h.trans k) (fun W l o o' hl' _ _ _ => ⟨World.putObj_heap_other (by omega), World.putObj_heap_other (by omega)⟩) (Below.refl _ _) (fun _ => rfl)
    (PlI w bs [x] w.heap.size (w.heap.size + 1) (w.heap.size + 1 + 1 + 1)) (PlX w bs [x] w.heap.size (w.heap.size + 1)) (plI_own _ _ _ _ _ _ _ (by omega)) (plX_own _ _ _ _ _ _ (by omega))
    ⟨⟨[x], _, 1, _, rfl, HXL.out, a3, one_body HSV.out a2, fun k hk => by subst hk; exact ⟨_, _, a2⟩⟩, ⟨a0, a1⟩, hB0, by omega⟩
    (fun j a' W => ∃ Bx, w.heap.size + 5 ≤ Bx ∧ W.heap[Bx]? = some (.cells #[cvOf vals bs.length j, fvOf vals bs.length j] 121 (0, 0)) ∧ a' = { tmps := #[.iface ty pv, .slice (some ⟨g, 0, none⟩) bs.length cap, undef, undef, .pointer (some ⟨w.heap.size, 0, none⟩), .pointer (some ⟨w.heap.size + 1, 0, none⟩), .pointer (some ⟨w.heap.size + 1 + 1 + 1, 0, none⟩), undef, .pointer (some ⟨Bx, 0, none⟩), .iface ty pv, .slice (some ⟨w.heap.size + 1 + 1, 0, none⟩) 1 1, .slice (some ⟨g, 0, none⟩) bs.length cap, .func (.func 96) #[] #[.pointer (some ⟨w.heap.size + 1 + 1 + 1 + 1, 0, none⟩)], .int .i64 (j : Int), .agg #[cvOf vals bs.length j, fvOf vals bs.length j], undef, undef, undef, undef, undef, undef, undef, undef, undef], defers := [] })
    (fun j a' _ X Y row hs hg hr => by obtain ⟨Bx, h1, h2, h3⟩ := hs; exact ⟨Bx, h1, (not_cells_same hg hr h2).trans h2, h3⟩)
    ?assign ?body ?done ?stop
  case assign =>
    rintro l pre j W K ⟨⟨o, gP, cP, S, h1, hol, h2, h3, h4⟩, ⟨h5, h6⟩, h7, h8⟩ hK
    unfold cvOf fvOf at *
    have hk9 : ∀ k, k < W.heap.size → (W.alloc (Obj.cells #[.iface (ctOf vals bs.length j) (cpOf vals bs.length j), .func (.func 93) #[] #[.pointer (some ⟨gbOf vals bs.length j, 0, none⟩)]] 121)).heap[k]? = W.heap[k]? := fun k hk => Lib.alloc_old _ _ _ hk
    have hb9 := (Below.refl W.heap.size W).alloc (Nat.le_refl _) (Obj.cells #[.iface (ctOf vals bs.length j) (cpOf vals bs.length j), .func (.func 93) #[] #[.pointer (some ⟨gbOf vals bs.length j, 0, none⟩)]] 121)
    have hst := fun (a : Addr) (w : World) m => run_store Tryz.prog w a (.func (.func 93) #[] #[.pointer (some ⟨gbOf vals bs.length j, 0, none⟩)]) m rfl
    gi_wp2
    refine hK _ _ ((KeepsOthers.alloc _ _).from _) ⟨hk9 _ (by omega), hk9 _ (by omega)⟩ ?_ ⟨W.heap.size, h8, heap_alloc_new _ _, rfl⟩
    refine ⟨⟨o, gP, cP, S, h1, hol, (hk9 _ h2.lt).trans h2, h3.kept (fun k hk => by obtain ⟨cur, fz, hc⟩ := h4 k hk; exact hk9 k (heap_lt hc)) (fun _ h => h), fun k hk => ?_⟩, ⟨(hk9 _ h5.lt).trans h5, (hk9 _ h6.lt).trans h6⟩, h7.trans (hb9.mono h7.size), Nat.le_trans h8 hb9.size⟩
    obtain ⟨cur, fz, hc⟩ := h4 k hk
    exact ⟨cur, fz, by rw [hk9 k (heap_lt hc)]; exact hc⟩
  case body =>
    rintro l pre j a' W hll ⟨r, hr⟩ ⟨⟨o, gP, cP, S, h1, ⟨hol, hwo⟩, h2, h3, h4⟩, ⟨h5, h6⟩, h7, h8⟩ ⟨Bx, hBx, hcx, rfl⟩ hlt
    have hm : j % bs.length < bs.length := Nat.mod_lt _ (by omega)
    obtain ⟨ct, cp, f, e1, e2, gb, la, ln, lc, S', hf, hgb, hbd, hS'⟩ := (HI.out.later h7).each _ hm
    subst hf
    have hgbe := fvOf_is e2
    have hGd : bs.getD (j % bs.length) [] = bs[j % bs.length] := by
      rw [List.getD_eq_getElem?_getD, List.getElem?_eq_getElem hm]; rfl
    obtain ⟨hwb, hb60⟩ := HBS.out _ (List.getElem_mem hm)
    have hGs := plG_snoc bs [x] pre j
    rw [h1, hGd] at hGs
    simp only [Option.bind_some] at hGs
    unfold cvOf fvOf at hcx
    rw [hgbe] at hcx
    generalize bs[j % bs.length] = b at *
    have hfb := flats_txt b
    have hob := len_txts o
    have HSr := Lib.hid (srd_any o b W S' S gb gP cP la ln lc (by omega) (by omega) (fun k hk => by obtain ⟨cur, fz, hc⟩ := hS' k hk; exact heap_lt hc) hbd (by rw [Lib.cell_of_heap hgb]; rfl) h3 h4)
    have q1 : W.cell? ⟨Bx, 1, none⟩ = some (.func (.func 93) #[] #[.pointer (some ⟨gb, 0, none⟩)]) := by rw [Lib.cell_of_heap hcx]; rfl
    have q3 := h2.cell
    have hE : ∀ (args : Array Value) (w : World), (callFunc 93 args).run Tryz.prog w = .ok (.enter 93 args) w := enters_of Tryz.func93 (by kernel_rfl) rfl
    clear h3 h4 hbd hS' e1 e2 hgb hcx
    gi_wp2_with (refine ⟨trivial, ?_⟩; gi_at_call 93; go_loud (refine (CallsIn.inRound l (callsIn_wide.2 HSr.out)).mono ?_); rintro e W3 ⟨g3, c3, S3, rfl, hb3, hS3, hbl3⟩; have k2 := (hbl3.block (w.heap.size + 1 + 1 + 1) h2.lt).trans h2; have q4 : W3.cell? ⟨w.heap.size + 1 + 1 + 1, 0, none⟩ = some (.slice (some ⟨gP, 0, none⟩) o.length cP) := Boxed.cell k2; have f4 : W3.frozen? ⟨w.heap.size + 1 + 1 + 1, 0, none⟩ = false := Boxed.frozen k2; have q5 := Boxed.cell (Boxed.set (.slice (some ⟨g3, 0, none⟩) (plugs o b).length c3) k2))
    have hk4 : ∀ k, S3 k → (W3.setCell ⟨w.heap.size + 1 + 1 + 1, 0, none⟩ (.slice (some ⟨g3, 0, none⟩) (plugs o b).length c3)).heap[k]? = W3.heap[k]? := fun k hk => by
      obtain ⟨_, cur, fz, hc⟩ := hS3 k hk
      refine heap_set_other (fun he => ?_) _
      subst he
      have := hc.symm.trans k2
      injection this with this
      injection this with _ ht _
      exact absurd ht (by decide)
    have hT := body_step 1048576 (text_all 1048576) (plugs o b) (W3.setCell ⟨w.heap.size + 1 + 1 + 1, 0, none⟩ (.slice (some ⟨g3, 0, none⟩) (plugs o b).length c3)) S3 _ (by
      rw [← stms_plug o b hwb]
      refine Nat.le_trans (putK_len _ _) (Nat.le_trans (Nat.mul_le_mul hb60 (show (txts o).length + 1 ≤ 401 by omega)) (by omega))) (Nat.le_refl _) (fun k hk => by obtain ⟨_, cur, fz, hc⟩ := hS3 k hk; have := heap_lt hc; simpa [World.setCell] using this) (hb3.kept hk4 (fun _ h => h))
    refine ⟨trivial, ?_⟩
    refine (CallsIn.inRound l (callsIn_wide.2 hT)).mono ?_
    rintro e W5 ⟨rfl, hbl5⟩
    have hsz3 : (W3.setCell ⟨w.heap.size + 1 + 1 + 1, 0, none⟩ (.slice (some ⟨g3, 0, none⟩) (plugs o b).length c3)).heap.size = W3.heap.size := by simp [World.setCell]
    have hs3 := hbl3.size
    have hWw : w.heap.size ≤ W.heap.size := h7.size
    have hb5 : Below w.heap.size W W5 := ((hbl3.mono hWw).setCell (p := ⟨w.heap.size + 1 + 1 + 1, 0, none⟩) (by show _ ≤ w.heap.size + 1 + 1 + 1; omega) (.slice (some ⟨g3, 0, none⟩) (plugs o b).length c3)).trans (hbl5.mono (by rw [hsz3]; omega))
    have hk5 : ∀ k, k < W.heap.size → k ≠ w.heap.size + 1 + 1 + 1 → W5.heap[k]? = W.heap[k]? := fun k hk hne => by
      rw [hbl5.block k (by rw [hsz3]; omega), heap_set_other hne, hbl3.block k hk]
    have hKF : KeepsFrom W0.heap.size W W5 := ⟨hb5.size, fun k ob _ hk hob => by
      have hlt' : k < W.heap.size := (Array.getElem?_eq_some_iff.1 hk).1
      by_cases hne : k = w.heap.size + 1 + 1 + 1
      · subst hne; rw [show W.heap[w.heap.size + 1 + 1 + 1]? = _ from h2] at hk; injection hk with hk; subst hk; cases hob
      · rw [hk5 k hlt' hne]; exact hk⟩
    have k5 : Boxed W5 (w.heap.size + 1 + 1 + 1) 55 (.slice (some ⟨g3, 0, none⟩) (plugs o b).length c3) := (hbl5.block (w.heap.size + 1 + 1 + 1) (by rw [hsz3]; exact Boxed.lt k2)).trans (Boxed.set (.slice (some ⟨g3, 0, none⟩) (plugs o b).length c3) k2)
    have hS5 : ∀ k, S3 k → W5.heap[k]? = W3.heap[k]? := fun k hk => by
      obtain ⟨_, cur, fz, hc⟩ := hS3 k hk
      rw [hbl5.block k (by rw [hsz3]; exact heap_lt hc)]; exact hk4 k hk
    have m5 : Boxed W5 w.heap.size 55 (.slice none 0 0) := (hk5 _ h5.lt (by omega)).trans h5
    have m6 : Boxed W5 (w.heap.size + 1) 4 (.bool false) := (hk5 _ h6.lt (by omega)).trans h6
    have hwq := plugs_wf o hwo b hwb
    unfold strV
    have hqz : (⟨(txts (plugs o b)).toArray⟩ : ByteArray).size = (txts (plugs o b)).length := rfl
    generalize hq : (⟨(txts (plugs o b)).toArray⟩ : ByteArray) = qs at *
    by_cases hbig : 400 < (txts (plugs o b)).length
    · have hbi : (400 : Int) < (qs.size : Int) := by omega
      have n5 := m5.cell
      have n6 := m6.cell
      have f5 := m5.frozen
      have f6 := m6.frozen
      have HG := Lib.hid (show plG bs [x] (pre ++ [j]) = none by rw [hGs, stepS, if_pos hbig])
      gi_wp2
      exact ⟨hKF.trans (((KeepsOthers.setCell _ _ _).trans (KeepsOthers.setCell _ _ _)).from _), rfl, HG.out, ⟨(m5.set _).other (by omega) _, (m6.other (by omega) _).set _⟩, ((h7.trans hb5).setCell (p := ⟨w.heap.size, 0, none⟩) (Nat.le_refl _) _).setCell (p := ⟨w.heap.size + 1, 0, none⟩) (by show _ ≤ w.heap.size + 1; omega) _⟩
    · have hbi : ¬ (400 : Int) < (qs.size : Int) := by omega
      have HP := Lib.hid (show PlI w bs [x] w.heap.size (w.heap.size + 1) (w.heap.size + 1 + 1 + 1) (pre ++ [j]) W5 from
        ⟨⟨plugs o b, g3, c3, S3, by rw [hGs, stepS, if_neg hbig], ⟨by omega, hwq⟩, k5, hb3.kept hS5 (fun _ h => h), fun k hk => by obtain ⟨_, cur, fz, hc⟩ := hS3 k hk; exact ⟨cur, fz, by rw [hS5 k hk]; exact hc⟩⟩, ⟨m5, m6⟩, h7.trans hb5, Nat.le_trans h8 hb5.size⟩)
      gi_wp2
      exact ⟨hKF, ⟨hk5 _ (by omega) (by omega), hk5 _ (by omega) (by omega)⟩, HP.out⟩
  case done =>
    rintro D xs W hD rfl ⟨⟨o, gP, cP, S, h1, ⟨hol, hwo⟩, h2, h3, h4⟩, ⟨h5, h6⟩, h7, h8⟩ hK
    have hp := plG_bwd bs [x] bs.length (Nat.le_refl _)
    rw [h1, Nat.sub_self, List.drop_zero] at hp
    have c2 := h2.cell
    have c5 := h5.cell
    have c6 := h6.cell
    have f5 := h5.frozen
    have f6 := h6.frozen
    gi_wp2
    have hK7 := (KeepsOthers.setCell (W.setCell ⟨w.heap.size, 0, none⟩ (.slice (some ⟨gP, 0, none⟩) o.length cP)) ⟨w.heap.size + 1, 0, none⟩ (.bool true)).same D _ ((KeepsOthers.setCell W ⟨w.heap.size, 0, none⟩ (.slice (some ⟨gP, 0, none⟩) o.length cP)).same D _ hK rfl) rfl
    have b7 : Boxed ((W.setCell ⟨w.heap.size, 0, none⟩ (.slice (some ⟨gP, 0, none⟩) o.length cP)).setCell ⟨w.heap.size + 1, 0, none⟩ (.bool true)) w.heap.size 55 (.slice (some ⟨gP, 0, none⟩) o.length cP) := (h5.set _).other (by omega) _
    have b8 : Boxed ((W.setCell ⟨w.heap.size, 0, none⟩ (.slice (some ⟨gP, 0, none⟩) o.length cP)).setCell ⟨w.heap.size + 1, 0, none⟩ (.bool true)) (w.heap.size + 1) 4 (.bool true) := (h6.other (by omega) _).set _
    have hB7 := (h7.setCell (p := ⟨w.heap.size, 0, none⟩) (Nat.le_refl _) (.slice (some ⟨gP, 0, none⟩) o.length cP)).setCell (p := ⟨w.heap.size + 1, 0, none⟩) (by show _ ≤ w.heap.size + 1; omega) (.bool true)
    have hS7 : ∀ k, S k → ((W.setCell ⟨w.heap.size, 0, none⟩ (.slice (some ⟨gP, 0, none⟩) o.length cP)).setCell ⟨w.heap.size + 1, 0, none⟩ (.bool true)).heap[k]? = W.heap[k]? := fun k hk => by
      obtain ⟨cur, fz, hc⟩ := h4 k hk
      rw [heap_set_other, heap_set_other]
      · rintro rfl
        have := hc.symm.trans h5
        injection this with this; injection this with _ ht _; exact absurd ht (by decide)
      · rintro rfl
        have := hc.symm.trans h6
        injection this with this; injection this with _ ht _; exact absurd ht (by decide)
    generalize (W.setCell ⟨w.heap.size, 0, none⟩ (.slice (some ⟨gP, 0, none⟩) o.length cP)).setCell ⟨w.heap.size + 1, 0, none⟩ (.bool true) = W7 at *
    have d7 : (W7.putObj D (.deferred none)).cell? ⟨w.heap.size, 0, none⟩ = some (.slice (some ⟨gP, 0, none⟩) o.length cP) := (World.cell?_of_block (a := ⟨w.heap.size, 0, none⟩) (World.putObj_heap_other (by show w.heap.size ≠ D; omega))).trans b7.cell
    have d8 : (W7.putObj D (.deferred none)).cell? ⟨w.heap.size + 1, 0, none⟩ = some (.bool true) := (World.cell?_of_block (a := ⟨w.heap.size + 1, 0, none⟩) (World.putObj_heap_other (by show w.heap.size + 1 ≠ D; omega))).trans b8.cell
    refine ⟨by simp, .inl ⟨_, _, rfl, run_takeDeferred hK7, ?_⟩⟩
    refine ⟨.tuple #[.slice (some ⟨gP, 0, none⟩) o.length cP, .bool true], ?_, ?_⟩
    · simp [results, Tryz.results42, go_sem, d7, d8]
    · refine ⟨?_, hB7.trans (belowK_b (w := w) (Nat.le_refl _) W7 D _ _ (by omega) hK7 rfl rfl)⟩
      rw [← hp]
      have hS8 : ∀ k, S k → (W7.putObj D (.deferred none)).heap[k]? = W.heap[k]? := fun k hk => by
        obtain ⟨cur, fz, hc⟩ := h4 k hk
        rw [World.putObj_heap_other, hS7 k hk]
        rintro rfl
        have h9 := hS7 k hk
        rw [hc] at h9
        have := h9.symm.trans hK7
        injection this with this; cases this
      exact ⟨_, S, rfl, h3.kept hS8 (fun _ h => h), fun k hk => by obtain ⟨cur, fz, hc⟩ := h4 k hk; exact heap_lt ((hS8 k hk).trans hc)⟩
  case stop =>
    rintro D c pre W hD ⟨k, hk, rfl⟩ ⟨rfl, h1, ⟨h5, h6⟩, h7⟩ hK
    rw [plG_bwd bs [x] k hk] at h1
    have hp := plS_none _ _ _ h1
    have c5 := h5.cell
    have c6 := h6.cell
    gi_wp2
    have d7 : (W.putObj D (.deferred none)).cell? ⟨w.heap.size, 0, none⟩ = some (.slice none 0 0) := (World.cell?_of_block (a := ⟨w.heap.size, 0, none⟩) (World.putObj_heap_other (by show w.heap.size ≠ D; omega))).trans c5
    have d8 : (W.putObj D (.deferred none)).cell? ⟨w.heap.size + 1, 0, none⟩ = some (.bool false) := (World.cell?_of_block (a := ⟨w.heap.size + 1, 0, none⟩) (World.putObj_heap_other (by show w.heap.size + 1 ≠ D; omega))).trans c6
    refine ⟨by simp, .inl ⟨_, _, rfl, run_takeDeferred hK, ?_⟩⟩
    refine ⟨.tuple #[.slice none 0 0, .bool false], ?_, ?_⟩
    · simp [results, Tryz.results42, go_sem, d7, d8]
    · refine ⟨?_, h7.trans (belowK_b (w := w) (Nat.le_refl _) W D _ _ (by omega) hK rfl rfl)⟩
      rw [hp]
end Go.Proofs.YtkdnbdgpcgookaaGreatDoor
