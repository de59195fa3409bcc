/- CallTree of the program: what the model says. Conditions: texts of at most 2^30 bytes, and the library's own number can be read. -/
import Derived.Test.YtomodlllmbkndaaGreatDoorTrx
import Derived.Test.YtomodlllmbkndaaGreatDoorStr
namespace Go.Proofs.YtomodlllmbkndaaGreatDoor
open Go.RowKit Gram

theorem callPts_is (l : List Jpt) : callPts l = ofKind true l := by
  unfold callPts ofKind
  congr 1
  funext j
  cases j.nm <;> rfl
/-- a run's calls are trees of what began -/
theorem run_tree {s nm : ByteArray} {v : Int} {r : Mst × Option Fin} (h : runP s nm v = some r) : ∃ c t, nm = txtOf [c] ∧ FoT [c] (callPts r.1.pts) t := by
  obtain ⟨ps, p, hp, hl, hr, _, _⟩ := run_ok h
  have hn := look_name hl
  obtain ⟨⟨d, t, h1, h2⟩, _⟩ := exec_adds (B := bodyP ps) 501 ((Mst.start v).enter p.1) (bodyP ps p.1)
  refine ⟨p.1, t, hn, ?_⟩
  have hpts : r.1.pts = d := by
    rw [hr]
    unfold runOf callBy
    cases he : exec (bodyP ps) 501 ((Mst.start v).enter p.1) (bodyP ps p.1) with
    | mk m' o =>
      rw [he] at h1
      cases o with
      | none => exact h1
      | some f => exact h1
  rw [hpts]
  exact h2
theorem tree_is {c : UInt8} {t : List UInt8} {pts : List Jpt} (h : FoT [c] (callPts pts) t) : txT [c] pts = c :: parT t := by
  unfold txT
  rw [tfold_calls]
  exact (tree_text h).1

theorem four_new (w : World) (o1 o2 o3 o4 : Obj) : ((((w.alloc o1).alloc o2).alloc o3).alloc o4).heap[w.heap.size]? = some o1 ∧ ((((w.alloc o1).alloc o2).alloc o3).alloc o4).heap[w.heap.size + 1]? = some o2 ∧ ((((w.alloc o1).alloc o2).alloc o3).alloc o4).heap[w.heap.size + 1 + 1]? = some o3 ∧
    ((((w.alloc o1).alloc o2).alloc o3).alloc o4).heap[w.heap.size + 1 + 1 + 1]? = some o4 ∧ Below w.heap.size w ((((w.alloc o1).alloc o2).alloc o3).alloc o4) := by
  have z1 := alloc_size' w o1
  have z2 := alloc_size' (w.alloc o1) o2
  have z3 := alloc_size' ((w.alloc o1).alloc o2) o3
  refine ⟨?_, ?_, ?_, ?_, ((((Below.refl _ _).alloc (Nat.le_refl _) _).alloc (by omega) _).alloc (by omega) _).alloc (by omega) _⟩
  · rw [Lib.alloc_old _ _ _ (by omega), Lib.alloc_old _ _ _ (by omega), Lib.alloc_old _ _ _ (by omega)]; exact heap_alloc_new _ _
  · rw [Lib.alloc_old _ _ _ (by omega), Lib.alloc_old _ _ _ (by omega), ← z1]; exact heap_alloc_new _ _
  · rw [Lib.alloc_old _ _ _ (by omega), ← z1, ← z2]; exact heap_alloc_new _ _
  · rw [← z1, ← z2, ← z3]; exact heap_alloc_new _ _

set_option maxHeartbeats 2000000 in
set_option maxRecDepth 100000 in
theorem tof_any (w : World) (B0 : Nat) (a : Option Addr) (n cp : Nat) (F : List Jpt) (c : UInt8) (t : List UInt8) (hn : n = F.length) (hr : w.ownsRow B0 49 3 (.slice a n cp) n (jpC F)) (hF : FoT [c] F t) (hl : F.length ≤ 501) :
    Calls Tryz.prog 27 #[.string (txtOf [c]), .slice a n cp] w fun e w' => e = .returned (.string (txtOf (c :: parT t))) ∧ Below w.heap.size w w' := by
  have hmf : ∀ (fn : Fn) (first cap : Array Value) (w : World), (Instr.makeFunc fn first cap).run Tryz.prog w = .ok (.func fn first cap) w := fun _ _ _ _ => rfl
  subst hn
  have hcal : ∀ W : World, W.heap[w.heap.size]? = some (.cells #[.slice a F.length cp] 44 (0, 0)) → (∀ k, k < w.heap.size → W.heap[k]? = w.heap[k]?) → F.length ≤ cp → cp ≤ maxLen → Cal W w.heap.size F := fun W h1 h2 h3 h4 => by
    refine ⟨a, cp, h1, h3, h4, fun hne => ?_⟩
    rcases hr.2 with ⟨_, h6⟩ | ⟨g, cap, cur, h5, _, hc, _, _, _⟩
    · exact absurd (List.length_eq_zero_iff.1 h6) hne
    · injection h5 with h5 _ h7
      subst h5; subst h7
      refine ⟨g, 0, cur, _, rfl, (h2 g (heap_lt hc)).trans hc, fun k hk => ?_⟩
      obtain ⟨e0, e1, e2⟩ := jpC_at F k hk
      have f : ∀ i u, (jpC F)[i]? = some u → cur[0 + i]? = some u := fun i u hu => by
        have := row_cell hr i u hu
        rw [Lib.cell_of_heap hc] at this
        rw [Nat.zero_add]; exact this
      exact ⟨by have := f _ _ e0; rw [Nat.zero_add] at this ⊢; exact this, by have := f _ _ e1; rw [Nat.zero_add] at this ⊢; exact this, by have := f _ _ e2; rw [Nat.zero_add] at this ⊢; exact this⟩
  have hcap : F.length ≤ cp ∧ cp ≤ maxLen := by
    rcases hr.2 with ⟨h5, h6⟩ | ⟨g, cap, cur, h5, _, _, h7, h8, _⟩
    · injection h5 with _ _ h9
      exact ⟨by omega, by rw [h9]; exact Nat.zero_le _⟩
    · injection h5 with _ _ h9
      subst h9
      exact ⟨h7, h8⟩
  have HCal := Lib.hid (fun W h1 h2 => hcal W h1 h2 hcap.1 hcap.2)
  have HF := Lib.hid hF
  clear hcal hcap hr hF
  generalize hst : txtOf [c] = st at *
  have HST := Lib.hid hst
  clear hst
  go_enter Tryz.func27, Tryz.ntmps27
  go_wp2_with fail
  obtain ⟨k0, k1, k2, k3, hb⟩ := four_new w (Obj.cells #[.slice a F.length cp] 44) (Obj.cells #[.pointer none, .slice none 0 0] 82) (Obj.cells #[.func (.func 47) #[] #[.pointer (some ⟨w.heap.size, 0, none⟩)]] 83)
    (Obj.cells #[.func (.func 48) #[] #[.pointer (some ⟨w.heap.size + 1, 0, none⟩), .pointer (some ⟨w.heap.size + 1 + 1, 0, none⟩), .pointer (some ⟨w.heap.size, 0, none⟩), .pointer (some ⟨w.heap.size + 1 + 1 + 1, 0, none⟩)]] 84)
  generalize (((w.alloc (Obj.cells #[.slice a F.length cp] 44)).alloc (Obj.cells #[.pointer none, .slice none 0 0] 82)).alloc (Obj.cells #[.func (.func 47) #[] #[.pointer (some ⟨w.heap.size, 0, none⟩)]] 83)).alloc
    (Obj.cells #[.func (.func 48) #[] #[.pointer (some ⟨w.heap.size + 1, 0, none⟩), .pointer (some ⟨w.heap.size + 1 + 1, 0, none⟩), .pointer (some ⟨w.heap.size, 0, none⟩), .pointer (some ⟨w.heap.size + 1 + 1 + 1, 0, none⟩)]] 84) = W at *
  have hT0 : Tr w.heap.size (w.heap.size + 1) (w.heap.size + 1 + 1) w.heap.size (w.heap.size + 1 + 1 + 1) [] (F ++ []) W :=
    ⟨.inl ⟨by omega, .slice none 0 0, k1, World.ownsRow_nil _ _ _ _, fun h => by cases h⟩, by rw [List.append_nil]; exact HCal.out W k0 (fun k hk => hb.block k hk), k2, k3, Nat.le_refl _⟩
  have HC := Lib.hid (write_all w.heap.size (w.heap.size + 1) (w.heap.size + 1 + 1) w.heap.size (w.heap.size + 1 + 1 + 1) F.length [c] F t [] [] W rfl HF.out (by simp) (by simp; omega) (by simp; omega) (fun j R' h => by cases h) hT0 hb.size)
  unfold WrTo at HC
  rw [HST.out] at HC
  have HB := Lib.hid hb
  clear k0 k1 k2 k3 hb hT0
  refine HC.out.mono ?_
  rintro e w2 ⟨rfl, hT, hb2⟩
  have HB2 := Lib.hid (HB.out.trans hb2)
  have HS := Lib.hid (Tryz.Builder_String_any w.heap.size (w.heap.size + 1) _ w2 hT.bld HB2.out.size)
  clear hT hb2
  go_wp2_with fail
  refine HS.out.mono ?_
  rintro e w3 ⟨rfl, hb3⟩
  have HB3 := Lib.hid (HB2.out.trans hb3)
  clear hb3
  go_wp2_with fail
  go_ret
  exact ⟨rfl, HB3.out⟩

set_option maxHeartbeats 2000000 in
set_option maxRecDepth 100000 in
theorem impl_tree (s nm : ByteArray) (v : Int) (w : World) (hs : s.size ≤ 1073741824) (hm : MaxCell w) :
    Calls Tryz.prog 10 #[.string s, .string nm, .int .i64 v] w fun e w' => e = .returned (treV s nm v) ∧ Below w.heap.size w w' := by
  have HF := Lib.hid (run_of s nm v w hs hm)
  unfold RunsTo at HF
  clear hm hs
  cases hr : runP s nm v with
  | none =>
    rw [hr] at HF
    have HX := Lib.hid (show treV s nm v = noT by unfold treV; rw [hr])
    clear hr
    go_enter Tryz.func10, Tryz.ntmps10
    go_wp2_with fail
    refine HF.out.mono ?_
    rintro e w1 ⟨rfl, hb⟩
    have HB := Lib.hid hb
    clear hb
    go_wp2_with fail
    go_ret2
    exact ⟨by rw [HX.out]; rfl, HB.out⟩
  | some r =>
    rw [hr] at HF
    have hpl := (runP_small hr).2
    obtain ⟨c, t, rfl, hft⟩ := run_tree hr
    have hx : treV s (txtOf [c]) v = if 300 < (c :: parT t).length then noT else .tuple #[.string (txtOf (c :: parT t)), .bool true] := by
      unfold treV; rw [hr]
      show (if 300 < (txT (txtOf [c]).data.toList r.1.pts).length then _ else _) = _
      rw [txtOf_toList, tree_is hft]
    have HX := Lib.hid hx
    rw [callPts_is] at hft
    have HFT := Lib.hid hft
    have hle := ofKind_le true r.1.pts
    clear hr hx hft
    generalize hst : txtOf [c] = st at *
    have HST := Lib.hid hst
    clear hst
    go_enter Tryz.func10, Tryz.ntmps10
    go_wp2_with fail
    refine HF.out.mono ?_
    rintro e w1 ⟨⟨B, rb, S, qs, pv, oa, ja, oc, jc, rfl, hB, hD, hPw, hpr⟩, hb⟩
    have HP := Lib.hid (pto_any true w1 B rb pv _ _ ja jc r.1 _ hD hpl)
    have HB := Lib.hid hb
    clear hb hB hD hPw hpr
    go_wp2_with fail
    refine HP.out.mono ?_
    rintro e w2 ⟨⟨a2, c2, rfl, hrow⟩, hb2⟩
    have HB2 := Lib.hid (HB.out.trans (hb2.mono HB.out.size))
    have HTo := tof_any w2 _ a2 (ofKind true r.1.pts).length c2 (ofKind true r.1.pts) c t rfl hrow HFT.out (by omega)
    rw [HST.out] at HTo
    have HTO := Lib.hid HTo
    clear hrow hb2 HTo
    go_wp2_with fail
    refine HTO.out.mono ?_
    rintro e w3 ⟨rfl, hb3⟩
    have HB3 := Lib.hid (HB2.out.trans (hb3.mono HB2.out.size))
    have htz : (txtOf (c :: parT t)).size = (c :: parT t).length := txtOf_size _
    generalize hu : txtOf (c :: parT t) = u at *
    have HTZ := Lib.hid htz
    clear hb3 htz
    by_cases hbig : 300 < u.size
    · have hbi : (300 : Int) < (u.size : Int) := by omega
      go_wp2_with fail
      go_ret2
      exact ⟨by rw [HX.out, if_pos (by rw [← HTZ.out]; exact hbig)]; rfl, HB3.out⟩
    · have hbi : ¬ (300 : Int) < (u.size : Int) := by omega
      go_wp2_with fail
      go_ret2
      exact ⟨by rw [HX.out, if_neg (by rw [← HTZ.out]; exact hbig)]; rfl, HB3.out⟩
end Go.Proofs.YtomodlllmbkndaaGreatDoor
