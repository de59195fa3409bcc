/- treeOf's write, which calls itself: the text of the trees of calls. Condition: at most 2000 calls. -/
import Derived.Test.YtomodlllmbkndaaGreatDoorTrw
import Derived.Test.YtomodlllmbkndaaGreatDoorJz
namespace Go.Proofs.YtomodlllmbkndaaGreatDoor
open Go.RowKit Gram

/-- the tree that is written, the calls that are left, the two closures -/
structure Tr (B tb hb cb wb : Nat) (out : List UInt8) (F : List Jpt) (w : World) : Prop where
  bld : Lib.IsBuilder 82 5 B tb (Lib.byteCells out) w
  cal : Cal w cb F
  has : w.heap[hb]? = some (.cells #[.func (.func 47) #[] #[.pointer (some ⟨cb, 0, none⟩)]] 83 (0, 0))
  wri : w.heap[wb]? = some (.cells #[.func (.func 48) #[] #[.pointer (some ⟨tb, 0, none⟩), .pointer (some ⟨hb, 0, none⟩), .pointer (some ⟨cb, 0, none⟩), .pointer (some ⟨wb, 0, none⟩)]] 84 (0, 0))
  low : B ≤ cb
theorem bld_kept {w w' : World} {B b : Nat} {bs : List Value} (h : Lib.IsBuilder 82 5 B b bs w) (hk : ∀ (k : Nat) (cur : Array Value) (e : TypeId) (fz : Nat × Nat), w.heap[k]? = some (.cells cur e fz) → e = 82 ∨ e = 5 → w'.heap[k]? = w.heap[k]?) : Lib.IsBuilder 82 5 B b bs w' := by
  have key : ∀ p, Lib.BuilderAt 82 5 B b p bs w → Lib.BuilderAt 82 5 B b p bs w' := by
    rintro p ⟨h1, v, h2, h3, h4⟩
    refine ⟨h1, v, by rw [hk _ _ _ _ h2 (.inl rfl)]; exact h2, ownsRow_of h3 fun k hk' => ?_, h4⟩
    obtain ⟨_, cur, hc⟩ := row_block h3 hk'
    exact hk _ _ _ _ hc (.inr rfl)
  exact h.imp (key _) (key _)
section
variable {B tb hb cb wb : Nat} {out : List UInt8} {F : List Jpt} {w : World}
theorem Tr.wrote {w' : World} {out' : List UInt8} (h : Tr B tb hb cb wb out F w) (hb' : Lib.IsBuilder 82 5 B tb (Lib.byteCells out') w') (hr : Rest w w') : Tr B tb hb cb wb out' F w' :=
  ⟨hb', h.cal.rest hr, hr _ _ _ _ h.has (by decide) (by decide), hr _ _ _ _ h.wri (by decide) (by decide), h.low⟩
theorem Tr.later {w' : World} (h : Tr B tb hb cb wb out F w) (hb' : Below w.heap.size w w') : Tr B tb hb cb wb out F w' :=
  h.wrote (bld_kept h.bld fun k cur e fz hk _ => hb'.block k (heap_lt hk)) (Rest.of_below hb')
theorem Tr.took {w' : World} {F' : List Jpt} (h : Tr B tb hb cb wb out F w) (u : Value) (hw : Below w.heap.size w w') (hc : Cal (w'.setCell ⟨cb, 0, none⟩ u) cb F') : Tr B tb hb cb wb out F' (w'.setCell ⟨cb, 0, none⟩ u) := by
  obtain ⟨a, c, h1, _⟩ := h.cal
  have h1' : w'.heap[cb]? = _ := (hw.block cb (heap_lt h1)).trans h1
  have hne : ∀ (k : Nat) (cur : Array Value) (e : TypeId) (fz : Nat × Nat), w.heap[k]? = some (.cells cur e fz) → e ≠ 44 → (w'.setCell ⟨cb, 0, none⟩ u).heap[k]? = w.heap[k]? := fun k cur e fz hk he => by
    rw [heap_set_other]
    · exact hw.block k (heap_lt hk)
    · rintro rfl
      rw [h1] at hk
      injection hk with hk
      injection hk with _ ht _
      exact he ht.symm
  refine ⟨bld_kept h.bld fun k cur e fz hk he => hne k cur e fz hk ?_, hc, (hne _ _ _ _ h.has (by decide)).trans h.has, (hne _ _ _ _ h.wri (by decide)).trans h.wri, h.low⟩
  rcases he with rfl | rfl <;> decide
end

/-- what write does -/
def WrTo (B tb hb cb wb : Nat) (out : List UInt8) (R : List Jpt) (w : World) (e : Ending) (w' : World) : Prop :=
  e = .returned (.tuple #[]) ∧ Tr B tb hb cb wb out R w' ∧ Below B w w'

theorem last_top (stk : List UInt8) (h : stk ≠ []) : ∃ h1 : stk.length - 1 < stk.length, stk[stk.length - 1] = topOf stk := by
  have hl : 0 < stk.length := List.length_pos_iff.2 h
  refine ⟨by omega, ?_⟩
  rw [topOf, List.getLastD_eq_getLast?, List.getLast?_eq_some_getLast h, List.getLast_eq_getElem]; rfl
theorem head_is {stk : List UInt8} {F2 R : List Jpt} {t2 : List UInt8} (h : FoT stk F2 t2) (hR : ∀ j R', R = j :: R' → j.stk.length < stk.length) : headIs (F2 ++ R) (txtOf stk) = !F2.isEmpty := by
  cases h with
  | nil =>
    cases R with
    | nil => rfl
    | cons j R' =>
      have hjl := hR j R' rfl
      show ((sT j).toList == (txtOf stk).toList) = false
      rw [beq_eq_false_iff_ne]
      intro he
      rw [ByteArray.toList_eq, ByteArray.toList_eq] at he
      have : j.stk = stk := by simpa [sT, txtOf] using he
      rw [this] at hjl
      exact absurd hjl (Nat.lt_irrefl _)
  | cons h1 h2 => show ((txtOf stk).toList == (txtOf stk).toList) = true; simp

set_option maxHeartbeats 4000000 in
set_option maxRecDepth 100000 in
theorem write_all (B tb hb cb wb : Nat) : ∀ (n : Nat) (stk : List UInt8) (F : List Jpt) (t : List UInt8) (R : List Jpt) (out : List UInt8) (w : World), F.length = n → FoT stk F t → stk ≠ [] → stk.length + F.length ≤ 4000 → out.length + 3 * F.length ≤ 100000 → (∀ j R', R = j :: R' → j.stk.length < stk.length) → Tr B tb hb cb wb out (F ++ R) w → B ≤ w.heap.size →
    Calls Tryz.prog 48 #[.string (txtOf stk), .pointer (some ⟨tb, 0, none⟩), .pointer (some ⟨hb, 0, none⟩), .pointer (some ⟨cb, 0, none⟩), .pointer (some ⟨wb, 0, none⟩)] w (WrTo B tb hb cb wb (out ++ topOf stk :: parT t) R w) := by
  intro n
  induction n using Nat.strongRecOn with
  | _ n ih =>
  intro stk F t R out w hFn hF hne hsk hout hR hT hBw
  have hl : 0 < stk.length := List.length_pos_iff.2 hne
  have hsz : (txtOf stk).size = stk.length := txtOf_size stk
  obtain ⟨hlt, htop⟩ := last_top stk hne
  have hget : ∀ h : stk.length - 1 < (txtOf stk).size, (txtOf stk)[stk.length - 1]'h = topOf stk := fun h => by
    rw [← htop]
    show (txtOf stk).data.toList[stk.length - 1]'(by simpa using h) = _
    simp [txtOf]
  have HT := Lib.hid hT
  have HF := Lib.hid hF
  have HR := Lib.hid hR
  have HI := Lib.hid ih
  have HH := Lib.hid (fun F2 t2 (h : FoT stk F2 t2) => head_is h hR)
  have HTX := Lib.hid (show ∀ c, txtOf stk ++ txtOf [c] = txtOf (stk ++ [c]) from fun c => txt_app stk [c])
  have hFL := hF.len
  have HFn := Lib.hid hFn
  have HW0 := Lib.hid (fun (c : UInt8) => wb_any B tb out c w hT.bld (by omega) hBw)
  unfold WbTo at HW0
  clear hT hF hR ih hFn hlt htop
  generalize hst : txtOf stk = st at *
  have HST := Lib.hid hst
  clear hst
  have HGET := Lib.hid hget
  clear hget
  have hi1 : (1 : Int) ≤ (st.size : Int) := by omega
  go_enter_defers Tryz.func48, Tryz.ntmps48
  go_wp2_with fail
  rw [HGET.out]
  refine (HW0.out _).mono ?_
  rintro e w1 ⟨rfl, hb1, hbe1, hr1⟩
  have T1 := Lib.hid (HT.out.wrote hb1 hr1)
  have B1 := Lib.hid hbe1
  have hz1 := hbe1.size
  have p0 : w1.cell? ⟨hb, 0, none⟩ = some (.func (.func 47) #[] #[.pointer (some ⟨cb, 0, none⟩)]) := Lib.cell_of_heap T1.out.has 0
  have HC := Lib.hid (fun F' w' (h : Cal w' cb F') => thc_any cb F' st w' h)
  have HW1 := Lib.hid (wb_any B tb (out ++ [topOf stk]) 40 w1 hb1 (by simp; omega) (by omega))
  unfold WbTo at HW1
  clear hb1 hbe1 hr1 HT HW0
  go_wp2_with fail
  refine (HC.out _ _ T1.out.cal).mono ?_
  rintro e w2 ⟨rfl, rfl⟩
  rw [HH.out F t HF.out]
  by_cases hFe : F = []
  · subst hFe
    have ht : t = [] := HF.out.empty.1 rfl
    subst ht
    rw [show (!([] : List Jpt).isEmpty) = false from rfl]
    go_wp2_with fail
    exact ⟨.tuple #[], by simp [results, Tryz.results48, go_sem], rfl, by have h9 := T1.out; simpa [parT] using h9, B1.out⟩
  · have hne2 : (!F.isEmpty) = true := by cases F with
      | nil => exact absurd rfl hFe
      | cons _ _ => rfl
    rw [hne2]
    clear hne2
    go_wp2_with fail
    refine HW1.out.mono ?_
    rintro e w3 ⟨rfl, hb3, hbe3, hr3⟩
    have T3 := Lib.hid (T1.out.wrote hb3 hr3)
    have B3 := Lib.hid (B1.out.trans hbe3)
    have hz3 := hbe3.size
    clear hb3 hbe3 hr3 HW1 p0
    have HTE := Lib.hid (fun h : t = [] => hFe (HF.out.empty.2 h))
    have hB3 := B3.out.size
    go_wp2_with fail
    go_loopw [] (fun wr => ∃ (F2 : List Jpt) (t1 t2 : List UInt8), F2.length ≤ F.length ∧ t1.length + 3 * F2.length ≤ 3 * F.length ∧ Hid (t = t1 ++ t2) ∧ Hid (FoT stk F2 t2) ∧ Hid (Tr B tb hb cb wb (out ++ [topOf stk] ++ [40] ++ t1) (F2 ++ R) wr) ∧ Hid (Below B w wr)) (fun wr => lenAt wr cb)
    case atStart => exact ⟨F, [], t, Nat.le_refl _, by simp, rfl, HF.out, Lib.hid (by simpa using T3.out), B3.out⟩
    case round =>
      obtain ⟨F2, t1, t2, hF2, ht1, hT2, hFo, hTr, hW⟩ := hrel
      have q0 : wr.cell? ⟨hb, 0, none⟩ = some (.func (.func 47) #[] #[.pointer (some ⟨cb, 0, none⟩)]) := Lib.cell_of_heap hTr.out.has 0
      have hwz := hW.out.size
      go_wp2_with fail
      refine (HC.out _ _ hTr.out.cal).mono ?_
      rintro e w5 ⟨rfl, rfl⟩
      rw [HH.out F2 t2 hFo.out]
      by_cases hF0 : F2 = []
      · subst hF0
        have ht2 : t2 = [] := hFo.out.empty.1 rfl
        subst ht2
        rw [show (!([] : List Jpt).isEmpty) = false from rfl]
        have HE := Lib.hid (wb_late B tb (out ++ [topOf stk] ++ [40] ++ t1) 41 .returning w5 hTr.out.bld (by simp only [List.length_append, List.length_singleton]; omega) (by omega))
        unfold WbTo at HE
        go_wp2_with fail
        refine leaves_cons (f := 49) (args := #[.pointer (some ⟨tb, 0, none⟩), .int .u8 ((41 : UInt8).toNat : Int)]) (by simp) (by simp [go_sem]) ?_
        refine HE.out.mono ?_
        rintro e u' w6 ⟨rfl, rfl, hb6, hbe6, hr6⟩
        have T6 := hTr.out.wrote hb6 hr6
        have htt : t = t1 := by rw [hT2.out, List.append_nil]
        have hpt : parT t = 40 :: (t1 ++ [41]) := by rw [parT, if_neg HTE.out, htt]
        refine ⟨.tuple #[], by simp [results, Tryz.results48, go_sem], rfl, ?_, hW.out.trans hbe6⟩
        rw [hpt]
        simpa using T6
      · obtain ⟨c, sub, rest, ts, tr, rfl, rfl, hs, hrs⟩ : ∃ c sub rest ts tr, F2 = ⟨some c, stk⟩ :: (sub ++ rest) ∧ t2 = c :: (parT ts ++ tr) ∧ FoT (stk ++ [c]) sub ts ∧ FoT stk rest tr := by
          cases hFo.out with
          | nil => exact absurd rfl hF0
          | cons h1 h2 => exact ⟨_, _, _, _, _, rfl, rfl, h1, h2⟩
        simp only [List.length_cons, List.length_append] at hF2 ht1
        have hcal := hTr.out.cal
        rw [List.cons_append] at hcal
        obtain ⟨g, off, c', f0, z0, hle, d0, d1, d2, hput⟩ := hcal.first
        have hlen0 : lenAt w5 cb = (sub ++ rest ++ R).length + 1 := hcal.lenAt
        have hnl : (sub ++ rest ++ R).length + 1 ≤ c' := hle
        have hsl := jslice_tail g off ((sub ++ rest ++ R).length + 1) c' (by omega) hle
        have hj2 : sT ⟨some c, stk⟩ = st := HST.out
        rw [hj2] at d2
        have N5 := Lib.hid (Jc3.new w5 (kT ⟨some c, stk⟩) (nT ⟨some c, stk⟩) st)
        have hb5 : Below w5.heap.size w5 (w5.alloc (.cells #[.string (kT ⟨some c, stk⟩), .string (nT ⟨some c, stk⟩), .string st] 49)) := (Below.refl _ _).alloc (Nat.le_refl _) _
        have hadd := wstr_add st (nT ⟨some c, stk⟩) (txtOf (stk ++ [c])) (by rw [hsz]; show stk.length + 1 ≤ _; omega) (HTX.out c)
        generalize hst2 : txtOf (stk ++ [c]) = st2 at *
        generalize kT ⟨some c, stk⟩ = kd at *
        generalize nT ⟨some c, stk⟩ = nt at *
        obtain ⟨W5, hW5⟩ : ∃ W5, w5.alloc (.cells #[.string kd, .string nt, .string st] 49) = W5 := ⟨_, rfl⟩
        rw [hW5] at N5 hb5
        obtain ⟨m0, m1, m2⟩ := N5.out.read
        have hcl := hcal.lt
        have f5 : W5.cell? ⟨cb, 0, none⟩ = some (.slice (some ⟨g, off, none⟩) ((sub ++ rest ++ R).length + 1) c') := by rw [← f0]; exact World.cell?_of_block (a := ⟨cb, 0, none⟩) (hb5.block cb hcl)
        have z5 : W5.frozen? ⟨cb, 0, none⟩ = false := by
          obtain ⟨_, _, h1, _⟩ := hcal
          exact Lib.frozen_of_heap ((hb5.block cb hcl).trans h1) 0
        have hC6 := hput W5 (Rest.of_below hb5) (hb5.block cb hcl)
        have hT6 := hTr.out.took _ hb5 hC6
        have hBe6 := ((hb5.mono (show B ≤ w5.heap.size by omega))).setCell (p := ⟨cb, 0, none⟩) hTr.out.low (.slice (some ⟨g, if c' = 1 then off else off + 3, none⟩) (sub ++ rest ++ R).length (c' - 1))
        have hm : ∀ i, (W5.setCell ⟨cb, 0, none⟩ (.slice (some ⟨g, if c' = 1 then off else off + 3, none⟩) (sub ++ rest ++ R).length (c' - 1))).cell? ⟨w5.heap.size, i, none⟩ = W5.cell? ⟨w5.heap.size, i, none⟩ := fun i => World.cell?_of_block (a := ⟨w5.heap.size, i, none⟩) (heap_set_other (by show w5.heap.size ≠ cb; omega) _)
        obtain ⟨W6, hW6⟩ : ∃ W6, W5.setCell ⟨cb, 0, none⟩ (.slice (some ⟨g, if c' = 1 then off else off + 3, none⟩) (sub ++ rest ++ R).length (c' - 1)) = W6 := ⟨_, rfl⟩
        rw [hW6] at hT6 hBe6 hm
        have e1 : W6.cell? ⟨w5.heap.size, 1, none⟩ = some (.string nt) := (hm 1).trans m1
        have e2 : W6.cell? ⟨w5.heap.size, 2, none⟩ = some (.string st) := (hm 2).trans m2
        have p6 : W6.cell? ⟨wb, 0, none⟩ = some (.func (.func 48) #[] #[.pointer (some ⟨tb, 0, none⟩), .pointer (some ⟨hb, 0, none⟩), .pointer (some ⟨cb, 0, none⟩), .pointer (some ⟨wb, 0, none⟩)]) := Lib.cell_of_heap hT6.wri 0
        have T6 := Lib.hid hT6
        have B6 := Lib.hid (hW.out.trans hBe6)
        have hz6 := B6.out.size
        have HCALL := Lib.hid (HI.out sub.length (by have := HFn.out; omega) (stk ++ [c]) sub ts (rest ++ R) (out ++ [topOf stk] ++ [40] ++ t1) W6 rfl hs (by simp) (by simp only [List.length_append, List.length_singleton]; omega) (by simp only [List.length_append, List.length_singleton]; omega) (fun j R' he => by
          rw [List.length_append, List.length_singleton]
          cases hrs with
          | nil => have := HR.out j R' he; omega
          | cons h1 h2 => injection he with he _; subst he; exact Nat.lt_succ_self _) (by rw [← List.append_assoc]; exact T6.out) (by omega))
        rw [hst2] at HCALL
        unfold WrTo at HCALL
        have HLEN0 := Lib.hid hlen0
        have HS := Lib.hid hs
        have HRS := Lib.hid hrs
        have hpl : (parT ts).length ≤ 3 * sub.length + 2 := by
          have := hs.len
          unfold parT; split <;> simp <;> omega
        clear hput hC6 hT6 hBe6 hm hcal hlen0 hj2 hs hrs q0 HH HI
        rw [show (!(⟨some c, stk⟩ :: (sub ++ rest) : List Jpt).isEmpty) = true from rfl]
        have HPL := Lib.hid hpl
        clear hpl
        generalize hnn : (sub ++ rest ++ R).length = nn at *
        have HNN := Lib.hid hnn
        clear hnn
        generalize (if c' = 1 then off else off + 3) = off' at *
        go_wp2_with fail
        refine HCALL.out.mono ?_
        rintro e w7 ⟨rfl, hT7, hb7⟩
        have T7 := Lib.hid hT7
        have B7 := Lib.hid (B6.out.trans hb7)
        have HL7 := Lib.hid (hT7.cal.lenAt)
        clear hT7 hb7
        go_wp2_with fail
        have hpl := HPL.out
        have hnn := HNN.out
        have hl0 := HLEN0.out
        have hl7 := HL7.out
        simp only [List.length_append] at hnn hl7
        refine ⟨⟨rest, t1 ++ c :: parT ts, tr, by omega, by simp only [List.length_append, List.length_cons]; omega, Lib.hid (by rw [hT2.out]; simp), HRS.out, Lib.hid (by have h9 := T7.out; rw [top_enter] at h9; simpa using h9), B7.out⟩, ?_⟩
        rw [hl7, hl0]
        omega
end Go.Proofs.YtomodlllmbkndaaGreatDoor
