/- The law FnReach answers true, whatever bytes it is given. Condition: the library's own number can be read. -/
import Derived.Test.YtjomgdekkfabhaaDoorDraw7
import Derived.Deep.RegionHeld3
import Derived.Test.YtjomgdekkfabhaaDoorZx
import Derived.Test.YtjomgdekkfabhaaDoorVx
namespace Go.Proofs.YtjomgdekkfabhaaDoor
open Go.RowKit Gram

set_option maxHeartbeats 400000 in
theorem in_any (s : ByteArray) (c : UInt8) (hs : s.size ≤ 1099511627776) (w : World) :
    Calls Tryd.prog 26 #[.string s, .int .u8 c.toNat] w fun e w' => e = .returned (.bool (s.data.toList.contains c)) ∧ w = w' := by
  generalize hcb : s.data.toList.contains c = cb
  have HCb := Lib.hid hcb
  clear hcb
  go_enter Tryd.func26, Tryd.ntmps26
  go_wp2_with fail
  go_loop [8] (fun i => ∃ k : Nat, k ≤ s.size ∧ i = .int .i64 k ∧ Hid (∀ j (hj : j < s.data.toList.length), j < k → s.data.toList[j] ≠ c)) (fun i => s.size - (intOf i).toNat)
  case atStart => exact ⟨0, Nat.zero_le _, by go_num, fun j _ h => absurd h (Nat.not_lt_zero _)⟩
  case round =>
    obtain ⟨k, hk, rfl, hno⟩ := hrel
    by_cases hlt : k < s.size
    · have hkl : k < s.data.toList.length := by simpa using hlt
      have hsk : s.data.toList[k] = s[k] := rfl
      by_cases hc : s[k] = c
      · have hb : ((s[k].toNat : Int) == (c.toNat : Int)) = true := by rw [toNat_beq, hc]; simp
        have HIn := Lib.hid (by rw [List.contains_iff_mem, ← hc]; exact List.getElem_mem hkl : s.data.toList.contains c = true)
        clear hc hsk
        go_wp2_with fail
        go_ret
        exact ⟨ret_bool (by rw [← HCb.out]; exact HIn.out.symm), rfl⟩
      · have hb : ((s[k].toNat : Int) == (c.toNat : Int)) = false := by rw [toNat_beq]; simpa using hc
        have HC := Lib.hid hc
        clear hc hsk
        go_wp2_with fail
        go_round
        case rel =>
          refine ⟨k + 1, by omega, by go_num, fun j hj hlj => ?_⟩
          by_cases h9 : j = k
          · subst h9; exact HC.out
          · exact hno.out j hj (by omega)
        case measure => simp [intOf]; omega
    · have HNo := Lib.hid (by
        cases hc : s.data.toList.contains c with
        | false => rfl
        | true =>
          rw [List.contains_iff_mem] at hc
          obtain ⟨j, hj, he⟩ := List.mem_iff_getElem.1 hc
          exact absurd he (hno.out j hj (by simp at hj; omega)) : s.data.toList.contains c = false)
      clear hno
      go_wp2_with fail
      go_ret
      exact ⟨ret_bool (by rw [← HCb.out]; exact HNo.out.symm), rfl⟩

theorem asc_setText (l : List UInt8) : asc (setText l) := by
  rw [setText, upTo]
  refine List.Pairwise.filter _ ?_
  rw [List.pairwise_map]
  refine List.Pairwise.imp_of_mem ?_ List.pairwise_lt_range'
  intro a b ha hb h
  rw [List.mem_range'_1] at ha hb
  rw [UInt8.toNat_ofNat', UInt8.toNat_ofNat']
  omega
theorem own_prog {s : ByteArray} {ps : List Pr} (h : progOf s = some ps) : ∀ p ∈ ps, ∀ c ∈ callsIn p.2, c ∈ namesOf ps := by
  unfold progOf at h
  split at h
  · cases hp : procsOf [] (cuts s.data.toList) with
    | none => rw [hp] at h; cases h
    | some qs =>
      rw [hp, Option.bind_some] at h
      split at h
      · rename_i ho
        injection h with h
        subst h
        intro p hpm c hc
        rw [ownCalls, List.all_eq_true] at ho
        have := ho p hpm
        rw [List.all_eq_true] at this
        simpa using this c hc
      · cases h
  · cases h
/-- what is reached: ascending letters, all of them names -/
theorem RT.facts {s nm : ByteArray} {l : List UInt8} (h : RT s nm l) : asc l ∧ lets l ∧ l.length ≤ 26 ∧ (∀ y ∈ l, (procsP s).data.toList.contains y = true) ∧ ReachF (startOf s nm) (stepOf s) l := by
  obtain ⟨re, hl, rfl, hr⟩ := h
  have hm : ∀ y, y ∈ setText re ↔ y ∈ re := fun y => mem_upTo hl y
  refine ⟨asc_setText re, setText_lets re, setText_len re, ?_, ⟨fun y hy => (hm y).2 (hr.first y hy), fun x hx y hy => (hm y).2 (hr.closed x ((hm x).1 hx) y hy), fun T h1 h2 y hy => hr.least T h1 h2 y ((hm y).1 hy)⟩⟩
  intro y hy
  rw [List.contains_iff_mem]
  refine hr.least (fun y => y ∈ (procsP s).data.toList) ?_ ?_ y ((hm y).1 hy)
  · intro z hz
    rw [startOf] at hz
    cases hl' : lookP s nm with
    | none => rw [hl'] at hz; simp at hz
    | some p =>
      rw [hl'] at hz
      cases hp : progOf s with
      | none => rw [lookP, hp] at hl'; cases hl'
      | some ps =>
        rw [procsP, hp]
        exact own_prog hp p (look_mem hp hl') z hz
  · rintro x z _ ⟨p, hl', hz⟩
    cases hp : progOf s with
    | none => rw [lookP, hp] at hl'; cases hl'
    | some ps =>
      rw [procsP, hp]
      exact own_prog hp p (look_mem hp hl') z hz
theorem calls_list (s nm : ByteArray) : ∃ l, lets l ∧ callsT (lookP s nm) = txtOf (setText l) ∧ l = startOf s nm := by
  cases hl : lookP s nm with
  | none => exact ⟨[], fun c hc => by simp at hc, rfl, by rw [startOf, hl]⟩
  | some p => exact ⟨callsIn p.2, callsIn_lets _ (look_good p hl).1, rfl, by rw [startOf, hl]⟩

set_option maxHeartbeats 16000000 in
set_option maxRecDepth 100000 in
theorem reach_law_short (w : World) (a : Option Addr) (n c : Nat) (hn : n ≤ 1048576) (hm : MaxCell w)
    (hd : Calls Tryd.prog 21 #[.slice a n c] w fun e w' => (∃ s t : ByteArray, e = .returned (.tuple #[.string s, .string t]) ∧ s.size ≤ 2000 ∧ t.size ≤ 2) ∧ Below w.heap.size w w') :
    Calls Tryd.prog 4 #[.slice a n c] w fun e w' => e = .returned (.bool true) ∧ Below w.heap.size w w' := by
  have HD := Lib.hid hd
  have HM := Lib.hid hm
  clear hd hm
  go_enter Tryd.func4, Tryd.ntmps4
  go_wp2_with fail
  refine HD.out.mono ?_
  rintro e w1 ⟨⟨s, nm, rfl, hs, hnm⟩, b1⟩
  have B1 := Lib.hid b1
  have M1 := Lib.hid (HM.out.later b1)
  clear b1
  have HIC := Lib.hid (fun nm w hm => impl_calls s nm w (by omega) hm)
  have HIR := Lib.hid (fun w hm => impl_reach s nm w (by omega) hm)
  have HSC := Lib.hid (fun w => spec_calls s nm w (by omega))
  have HSR := Lib.hid (fun w => spec_reach s nm w (by omega))
  have HIP := Lib.hid (fun w hm => impl_procs s w (by omega) hm)
  have HCl := Lib.hid (fun nm => calls_list s nm)
  have hpz : (procsP s).size ≤ 2000 := by
    cases hp : progOf s with
    | none => rw [procsP, hp]; exact Nat.zero_le _
    | some ps => rw [procsP, hp, txtOf_size, namesOf, List.length_map]; exact Nat.le_trans (prog_facts hp).1 (by decide)
  have HIn := Lib.hid (fun c w => in_any (procsP s) c (by omega) w)
  go_wp2_with fail
  refine (HIR.out _ M1.out).mono ?_
  rintro e w2 ⟨⟨l, hl, rfl⟩, b2⟩
  have B2 := Lib.hid (B1.out.trans (b2.mono B1.out.size))
  have M2 := Lib.hid (M1.out.later b2)
  have HL := Lib.hid hl
  clear b2
  obtain ⟨c0, hc0, hce, hcs⟩ := HCl.out nm
  have HI2 := Lib.hid (HIC.out nm w2 M2.out)
  have HSC2 := HSC.out
  rw [hce] at HI2 HSC2
  have HSC3 := Lib.hid HSC2
  clear HSC2 HSC
  have HLF := Lib.hid hl.facts
  have hll := hl.facts.2.2.1
  have hc0l := setText_len c0
  have HC0 := Lib.hid hc0
  have HCs := Lib.hid hcs
  clear hl hc0 hcs hce
  generalize htl : txtOf l = tl at *
  have HTl := Lib.hid htl
  have htz : tl.size = l.length := by rw [← htl]; rfl
  clear htl
  generalize htc : txtOf (setText c0) = tc at *
  have HTc := Lib.hid htc
  clear htc
  go_wp2_with fail
  refine HI2.out.mono ?_
  rintro e w3 ⟨rfl, b3⟩
  have B3 := Lib.hid (B2.out.trans (b3.mono B2.out.size))
  have M3 := Lib.hid (M2.out.later b3)
  clear b3
  go_wp2_with fail
  refine (HSR.out _).mono ?_
  rintro e w4 ⟨⟨l', hl', rfl⟩, b4⟩
  have hll' : txtOf l' = tl := by rw [hl'.same HL.out]; exact HTl.out
  rw [hll']
  have B4 := Lib.hid (B3.out.trans (b4.mono B3.out.size))
  have M4 := Lib.hid (M3.out.later b4)
  clear b4 hl' hll'
  go_wp2_with fail
  refine (HSC3.out _).mono ?_
  rintro e w5 ⟨rfl, b5⟩
  have B5 := Lib.hid (B4.out.trans (b5.mono B4.out.size))
  have M5 := Lib.hid (M4.out.later b5)
  clear b5
  go_wp2_with fail
  go_loopw [7, 40] (fun x i wr => ∃ (k : Nat) (A : List UInt8), i = .int .i64 k ∧ k ≤ l.length ∧ x = .string (txtOf A) ∧ A.length ≤ 26 + 26 * k ∧ Hid (∀ y, y ∈ A ↔ y ∈ startOf s nm ∨ ∃ x ∈ l.take k, stepOf s x y) ∧ Hid (Below w.heap.size w wr)) (fun _ i _ => l.length - (intOf i).toNat)
  case atStart =>
    refine ⟨0, setText c0, by go_num, Nat.zero_le _, by rw [HTc.out], by omega, ?_, B5.out⟩
    show ∀ y, _
    intro y
    rw [mem_upTo HC0.out, HCs.out]; simp
  case round =>
    obtain ⟨k, A, rfl, hk, rfl, hAl, hA, hb⟩ := hrel
    obtain ⟨w6, hw6⟩ : ∃ x, x = wr := ⟨_, rfl⟩
    subst hw6
    by_cases hlt : k < l.length
    · have hkz : k < tl.size := by omega
      have hlk : tl[k] = l[k] := by
        have : tl.data.toList = l := by rw [← HTl.out]; rfl
        have h1 : tl.data.toList[k]'(by rw [this]; exact hlt) = l[k] := by simp only [this]
        rw [← h1]; rfl
      have hex : tl.extract k (k + 1) = txtOf [l[k]] := by
        rw [← HTl.out]
        apply ByteArray.ext
        apply Array.ext'
        simp [txtOf, List.extract_eq_take_drop]
        rw [List.take_one, List.head?_drop, List.getElem?_eq_getElem hlt]; rfl
      obtain ⟨ck, hck, hcke, hcks⟩ := HCl.out (tl.extract k (k + 1))
      have HCk := Lib.hid (HIC.out (tl.extract k (k + 1)) w6 (HM.out.later hb.out))
      rw [hcke] at HCk
      have hckl := setText_len ck
      have e1 := str_sum (txtOf A) (txtOf (setText ck)) (by rw [txtOf_size, txtOf_size]; omega)
      have HAp := Lib.hid (by apply ByteArray.ext; apply Array.ext'; simp [txtOf] : txtOf A ++ txtOf (setText ck) = txtOf (A ++ setText ck))
      have hcn : (procsP s).data.toList.contains tl[k] = true := by rw [hlk]; exact HLF.out.2.2.2.1 _ (List.getElem_mem hlt)
      have HInk := Lib.hid (fun w => HIn.out tl[k] w)
      rw [hcn] at HInk
      have HM2 := Lib.hid (fun y => (by
        rw [List.mem_append, hA.out y, mem_upTo hck, hcks, hex, start_step, List.take_succ_eq_append_getElem hlt]
        constructor
        · rintro ((h | ⟨x, hx, h⟩) | h)
          · exact .inl h
          · exact .inr ⟨x, List.mem_append.2 (.inl hx), h⟩
          · exact .inr ⟨_, List.mem_append.2 (.inr (List.mem_singleton.2 rfl)), h⟩
        · rintro (h | ⟨x, hx, h⟩)
          · exact .inl (.inl h)
          · rcases List.mem_append.1 hx with hx | hx
            · exact .inl (.inr ⟨x, hx, h⟩)
            · rw [List.mem_singleton.1 hx] at h; exact .inr h : y ∈ A ++ setText ck ↔ y ∈ startOf s nm ∨ ∃ x ∈ l.take (k + 1), stepOf s x y))
      have hAl2 : (A ++ setText ck).length ≤ 26 + 26 * (k + 1) := by rw [List.length_append]; omega
      have HLk := Lib.hid hlk
      have hord : ∀ j, (hj : j + 1 = k) → tl[j].toNat < tl[k].toNat := by
        intro j hj
        have hjl : j < l.length := by omega
        have h1 : tl[j] = l[j] := by
          have : tl.data.toList = l := by rw [← HTl.out]; rfl
          have h1 : tl.data.toList[j]'(by rw [this]; exact hjl) = l[j] := by simp only [this]
          rw [← h1]; rfl
        rw [h1, hlk]
        exact List.pairwise_iff_getElem.1 HLF.out.1 _ _ hjl hlt (by omega)
      clear hck hcke hcks hex hcn hlk
      generalize htk : tl.extract k (k + 1) = tk at *
      generalize txtOf (setText ck) = ckt at *
      generalize htA : txtOf A = tA at *
      clear htA
      by_cases h0 : k = 0
      · subst h0
        clear hord
        go_wp2_with fail
        refine HCk.out.mono ?_
        rintro e w7 ⟨rfl, b7⟩
        have B7 := Lib.hid (hb.out.trans (b7.mono hb.out.size))
        clear b7
        go_wp2_with fail
        refine wp_region_any (by kernel_rfl) ?_
        change wpAny _ _ _ _ _ _ _ (World.drew _)
        refine wpAny_take (i := 0) (v := ?_) rfl (by kernel_rfl) (by kernel_rfl) (by kernel_rfl) (fun _ _ _ h => h) (Or.inl ⟨by kernel_rfl, ?_⟩) ?_
        rotate_left
        · intro w; go_simp; with_reducible rfl
        refine wpAny_take (i := 1) (v := ?_) rfl (by kernel_rfl) (by kernel_rfl) (by kernel_rfl) (fun _ _ _ h => h) (Or.inl ⟨by kernel_rfl, ?_⟩) ?_
        rotate_left
        · intro w; go_simp; with_reducible rfl
        refine wpAny_take (i := 2) (v := ?_) rfl (by kernel_rfl) (by kernel_rfl) (by kernel_rfl) (fun _ _ _ h => h) (Or.inl ⟨by kernel_rfl, ?_⟩) ?_
        rotate_left
        · intro w; go_simp; with_reducible rfl
        refine wpAny_take (i := 3) rfl (by kernel_rfl) (by kernel_rfl) (by kernel_rfl) (fun _ _ _ h => h) (Or.inr ⟨by kernel_rfl, rfl⟩) ?_
        refine wpAny_take (i := 4) rfl (by kernel_rfl) (by kernel_rfl) (by kernel_rfl) (fun _ _ _ h => h) (Or.inr ⟨by kernel_rfl, rfl⟩) ?_
        refine wpAny_take (i := 5) rfl (by kernel_rfl) (by kernel_rfl) (by kernel_rfl) (fun _ _ _ h => h) (Or.inr ⟨by kernel_rfl, rfl⟩) ?_
        refine wpAny_take (i := 6) rfl (by kernel_rfl) (by kernel_rfl) (by kernel_rfl) (fun _ _ _ h => h) (Or.inr ⟨by kernel_rfl, rfl⟩) ?_
        refine wpAny_take (i := 7) rfl (by kernel_rfl) (by kernel_rfl) (by kernel_rfl) (fun _ _ _ h => h) (Or.inr ⟨by kernel_rfl, rfl⟩) ?_
        refine wpAny_take (i := 8) rfl (by kernel_rfl) (by kernel_rfl) (by kernel_rfl) (fun _ _ _ h => h) (Or.inr ⟨by kernel_rfl, rfl⟩) ?_
        refine wpAny_take (i := 9) rfl (by kernel_rfl) (by kernel_rfl) (by kernel_rfl) (fun _ _ _ h => h) (Or.inr ⟨by kernel_rfl, rfl⟩) ?_
        refine wpAny_take (i := 10) rfl (by kernel_rfl) (by kernel_rfl) (by kernel_rfl) (fun _ _ _ h => h) (Or.inr ⟨by kernel_rfl, rfl⟩) ?_
        refine wpAny_take (i := 11) (v := ?_) rfl (by kernel_rfl) (by kernel_rfl) (by kernel_rfl) (fun _ _ _ h => h) (Or.inl ⟨by kernel_rfl, ?_⟩) ?_
        rotate_left
        · intro w; go_simp; with_reducible rfl
        refine wpAny_take (i := 12) (v := ?_) rfl (by kernel_rfl) (by kernel_rfl) (by kernel_rfl) (fun _ _ _ h => h) (Or.inl ⟨by kernel_rfl, ?_⟩) ?_
        rotate_left
        · intro w; go_simp; with_reducible rfl
        refine wpAny_take (i := 13) (v := ?_) rfl (by kernel_rfl) (by kernel_rfl) (by kernel_rfl) (fun _ _ _ h => h) (Or.inl ⟨by kernel_rfl, ?_⟩) ?_
        rotate_left
        · intro w; go_simp; with_reducible rfl
        refine wpAny_take (i := 15) (v := ?_) rfl (by kernel_rfl) (by kernel_rfl) (by kernel_rfl) (fun _ _ _ h => h) (Or.inl ⟨by kernel_rfl, ?_⟩) ?_
        rotate_left
        · intro w; go_simp; with_reducible rfl
        refine wpAny_take (i := 16) (v := ?_) rfl (by kernel_rfl) (by kernel_rfl) (by kernel_rfl) (fun _ _ _ h => h) (Or.inl ⟨by kernel_rfl, ?_⟩) ?_
        rotate_left
        · intro w; go_simp; with_reducible rfl
        refine wpAny_ready (rs := [14, 17]) (by kernel_rfl) (by simp) ?_
        refine AllReady.cons rfl (fun K hK => ?_) (AllReady.cons rfl (fun K hK => ?_) AllReady.nil)
        · go_simp
          refine (HIP.out _ (HM.out.later B7.out.drew)).mono ?_
          rintro e w8 ⟨rfl, b8⟩
          have B8 := Lib.hid (B7.out.drew.trans (b8.mono B7.out.size))
          clear b8
          refine hK _ _ ?_
          clear hK K
          refine wpAny_ready (rs := [17]) (by kernel_rfl) (by simp) ?_
          refine AllReady.cons rfl (fun K hK => ?_) AllReady.nil
          go_simp
          refine hK _ _ ?_
          clear hK K
          refine wpAny_ready (rs := [18]) (by kernel_rfl) (by simp) ?_
          refine AllReady.cons rfl (fun K hK => ?_) AllReady.nil
          go_simp
          refine (HInk.out _).mono ?_
          rintro e w9 ⟨rfl, rfl⟩
          refine hK _ _ ?_
          clear hK K
          refine wpAny_take (i := 19) (v := ?_) rfl (by kernel_rfl) (by kernel_rfl) (by kernel_rfl) (fun _ _ _ h => h) (Or.inl ⟨by kernel_rfl, ?_⟩) ?_
          rotate_left
          · intro w; go_simp; with_reducible rfl
          refine wpAny_take (i := 20) (v := ?_) rfl (by kernel_rfl) (by kernel_rfl) (by kernel_rfl) (fun _ _ _ h => h) (Or.inl ⟨by kernel_rfl, ?_⟩) ?_
          rotate_left
          · intro w; go_simp; with_reducible rfl
          refine wpAny_done (by kernel_rfl) ?_ _
          go_wp2_with fail
          go_roundw
          case rel => exact ⟨0 + 1, A ++ setText ck, by go_num, by omega, by rw [HAp.out], hAl2, fun y => HM2.out y, B8.out⟩
          case measure => simp [intOf]; omega
        · go_simp
          refine hK _ _ ?_
          clear hK K
          refine wpAny_ready (rs := [14]) (by kernel_rfl) (by simp) ?_
          refine AllReady.cons rfl (fun K hK => ?_) AllReady.nil
          go_simp
          refine (HIP.out _ (HM.out.later B7.out.drew)).mono ?_
          rintro e w8 ⟨rfl, b8⟩
          have B8 := Lib.hid (B7.out.drew.trans (b8.mono B7.out.size))
          clear b8
          refine hK _ _ ?_
          clear hK K
          refine wpAny_ready (rs := [18]) (by kernel_rfl) (by simp) ?_
          refine AllReady.cons rfl (fun K hK => ?_) AllReady.nil
          go_simp
          refine (HInk.out _).mono ?_
          rintro e w9 ⟨rfl, rfl⟩
          refine hK _ _ ?_
          clear hK K
          refine wpAny_take (i := 19) (v := ?_) rfl (by kernel_rfl) (by kernel_rfl) (by kernel_rfl) (fun _ _ _ h => h) (Or.inl ⟨by kernel_rfl, ?_⟩) ?_
          rotate_left
          · intro w; go_simp; with_reducible rfl
          refine wpAny_take (i := 20) (v := ?_) rfl (by kernel_rfl) (by kernel_rfl) (by kernel_rfl) (fun _ _ _ h => h) (Or.inl ⟨by kernel_rfl, ?_⟩) ?_
          rotate_left
          · intro w; go_simp; with_reducible rfl
          refine wpAny_done (by kernel_rfl) ?_ _
          go_wp2_with fail
          go_roundw
          case rel => exact ⟨0 + 1, A ++ setText ck, by go_num, by omega, by rw [HAp.out], hAl2, fun y => HM2.out y, B8.out⟩
          case measure => simp [intOf]; omega
      · obtain ⟨j, rfl⟩ : ∃ j, k = j + 1 := ⟨k - 1, by omega⟩
        have hoj := hord j rfl
        have hjz : j < tl.size := by omega
        have hji : (j : Int) < (tl.size : Int) := by omega
        have hki : ((j : Int) + 1) < (tl.size : Int) := by omega
        have hjl : j < l.length := by omega
        have hjli : (j : Int) < (l.length : Int) := by omega
        have hj0 : (0 : Int) ≤ (j : Int) := by omega
        have hjw2 : IntKind.i64.wrap (j : Int) = (j : Int) := IntWalk.i64_in _ (by omega)
        have hjn : ((j : Int) + 1 - 1).toNat = j := by omega
        have hjn2 : ((j : Int) + 1).toNat = j + 1 := by omega
        have hjw : IntKind.i64.wrap ((j : Int) + 1 - 1) = (j : Int) := by
          rw [show (j : Int) + 1 - 1 = j by omega]; exact IntWalk.i64_in _ (by omega)
        have hle : decide (tl[j + 1].toNat ≤ tl[j].toNat) = false := by rw [decide_eq_false_iff_not]; omega
        have HOj := Lib.hid hoj
        clear hord hoj h0
        go_wp2_with fail
        refine HCk.out.mono ?_
        rintro e w7 ⟨rfl, b7⟩
        have B7 := Lib.hid (hb.out.trans (b7.mono hb.out.size))
        clear b7
        go_wp2_with fail
        first
          | ((go_region_held3 (fun _ => True) (trivial) ((first
              | (go_at_call 14; refine (HIP.out _ (HM.out.later B7.out.drew)).mono ?_
                 rintro e w8 ⟨rfl, b8⟩
                 have B8 := Lib.hid (B7.out.drew.trans (b8.mono B7.out.size))
                 clear b8)
              | (go_at_call 26; refine (HInk.out _).mono ?_; rintro e w9 ⟨rfl, rfl⟩)))))
          | fail
        all_goals
          go_wp2_with fail
          go_roundw
          case rel => exact ⟨j + 1 + 1, A ++ setText ck, by go_num, by omega, by rw [HAp.out], hAl2, fun y => HM2.out y, B8.out⟩
          case measure => simp [intOf]; omega
    · have hke : k = l.length := by omega
      have HSub := Lib.hid (fun y (hy : y ∈ A) => by
        rcases (hA.out y).1 hy with h | ⟨x, hx, h⟩
        · exact HLF.out.2.2.2.2.first y h
        · exact HLF.out.2.2.2.2.closed x (List.mem_of_mem_take hx) y h : ∀ y ∈ A, y ∈ l)
      have HSup := Lib.hid (by
        have h2 : ∀ x y, x ∈ l → stepOf s x y → y ∈ A := fun x y hx h => (hA.out y).2 (.inr ⟨x, by rw [List.take_of_length_le (by omega)]; exact hx, h⟩)
        refine HLF.out.2.2.2.2.least (fun y => y ∈ A) (fun y hy => (hA.out y).2 (.inl hy)) (fun x y hx h => h2 x y (HSub.out x hx) h) : ∀ y ∈ l, y ∈ A)
      have htd : tl.data.toList = l := by rw [← HTl.out]; rfl
      have HTd := Lib.hid htd
      have HAd : Hid ((txtOf A).data.toList = A) := rfl
      have htz2 : (txtOf A).size = A.length := rfl
      have hAb : A.length ≤ 1000 := by omega
      clear hA hke htd
      generalize txtOf A = tA at *
      have HI3 := Lib.hid (fun c (hc : c ∈ A) w => (by
        have h := in_any tl c (by omega) w
        rw [HTd.out, List.contains_iff_mem.2 (HSub.out c hc)] at h
        exact h : Calls Tryd.prog 26 #[.string tl, .int .u8 c.toNat] w fun e w' => e = .returned (.bool true) ∧ w = w'))
      have HI4 := Lib.hid (fun c (hc : c ∈ l) w => (by
        have h := in_any tA c (by omega) w
        rw [HAd.out, List.contains_iff_mem.2 (HSup.out c hc)] at h
        exact h : Calls Tryd.prog 26 #[.string tA, .int .u8 c.toNat] w fun e w' => e = .returned (.bool true) ∧ w = w'))

      go_wp2_with fail
      go_loopw [76] (fun i wr => ∃ k : Nat, i = .int .i64 k ∧ k ≤ tA.size ∧ Hid (Below w.heap.size w wr)) (fun i _ => tA.size - (intOf i).toNat)
      case atStart => exact ⟨0, by go_num, Nat.zero_le _, hb.out⟩
      case round =>
        obtain ⟨k2, rfl, hk2, hb2⟩ := hrel
        by_cases hlt2 : k2 < tA.size
        · have hm2 : tA[k2] ∈ A := by
            have h1 : k2 < tA.data.toList.length := by simpa using hlt2
            have h2 : tA.data.toList[k2] = tA[k2] := rfl
            have h3 := List.getElem_mem h1
            rw [h2, HAd.out] at h3
            exact h3
          have HJ := Lib.hid (fun w => HI3.out tA[k2] hm2 w)
          clear hm2
          go_wp2_with fail
          refine (HJ.out _).mono ?_
          rintro e w9 ⟨rfl, rfl⟩
          go_wp2_with fail
          go_roundw
          case rel => exact ⟨k2 + 1, by go_num, by omega, hb2.out⟩
          case measure => simp [intOf]; omega
        · go_wp2_with fail
          go_loopw [88] (fun i wr => ∃ k : Nat, i = .int .i64 k ∧ k ≤ tl.size ∧ Hid (Below w.heap.size w wr)) (fun i _ => tl.size - (intOf i).toNat)
          case atStart => exact ⟨0, by go_num, Nat.zero_le _, hb2.out⟩
          case round =>
            obtain ⟨k3, rfl, hk3, hb3⟩ := hrel
            by_cases hlt3 : k3 < tl.size
            · have hm3 : tl[k3] ∈ l := by
                have h1 : k3 < tl.data.toList.length := by simpa using hlt3
                have h2 : tl.data.toList[k3] = tl[k3] := rfl
                have h3 := List.getElem_mem h1
                rw [h2, HTd.out] at h3
                exact h3
              have HJ := Lib.hid (fun w => HI4.out tl[k3] hm3 w)
              clear hm3
              go_wp2_with fail
              refine (HJ.out _).mono ?_
              rintro e w9 ⟨rfl, rfl⟩
              go_wp2_with fail
              go_roundw
              case rel =>
                rw [show decide (k2 < A.length) = false from by rw [decide_eq_false_iff_not]; omega]
                refine ⟨_, _, _, _, _, _, _, _, _, _, _, _, ⟨k3 + 1, ?_, by omega, hb3.out⟩, rfl⟩
                go_num
              case measure => simp [intOf]; omega
            · go_wp2_with fail
              go_ret
              exact ⟨rfl, hb3.out⟩

set_option maxHeartbeats 400000 in
theorem reach_law_long (w : World) (a : Option Addr) (n c : Nat) (hn : 1048576 < n) (hx : n ≤ 9223372036854775807) :
    Calls Tryd.prog 4 #[.slice a n c] w fun e w' => e = .returned (.bool true) ∧ Below w.heap.size w w' := by
  go_enter Tryd.func4, Tryd.ntmps4
  go_wp2_with fail
  go_ret
  exact ⟨rfl, Below.refl _ _⟩
theorem law_reach (w : World) (a : Option Addr) (n c : Nat) (h : BytesAt w a n) (hn : n ≤ c) (hc : c ≤ 9223372036854775807) (hnil : a = none → n = 0) (hm : MaxCell w) :
    Calls Tryd.prog 4 #[.slice a n c] w fun e w' => e = .returned (.bool true) ∧ Below w.heap.size w w' := by
  by_cases hs : n ≤ 1048576
  · exact reach_law_short w a n c hs hm (drawReach_any w a n c h hn hc hnil)
  · exact reach_law_long w a n c (by omega) (by omega)
end Go.Proofs.YtjomgdekkfabhaaDoor
