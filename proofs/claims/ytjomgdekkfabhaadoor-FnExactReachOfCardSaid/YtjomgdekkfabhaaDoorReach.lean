/- reach: a set that is closed under calls and least. Condition: a program as readProgram lays it. -/
import Derived.Test.YtjomgdekkfabhaaDoorReach1
namespace Go.Proofs.YtjomgdekkfabhaaDoor
open Go.RowKit Gram

/-- how many bits of the first 26 are set -/
def nb (m : Nat) : Nat := (((List.range' 97 26).map UInt8.ofNat).filter fun c => m.testBit (c.toNat - 97)).length
theorem nb_set (l : List UInt8) (hl : lets l) : nb (setOf l) = card l := by
  rw [nb, card, setText, upTo]
  congr 1
  apply List.filter_congr
  intro c hc
  rw [List.mem_map] at hc
  obtain ⟨n, hn, rfl⟩ := hc
  rw [List.mem_range'_1] at hn
  refine set_has l _ hl ?_
  have : (UInt8.ofNat n).toNat = n := by rw [UInt8.toNat_ofNat']; omega
  rw [isLet_int, this]
  simp; omega
theorem set_one (t : UInt8) : setOf [t] = bitOf t := by simp [setOf, setFrom]

def callsOfQ (qs : List Qr) (fr : List UInt8) (y : UInt8) : Prop := ∃ q ∈ qs, q.1.1 ∈ fr ∧ y ∈ callsIn q.1.2
theorem callsOfQ_all (qs : List Qr) (fr : List UInt8) (y : UInt8) : callsOfQ qs fr y ↔ ∃ x ∈ fr, CallsIn (qs.map (·.1)) x y := by
  constructor
  · rintro ⟨q, hq, hf, hy⟩
    exact ⟨q.1.1, hf, q.1, List.mem_map.2 ⟨q, hq, rfl⟩, rfl, hy⟩
  · rintro ⟨x, hx, p, hp, rfl, hy⟩
    obtain ⟨q, hq, rfl⟩ := List.mem_map.1 hp
    exact ⟨q, hq, hx, hy⟩
theorem callsOfQ_take (qs : List Qr) (k : Nat) (hk : k < qs.length) (fr : List UInt8) (y : UInt8) : callsOfQ (qs.take (k + 1)) fr y ↔ callsOfQ (qs.take k) fr y ∨ (qs[k].1.1 ∈ fr ∧ y ∈ callsIn qs[k].1.2) := by
  rw [List.take_succ_eq_append_getElem hk]
  constructor
  · rintro ⟨q, hq, h⟩
    rcases List.mem_append.1 hq with hq | hq
    · exact .inl ⟨q, hq, h⟩
    · rw [List.mem_singleton.1 hq] at h; exact .inr h
  · rintro (⟨q, hq, h⟩ | h)
    · exact ⟨q, List.mem_append.2 (.inl hq), h⟩
    · exact ⟨_, List.mem_append.2 (.inr (List.mem_singleton.2 rfl)), h⟩

theorem measure_reach {re ca : List UInt8} {fr : List UInt8} (hre : lets re) (hca : lets ca) (hne : fr ≠ []) :
    2 * (26 - nb (setOf (re ++ ca))) + (if setOf (ca.filter fun y => !re.contains y) = 0 then 0 else 1) < 2 * (26 - nb (setOf re)) + (if setOf fr = 0 then 0 else 1) := by
  rw [nb_set _ (lets_append hre hca), nb_set _ hre, if_neg (setOf_zero hne)]
  have h1 : card re ≤ card (re ++ ca) := card_mono fun y hy => List.mem_append.2 (.inl hy)
  have h3 := card_le (re ++ ca)
  split
  case isTrue => omega
  case isFalse h0 =>
    have hnil : (ca.filter fun y => !re.contains y) ≠ [] := fun e => h0 (by rw [e]; rfl)
    obtain ⟨y, hy⟩ := List.exists_mem_of_ne_nil _ hnil
    obtain ⟨hy1, hy2⟩ := List.mem_filter.1 hy
    have h2 : card re < card (re ++ ca) := card_lt (fun z hz => List.mem_append.2 (.inl hz)) y (List.mem_append.2 (.inr hy1)) (by simpa using hy2) (hca y hy1)
    omega

set_option maxHeartbeats 4000000 in
set_option maxRecDepth 100000 in
theorem reach_any {w : World} {B : Nat} {S : Nat → Prop} {qs : List Qr} {a : Option Addr} {n c : Nat} (h : IsProg w B S qs (.slice a n c)) (hn : qs.length = n) (hl : n ≤ 401) (hg : ∀ q ∈ qs, Good q.1) (t : UInt8) (ht : isLet t = true) :
    Calls Tryd.prog 43 #[.slice a n c, .int .u32 (bitOf t)] w fun e w' => (∃ re, lets re ∧ Reached (CallsIn (qs.map (·.1))) t re ∧ e = .returned (.int .u32 (setOf re))) ∧ Below w.heap.size w w' := by
  have H := Lib.hid h
  have HN := Lib.hid hn
  have HG := Lib.hid hg
  rw [← set_one]
  clear h hn hg
  go_enter Tryd.func43, Tryd.ntmps43
  go_wp2_with fail
  go_loopw [1, 5] (fun x y wr => ∃ fr re : List UInt8, x = .int .u32 (setOf fr) ∧ y = .int .u32 (setOf re) ∧ Hid (lets fr) ∧ Hid (lets re) ∧ Hid (Reaching (CallsIn (qs.map (·.1))) t re fr) ∧ Hid (Below w.heap.size w wr))
    (fun x y _ => 2 * (26 - nb (intOf y).toNat) + (if (intOf x).toNat = 0 then 0 else 1))
  case atStart =>
    refine ⟨[t], [], rfl, rfl, ?_, ?_, Reaching.start _ _, Below.refl _ _⟩
    · show lets _
      intro d hd
      rw [List.mem_singleton.1 hd]; exact ht
    · show lets _
      intro d hd; simp at hd
  case round =>
    obtain ⟨fr, re, rfl, rfl, hfr, hre, hR, hb⟩ := hrel
    obtain ⟨w5, hw5⟩ : ∃ x, x = wr := ⟨_, rfl⟩
    subst hw5
    by_cases hne : fr = []
    · subst hne
      have HF := Lib.hid hR.out.finish
      clear hR
      have e0 : setOf ([] : List UInt8) = 0 := rfl
      go_wp2_with fail
      go_ret
      exact ⟨⟨re, hre.out, HF.out, rfl⟩, hb.out⟩
    · have hnz := setOf_zero hne
      have e1 : (((setOf fr : Nat) : Int) != 0) = true := by rw [bne_iff_ne]; omega
      have HNE := Lib.hid hne
      clear hnz hne
      go_wp2_with fail
      go_loopw [6, 13] (fun x i wr => ∃ (k : Nat) (ca : List UInt8), i = .int .i64 k ∧ k ≤ n ∧ x = .int .u32 (setOf ca) ∧ Hid (lets ca) ∧ Hid (∀ y, y ∈ ca ↔ callsOfQ (qs.take k) fr y) ∧ Hid (Below w.heap.size w wr)) (fun _ i _ => n - (intOf i).toNat)
      case atStart =>
        refine ⟨0, [], by go_num, Nat.zero_le _, rfl, ?_, ?_, hb.out⟩
        · show lets _
          intro d hd; simp at hd
        · show ∀ y, _
          intro y; simp [callsOfQ]
      case round =>
        obtain ⟨k, ca, rfl, hk, rfl, hca, hC, hb2⟩ := hrel
        by_cases hlt : k < n
        · have hkq : k < qs.length := by rw [HN.out]; exact hlt
          obtain ⟨g, rfl, _, c0, c1⟩ := H.out.get k hkq
          have hgl : g < w.heap.size := World.block_lt_of_cell? w _ c0
          have hbody := prog_body H.out k hkq
          obtain ⟨ba, bn, bc, hbv⟩ := hbody.form
          rw [hbv] at c1 hbody
          have d0 : wr.cell? ⟨g, k * 2, none⟩ = some (.int .u8 qs[k].1.1.toNat) := by rw [hb2.out.cell (p := ⟨g, k * 2, none⟩) hgl]; exact c0
          have d1 : wr.cell? ⟨g, k * 2 + 1, none⟩ = some (.slice ba bn bc) := by rw [hb2.out.cell (p := ⟨g, k * 2 + 1, none⟩) hgl]; exact c1
          have hq := HG.out qs[k] (List.getElem_mem hkq)
          have HCa := Lib.hid (fun w2 (hb3 : Below w.heap.size w w2) => calls_any (w := w2) (S := S) (p := qs[k].1) (hbody.kept (w' := w2) (fun j hj => hb3.block j (H.out.lt j hj)) (fun _ h => h)) (fun j hj => Nat.lt_of_lt_of_le (H.out.lt j hj) hb3.size) hq)
          have HH := Lib.hid (fun w => has_set fr qs[k].1.1 hfr.out hq.2.2.2 w)
          have HT := Lib.hid (callsOfQ_take qs k hkq fr)
          have hlc := callsIn_lets _ hq.1
          have h1 := setOf_lt ca hca.out
          have h2 := setOf_lt (callsIn qs[k].1.2) hlc
          have e2 := or32 (setOf ca) (setOf (callsIn qs[k].1.2)) (by omega) (by omega)
          have HLc := Lib.hid hlc
          clear c0 c1 hgl hbv hbody h1 h2 hlc
          cases hin : fr.contains qs[k].1.1 with
          | true =>
            rw [hin] at HH
            have HIn := Lib.hid (List.contains_iff_mem.1 hin)
            clear hin hq
            go_wp2_with fail
            refine (HH.out _).mono ?_
            rintro e w2 ⟨rfl, rfl⟩
            go_wp2_with fail
            refine (HCa.out _ (hb2.out.alloc hb2.out.size _)).mono ?_
            rintro e w3 ⟨rfl, hb3⟩
            have HB3 := Lib.hid ((hb2.out.alloc hb2.out.size _).trans (hb3.mono (Nat.le_trans hb2.out.size (by rw [alloc_size']; omega))))
            clear hb3
            go_wp2_with fail
            go_roundw
            case rel =>
              refine ⟨k + 1, ca ++ callsIn qs[k].1.2, by go_num, by omega, by rw [setOf_append], lets_append hca.out HLc.out, ?_, HB3.out⟩
              show ∀ y, _
              intro y
              rw [List.mem_append, HT.out y, hC.out y]
              constructor
              · rintro (h | h)
                · exact .inl h
                · exact .inr ⟨HIn.out, h⟩
              · rintro (h | h)
                · exact .inl h
                · exact .inr h.2
            case measure => simp [intOf]; omega
          | false =>
            rw [hin] at HH
            have HIn := Lib.hid (show ¬ qs[k].1.1 ∈ fr from fun hm => Bool.noConfusion ((List.contains_iff_mem.2 hm).symm.trans hin))
            clear hin hq
            go_wp2_with fail
            refine (HH.out _).mono ?_
            rintro e w2 ⟨rfl, rfl⟩
            go_wp2_with fail
            go_roundw
            case rel =>
              refine ⟨k + 1, ca, by go_num, by omega, rfl, hca.out, ?_, hb2.out.alloc hb2.out.size _⟩
              show ∀ y, _
              intro y
              rw [HT.out y, hC.out y]
              constructor
              · exact .inl
              · rintro (h | h)
                · exact h
                · exact absurd h.1 HIn.out
            case measure => simp [intOf]; omega
        · have HAll := Lib.hid (fun y => by
            have h1 := hC.out y
            rw [List.take_of_length_le (by rw [HN.out]; omega)] at h1
            exact h1.trans (callsOfQ_all qs fr y) : ∀ y, y ∈ ca ↔ ∃ x ∈ fr, CallsIn (qs.map (·.1)) x y)
          have h1 := setOf_lt ca hca.out
          have h2 := setOf_lt re hre.out
          have e2 := or32 (setOf re) (setOf ca) (by omega) (by omega)
          have e3 := less32 (setOf ca) (setOf re)
          have HLF := Lib.hid (less_filter ca re hca.out hre.out)
          have HMs := Lib.hid (measure_reach hre.out hca.out HNE.out)
          clear hC h1 h2
          go_wp2_with fail
          go_roundw
          case rel =>
            refine ⟨ca.filter fun y => !re.contains y, re ++ ca, by rw [HLF.out], by rw [setOf_append], ?_, lets_append hre.out hca.out, hR.out.step HAll.out, hb2.out⟩
            show lets _
            intro d hd
            exact hca.out d (List.mem_filter.1 hd).1
          case measure =>
            have := HMs.out
            rw [setOf_append, ← HLF.out] at this
            simp only [intOf, Int.toNat_natCast]
            exact this
end Go.Proofs.YtjomgdekkfabhaaDoor
