/- The law FnStatements answers true, whatever bytes it is given, and nothing that was there before it turns. No condition but that the bytes can be read. -/
import Derived.Test.YtlmppmdgajaclaaTexts
namespace Go.Proofs.Ytlmppmdgajaclaa
open Go.RowKit Gram

/-- what StatementsOf hands back, said by a list of texts and an answer -/
def Gave (ss : List ByteArray) (n : Nat) (ok : Bool) (w : World) (e : Ending) (w' : World) : Prop := ∃ a c, e = .returned (.tuple #[.slice a n c, .bool ok]) ∧
    w'.ownsRow w.heap.size 9 1 (.slice a n c) n (ss.map Value.string) ∧ Below w.heap.size w w'
/-- a list of one text -/
def GaveOne (t : ByteArray) (w : World) (e : Ending) (w' : World) : Prop := ∃ g c, e = .returned (.tuple #[.slice (some ⟨g, 0, none⟩) 1 c, .bool true]) ∧ w'.cell? ⟨g, 0, none⟩ = some (.string t) ∧ Below w.heap.size w w'
/-- a list that has twice as many, if it is one -/
def GaveTwo (n : Nat) (w : World) (e : Ending) (w' : World) : Prop := ∃ a m c b, e = .returned (.tuple #[.slice a m c, .bool b]) ∧ (b = true → m = 2 * n) ∧ Below w.heap.size w w'

theorem gave_one {t : ByteArray} {w w' : World} {e : Ending} (h : Gave [t] 1 true w e w') : GaveOne t w e w' := by
  obtain ⟨a, c, he, ho, hb⟩ := h
  obtain ⟨g, s, rfl, hs, hc, _⟩ := strs_get ho 0 (by omega)
  simp at hs; subst hs
  exact ⟨g, c, he, hc, hb⟩

/-- what is known of a drawn text, said of its list and its answer -/
theorem facts (s : ByteArray) (hs : s.size ≤ 1000) : ∃ ss ok m, m ≤ 400 ∧ Hid (∀ w, Calls Try.prog 6 #[.string s] w (Gave ss m ok w)) ∧ Hid (∀ w, Calls Try.prog 7 #[.string s] w (Gave ss m ok w)) ∧
    Hid (ok = true → ss.length = m ∧ cat ss = s ∧ (∀ k t w, k < m → ss[k]? = some t → Calls Try.prog 6 #[.string t] w (GaveOne t w)) ∧ (∀ w, Calls Try.prog 6 #[.string (s ++ s)] w (GaveTwo m w))) := by
  refine ⟨txtsOf s, okOf s, (txtsOf s).length, txtsOf_le s, fun w => impl_plain s w (by omega), fun w => spec_plain s w (by omega), fun hok => ⟨rfl, cat_all hok, ?_, ?_⟩⟩
  · intro k t w hk ht
    obtain ⟨h1, h2⟩ := piece_plain rfl k hk t ht
    have hle := cat_size_le (txtsOf s) (k + 1)
    rw [cat_take _ k t ht, cat_all hok] at hle
    have hst : t.size ≤ 1000 := by simp at hle; omega
    refine (impl_plain t w (by omega)).mono fun e w' h => gave_one ?_
    rw [h1, h2] at h
    exact h
  · intro w
    refine (impl_plain (s ++ s) w (by simp; omega)).mono fun e w' h => ?_
    obtain ⟨a, c, he, _, hb⟩ := h
    exact ⟨a, _, c, _, he, fun h2 => twice_of hok h2, hb⟩

set_option maxHeartbeats 4000000 in
theorem walk_any (w : World) (a : Option Addr) (n c : Nat) (hn : n ≤ 1048576)
    (hd : Calls Try.prog 5 #[.slice a n c] w fun e w' => (∃ s : ByteArray, e = .returned (.string s) ∧ s.size ≤ 1000) ∧ Below w.heap.size w w') :
    Calls Try.prog 3 #[.slice a n c] w fun e w' => e = .returned (.bool true) ∧ Below w.heap.size w w' := by
  have HD := Lib.hid hd
  clear hd
  go_enter Try.func3, Try.ntmps3
  go_wp2_with fail
  refine HD.out.mono ?_
  rintro e w1 ⟨⟨s, rfl, hsz⟩, b1⟩
  have B1 := Lib.hid b1
  clear b1
  obtain ⟨ss, ok, m, hm, HI, HS, HG⟩ := facts s hsz
  cases ok
  · clear HG
    go_wp2_with fail
    refine (HI.out _).mono ?_
    rintro e w2 ⟨a2, c2, rfl, o2, b2⟩
    have O2 := Lib.hid o2
    have B2 := Lib.hid b2
    clear o2 b2
    go_wp2_with fail
    refine (HS.out _).mono ?_
    rintro e w3 ⟨a3, c3, rfl, o3, b3⟩
    have O3 := Lib.hid o3
    have B3 := Lib.hid b3
    have O2' := Lib.hid (ownsRow_of O2.out (fun j hj => b3.block j (O2.out.lt j hj).2))
    clear o3 b3
    go_wp2_with fail
    refine (texts_true a2 a3 m c2 c3 _ _ ss w3 (by omega) O2'.out O3.out).mono ?_
    rintro e w4 ⟨rfl, h4⟩
    have H4 := Lib.hid h4
    have P2 := Lib.hid (ownsRow_of (w' := w4) O2'.out (fun j _ => by rw [h4.1]))
    have P3 := Lib.hid (ownsRow_of (w' := w4) O3.out (fun j _ => by rw [h4.1]))
    clear h4
    go_wp2_with fail
    refine (texts_true a2 a3 m c2 c3 _ _ ss w4 (by omega) P2.out P3.out).mono ?_
    rintro e w5 ⟨rfl, h5⟩
    have H5 := Lib.hid h5
    clear h5
    go_wp2_with fail
    go_ret
    have hz1 := B1.out.size
    have hz2 := B2.out.size
    have hz3 := B3.out.size
    have hz4 := H4.out.2.size
    exact ⟨rfl, (((B1.out.trans (B2.out.mono (by omega))).trans (B3.out.mono (by omega))).trans (H4.out.2.mono (by omega))).trans (H5.out.2.mono (by omega))⟩
  · obtain ⟨hl, hcat, hp, ht⟩ := HG.out rfl
    have HP := Lib.hid hp
    have HT := Lib.hid ht
    have HL := Lib.hid hl
    have HC := Lib.hid hcat
    clear hp ht hl hcat HG
    go_wp2_with fail
    refine (HI.out _).mono ?_
    rintro e w2 ⟨a2, c2, rfl, o2, b2⟩
    have O2 := Lib.hid o2
    have B2 := Lib.hid b2
    clear o2 b2
    go_wp2_with fail
    refine (HS.out _).mono ?_
    rintro e w3 ⟨a3, c3, rfl, o3, b3⟩
    have O3 := Lib.hid o3
    have B3 := Lib.hid b3
    have O2' := Lib.hid (ownsRow_of O2.out (fun j hj => b3.block j (O2.out.lt j hj).2))
    clear o3 b3
    go_wp2_with fail
    refine (texts_true a2 a3 m c2 c3 _ _ ss w3 (by omega) O2'.out O3.out).mono ?_
    rintro e w4 ⟨rfl, h4⟩
    have H4 := Lib.hid h4
    have P2 := Lib.hid (ownsRow_of (w' := w4) O2'.out (fun j _ => by rw [h4.1]))
    have hz1 := B1.out.size
    have hz2 := B2.out.size
    have hz3 := B3.out.size
    have hz4 := h4.2.size
    have R4 := Lib.hid (((B1.out.trans (B2.out.mono hz1)).trans (B3.out.mono (by omega))).trans (h4.2.mono (by omega)) : Below w.heap.size w w4)
    clear h4
    go_wp2_with fail
    go_loopw [8, 10, 11, 12, 53] (fun j _ _ _ i wr => ∃ k : Nat, k ≤ m ∧ i = .int .i64 k ∧ j = .string (cat (ss.take k)) ∧ Hid (Below w4.heap.size w4 wr)) (fun _ _ _ _ i _ => m - (intOf i).toNat)
    case atStart => exact ⟨0, Nat.zero_le _, by go_num, rfl, Below.refl _ _⟩
    case round =>
      obtain ⟨k, hk, rfl, rfl, hb⟩ := hrel
      by_cases hlt : k < m
      · obtain ⟨g, t, rfl, hs, hc1, _⟩ := strs_get P2.out k hlt
        have hgl : g < w4.heap.size := World.block_lt_of_cell? w4 _ hc1
        have c1 : wr.cell? ⟨g, k, none⟩ = some (.string t) := by rw [hb.out.cell (p := ⟨g, k, none⟩) hgl]; exact hc1
        have HPK := Lib.hid (fun w => HP.out k t w hlt hs)
        have hct := cat_take ss k t hs
        have hle := cat_size_le ss (k + 1)
        rw [hct, HC.out] at hle
        have e1 := str_add (cat (ss.take k)) t (by simp at hle; omega)
        have HCT := Lib.hid hct
        clear hs hc1 hct hle
        generalize cat (ss.take k) = u at *
        go_wp2_with fail
        refine (HPK.out _).mono ?_
        rintro e w5 ⟨g5, c5, rfl, hc5, b5⟩
        have B5 := Lib.hid b5
        clear b5
        go_wp2_with fail
        go_roundw
        case rel => exact ⟨k + 1, by omega, by go_num, by rw [HCT.out], hb.out.trans (B5.out.mono hb.out.size)⟩
        case measure => simp [intOf]; omega
      · have hkm : k = m := by omega
        subst hkm
        have hj : cat (ss.take k) = s := by rw [List.take_of_length_le (by rw [HL.out]; exact Nat.le_refl _)]; exact HC.out
        rw [hj]
        have e1 := str_add s s (by omega)
        clear hj
        go_wp2_with fail
        refine (HT.out _).mono ?_
        rintro e w6 ⟨a6, m6, c6, b, rfl, hm6, b6⟩
        have R6 := Lib.hid ((R4.out.trans (hb.out.mono R4.out.size)).trans (b6.mono (Nat.le_trans R4.out.size hb.out.size)))
        clear b6
        cases b with
        | false =>
          clear hm6
          go_wp2_with fail
          go_ret
          exact ⟨rfl, R6.out⟩
        | true =>
          have h6 := hm6 rfl
          subst h6
          clear hm6
          go_wp2_with fail
          go_ret
          exact ⟨rfl, R6.out⟩

set_option maxHeartbeats 1000000 in
theorem walk_long (w : World) (a : Option Addr) (n c : Nat) (hn : 1048576 < n) (hx : n ≤ 9223372036854775807) :
    Calls Try.prog 3 #[.slice a n c] w fun e w' => e = .returned (.bool true) ∧ Below w.heap.size w w' := by
  go_enter Try.func3, Try.ntmps3
  go_wp2_with fail
  go_ret
  exact ⟨rfl, Below.refl _ _⟩

theorem law_statements (w : World) (a : Option Addr) (n c : Nat) (h : BytesAt w a n) (hn : n ≤ c) (hc : c ≤ 9223372036854775807) (hnil : a = none → n = 0) :
    Calls Try.prog 3 #[.slice a n c] w fun e w' => e = .returned (.bool true) ∧ Below w.heap.size w w' := by
  by_cases hl : n ≤ 1048576
  · exact walk_any w a n c hl (drawStatements_any w a n c h hn hc hnil)
  · exact walk_long w a n c (by omega) (by omega)
end Go.Proofs.Ytlmppmdgajaclaa
