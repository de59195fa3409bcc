/- The model's l4Some: an aspect of short texts, whatever the bytes behind the source. Conditions: counts up to 50000. -/
import Derived.Test.YtecifbncfglckaaGreatDoorL3s
namespace Go.Proofs.YtecifbncfglckaaGreatDoor
open Go.RowKit Gram

/-- what a draw of an aspect hands back -/
def DrewA (w : World) (rb : Nat) (a : Option Addr) (n c p M cost : Nat) (e : Ending) (w' : World) : Prop :=
  ∃ (k cc b : ByteArray) (q : Nat), e = .returned (aspV k cc b) ∧ k.size ≤ 100 ∧ cc.size ≤ 100 ∧ b.size ≤ M ∧ q ≤ p + cost ∧ Rdr w' rb a n c q ∧ w.grownBy w' (some rb)
theorem kinds_small : ∀ s ∈ [(⟨#[98, 101, 102, 111, 114, 101]⟩ : ByteArray), ⟨#[97, 102, 116, 101, 114]⟩, ⟨#[97, 114, 111, 117, 110, 100]⟩, ⟨#[97, 114, 111, 117, 110, 100]⟩], s.size ≤ 6 := by decide

set_option maxHeartbeats 1000000 in
set_option maxRecDepth 100000 in
theorem l4s_any (w : World) (rb : Nat) (a : Option Addr) (n c p : Nat) (h : Rdr w rb a n c p) (hp : p ≤ 50000) :
    Calls Tryz.prog 35 #[.pointer (some ⟨rb, 0, none⟩)] w (DrewA w rb a n c p 100 100) := by
  have H := Lib.hid h
  have HA := Lib.hid (show ∀ g off, a = some ⟨g, off, none⟩ → 0 < n → g < w.heap.size from fun g off ha hn => by
    obtain ⟨g', off', ha', b, hc⟩ := h.bytes 0 hn
    rw [ha] at ha'
    injection ha' with ha'; injection ha' with e1 e2
    subst e1
    exact World.block_lt_of_cell? w _ hc)
  have hrb := heap_lt h.own
  clear h
  have HD := Lib.hid (l3d_any rb a n c)
  have H0 := Lib.hid (H.out.later (alloc_heap (w := w) (Obj.cells #[.string ⟨#[]⟩, .string ⟨#[]⟩, .string ⟨#[]⟩] 24)))
  have G0 := Lib.hid (World.grownBy_alloc w (Obj.cells #[.string ⟨#[]⟩, .string ⟨#[]⟩, .string ⟨#[]⟩] 24) (some rb))
  have R0 := Lib.hid (heap_alloc_new w (Obj.cells #[.string ⟨#[]⟩, .string ⟨#[]⟩, .string ⟨#[]⟩] 24))
  have Z0 := Lib.hid (alloc_size' w (Obj.cells #[.string ⟨#[]⟩, .string ⟨#[]⟩, .string ⟨#[]⟩] 24))
  go_enter Tryz.func35, Tryz.ntmps35
  go_wp2_with fail
  generalize hw0 : w.alloc (Obj.cells #[.string ⟨#[]⟩, .string ⟨#[]⟩, .string ⟨#[]⟩] 24) = w0 at *
  clear hw0
  have hz0 := Z0.out
  clear Z0
  refine (of_any _ rb a n c p (w.heap.size + 1) 4 4 6 (H0.out.later (alloc_heap (w := w0) _)) (by omega) (by omega) (by omega) (by omega) (plus_cells w0 (w.heap.size + 1) [⟨#[98, 101, 102, 111, 114, 101]⟩, ⟨#[97, 102, 116, 101, 114]⟩, ⟨#[97, 114, 111, 117, 110, 100]⟩, ⟨#[97, 114, 111, 117, 110, 100]⟩] 6 kinds_small hz0.symm)).mono ?_
  rintro e w1 ⟨t, q1, rfl, ht, hq1, hr1, hg1⟩
  have H1 := Lib.hid hr1
  have G1 := Lib.hid (grownBy_trans (World.grownBy_alloc w0 (Obj.cells #[.string ⟨#[98, 101, 102, 111, 114, 101]⟩, .string ⟨#[97, 102, 116, 101, 114]⟩, .string ⟨#[97, 114, 111, 117, 110, 100]⟩, .string ⟨#[97, 114, 111, 117, 110, 100]⟩] 9) _) hg1)
  clear hr1 hg1
  go_wp2_with fail
  refine (pick_to 2 H1.out (by omega) (by omega)).mono ?_
  rintro e w2 ⟨d, rfl, hd, hr2, hg2⟩
  have H2 := Lib.hid hr2
  have G2 := Lib.hid (grownBy_trans G1.out hg2)
  clear hr2 hg2
  have hdd : d ≤ 3 := by omega
  have hB := (lB3 d hdd).1
  have hC := (lB3 d hdd).2
  go_wp2_with fail
  refine (HD.out d hdd _ _ _ rfl H2.out (by omega)).mono ?_
  rintro e w3 ⟨s, q3, rfl, hs, hq3, hr3, hg3⟩
  have H3 := Lib.hid hr3
  have G3 := Lib.hid (grownBy_trans G2.out hg3)
  clear hr3 hg3
  have hz3 : w0.heap.size ≤ w3.heap.size := G3.out.size
  have P3 := Lib.hid (show Ap w (w3.alloc (Obj.cells #[.string t, .string s, .string ⟨#[]⟩] 24)) rb w3.heap.size a n c q3 t s ⟨#[]⟩ from
    ⟨heap_alloc_new _ _, ⟨_, _, _, by
      rw [alloc_heap _ _ (by omega), G3.out.block w.heap.size (by omega) (by intro e; injection e; omega)]; exact R0.out⟩, by omega, hrb, H3.out.later (alloc_heap _), grownBy_trans G0.out (grownBy_trans G3.out (World.grownBy_alloc _ _ _))⟩)
  obtain ⟨q0, q1', q2', f0, f1, f2⟩ := P3.out.read
  go_wp2_with fail
  cases hb : (t.toList == [97, 114, 111, 117, 110, 100]) with
  | false =>
    refine (l4d_one rb a n c _ _ q3 P3.out.rdr (by omega)).mono ?_
    rintro e w5 ⟨b, q5, rfl, hbs, hq5, hr5, hg5⟩
    have P5 := Lib.hid (P3.out.later hr5 hg5)
    clear hr5 hg5 q0 q1' q2' f0 f1 f2 P3
    obtain ⟨q0, q1', q2', f0, f1, f2⟩ := P5.out.read
    have P6 := Lib.hid (P5.out.set HA.out 2 (.string b) _ _ b rfl)
    obtain ⟨x0, x1, x2, c0, c1, c2, z0, z1, z2⟩ := P5.out.result
    go_wp2_with fail
    obtain ⟨wf, hwf, y0, y1, y2, hR, hGr⟩ := P6.out.final' HA.out (.string t) (.string s) (.string b)
    rw [hwf]
    refine bodyPost_ret (v := aspV t s b) ?_ rfl ?_
    · simp [results, Tryz.results35, go_sem, y0, y1, y2, aspV]
    · exact ⟨_, _, _, _, rfl, by omega, by omega, by first | omega | (simp only [ByteArray.size_append]; omega), by omega, hR, hGr⟩
  | true =>
    refine (l4d_one rb a n c _ _ q3 P3.out.rdr (by omega)).mono ?_
    rintro e w5 ⟨b, q5, rfl, hbs, hq5, hr5, hg5⟩
    have P5 := Lib.hid (P3.out.later hr5 hg5)
    clear hr5 hg5 q0 q1' q2' f0 f1 f2 P3
    obtain ⟨q0, q1', q2', f0, f1, f2⟩ := P5.out.read
    have P6 := Lib.hid (P5.out.set HA.out 2 (.string b) _ _ b rfl)
    have HK := Lib.hid (fun w => show Calls Tryz.prog 44 #[.string b, .int .u8 75] w fun e w' => e = .returned (.bool (b.data.toList.contains 75)) ∧ w = w' from has_any b 75 (by omega) w)
    cases hc : b.data.toList.contains 75 with
    | true =>
      rw [hc] at HK
      go_wp2_with fail
      refine (HK.out _).mono ?_
      rintro e w6 ⟨rfl, rfl⟩
      obtain ⟨x0, x1, x2, c0, c1, c2, z0, z1, z2⟩ := P5.out.result
      go_wp2_with fail
      obtain ⟨wf, hwf, y0, y1, y2, hR, hGr⟩ := P6.out.final' HA.out (.string t) (.string s) (.string b)
      rw [hwf]
      refine bodyPost_ret (v := aspV t s b) ?_ rfl ?_
      · simp [results, Tryz.results35, go_sem, y0, y1, y2, aspV]
      · exact ⟨_, _, _, _, rfl, by omega, by omega, by first | omega | (simp only [ByteArray.size_append]; omega), by omega, hR, hGr⟩
    | false =>
      rw [hc] at HK
      go_wp2_with fail
      refine (HK.out _).mono ?_
      rintro e w6 ⟨rfl, rfl⟩
      clear q0 q1' q2' f0 f1 f2
      obtain ⟨q0, q1', q2', f0, f1, f2⟩ := P6.out.read
      go_wp2_with fail
      refine (pick_to 3 P6.out.rdr (by omega) (by omega)).mono ?_
      rintro e w7 ⟨v, rfl, hv, hr7, hg7⟩
      have P7 := Lib.hid (P6.out.later hr7 hg7)
      clear hr7 hg7 q0 q1' q2' f0 f1 f2
      obtain ⟨q0, q1', q2', f0, f1, f2⟩ := P7.out.read
      obtain ⟨x0, x1, x2, c0, c1, c2, z0, z1, z2⟩ := P7.out.result
      by_cases hv0 : v = 0
      · subst hv0
        go_wp2_with fail
        obtain ⟨wf, hwf, y0, y1, y2, hR, hGr⟩ := P7.out.final' HA.out (.string t) (.string s) (.string b)
        rw [hwf]
        refine bodyPost_ret (v := aspV t s b) ?_ rfl ?_
        · simp [results, Tryz.results35, go_sem, y0, y1, y2, aspV]
        · exact ⟨_, _, _, _, rfl, by omega, by omega, by first | omega | (simp only [ByteArray.size_append]; omega), by omega, hR, hGr⟩
      · have hvp : (0 : Int) < (v : Int) := by omega
        have o1 : (⟨#[75]⟩ : ByteArray).size = 1 := rfl
        have e1 := str_sum b ⟨#[75]⟩ (by omega)
        have P8 := Lib.hid (P7.out.set HA.out 2 (.string (b ++ ⟨#[75]⟩)) _ _ (b ++ ⟨#[75]⟩) rfl)
        go_wp2_with fail
        obtain ⟨wf, hwf, y0, y1, y2, hR, hGr⟩ := P8.out.final' HA.out (.string t) (.string s) (.string (b ++ ⟨#[75]⟩))
        rw [hwf]
        refine bodyPost_ret (v := aspV t s (b ++ ⟨#[75]⟩)) ?_ rfl ?_
        · simp [results, Tryz.results35, go_sem, y0, y1, y2, aspV]
        · exact ⟨_, _, _, _, rfl, by omega, by omega, by first | omega | (simp only [ByteArray.size_append]; omega), by omega, hR, hGr⟩
end Go.Proofs.YtecifbncfglckaaGreatDoor
