/- The model's PlaceAdvice. Conditions: a text of at most 2^20 bytes; aspects of at most 2^20 bytes. -/
import Derived.Test.YtkdnbdgpcgookaaGreatDoorPx
import Derived.Test.YtkdnbdgpcgookaaGreatDoorSx
namespace Go.Proofs.YtkdnbdgpcgookaaGreatDoor
open Go.RowKit Gram

/-- a text that is one print or one call -/
def plD (s : ByteArray) : Bool := match bodyOf s with
  | some [.prt] => true
  | some [.call _] => true
  | _ => false
def plN : Value := .tuple #[.string ⟨#[]⟩, .bool false]
/-- what stands in place of a text with advice around it -/
def plV (s : ByteArray) (zs : List As) : Value := if plD s = true then if allOk zs = true then match plU zs s.data.toList with
  | some o => .tuple #[.string (txtOf o), .bool true]
  | none => plN else plN else plN

theorem spl_around (w : World) (a : Option Addr) (n c : Nat) (zs : List As) (hA : Asps w a n zs) (hn : n + asT zs ≤ 1048576) :
    Calls Tryz.prog 45 #[.slice a n c] w fun e w' => e = .returned (.bool (allOk zs)) ∧ Below w.heap.size w w' := by
  have HV := Lib.hid (spec_all w a n c zs hA hn)
  unfold AllTo at HV
  clear hA hn
  go_enter Tryz.func45, Tryz.ntmps45
  go_wp2_with fail
  refine HV.out.mono ?_
  rintro e w1 ⟨⟨a1, c1, rfl, _⟩, hb⟩
  have HB := Lib.hid hb
  clear hb
  go_wp2_with fail
  go_ret
  exact ⟨rfl, HB.out⟩

/-- the first letter of a body of one statement -/
theorem one_first {s : ByteArray} {x : Stm} (h : bodyOf s = some [x]) : ∃ h0 : 0 < s.size, s.size ≤ 400 ∧ (plD s = true ↔ (s[0] = 80 ∨ s[0] = 67)) := by
  obtain ⟨h1, h2, h3, h4⟩ := bodyOf_some h
  have hl : s.data.toList = x.txt := by rw [h2]; simp [txts]
  have hz : s.size = x.txt.length := by rw [← hl]; simp
  have h0 : 0 < s.size := by rw [hz]; cases x <;> simp [Stm.txt]
  refine ⟨h0, h1, ?_⟩
  have hc : s[0] = x.txt[0]'(by omega) := by
    have : s[0] = s.data.toList[0]'(by simpa using h0) := rfl
    rw [this]; simp only [hl]
  rw [hc]
  unfold plD
  rw [h]
  simp only [wfs, Bool.and_eq_true] at h3
  cases x with
  | chg g d =>
    have hg := h3.1
    simp only [Stm.wf, Bool.and_eq_true] at hg
    rcases sgn_cases hg.1 with rfl | rfl | rfl <;> simp [Stm.txt]
  | prt => simp [Stm.txt]
  | pro => simp [Stm.txt]
  | call c => simp [Stm.txt]
  | cho a b => simp [Stm.txt]

set_option maxHeartbeats 2000000 in
set_option maxRecDepth 100000 in
theorem spl_any (w : World) (s : ByteArray) (a : Option Addr) (n c : Nat) (zs : List As) (hA : Asps w a n zs) (hn : n + asT zs ≤ 1048576) (hs : s.size ≤ 1048576) :
    Calls Tryz.prog 19 #[.string s, .slice a n c] w fun e w' => e = .returned (plV s zs) ∧ Below w.heap.size w w' := by
  have HS := Lib.hid (spec_statements s w (by omega))
  have HR := Lib.hid (fun w' (hb : Below w.heap.size w w') => spl_around w' a n c zs (hA.later hb) hn)
  have HL := Lib.hid (fun w' (hb : Below w.heap.size w w') (hok : allOk zs = true) (h4 : s.size ≤ 400) => lpl_any w' s a n c zs (hA.later hb) hn (by unfold allOk at hok; rw [Bool.and_eq_true] at hok; exact hok.2) h4)
  have HF := Lib.hid (fun x => @one_first s x)
  clear hA hn
  go_enter Tryz.func19, Tryz.ntmps19
  go_wp2_with fail
  refine HS.out.mono ?_
  rintro e w1 ⟨v, b, xs, rfl, hx, hrow, hb1⟩
  have HB1 := Lib.hid hb1
  obtain ⟨a1, c1, rfl⟩ : ∃ a1 c1, v = .slice a1 xs.length c1 := by
    rcases hrow.2 with ⟨h1, h2⟩ | ⟨g, cap, cur, h1, _⟩
    · exact ⟨none, 0, by rw [h1, h2]⟩
    · exact ⟨_, _, h1⟩
  clear hrow hb1
  rcases hx.out with ⟨rfl, hno, rfl⟩ | ⟨rfl, hbo⟩
  · have HX := Lib.hid (show plV s zs = plN by unfold plV plD; rw [hno]; rfl)
    clear hx hno HL HR
    go_wp2_with fail
    go_ret2
    exact ⟨by rw [HX.out]; rfl, HB1.out⟩
  · by_cases h1 : xs.length = 1
    · obtain ⟨x, rfl⟩ : ∃ x, xs = [x] := List.length_eq_one_iff.1 h1
      obtain ⟨h0, h4, hd⟩ := HF.out x hbo
      clear hx HF h1 hbo
      have hi0 : (0 : Int) < (s.size : Int) := by omega
      cases hpd : plD s with
      | false =>
        have HX := Lib.hid (show plV s zs = plN by unfold plV; rw [hpd]; rfl)
        rw [hpd] at hd
        have hp : ((s[0].toNat : Int) == 80) = false := by
          rw [show ((s[0].toNat : Int) == 80) = (s[0] == 80) from toNat_beq s[0] 80]
          cases h : (s[0] == 80) with
          | false => rfl
          | true => rw [beq_iff_eq] at h; exact absurd (hd.2 (.inl h)) (by decide)
        have hc : ((s[0].toNat : Int) == 67) = false := by
          rw [show ((s[0].toNat : Int) == 67) = (s[0] == 67) from toNat_beq s[0] 67]
          cases h : (s[0] == 67) with
          | false => rfl
          | true => rw [beq_iff_eq] at h; exact absurd (hd.2 (.inr h)) (by decide)
        have hp' : ((s[0].toNat : Int) != 80) = true := by rw [bne, hp]; rfl
        have hc' : ((s[0].toNat : Int) != 67) = true := by rw [bne, hc]; rfl
        clear hd hpd HL HR hp hc
        go_wp2_with fail
        go_ret2
        exact ⟨by rw [HX.out]; rfl, HB1.out⟩
      | true =>
        have hd' := hd.1 hpd
        cases hok : allOk zs with
        | false =>
          have HX := Lib.hid (show plV s zs = plN by unfold plV; rw [hpd, hok]; rfl)
          rw [hok] at HR
          clear hd hpd HL hok
          rcases hd' with h8 | h8
          · have hp' : ((s[0].toNat : Int) != 80) = false := by rw [h8]; rfl
            clear h8
            go_wp2_with fail
            refine (HR.out _ HB1.out).mono ?_
            rintro e w2 ⟨rfl, hb2⟩
            have HB2 := Lib.hid (HB1.out.trans (hb2.mono HB1.out.size))
            clear hb2
            go_wp2_with fail
            go_ret2
            exact ⟨by rw [HX.out]; rfl, HB2.out⟩
          · have hp' : ((s[0].toNat : Int) != 80) = true := by rw [h8]; rfl
            have hc' : ((s[0].toNat : Int) != 67) = false := by rw [h8]; rfl
            clear h8
            go_wp2_with fail
            refine (HR.out _ HB1.out).mono ?_
            rintro e w2 ⟨rfl, hb2⟩
            have HB2 := Lib.hid (HB1.out.trans (hb2.mono HB1.out.size))
            clear hb2
            go_wp2_with fail
            go_ret2
            exact ⟨by rw [HX.out]; rfl, HB2.out⟩
        | true =>
          have HX := Lib.hid (show plV s zs = (match plU zs s.data.toList with
            | some o => .tuple #[.string (txtOf o), .bool true]
            | none => plN) by unfold plV; rw [hpd, hok]; rfl)
          have HQ := Lib.hid (fun w' (hb : Below w.heap.size w w') => HL.out w' hb hok h4)
          have HU := Lib.hid (fun o (h : plU zs s.data.toList = some o) => plU_le zs s.data.toList o (by simpa using h4) h)
          rw [hok] at HR
          clear hd hpd HL hok
          rcases hd' with h8 | h8
          case' inl =>
            have hp' : ((s[0].toNat : Int) != 80) = false := by rw [h8]; rfl
            clear h8
            go_wp2_with fail
          case' inr =>
            have hp' : ((s[0].toNat : Int) != 80) = true := by rw [h8]; rfl
            have hc' : ((s[0].toNat : Int) != 67) = false := by rw [h8]; rfl
            clear h8
            go_wp2_with fail
          all_goals
            refine (HR.out _ HB1.out).mono ?_
            rintro e w2 ⟨rfl, hb2⟩
            have HB2 := Lib.hid (HB1.out.trans (hb2.mono HB1.out.size))
            clear hb2
            go_wp2_with fail
            refine (HQ.out _ HB2.out).mono ?_
            rintro e w3 ⟨⟨t, rfl, ht1, ht2⟩, hb3⟩
            have HB3 := Lib.hid (HB2.out.trans (hb3.mono HB2.out.size))
            clear hb3
            generalize plU zs s.data.toList = u at *
            cases u with
            | none =>
              have htz := ht2 rfl
              have hti : (400 : Int) < (t.size : Int) := by omega
              clear ht1 ht2 HU HQ
              go_wp2_with fail
              go_ret2
              exact ⟨by rw [HX.out]; rfl, HB3.out⟩
            | some o =>
              have hto := ht1 o rfl
              have hol := HU.out o rfl
              have htz : t.size = o.length := by rw [hto]; rfl
              have hti : ¬ (400 : Int) < (t.size : Int) := by omega
              have HTO := Lib.hid hto
              clear ht1 ht2 HU HQ hto hol htz
              go_wp2_with fail
              go_ret2
              exact ⟨by rw [HX.out, HTO.out]; rfl, HB3.out⟩
    · have HX := Lib.hid (show plV s zs = plN by
        unfold plV plD; rw [hbo]
        rcases xs with _ | ⟨x, _ | ⟨y, ys⟩⟩
        · rfl
        · simp at h1
        · cases x <;> rfl)
      have h1i : ((xs.length : Int) == 1) = false := by rw [beq_eq_false_iff_ne]; omega
      clear hx hbo HL HR HF
      go_wp2_with fail
      go_ret2
      exact ⟨by rw [HX.out]; rfl, HB1.out⟩
end Go.Proofs.YtkdnbdgpcgookaaGreatDoor
