/- FormatNumbers of the program and of the model. Conditions: at most 2^20 numbers of the language, and the table of powers lies. -/
import Derived.Test.YthedbjdcnidelaaDoorDec
import Derived.Test.YthedbjdcnidelaaDoorInts
import Derived.Test.YthedbjdcnidelaaDoorTxt
import Derived.OwnWalk
import Derived.Deep.AppendLies
namespace Go.Proofs.YthedbjdcnidelaaDoor
open Go.RowKit Gram

/-- the numbers of a list in decimal, a space between two of them -/
def numsJ (zs : List Int) : List UInt8 := Lib.join (zs.map Lib.itoa) [32]
/-- the text of a list of numbers -/
def ntext (zs : List Int) : ByteArray := if zs = [] then ⟨#[45]⟩ else txtOf (numsJ zs)

theorem digits_some (u : Nat) : 0 < (Lib.decDigits u).length := by
  rw [Lib.decDigits]
  split <;> simp
theorem itoa_some (n : Int) : 0 < (Lib.itoa n).length := by
  by_cases h : n < 0
  · have : n = -((n.natAbs : Nat) : Int) := by omega
    rw [this, Lib.itoa_neg _ (by omega)]; simp
  · have : n = ((n.toNat : Nat) : Int) := by omega
    rw [this, Lib.itoa_nonneg]; exact digits_some _
theorem joinTail_snoc (r : List (List UInt8)) (y s : List UInt8) : Lib.joinTail s (r ++ [y]) = Lib.joinTail s r ++ (s ++ y) := by simp [Lib.joinTail]
theorem numsJ_take (zs : List Int) (k : Nat) (h : k < zs.length) : numsJ (zs.take (k + 1)) = (if k = 0 then [] else numsJ (zs.take k) ++ [32]) ++ Lib.itoa zs[k] := by
  unfold numsJ
  rw [List.take_succ_eq_append_getElem h, List.map_append]
  cases k with
  | zero => simp [Lib.join_one]
  | succ k =>
    rw [if_neg (by omega)]
    cases zs with
    | nil => simp at h
    | cons z t =>
      simp only [List.take_succ_cons, List.map_cons, List.cons_append, Lib.join_cons, List.map_nil]
      rw [joinTail_snoc]
      simp
theorem numsJ_len (zs : List Int) (hz : ∀ z ∈ zs, Int64 z) : (numsJ zs).length ≤ 22 * zs.length := by
  have key : ∀ (l : List Int), (∀ z ∈ l, Int64 z) → (Lib.joinTail [32] (l.map Lib.itoa)).length ≤ 22 * l.length := by
    intro l
    induction l with
    | nil => intro _; simp [Lib.joinTail]
    | cons z t ih =>
      intro h
      have h1 := Lib.itoa_length_le z (h z (by simp)).1 (h z (by simp)).2
      have h2 := ih fun y hy => h y (by simp [hy])
      simp only [Lib.joinTail, List.map_cons, List.flatten_cons, List.length_append, List.length_cons, List.length_nil] at h2 ⊢
      omega
  cases zs with
  | nil => simp [numsJ, Lib.join_nil]
  | cons z t =>
    have h1 := Lib.itoa_length_le z (hz z (by simp)).1 (hz z (by simp)).2
    have h2 := key t fun y hy => hz y (by simp [hy])
    rw [numsJ, List.map_cons, Lib.join_cons]
    simp only [List.length_append, List.length_cons]
    omega
theorem numsJ_some (zs : List Int) (h : zs ≠ []) : 0 < (numsJ zs).length := by
  cases zs with
  | nil => exact absurd rfl h
  | cons z t =>
    have := itoa_some z
    rw [numsJ, List.map_cons, Lib.join_cons]
    simp only [List.length_append]
    omega

theorem enters_itoa (args : Array Value) (w : World) : (callFunc 28 args).run Tryd.prog w = .ok (.enter 28 args) w :=
  enters_of Tryd.func28 (by kernel_rfl) rfl args w
theorem info_strN : (Tryd.prog.info? 9).map (fun i => (i.zero, i.size, i.bytes)) = some (some (.string ⟨#[]⟩), 1, 16) := by kernel_rfl
theorem rowN_form {w : World} {B k : Nat} {e : TypeId} {sz : Nat} {v : Value} {xs : List Value} (h : w.ownsRow B e sz v k xs) : ∃ a c, v = .slice a k c := by
  rcases h.2 with ⟨h1, h2⟩ | ⟨g, cap, cur, h1, _⟩
  · exact ⟨_, _, by rw [h1, h2]⟩
  · exact ⟨_, _, h1⟩
theorem rowN_below {w w' : World} {B n : Nat} {e : TypeId} {sz : Nat} {v : Value} {xs : List Value} (h : w.ownsRow B e sz v n xs) (hb : Below w.heap.size w w') : w'.ownsRow B e sz v n xs :=
  ownsRow_of h (fun k hk => hb.block k (h.lt k hk).2)
theorem grownN_over {w Z w5 : World} {o : Obj} {r : Option Nat} (hb : Below w.heap.size w Z) (hg : (Z.alloc o).grownBy w5 r) (hr : ∀ j, r = some j → w.heap.size ≤ j) : Below w.heap.size w w5 :=
  (hb.alloc hb.size o).grown hg (by rw [alloc_size']; have := hb.size; omega) hr
theorem grownN_none {w w5 : World} (hg : w.grownBy w5 none) : Below w.heap.size w w5 :=
  (Below.refl _ w).grown hg (Nat.le_refl _) (fun j hj => by cases hj)

/-- a row of decimal texts, joined -/
theorem joinN_row (zs : List Int) (hz : ∀ z ∈ zs, Int64 z) (hl : zs.length ≤ 1048576) (w : World) (B : Nat) (v : Value) (h : w.ownsRow B 9 1 v zs.length (zs.map fun z => .string (dec z))) (h0 : zs ≠ []) :
    Calls Tryd.prog 33 #[v, .string ⟨#[32]⟩] w fun e w' => e = .returned (.string (txtOf (numsJ zs))) ∧ Below w.heap.size w w' := by
  rcases h.2 with ⟨h1, h2⟩ | ⟨g, cap, cur, h1, _, hc, hle, _⟩
  · exact absurd (List.length_eq_zero_iff.1 h2) h0
  · subst h1
    have hcells := h.cells (g := g) rfl
    have hg := (h.lt g rfl).2
    have hlen := numsJ_len zs hz
    have hj : Lib.join ((zs.map dec).map (·.data.toList)) (⟨#[32]⟩ : ByteArray).data.toList = numsJ zs := by
      rw [numsJ, List.map_map]; rfl
    have hJ := Tryd.strings_Join g 0 cap (zs.map dec) ⟨#[32]⟩ w (fun j y hy => by
      have h3 := hcells j (.string y) (by
        rw [List.getElem?_map] at hy ⊢
        cases hq : zs[j]? with
        | none => rw [hq] at hy; cases hy
        | some q => rw [hq] at hy; simp at hy ⊢; exact hy)
      have hadd : (⟨g, 0, none⟩ : Addr).add j = ⟨g, 0 + j, none⟩ := by unfold Addr.add; split <;> simp_all
      rw [← hadd]; exact h3) hg (by rw [List.length_map]; omega) (by rw [List.length_map]; exact hle) (by rw [hj]; omega)
    rw [List.length_map, hj] at hJ
    exact hJ

set_option maxHeartbeats 2000000 in
set_option maxRecDepth 100000 in
theorem joined_any (w : World) (a : Option Addr) (n c : Nat) (zs : List Int) (hA : Ints w a n zs) (hn : n ≤ 1048576) (hz : ∀ z ∈ zs, Int64 z) (ht : Tab w) :
    Calls Tryd.prog 27 #[.slice a n c, .func (.func 28) #[] #[], .string ⟨#[32]⟩] w fun e w' => e = .returned (.string (ntext zs)) ∧ Below w.heap.size w w' := by
  obtain ⟨i0, hi, hz0, hz1, hz2⟩ := info_parts info_strN
  have hec := enters_itoa
  have HL := Lib.hid hA.len
  have HAt := Lib.hid hA.at_
  have HZ := Lib.hid hz
  have HTz := Lib.hid (fun z (h : Int64 z) w' hb => itoa_any z h w' (tab_later ht hb))
  by_cases h0 : n = 0
  · subst h0
    have HN := Lib.hid (show ntext zs = ⟨#[45]⟩ by rw [ntext, if_pos (List.length_eq_zero_iff.1 HL.out)])
    clear hA hz ht
    go_enter Tryd.func27, Tryd.ntmps27
    go_wp2_with fail
    go_ret
    exact ⟨by rw [HN.out]; rfl, Below.refl _ _⟩
  · have hne : zs ≠ [] := by
      intro h; rw [h] at HL; exact h0 HL.out.symm
    have hb0 : ((n : Int) == 0) = false := by rw [beq_eq_false_iff_ne]; omega
    have HN := Lib.hid (show ntext zs = txtOf (numsJ zs) by rw [ntext, if_neg hne])
    have HJ := Lib.hid (fun (w2 : World) v h => joinN_row zs hz (by rw [HL.out]; exact hn) w2 w.heap.size v h hne)
    rw [HL.out] at HJ
    clear hA hz ht hne h0
    go_enter Tryd.func27, Tryd.ntmps27
    go_wp2_with (at_make; refine wpList_make_own _ rfl _ _ 42 rfl w.heap.size 9 i0 (.string ⟨#[]⟩) 1 Tryd.underlying42 hi hz0 hz1 _ _ _ n rfl rfl rfl ?b2 ?b3 ?b4 ?_)
    case b2 => rw [hz2]; omega
    case b3 => unfold maxLen; omega
    case b4 => exact Nat.le_refl _
    intro w1 hrow1 hg1
    have HR1 := Lib.hid hrow1
    have HB1 := Lib.hid (grownN_none hg1)
    clear hrow1 hg1
    go_wp2_with fail
    go_loopw [7, 18] (fun v i wr => ∃ k : Nat, k ≤ n ∧ i = .int .i64 k ∧ Hid (wr.ownsRow w.heap.size 9 1 v k ((zs.take k).map fun z => .string (dec z))) ∧ Hid (Below w.heap.size w wr)) (fun _ i _ => n - (intOf i).toNat)
    case atStart => exact ⟨0, Nat.zero_le _, by go_num, HR1.out, HB1.out⟩
    case round =>
      obtain ⟨k, hk, rfl, hO, hb⟩ := hrel
      obtain ⟨va, vc, rfl⟩ := rowN_form hO.out
      by_cases hlt : k < n
      · have hzl : k < zs.length := by rw [HL.out]; omega
        obtain ⟨g, off, rfl, d1⟩ := HAt.out k hzl
        have c1 : wr.cell? ⟨g, off + k, none⟩ = some (.int .i64 zs[k]) := by rw [hb.out.cell (p := ⟨g, off + k, none⟩) (World.block_lt_of_cell? w _ d1)]; exact d1
        have HC := Lib.hid (HTz.out zs[k] (HZ.out _ (List.getElem_mem hzl)) wr hb.out)
        have HNx := Lib.hid (show ((zs.take (k + 1)).map fun z => Value.string (dec z)) = ((zs.take k).map fun z => Value.string (dec z)) ++ [.string (dec zs[k])] by
          rw [List.take_succ_eq_append_getElem hzl, List.map_append]; rfl)
        clear d1
        generalize dec zs[k] = dk at *
        generalize zs[k] = z at *
        go_wp2_with fail
        refine HC.out.mono ?_
        rintro e w4 ⟨rfl, hb4⟩
        have HO4 := Lib.hid (rowN_below hO.out hb4)
        have HB4 := Lib.hid (hb.out.trans (hb4.mono hb.out.size))
        clear hb4
        go_wp2_with (at_builtin; go_loud (refine wpList_append_lies _ rfl _ _ 42 rfl w.heap.size 9 i0 (.string ⟨#[]⟩) 1 16 Tryd.underlying42 hi hz0 hz1 hz2 rfl (by decide) (.slice va k vc) k _ rfl (HO4.out.alloc _) ⟨w4.heap.size, 0, none⟩ 1 1 [.string dk] rfl rfl (World.news_of_block (cs := #[.string dk]) (heap_alloc_new _ _)) (by intro u hu; simp at hu; subst hu; rfl) (by decide) (by unfold maxLen; omega) (by omega) (by rw [alloc_size']; have := HB4.out.size; omega) _ rfl ?_); intro g' cap' w5 hown' hgrow hat hlt')
        have HN5 := Lib.hid (And.intro hown' (grownN_over HB4.out hgrow (fun j hj => (HO4.out.lt j hj).1)))
        clear hown' hgrow hat hlt'
        go_wp2_with fail
        go_roundw
        case rel => exact ⟨k + 1, by omega, by go_num, by show World.ownsRow _ _ _ _ _ _ _; rw [HNx.out]; exact HN5.out.1, HN5.out.2⟩
        case measure => simp [intOf]; omega
      · have hkn : k = n := by omega
        subst hkn
        have hall : zs.take k = zs := List.take_of_length_le (by rw [HL.out]; exact Nat.le_refl _)
        rw [hall] at hO
        go_wp2_with fail
        refine (HJ.out wr _ hO.out).mono ?_
        rintro e w6 ⟨rfl, hb6⟩
        have HB6 := Lib.hid (hb.out.trans (hb6.mono hb.out.size))
        clear hb6
        go_wp2_with fail
        go_ret
        exact ⟨by rw [HN.out]; rfl, HB6.out⟩

set_option maxHeartbeats 400000 in
theorem impl_nums (w : World) (a : Option Addr) (n c : Nat) (zs : List Int) (hA : Ints w a n zs) (hn : n ≤ 1048576) (hz : ∀ z ∈ zs, Int64 z) (ht : Tab w) :
    Calls Tryd.prog 12 #[.slice a n c] w fun e w' => e = .returned (.string (ntext zs)) ∧ Below w.heap.size w w' := by
  have HF := Lib.hid (joined_any w a n c zs hA hn hz ht)
  clear hA hz ht
  go_enter Tryd.func12, Tryd.ntmps12
  go_wp2_with fail
  refine HF.out.mono ?_
  rintro e w1 ⟨rfl, hb⟩
  have HB := Lib.hid hb
  clear hb
  go_wp2_with fail
  go_ret
  exact ⟨rfl, HB.out⟩

set_option maxHeartbeats 2000000 in
set_option maxRecDepth 100000 in
theorem spec_nums (w : World) (a : Option Addr) (n c : Nat) (zs : List Int) (hA : Ints w a n zs) (hn : n ≤ 1048576) (hz : ∀ z ∈ zs, Int64 z) :
    Calls Tryd.prog 13 #[.slice a n c] w fun e w' => e = .returned (.string (ntext zs)) ∧ Below w.heap.size w w' := by
  have HL := Lib.hid hA.len
  have HAt := Lib.hid hA.at_
  have HZ := Lib.hid hz
  have HTz := Lib.hid (fun z (h : Int64 z) w' => dec_any z h w')
  have HLen := Lib.hid (fun k => numsJ_len (zs.take k) (fun z h => hz z (List.mem_of_mem_take h)))
  clear hA hz
  go_enter Tryd.func13, Tryd.ntmps13
  go_wp2_with fail
  go_loopw [3, 8] (fun v i wr => ∃ k : Nat, k ≤ n ∧ i = .int .i64 k ∧ v = .string (txtOf (numsJ (zs.take k))) ∧ Hid (Below w.heap.size w wr)) (fun _ i _ => n - (intOf i).toNat)
  case atStart => exact ⟨0, Nat.zero_le _, by go_num, rfl, Below.refl _ _⟩
  case round =>
    obtain ⟨k, hk, rfl, rfl, hb⟩ := hrel
    have hlk := HLen.out k
    rw [List.length_take] at hlk
    have hlk2 : (txtOf (numsJ (zs.take k))).size ≤ 22 * 1048576 := by rw [txtOf_size]; have := HL.out; omega
    clear hlk
    by_cases hlt : k < n
    · have hzl : k < zs.length := by rw [HL.out]; omega
      obtain ⟨g, off, rfl, d1⟩ := HAt.out k hzl
      have c1 : wr.cell? ⟨g, off + k, none⟩ = some (.int .i64 zs[k]) := by rw [hb.out.cell (p := ⟨g, off + k, none⟩) (World.block_lt_of_cell? w _ d1)]; exact d1
      have hds := dec_size zs[k] (HZ.out _ (List.getElem_mem hzl))
      have HC := Lib.hid (HTz.out zs[k] (HZ.out _ (List.getElem_mem hzl)))
      have HTk := Lib.hid (numsJ_take zs k hzl)
      clear d1
      by_cases h0 : k = 0
      · subst h0
        have c2 : wr.cell? ⟨g, off, none⟩ = some (.int .i64 zs[0]) := c1
        have e0 : txtOf (numsJ (zs.take 0)) = ⟨#[]⟩ := rfl
        have HT := Lib.hid (show txtOf (numsJ (zs.take (0 + 1))) = txtOf (numsJ (zs.take 0)) ++ dec zs[0] by
          rw [HTk.out, if_pos rfl]; apply ByteArray.ext; apply Array.ext'; simp [txtOf, dec, numsJ, Lib.join_nil])
        have e1 := str_sum (txtOf (numsJ (zs.take 0))) (dec zs[0]) (by omega)
        clear e0 hlk2 hds
        generalize txtOf (numsJ (zs.take 0)) = t0 at *
        generalize dec zs[0] = dk at *
        generalize zs[0] = z at *
        go_wp2_with fail
        refine (HC.out _).mono ?_
        rintro e w4 ⟨rfl, hb4⟩
        have HB4 := Lib.hid (hb.out.trans (hb4.mono hb.out.size))
        clear hb4
        go_wp2_with fail
        go_roundw
        case rel => exact ⟨0 + 1, by omega, by go_num, by rw [HT.out], HB4.out⟩
        case measure => simp [intOf]; omega
      · have hk0 : (0 : Int) < (k : Int) := by omega
        have HT := Lib.hid (show txtOf (numsJ (zs.take (k + 1))) = txtOf (numsJ (zs.take k)) ++ ⟨#[32]⟩ ++ dec zs[k] by
          rw [HTk.out, if_neg h0]; apply ByteArray.ext; apply Array.ext'; simp [txtOf, dec])
        have e0 := str_sum (txtOf (numsJ (zs.take k))) ⟨#[32]⟩ (by show _ + 1 ≤ _; omega)
        have e1 := str_sum (txtOf (numsJ (zs.take k)) ++ ⟨#[32]⟩) (dec zs[k]) (by rw [ByteArray.size_append]; show _ + 1 + _ ≤ _; omega)
        clear hlk2 hds h0
        generalize txtOf (numsJ (zs.take k)) = t0 at *
        generalize dec zs[k] = dk at *
        generalize zs[k] = z at *
        go_wp2_with fail
        refine (HC.out _).mono ?_
        rintro e w4 ⟨rfl, hb4⟩
        have HB4 := Lib.hid (hb.out.trans (hb4.mono hb.out.size))
        clear hb4
        go_wp2_with fail
        go_roundw
        case rel => exact ⟨k + 1, by omega, by go_num, by rw [HT.out], HB4.out⟩
        case measure => simp [intOf]; omega
    · have hkn : k = n := by omega
      subst hkn
      have hall : zs.take k = zs := List.take_of_length_le (by rw [HL.out]; exact Nat.le_refl _)
      rw [hall] at hlk2 ⊢
      by_cases h0 : zs = []
      · have HN := Lib.hid (show ntext zs = ⟨#[45]⟩ by rw [ntext, if_pos h0])
        have he : (txtOf (numsJ zs)).toList.isEmpty = true := by subst h0; exact text_none rfl
        generalize txtOf (numsJ zs) = t0 at *
        go_wp2_with fail
        go_ret
        exact ⟨by rw [HN.out]; rfl, hb.out⟩
      · have HN := Lib.hid (show ntext zs = txtOf (numsJ zs) by rw [ntext, if_neg h0])
        have he : (txtOf (numsJ zs)).toList.isEmpty = false := text_some (by rw [txtOf_size]; exact numsJ_some zs h0)
        generalize txtOf (numsJ zs) = t0 at *
        go_wp2_with fail
        go_ret
        exact ⟨by rw [HN.out]; rfl, hb.out⟩
end Go.Proofs.YthedbjdcnidelaaDoor
