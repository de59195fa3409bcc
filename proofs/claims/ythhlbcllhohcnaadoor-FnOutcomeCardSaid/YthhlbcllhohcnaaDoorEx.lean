/- The laws' eqOutcome, markOutcome and heldOutcome. Condition: lists of at most 2^20 numbers. SameOutcome of the program; the laws' wvNumbers and wvOutcome. Condition: lists of at most 2^20 numbers. Decimal texts, and FormatOutcome of the program. Condition: sizes of at most 2^20. The model's decimal text. No condition. FormatOutcome of the model. Condition: sizes of at most 2^20. SameOutcome of the model. Condition: lists of at most 2^20 numbers. Decimal texts of two numbers are the same only where the numbers are; a word ends at a space. Plain lemmas. -/
import Derived.Test.YthhlbcllhohcnaaDoorInts
import Derived.Test.YthhlbcllhohcnaaDoorRd
import Derived.Test.YthhlbcllhohcnaaDoorDx
import Derived.Deep.QuietTactic
import Derived.Test.YthhlbcllhohcnaaDoorBx
import Derived.Lib.ItoaLen
import Derived.Lib.SmallJoins
import Derived.Lib.LaidTab
namespace Go.Proofs.YthhlbcllhohcnaaDoor
open Go.RowKit

/-- an outcome as a value -/
def oV (v : Int) (a : Option Addr) (n c : Nat) (e : ByteArray) (st : Int) : Value := .agg #[.int .i64 v, .slice a n c, .string e, .int .i64 st]
/-- two outcomes that lie one behind the other -/
theorem two_lie {w w3 : World} {x0 x1 x2 x3 y0 y1 y2 y3 : Value} {t t' : TypeId} (hb : Below (w.heap.size + 1 + 1) ((w.alloc (Obj.cells #[x0, x1, x2, x3] t)).alloc (Obj.cells #[y0, y1, y2, y3] t')) w3) :
    w3.heap[w.heap.size]? = some (.cells #[x0, x1, x2, x3] t (0, 0)) ∧ w3.heap[w.heap.size + 1]? = some (.cells #[y0, y1, y2, y3] t' (0, 0)) ∧ Below w.heap.size w w3 := by
  have h0 := heap_alloc_new w (Obj.cells #[x0, x1, x2, x3] t)
  have h1 := heap_alloc_new (w.alloc (Obj.cells #[x0, x1, x2, x3] t)) (Obj.cells #[y0, y1, y2, y3] t')
  rw [alloc_size'] at h1
  refine ⟨(hb.block _ (by omega)).trans ((alloc_heap _ _ (by rw [alloc_size']; omega)).trans h0), (hb.block _ (by omega)).trans h1, ?_⟩
  exact (((Below.refl w.heap.size w).alloc (Nat.le_refl _) _).alloc (by rw [alloc_size']; omega) _).trans (hb.mono (by omega))
theorem read4 {w : World} {g : Nat} {x0 x1 x2 x3 : Value} {t : TypeId} (h : w.heap[g]? = some (.cells #[x0, x1, x2, x3] t (0, 0))) : w.cell? ⟨g, 0, none⟩ = some x0 ∧ w.cell? ⟨g, 1, none⟩ = some x1 ∧ w.cell? ⟨g, 2, none⟩ = some x2 ∧ w.cell? ⟨g, 3, none⟩ = some x3 := by
  refine ⟨?_, ?_, ?_, ?_⟩ <;> (rw [Lib.cell_of_heap h]; rfl)

/-- a row of numbers is a list of them -/
theorem ints_of {w : World} {B n c : Nat} {a : Option Addr} {zs : List Int} (h : w.ownsRow B 3 1 (.slice a n c) n (intVs zs)) : Ints w a n zs := by
  have hl : zs.length = n := by have := h.1; rw [intVs_len] at this; omega
  refine ⟨hl, fun i hi => ?_⟩
  rcases h.2 with ⟨h1, h2⟩ | ⟨g, cap, cur, h1, hb, hc, hm⟩
  · omega
  · injection h1 with h1 h2 h3
    subst h1; subst h3
    exact ⟨g, 0, rfl, by
      rw [Nat.zero_add]
      exact row_cell h i _ (by simp [intVs, hi])⟩

/-- numbers in order from k on, n of them, in front of what stands behind -/
def nums (k : Nat) (j : Nat) (zs : List Int) : List Int := (List.range' k j).map (fun i => ((i : Nat) : Int)) ++ zs.drop j
theorem nums_zero (k : Nat) (zs : List Int) : nums k 0 zs = zs := by simp [nums]
theorem nums_len (k j : Nat) (zs : List Int) (h : j ≤ zs.length) : (nums k j zs).length = zs.length := by simp [nums]; omega
theorem nums_get (k j : Nat) (zs : List Int) (i : Nat) (hi : i < j) : (nums k j zs)[i]? = some (((k + i : Nat)) : Int) := by
  unfold nums
  rw [List.getElem?_append_left (by simp; exact hi), List.getElem?_map, List.getElem?_range' hi]
  simp
theorem nums_set (k j : Nat) (zs : List Int) (h : j < zs.length) : (nums k j zs).set j ((k + j : Nat) : Int) = nums k (j + 1) zs := by
  apply List.ext_getElem?
  intro i
  rw [List.getElem?_set]
  by_cases hij : j = i
  · subst hij
    rw [if_pos rfl, if_pos (by rw [nums_len k j zs (by omega)]; exact h), nums_get k (j + 1) zs j (by omega)]
  · rw [if_neg hij]
    by_cases hlt : i < j
    · rw [nums_get k j zs i hlt, nums_get k (j + 1) zs i (by omega)]
    · unfold nums
      rw [List.getElem?_append_right (by simp; omega), List.getElem?_append_right (by simp; omega)]
      simp only [List.length_map, List.length_range', List.getElem?_drop]
      congr 1
      omega

theorem intVs_set (zs : List Int) (j : Nat) (x : Int) : intVs (zs.set j x) = (intVs zs).set j (.int .i64 x) := by simp [intVs, List.map_set]

end Go.Proofs.YthhlbcllhohcnaaDoor
namespace Go.Proofs.YthhlbcllhohcnaaDoor
open Go.RowKit

set_option maxHeartbeats 1000000 in
set_option maxRecDepth 100000 in
theorem equal_any (w : World) (a b : Option Addr) (n c m d : Nat) (zs ws : List Int) (hA : Ints w a n zs) (hB : Ints w b m ws) (hn : n ≤ 1099511627776) (hm : m ≤ 1099511627776) :
    Calls Tryd.prog 15 #[.slice a n c, .slice b m d] w fun e w' => e = .returned (.bool (zs == ws)) ∧ Below w.heap.size w w' := by
  have HA := Lib.hid hA
  have HB := Lib.hid hB
  by_cases hl : n = m
  · subst hl
    clear hA hB
    go_enter Tryd.func15, Tryd.ntmps15
    go_wp2_with fail
    go_loopw [13] (fun i wr => ∃ k : Nat, k ≤ n ∧ i = .int .i64 k ∧ Hid (zs.take k = ws.take k) ∧ Hid (Below w.heap.size w wr)) (fun i _ => n - (intOf i).toNat)
    case atStart => exact ⟨0, Nat.zero_le _, by go_num, rfl, Below.refl _ _⟩
    case round =>
      obtain ⟨k, hk, rfl, hE, hW⟩ := hrel
      by_cases hlt : k < n
      · have hz : k < zs.length := by rw [HA.out.len]; exact hlt
        have hw : k < ws.length := by rw [HB.out.len]; exact hlt
        obtain ⟨g, off, rfl, q1⟩ := HA.out.at_ k hz
        obtain ⟨g', off', rfl, q2⟩ := HB.out.at_ k hw
        have c1 : wr.cell? ⟨g, off + k, none⟩ = some (.int .i64 zs[k]) := by rw [hW.out.cell (p := ⟨g, off + k, none⟩) (World.block_lt_of_cell? w _ q1)]; exact q1
        have c2 : wr.cell? ⟨g', off' + k, none⟩ = some (.int .i64 ws[k]) := by rw [hW.out.cell (p := ⟨g', off' + k, none⟩) (World.block_lt_of_cell? w _ q2)]; exact q2
        have HT := Lib.hid (take_eq zs ws k hz hw)
        clear q1 q2
        have HNe := Lib.hid (fun (h : zs[k] ≠ ws[k]) => show (zs == ws) = false by
          rw [beq_eq_false_iff_ne]; rintro rfl; exact h rfl)
        generalize zs[k] = x at *
        generalize ws[k] = y at *
        cases hxy : (x == y) with
        | true =>
          have HX := Lib.hid (by simpa using hxy : x = y)
          go_wp2_with fail
          go_quiet (fail)
          go_wp2_with fail
          go_roundw
          case rel => exact ⟨k + 1, by omega, by go_num, HT.out.2 ⟨hE.out, HX.out⟩, hW.out.trans ⟨rfl, rfl, rfl, Nat.le_refl _, fun _ _ => rfl⟩⟩
          case measure => simp [intOf]; omega
        | false =>
          have HX := Lib.hid (HNe.out (by simpa using hxy))
          go_wp2_with fail
          go_quiet (fail)
          go_wp2_with fail
          go_ret
          exact ⟨ret_bool HX.out.symm, hW.out.trans ⟨rfl, rfl, rfl, Nat.le_refl _, fun _ _ => rfl⟩⟩
      · have HEq := Lib.hid (show (zs == ws) = true by
          have h := hE.out
          rw [List.take_of_length_le (by rw [HA.out.len]; omega), List.take_of_length_le (by rw [HB.out.len]; omega)] at h
          rw [h]; simp)
        go_wp2_with fail
        go_ret
        exact ⟨ret_bool HEq.out.symm, hW.out⟩
  · have hne : ((n : Int) == (m : Int)) = false := by rw [beq_eq_false_iff_ne]; omega
    have HN := Lib.hid (show (zs == ws) = false by
      rw [beq_eq_false_iff_ne]
      intro e
      have h1 := hA.len
      have h2 := hB.len
      rw [e] at h1
      omega)
    clear hA hB
    go_enter Tryd.func15, Tryd.ntmps15
    go_wp2_with fail
    go_ret
    exact ⟨by rw [HN.out]; rfl, Below.refl _ _⟩

/-- the same value, prints and end -/
def sameP (v v' : Int) (zs zs' : List Int) (e e' : ByteArray) : Bool := (v == v') && ((zs == zs') && (e.toList == e'.toList))

set_option maxHeartbeats 1000000 in
set_option maxRecDepth 100000 in
theorem impl_same (w : World) (v v' : Int) (a a' : Option Addr) (n c n' c' : Nat) (zs zs' : List Int) (e e' : ByteArray) (st st' : Int) (hA : Ints w a n zs) (hB : Ints w a' n' zs') (hn : n ≤ 1048576) (hn' : n' ≤ 1048576) :
    Calls Tryd.prog 6 #[oV v a n c e st, oV v' a' n' c' e' st'] w fun r w' => r = .returned (.bool (sameP v v' zs zs' e e')) ∧ Below w.heap.size w w' := by
  have HE := Lib.hid (fun w' hb => equal_any w' a a' n c n' c' zs zs' (hA.later hb) (hB.later hb) (by omega) (by omega))
  clear hA hB
  unfold oV
  by_cases hv : v = v'
  · subst hv
    have HS := Lib.hid (show sameP v v zs zs' e e' = ((zs == zs') && (e.toList == e'.toList)) by simp [sameP])
    rw [HS.out]
    cases hz : zs == zs' with
    | false =>
      rw [hz] at HE
      go_enter Tryd.func6, Tryd.ntmps6
      go_wp2_with fail
      refine (HE.out _ (((Below.refl w.heap.size w).alloc (Nat.le_refl _) _).alloc (by simp) _)).mono ?_
      rintro r w3 ⟨rfl, hb⟩
      rw [alloc_size', alloc_size'] at hb
      have HB := Lib.hid (two_lie hb).2.2
      clear hb
      go_wp2_with fail
      go_ret
      exact ⟨rfl, HB.out⟩
    | true =>
      rw [hz] at HE
      rw [Bool.true_and]
      go_enter Tryd.func6, Tryd.ntmps6
      go_wp2_with fail
      refine (HE.out _ (((Below.refl w.heap.size w).alloc (Nat.le_refl _) _).alloc (by simp) _)).mono ?_
      rintro r w3 ⟨rfl, hb⟩
      rw [alloc_size', alloc_size'] at hb
      obtain ⟨l0, l1, hB⟩ := two_lie hb
      have HB := Lib.hid hB
      obtain ⟨_, _, q2, _⟩ := read4 l0
      obtain ⟨_, _, r2, _⟩ := read4 l1
      clear hb l0 l1 hB
      go_wp2_with fail
      go_ret
      exact ⟨rfl, HB.out⟩
  · have hvb : (v == v') = false := by rw [beq_eq_false_iff_ne]; exact hv
    have HS := Lib.hid (show sameP v v' zs zs' e e' = false by rw [sameP, hvb]; rfl)
    rw [HS.out]
    clear hv
    go_enter Tryd.func6, Tryd.ntmps6
    go_wp2_with fail
    go_ret
    exact ⟨rfl, ((Below.refl w.heap.size w).alloc (Nat.le_refl _) _).alloc (by simp) _⟩


end Go.Proofs.YthhlbcllhohcnaaDoor
namespace Go.Proofs.YthhlbcllhohcnaaDoor
open Go.RowKit

/-- a number of the language -/
def Int64 (n : Int) : Prop := -9223372036854775808 ≤ n ∧ n ≤ 9223372036854775807
/-- its text -/
def dec (n : Int) : ByteArray := ⟨(Lib.itoa n).toArray⟩
theorem dec_size (n : Int) (h : Int64 n) : (dec n).size ≤ 21 := by
  have := Lib.itoa_length_le n h.1 h.2
  simpa [dec, ByteArray.size] using this
/-- the table of powers lies -/
abbrev Tab (w : World) : Prop := Lib.TabIs Tryd.prog w "internal/strconv.uint64pow10" .u64 Lib.pow10Tab
theorem tab_later {w w' : World} (h : Tab w) (hb : Below w.heap.size w w') : Tab w' := Go.Joins.tab_stays (g := 0) (by kernel_rfl) h hb (Nat.le_refl _)

theorem below_grow (w : World) (os : Array Obj) (k : Nat) : Below w.heap.size w (Go.Sort.grow (w.drewN k) os) :=
  ⟨rfl, rfl, rfl, by show w.heap.size ≤ (w.heap ++ os).size; rw [Array.size_append]; omega, fun _ hj => Go.Sort.heap_grow_old (w.drewN k) os hj⟩

theorem itoa_any (n : Int) (hn : Int64 n) (w : World) (ht : Tab w) :
    Calls Tryd.prog 17 #[.int .i64 n] w fun e w' => e = .returned (.string (dec n)) ∧ Below w.heap.size w w' :=
  (Tryd.strconv_Itoa n hn.1 hn.2 w ht).mono fun e w' ⟨h, k, os, hw⟩ => ⟨h, hw ▸ below_grow w os k⟩

def numsT (zs : List Int) : List UInt8 := zs.flatMap fun z => 32 :: Lib.itoa z
def headT (v : Int) : List UInt8 := Lib.itoa v ++ [58]

theorem isBuilder_later {w w' : World} {T e : TypeId} {B b : Nat} {bs : List Value} (h : Lib.IsBuilder T e B b bs w) (hk : ∀ k, k < w.heap.size → w'.heap[k]? = w.heap[k]?) : Lib.IsBuilder T e B b bs w' := by
  have key : ∀ p, Lib.BuilderAt T e B b p bs w → Lib.BuilderAt T e B b p bs w' := by
    rintro p ⟨h1, v, h2, h3, h4⟩
    exact ⟨h1, v, by rw [hk _ (heap_lt h2)]; exact h2, ownsRow_of h3 fun k hk' => hk k (h3.lt k hk').2, h4⟩
  exact h.imp (key _) (key _)

theorem numsT_take (zs : List Int) (k : Nat) (h : k < zs.length) : numsT (zs.take (k + 1)) = numsT (zs.take k) ++ (32 :: Lib.itoa zs[k]) := by
  unfold numsT
  rw [List.take_add_one, List.getElem?_eq_getElem h, List.flatMap_append]
  simp only [Option.toList, List.flatMap_cons, List.flatMap_nil, List.append_nil]
theorem numsT_len (zs : List Int) (hz : ∀ z ∈ zs, Int64 z) : (numsT zs).length ≤ 22 * zs.length := by
  induction zs with
  | nil => simp [numsT]
  | cons z zs ih =>
    have h1 := Lib.itoa_length_le z (hz z (by simp)).1 (hz z (by simp)).2
    have h2 := ih fun y hy => hz y (by simp [hy])
    have h3 : numsT (z :: zs) = (32 :: Lib.itoa z) ++ numsT zs := rfl
    rw [h3]
    simp only [List.length_append, List.length_cons]
    omega
theorem cells_lit (t : ByteArray) (l : List UInt8) (h : t.data.toList = l) : Lib.strCells t = Lib.byteCells l := by rw [Lib.strCells_eq, h]

theorem fin_facts {w w' : World} {x0 x1 x2 x3 : Value} {t : TypeId} (hb : Below (w.heap.size + 1) (w.alloc (Obj.cells #[x0, x1, x2, x3] t)) w') :
    w'.cell? ⟨w.heap.size, 2, none⟩ = some x2 ∧ w'.cell? ⟨w.heap.size, 3, none⟩ = some x3 ∧ Below (w.heap.size + 1) (w.alloc (Obj.cells #[x0, x1, x2, x3] t)) w' := by
  have q0 := hb.block w.heap.size (by omega)
  rw [heap_alloc_new] at q0
  obtain ⟨_, _, q2, q3⟩ := read4 q0
  exact ⟨q2, q3, hb⟩

set_option maxHeartbeats 1000000 in
set_option maxRecDepth 100000 in
theorem impl_fmt (w : World) (v : Int) (a : Option Addr) (n c : Nat) (zs : List Int) (e : ByteArray) (st : Int) (hA : Ints w a n zs) (hn : n ≤ 1048576) (he : e.size ≤ 1048576) (hv : Int64 v) (hst : Int64 st) (hz : ∀ z ∈ zs, Int64 z) (ht : Tab w) :
    Calls Tryd.prog 7 #[oV v a n c e st] w fun r w' => r = .returned (.string ⟨(headT v ++ numsT zs ++ (32 :: e.data.toList ++ 32 :: Lib.itoa st)).toArray⟩) ∧ Below w.heap.size w w' := by
  have HT := Lib.hid (fun w' hb => itoa_any v hv w' (tab_later ht hb))
  have HTs := Lib.hid (fun w' hb => itoa_any st hst w' (tab_later ht hb))
  have HTz := Lib.hid (fun z (h : Int64 z) w' hb => itoa_any z h w' (tab_later ht hb))
  have hdv := dec_size v hv
  have hds := dec_size st hst
  have z1 : (⟨#[58]⟩ : ByteArray).size = 1 := rfl
  have z2 : (⟨#[32]⟩ : ByteArray).size = 1 := rfl
  have e1 := str_add (dec v) ⟨#[58]⟩ (by omega)
  have e2 := str_add ⟨#[32]⟩ e (by omega)
  have e3 := str_add (⟨#[32]⟩ ++ e) ⟨#[32]⟩ (by simp; omega)
  have e4 := str_add (⟨#[32]⟩ ++ e ++ ⟨#[32]⟩) (dec st) (by simp; omega)
  have HL := Lib.hid hA.len
  have HAt := Lib.hid hA.at_
  have HN := Lib.hid hn
  have HE := Lib.hid he
  have HZ := Lib.hid hz
  have HNL := Lib.hid (fun k => numsT_len (zs.take k) (fun z h => hz z (List.mem_of_mem_take h)))
  have hh : (headT v).length ≤ 22 := by
    have := Lib.itoa_length_le v hv.1 hv.2
    simp [headT]; omega
  have HH := Lib.hid hh
  have HW := Lib.hid (fun (l : List UInt8) (t : ByteArray) (w' : World) (h : Lib.IsBuilder 40 5 (w.heap.size + 1) (w.heap.size + 1) (Lib.byteCells l) w') (h1 : l.length + t.size ≤ 140737488355328) (h2 : w.heap.size + 1 ≤ w'.heap.size) =>
    writeString_any (w.heap.size + 1) (w.heap.size + 1) (Lib.byteCells l) t w' h (by rw [Lib.byteCells_length]; exact h1) h2)
  have HD := Lib.hid hdv
  have HDs := Lib.hid hds
  clear z1 z2 hdv hds hA hn he hz ht hh hv hst
  unfold oV
  have hI0 := Lib.fresh_isBuilder 40 5 (w.alloc (Obj.cells #[.int .i64 v, .slice a n c, .string e, .int .i64 st] 25))
  rw [alloc_size'] at hI0
  have HI0 := Lib.hid hI0
  clear hI0
  go_enter Tryd.func7, Tryd.ntmps7
  go_wp2_with fail
  refine (HT.out _ (((Below.refl w.heap.size w).alloc (Nat.le_refl _) _).alloc (by simp) _)).mono ?_
  rintro r w2 ⟨rfl, hb⟩
  have HI2 := Lib.hid (isBuilder_later HI0.out fun j hj => hb.block j hj)
  rw [alloc_size', alloc_size'] at hb
  have HB2 := Lib.hid (((Below.refl (w.heap.size + 1) (w.alloc (Obj.cells #[.int .i64 v, .slice a n c, .string e, .int .i64 st] 25))).alloc (by rw [alloc_size']; exact Nat.le_refl _) (Obj.cells #[.pointer none, .slice none 0 0] 40)).trans (hb.mono (by omega)))
  clear hb HI0
  generalize hdv : dec v ++ ⟨#[58]⟩ = t0 at *
  have HT0 := Lib.hid (show Lib.strCells t0 = Lib.byteCells (headT v) ∧ t0.size ≤ 22 by
    subst hdv
    refine ⟨cells_lit _ _ (by simp [headT, dec]), ?_⟩
    have := HD.out
    rw [ByteArray.size_append]
    show _ + 1 ≤ 22
    omega)
  clear hdv
  have hsz2 := HB2.out.size
  rw [alloc_size'] at hsz2
  have HS2 := Lib.hid hsz2
  clear hsz2
  go_wp2_with fail
  refine (HW.out [] t0 _ HI2.out (by have := HT0.out.2; simp; omega) HS2.out).mono ?_
  rintro r w3 ⟨rfl, hI, hb⟩
  have HI3 := Lib.hid (show Lib.IsBuilder 40 5 (w.heap.size + 1) (w.heap.size + 1) (Lib.byteCells (headT v ++ numsT (zs.take 0))) w3 by
    rw [← show headT v = headT v ++ numsT (zs.take 0) by simp [numsT], ← HT0.out.1]; exact hI)
  have HB3 := Lib.hid (HB2.out.trans hb)
  have q0 := HB3.out.block w.heap.size (by omega)
  rw [heap_alloc_new] at q0
  obtain ⟨_, q1, _, _⟩ := read4 q0
  clear q0 hb hI HI2 HB2 HS2 e1
  go_wp2_with fail
  go_loopw [14] (fun i wr => ∃ k : Nat, k ≤ n ∧ i = .int .i64 k ∧ Hid (Lib.IsBuilder 40 5 (w.heap.size + 1) (w.heap.size + 1) (Lib.byteCells (headT v ++ numsT (zs.take k))) wr) ∧ Hid (Below (w.heap.size + 1) (w.alloc (Obj.cells #[.int .i64 v, .slice a n c, .string e, .int .i64 st] 25)) wr)) (fun i _ => n - (intOf i).toNat)
  case atStart => exact ⟨0, Nat.zero_le _, by go_num, HI3.out, HB3.out⟩
  case round =>
    obtain ⟨k, hk, rfl, hI, hB⟩ := hrel
    have hsz := hB.out.size
    rw [alloc_size'] at hsz
    have HSz := Lib.hid hsz
    have HBw := Lib.hid (show Below w.heap.size w wr from ((Below.refl w.heap.size w).alloc (Nat.le_refl _) _).trans (hB.out.mono (by omega)))
    have HNk := Lib.hid (show (headT v ++ numsT (zs.take k)).length ≤ 22 + 22 * 1048576 by
      have h1 := HNL.out k
      have h2 := HH.out
      have h3 := HL.out
      have h4 := HN.out
      rw [List.length_append]
      rw [List.length_take] at h1
      omega)
    clear hsz
    by_cases hlt : k < n
    · have hzl : k < zs.length := by rw [HL.out]; omega
      have hn1 : n ≤ 1048576 := HN.out
      obtain ⟨g, off, rfl, d1⟩ := HAt.out k hzl
      have c1 : wr.cell? ⟨g, off + k, none⟩ = some (.int .i64 zs[k]) := by rw [HBw.out.cell (p := ⟨g, off + k, none⟩) (World.block_lt_of_cell? w _ d1)]; exact d1
      have HC := Lib.hid (HTz.out zs[k] (HZ.out _ (List.getElem_mem hzl)) wr HBw.out)
      have HTk := Lib.hid (numsT_take zs k hzl)
      have HDk := Lib.hid (dec_size zs[k] (HZ.out _ (List.getElem_mem hzl)))
      have e5 := str_add ⟨#[32]⟩ (dec zs[k]) (by have := HDk.out; show 1 + _ ≤ _; omega)
      have HCl := Lib.hid (cells_lit (⟨#[32]⟩ ++ dec zs[k]) (32 :: Lib.itoa zs[k]) (by simp [dec]))
      have HCs := Lib.hid (show (⟨#[32]⟩ ++ dec zs[k] : ByteArray).size ≤ 22 by have := HDk.out; rw [ByteArray.size_append]; show 1 + _ ≤ 22; omega)
      have hkn : (k : Int) < (n : Int) := by omega
      clear d1
      generalize ⟨#[32]⟩ ++ dec zs[k] = tk at *
      generalize dec zs[k] = dk at *
      generalize zs[k] = z at *
      go_wp2_with fail
      refine HC.out.mono ?_
      rintro r w4 ⟨rfl, hb4⟩
      have HI4 := Lib.hid (isBuilder_later hI.out fun j hj => hb4.block j hj)
      have HB4 := Lib.hid (hB.out.trans (hb4.mono (by have := HSz.out; omega)))
      have HS4 := Lib.hid (Nat.le_trans HSz.out hb4.size)
      clear hb4
      go_wp2_with fail
      refine (HW.out _ tk _ HI4.out (by have := HNk.out; have := HCs.out; omega) HS4.out).mono ?_
      rintro r w5 ⟨rfl, hI5, hb5⟩
      have HI5 := Lib.hid hI5
      have HB5 := Lib.hid (HB4.out.trans hb5)
      clear hI5 hb5
      go_wp2_with fail
      go_roundw
      case rel =>
        refine ⟨k + 1, by omega, by go_num, ?_, HB5.out⟩
        show Lib.IsBuilder _ _ _ _ _ _
        rw [HTk.out, ← List.append_assoc, Lib.byteCells_append, ← HCl.out]
        exact HI5.out
      case measure => simp [intOf]; omega
    · have hkn : k = n := by omega
      subst hkn
      have hall : zs.take k = zs := List.take_of_length_le (by rw [HL.out]; exact Nat.le_refl _)
      have hI' := hI.out
      have hNk := HNk.out
      rw [hall] at hI' hNk
      have HI := Lib.hid hI'
      have HNk := Lib.hid hNk
      clear hI hI' hall hNk
      have HBd := Lib.hid hB.out.drew
      have HBwd := Lib.hid HBw.out.drew
      have HId := Lib.hid (show Lib.IsBuilder 40 5 (w.heap.size + 1) (w.heap.size + 1) (Lib.byteCells (headT v ++ numsT zs)) wr.drew from isBuilder_later HI.out fun _ _ => rfl)
      have HSd := Lib.hid (show w.heap.size + 1 ≤ wr.drew.heap.size from HSz.out)
      have hse : (⟨#[32]⟩ ++ e ++ ⟨#[32]⟩ ++ dec st : ByteArray).size ≤ 1048600 := by
        have h1 := HDs.out
        have h2 := HE.out
        rw [ByteArray.size_append, ByteArray.size_append, ByteArray.size_append]
        show 1 + _ + 1 + _ ≤ _
        omega
      have HCe := Lib.hid (And.intro hse (cells_lit (⟨#[32]⟩ ++ e ++ ⟨#[32]⟩ ++ dec st) (32 :: e.data.toList ++ 32 :: Lib.itoa st) (by simp [dec])))
      clear hse
      go_wp2_with fail
      go_region_held3 (fun w' => w'.cell? ⟨w.heap.size, 2, none⟩ = some (.string e) ∧ w'.cell? ⟨w.heap.size, 3, none⟩ = some (.int .i64 st) ∧ Below (w.heap.size + 1) (w.alloc (Obj.cells #[.int .i64 v, .slice a k c, .string e, .int .i64 st] 25)) w')
        ((first | assumption | exact fin_facts HBd.out | exact fin_facts HB6.out | exact fin_facts HB7.out))
        ((first
        | (go_at_call 17; refine (HTs.out _ HBwd.out).mono ?_
           rintro r w6 ⟨rfl, hb⟩
           have HI6 := Lib.hid (isBuilder_later HId.out fun j hj => hb.block j hj)
           have HB6 := Lib.hid (HBd.out.trans (hb.mono HSd.out))
           have HS6 := Lib.hid (Nat.le_trans HSd.out hb.size)
           clear hb)
        | (go_at_call 16; refine (HW.out _ _ _ HI6.out (by have := HNk.out; have := HCe.out.1; omega) HS6.out).mono ?_
           rintro r w7 ⟨rfl, hI7, hb⟩
           have HI7 := Lib.hid hI7
           have HB7 := Lib.hid (HB6.out.trans hb)
           have HS7 := Lib.hid (Nat.le_trans HS6.out hb.size)
           clear hI7 hb)))
      have HI8 := Lib.hid (show Lib.IsBuilder 40 5 (w.heap.size + 1) (w.heap.size + 1) (Lib.byteCells (headT v ++ numsT zs ++ (32 :: e.data.toList ++ 32 :: Lib.itoa st))) w7 by
        rw [Lib.byteCells_append, ← HCe.out.2]; exact HI7.out)
      go_wp2_with fail
      refine (Tryd.Builder_String_any (w.heap.size + 1) (w.heap.size + 1) _ _ HI8.out HS7.out).mono ?_
      rintro r w8 ⟨rfl, hb⟩
      have HB8 := Lib.hid (HB7.out.trans hb)
      clear hb
      go_wp2_with fail
      go_ret
      refine ⟨?_, ((Below.refl w.heap.size w).alloc (Nat.le_refl _) _).trans (HB8.out.mono (by omega))⟩
      show Ending.returned (.string ⟨(headT v ++ (numsT zs ++ 32 :: (e.data.toList ++ 32 :: Lib.itoa st))).toArray⟩) = _
      simp
end Go.Proofs.YthhlbcllhohcnaaDoor
namespace Go.Proofs.YthhlbcllhohcnaaDoor
open Go.RowKit

theorem dec_big (u : Nat) (h : 9 < u) : Lib.decDigits u = Lib.decDigits (u / 10) ++ [UInt8.ofNat (48 + u % 10)] := by
  rw [Lib.decDigits, dif_neg (by omega)]
theorem dec_small (u : Nat) (h : u ≤ 9) : Lib.decDigits u = [UInt8.ofNat (48 + u)] := by
  rw [Lib.decDigits, dif_pos (by omega)]

theorem bytes_cellsN {w : World} {b : Nat} {l : List UInt8} {e : TypeId} (hb : w.heap[b]? = some (.cells (l.map fun c => Value.int .u8 (c.toNat : Int)).toArray e (0, 0))) :
    ∀ j (hj : j < l.length), w.cell? ((⟨b, 0, none⟩ : Addr).add j) = some (.int .u8 (l[j].toNat : Int)) := fun j hj => by
  have hadd : (⟨b, 0, none⟩ : Addr).add j = ⟨b, j, none⟩ := by unfold Addr.add; split <;> simp_all
  rw [hadd, Lib.cell_of_heap hb]
  simp [hj]
theorem str1N (c : UInt8) (w : World) (n : Int) (hn : (c.toNat : Int) = n) :
    (convert 22 9 (.slice (some ⟨w.heap.size, 0, none⟩) 1 1)).run Tryd.prog (w.alloc (Obj.cells #[.int .u8 n] 5)) =
      .ok (.string ⟨#[c]⟩) (w.alloc (Obj.cells #[.int .u8 n] 5)) := by
  subst hn
  exact run_convert_bytes_back (P := Tryd.prog) _ 22 9 5 ⟨w.heap.size, 0, none⟩ 1 [c] Tryd.underlying22 Tryd.underlying5 Tryd.underlying9 (bytes_cellsN (e := 5) (heap_alloc_new _ _))
theorem add_cons (c : UInt8) (l : List UInt8) (h : l.length ≤ 1000) (w : World) : (Op.stringOp .add ⟨#[c]⟩ ⟨l.toArray⟩).run Tryd.prog w = .ok (.string ⟨(c :: l).toArray⟩) w := by
  rw [str_add ⟨#[c]⟩ ⟨l.toArray⟩ (by show 1 + l.toArray.size ≤ _; simp; omega) w]
  congr 2

set_option maxHeartbeats 1000000 in
set_option maxRecDepth 100000 in
theorem dec_nonneg (w : World) (u0 : Nat) (hu : u0 ≤ 9223372036854775807) :
    Calls Tryd.prog 19 #[.int .i64 u0] w fun r w' => r = .returned (.string ⟨(Lib.decDigits u0).toArray⟩) ∧ Below w.heap.size w w' := by
  have h0 : (0 : Int) ≤ (u0 : Int) := Int.natCast_nonneg _
  have h1 : ¬ (u0 : Int) < -9223372036854775807 := by omega
  have h2 : ¬ (u0 : Int) < 0 := by omega
  go_enter Tryd.func19, Tryd.ntmps19
  go_wp2_with fail
  go_loopw [0, 3] (fun x y wr => ∃ (u : Nat) (l : List UInt8), x = .int .i64 u ∧ y = .string ⟨l.toArray⟩ ∧ u ≤ 9223372036854775807 ∧ Hid (Lib.decDigits u0 = Lib.decDigits u ++ l) ∧ Hid (Below w.heap.size w wr)) (fun x _ _ => (intOf x).toNat)
  case atStart => exact ⟨u0, [], rfl, rfl, hu, by show _ = _ ++ []; simp, Below.refl _ _⟩
  case round =>
    obtain ⟨u, l, rfl, rfl, hu9, hE, hB⟩ := hrel
    clear h0 h1 h2
    have hu0 : (0 : Int) ≤ (u : Int) := Int.natCast_nonneg _
    have hll : l.length ≤ 20 := by
      have h1 := congrArg List.length hE.out
      have h2 := Lib.nDigits_le20 u0 (by omega)
      rw [Lib.decDigits_length, List.length_append] at h1
      omega
    by_cases hlt : 9 < u
    · have hlt1 : (9 : Int) < (u : Int) := by omega
      obtain ⟨cc, hcc⟩ : ∃ cc, cc = UInt8.ofNat (48 + u % 10) := ⟨_, rfl⟩
      have hc := str1N cc wr (48 + (u : Int) % 10) (by subst hcc; simp; omega)
      have ha := add_cons cc l (by omega)
      have HD := Lib.hid (show Lib.decDigits u0 = Lib.decDigits (u / 10) ++ (cc :: l) by
        rw [hE.out, dec_big u hlt, hcc]; simp)
      clear hcc
      go_wp2_with fail
      go_roundw
      case rel => exact ⟨u / 10, cc :: l, by go_num, rfl, by omega, HD.out, hB.out.alloc hB.out.size _⟩
      case measure => simp [intOf]; omega
    · have hlt1 : ¬ (9 : Int) < (u : Int) := by omega
      obtain ⟨cc, hcc⟩ : ∃ cc, cc = UInt8.ofNat (48 + u) := ⟨_, rfl⟩
      have hc := str1N cc wr (48 + (u : Int)) (by subst hcc; simp; omega)
      have ha := add_cons cc l (by omega)
      have HD := Lib.hid (show Lib.decDigits u0 = cc :: l by
        rw [hE.out, dec_small u (by omega), hcc]; rfl)
      clear hcc
      go_wp2_with fail
      go_ret
      exact ⟨by rw [HD.out]; rfl, hB.out.alloc hB.out.size _⟩

theorem dec_min : dec (-9223372036854775808) = ⟨#[45, 57, 50, 50, 51, 51, 55, 50, 48, 51, 54, 56, 53, 52, 55, 55, 53, 56, 48, 56]⟩ := by
  unfold dec
  rw [show (-9223372036854775808 : Int) = -((9223372036854775808 : Nat) : Int) from rfl, Lib.itoa_neg _ (by decide)]
  repeat rw [dec_big _ (by decide)]
  rw [dec_small _ (by decide)]
  rfl

set_option maxHeartbeats 1000000 in
set_option maxRecDepth 100000 in
theorem dec_any (n : Int) (hn : Int64 n) (w : World) :
    Calls Tryd.prog 19 #[.int .i64 n] w fun r w' => r = .returned (.string (dec n)) ∧ Below w.heap.size w w' := by
  obtain ⟨h1, h2⟩ := hn
  by_cases hneg : n < 0
  · by_cases hmin : n < -9223372036854775807
    · have : n = -9223372036854775808 := by omega
      subst this
      go_enter Tryd.func19, Tryd.ntmps19
      go_wp2_with fail
      go_ret
      exact ⟨by rw [dec_min]; rfl, Below.refl _ _⟩
    · obtain ⟨u, rfl⟩ : ∃ u : Nat, n = -(u : Int) := ⟨n.natAbs, by omega⟩
      have HN := Lib.hid (fun w => dec_nonneg w u (by omega))
      have HD := Lib.hid (show dec (-(u : Int)) = ⟨#[45]⟩ ++ ⟨(Lib.decDigits u).toArray⟩ by
        unfold dec
        rw [Lib.itoa_neg u (by omega)]
        apply ByteArray.ext
        apply Array.ext'
        simp)
      have hsz : (Lib.decDigits u).length ≤ 20 := by
        have h2 := Lib.nDigits_le20 u (by omega)
        rw [Lib.decDigits_length]
        omega
      have ha := str_add ⟨#[45]⟩ ⟨(Lib.decDigits u).toArray⟩ (by show 1 + (Lib.decDigits u).toArray.size ≤ _; simp; omega)
      clear hsz
      generalize Lib.decDigits u = du at *
      go_enter Tryd.func19, Tryd.ntmps19
      go_wp2_with fail
      refine (HN.out _).mono ?_
      rintro r w2 ⟨rfl, hb⟩
      have HB := Lib.hid hb
      clear hb
      go_wp2_with fail
      go_ret
      exact ⟨by rw [HD.out]; rfl, HB.out⟩
  · obtain ⟨u, rfl⟩ : ∃ u : Nat, n = (u : Int) := ⟨n.toNat, by omega⟩
    have := dec_nonneg w u (by omega)
    unfold dec
    rw [Lib.itoa_nonneg]
    exact this
end Go.Proofs.YthhlbcllhohcnaaDoor
namespace Go.Proofs.YthhlbcllhohcnaaDoor
open Go.RowKit

theorem str_to (x y z : ByteArray) (h : x.size + y.size ≤ 9223372036854775807) (hz : x ++ y = z) (w : World) : (Op.stringOp .add x y).run Tryd.prog w = .ok (.string z) w := by
  rw [str_add x y h w, hz]

set_option maxHeartbeats 1000000 in
set_option maxRecDepth 100000 in
theorem spec_fmt (w : World) (v : Int) (a : Option Addr) (n c : Nat) (zs : List Int) (e : ByteArray) (st : Int) (hA : Ints w a n zs) (hn : n ≤ 1048576) (he : e.size ≤ 1048576) (hv : Int64 v) (hst : Int64 st) (hz : ∀ z ∈ zs, Int64 z) :
    Calls Tryd.prog 9 #[oV v a n c e st] w fun r w' => r = .returned (.string ⟨(headT v ++ numsT zs ++ (32 :: e.data.toList ++ 32 :: Lib.itoa st)).toArray⟩) ∧ Below w.heap.size w w' := by
  have HT := Lib.hid (fun w' => dec_any v hv w')
  have HTs := Lib.hid (fun w' => dec_any st hst w')
  have HTz := Lib.hid (fun z (h : Int64 z) w' => dec_any z h w')
  have hdv := dec_size v hv
  have hds := dec_size st hst
  have z1 : (⟨#[58]⟩ : ByteArray).size = 1 := rfl
  have z2 : (⟨#[32]⟩ : ByteArray).size = 1 := rfl
  have e1 := str_add (dec v) ⟨#[58]⟩ (by omega)
  have HL := Lib.hid hA.len
  have HAt := Lib.hid hA.at_
  have HN := Lib.hid hn
  have HE := Lib.hid he
  have HZ := Lib.hid hz
  have HNL := Lib.hid (fun k => numsT_len (zs.take k) (fun z h => hz z (List.mem_of_mem_take h)))
  have hh : (headT v).length ≤ 22 := by
    have := Lib.itoa_length_le v hv.1 hv.2
    simp [headT]; omega
  have HH := Lib.hid hh
  have HD := Lib.hid hdv
  have HDs := Lib.hid hds
  have HH0 := Lib.hid (show dec v ++ ⟨#[58]⟩ = ⟨(headT v ++ numsT (zs.take 0)).toArray⟩ by
    apply ByteArray.ext; apply Array.ext'; simp [dec, headT, numsT])
  clear z1 z2 hdv hds hA hn he hz hh hv hst
  unfold oV
  go_enter Tryd.func9, Tryd.ntmps9
  go_wp2_with fail
  refine (HT.out _).mono ?_
  rintro r w2 ⟨rfl, hb⟩
  rw [alloc_size'] at hb
  have HB2 := Lib.hid hb
  have q0 := hb.block w.heap.size (by omega)
  rw [heap_alloc_new] at q0
  obtain ⟨_, q1, _, _⟩ := read4 q0
  clear q0 hb
  generalize dec v ++ ⟨#[58]⟩ = t0 at *
  go_wp2_with fail
  go_loopw [3, 13] (fun o i wr => ∃ k : Nat, k ≤ n ∧ i = .int .i64 k ∧ o = .string ⟨(headT v ++ numsT (zs.take k)).toArray⟩ ∧ Hid (Below (w.heap.size + 1) (w.alloc (Obj.cells #[.int .i64 v, .slice a n c, .string e, .int .i64 st] 25)) wr)) (fun _ i _ => n - (intOf i).toNat)
  case atStart => exact ⟨0, Nat.zero_le _, by go_num, by rw [HH0.out], HB2.out⟩
  case round =>
    obtain ⟨k, hk, rfl, rfl, hB⟩ := hrel
    have hsz := hB.out.size
    rw [alloc_size'] at hsz
    have HSz := Lib.hid hsz
    have HBw := Lib.hid (show Below w.heap.size w wr from ((Below.refl w.heap.size w).alloc (Nat.le_refl _) _).trans (hB.out.mono (by omega)))
    have HNk := Lib.hid (show (headT v ++ numsT (zs.take k)).length ≤ 22 + 22 * 1048576 by
      have h1 := HNL.out k
      have h2 := HH.out
      have h3 := HL.out
      have h4 := HN.out
      rw [List.length_append]
      rw [List.length_take] at h1
      omega)
    clear hsz
    obtain ⟨acc, hacc⟩ : ∃ acc : ByteArray, acc = ⟨(headT v ++ numsT (zs.take k)).toArray⟩ := ⟨_, rfl⟩
    have HAc := Lib.hid hacc
    have has : acc.size ≤ 22 + 22 * 1048576 := by
      have := HNk.out
      rw [hacc]
      show (headT v ++ numsT (zs.take k)).toArray.size ≤ _
      rw [List.size_toArray]; exact this
    have HAs := Lib.hid has
    rw [← hacc]
    clear hacc has
    have e2 := str_add acc ⟨#[32]⟩ (by have := HAs.out; show _ + 1 ≤ _; omega)
    by_cases hlt : k < n
    · have hzl : k < zs.length := by rw [HL.out]; omega
      have hn1 : n ≤ 1048576 := HN.out
      obtain ⟨g, off, rfl, d1⟩ := HAt.out k hzl
      have c1 : wr.cell? ⟨g, off + k, none⟩ = some (.int .i64 zs[k]) := by rw [HBw.out.cell (p := ⟨g, off + k, none⟩) (World.block_lt_of_cell? w _ d1)]; exact d1
      have HC := Lib.hid (HTz.out zs[k] (HZ.out _ (List.getElem_mem hzl)) wr)
      have HDk := Lib.hid (dec_size zs[k] (HZ.out _ (List.getElem_mem hzl)))
      have HR := Lib.hid (show acc ++ ⟨#[32]⟩ ++ dec zs[k] = ⟨(headT v ++ numsT (zs.take (k + 1))).toArray⟩ by
        rw [HAc.out, numsT_take zs k hzl]
        apply ByteArray.ext; apply Array.ext'; simp [dec])
      have e5 := str_add (acc ++ ⟨#[32]⟩) (dec zs[k]) (by have := HDk.out; have := HAs.out; rw [ByteArray.size_append]; show _ + 1 + _ ≤ _; omega)
      have hkn : (k : Int) < (n : Int) := by omega
      clear d1
      generalize dec zs[k] = dk at *
      generalize zs[k] = z at *
      go_wp2_with fail
      refine HC.out.mono ?_
      rintro r w4 ⟨rfl, hb4⟩
      have HB4 := Lib.hid (hB.out.trans (hb4.mono (by have := HSz.out; omega)))
      clear hb4
      go_wp2_with fail
      go_roundw
      case rel => exact ⟨k + 1, by omega, by go_num, by rw [HR.out], HB4.out⟩
      case measure => simp [intOf]; omega
    · have hkn : k = n := by omega
      subst hkn
      have hall : zs.take k = zs := List.take_of_length_le (by rw [HL.out]; exact Nat.le_refl _)
      have HBd := Lib.hid hB.out.drew
      have HSd := Lib.hid (show w.heap.size + 1 ≤ wr.drew.heap.size from HSz.out)
      have HR := Lib.hid (show acc ++ ⟨#[32]⟩ ++ e ++ ⟨#[32]⟩ ++ dec st = ⟨(headT v ++ numsT zs ++ (32 :: e.data.toList ++ 32 :: Lib.itoa st)).toArray⟩ by
        rw [HAc.out, hall]
        apply ByteArray.ext; apply Array.ext'; simp [dec])
      have e3 := str_add (acc ++ ⟨#[32]⟩) e (by have := HE.out; have := HAs.out; rw [ByteArray.size_append]; show _ + 1 + _ ≤ _; omega)
      have e4 := str_add (acc ++ ⟨#[32]⟩ ++ e) ⟨#[32]⟩ (by have := HE.out; have := HAs.out; rw [ByteArray.size_append, ByteArray.size_append]; show _ + 1 + _ + 1 ≤ _; omega)
      have e5 := str_add (acc ++ ⟨#[32]⟩ ++ e ++ ⟨#[32]⟩) (dec st) (by have := HE.out; have := HAs.out; have := HDs.out; rw [ByteArray.size_append, ByteArray.size_append, ByteArray.size_append]; show _ + 1 + _ + 1 + _ ≤ _; omega)
      clear hall
      generalize dec st = ds at *
      go_wp2_with fail
      go_region_held3 (fun w' => w'.cell? ⟨w.heap.size, 2, none⟩ = some (.string e) ∧ w'.cell? ⟨w.heap.size, 3, none⟩ = some (.int .i64 st) ∧ Below (w.heap.size + 1) (w.alloc (Obj.cells #[.int .i64 v, .slice a k c, .string e, .int .i64 st] 25)) w')
        ((first | assumption | exact fin_facts HBd.out | exact fin_facts HB6.out))
        ((first
        | (go_at_call 19; refine (HTs.out _).mono ?_
           rintro r w6 ⟨rfl, hb⟩
           have HB6 := Lib.hid (HBd.out.trans (hb.mono HSd.out))
           clear hb)))
      go_wp2_with fail
      go_ret
      refine ⟨?_, ((Below.refl w.heap.size w).alloc (Nat.le_refl _) _).trans (HB6.out.mono (by omega))⟩
      show Ending.returned (.string (acc ++ ⟨#[32]⟩ ++ e ++ ⟨#[32]⟩ ++ ds)) = _
      rw [HR.out]
      simp
end Go.Proofs.YthhlbcllhohcnaaDoor
namespace Go.Proofs.YthhlbcllhohcnaaDoor
open Go.RowKit

set_option maxHeartbeats 1000000 in
set_option maxRecDepth 100000 in
theorem spec_same (w : World) (v v' : Int) (a a' : Option Addr) (n c n' c' : Nat) (zs zs' : List Int) (e e' : ByteArray) (st st' : Int) (hA : Ints w a n zs) (hB : Ints w a' n' zs') (hn : n ≤ 1048576) (hn' : n' ≤ 1048576) :
    Calls Tryd.prog 8 #[oV v a n c e st, oV v' a' n' c' e' st'] w fun r w' => r = .returned (.bool (sameP v v' zs zs' e e')) ∧ Below w.heap.size w w' := by
  have HA := Lib.hid hA
  have HB := Lib.hid hB
  clear hA hB
  unfold oV
  go_enter Tryd.func8, Tryd.ntmps8
  by_cases hle : n ≤ n'
  · have hle1 : (n : Int) ≤ (n' : Int) := by omega
    have hmin : n ≤ n' := hle
    go_wp2_with fail
    go_loopw [13] (fun i wr => ∃ k : Nat, k ≤ n ∧ i = .int .i64 k ∧ Hid (zs.take k = zs'.take k) ∧ Hid (Below (w.heap.size + 1 + 1) ((w.alloc (Obj.cells #[.int .i64 v, .slice a n c, .string e, .int .i64 st] 25)).alloc (Obj.cells #[.int .i64 v', .slice a' n' c', .string e', .int .i64 st'] 25)) wr)) (fun i _ => n - (intOf i).toNat)
    case atStart => exact ⟨0, Nat.zero_le _, by go_num, rfl, Below.refl _ _⟩
    case round =>
      obtain ⟨k, hk, rfl, hE, hW⟩ := hrel
      obtain ⟨l0, l1, hB0⟩ := two_lie hW.out
      obtain ⟨q0, q1, q2, _⟩ := read4 l0
      obtain ⟨r0, r1, r2, _⟩ := read4 l1
      have HBw := Lib.hid hB0
      clear l0 l1
      by_cases hlt : k < n
      · have hz : k < zs.length := by rw [HA.out.len]; omega
        have hw : k < zs'.length := by rw [HB.out.len]; omega
        obtain ⟨g, off, rfl, d1⟩ := HA.out.at_ k hz
        obtain ⟨g', off', rfl, d2⟩ := HB.out.at_ k hw
        have c1 : wr.cell? ⟨g, off + k, none⟩ = some (.int .i64 zs[k]) := by rw [hB0.cell (p := ⟨g, off + k, none⟩) (World.block_lt_of_cell? w _ d1)]; exact d1
        have c2 : wr.cell? ⟨g', off' + k, none⟩ = some (.int .i64 zs'[k]) := by rw [hB0.cell (p := ⟨g', off' + k, none⟩) (World.block_lt_of_cell? w _ d2)]; exact d2
        have hkn : (k : Int) < (n : Int) := by omega
        have hkn' : (k : Int) < (n' : Int) := by omega
        have hknn : k < n := by omega
        have hknn' : k < n' := by omega
        have HT := Lib.hid (take_eq zs zs' k hz hw)
        have HNe := Lib.hid (fun (h : zs[k] ≠ zs'[k]) => show (zs == zs') = false by
          rw [beq_eq_false_iff_ne]; rintro rfl; exact h rfl)
        clear d1 d2 hB0
        generalize zs[k] = x at *
        generalize zs'[k] = y at *
        cases hxy : (x == y) with
        | true =>
          have HX := Lib.hid (by simpa using hxy : x = y)
          go_wp2_with fail
          go_quiet (fail)
          go_wp2_with fail
          go_roundw
          case rel => exact ⟨k + 1, by omega, by go_num, HT.out.2 ⟨hE.out, HX.out⟩, hW.out.trans ⟨rfl, rfl, rfl, Nat.le_refl _, fun _ _ => rfl⟩⟩
          case measure => simp [intOf]; omega
        | false =>
          have HX := Lib.hid (show sameP v v' zs zs' e e' = false by rw [sameP, HNe.out (by simpa using hxy)]; simp)
          go_wp2_with fail
          go_quiet (fail)
          go_wp2_with fail
          go_ret
          exact ⟨ret_bool HX.out.symm, HBw.out.trans ⟨rfl, rfl, rfl, Nat.le_refl _, fun _ _ => rfl⟩⟩
      · by_cases hnn : n = n'
        · have HS := Lib.hid (show sameP v v' zs zs' e e' = ((v == v') && (e.toList == e'.toList)) by
            have h := hE.out
            rw [List.take_of_length_le (by rw [HA.out.len]; omega), List.take_of_length_le (by rw [HB.out.len]; omega)] at h
            rw [sameP, h]; simp)
          subst hnn
          cases hv : v == v' with
          | true =>
            go_wp2_with fail
            go_ret
            exact ⟨ret_bool (by rw [HS.out]; simp_all), HBw.out⟩
          | false =>
            go_wp2_with fail
            go_ret
            exact ⟨ret_bool (by rw [HS.out]; simp_all), HBw.out⟩
        · have HS := Lib.hid (show sameP v v' zs zs' e e' = false by
            rw [sameP, show (zs == zs') = false by
              rw [beq_eq_false_iff_ne]
              rintro rfl
              exact hnn (HA.out.len.symm.trans HB.out.len)]
            simp)
          have hnb : ((n : Int) == (n' : Int)) = false := by rw [beq_eq_false_iff_ne]; omega
          go_wp2_with fail
          go_ret
          exact ⟨ret_bool HS.out.symm, HBw.out⟩
  · have hle1 : ¬ (n : Int) ≤ (n' : Int) := by omega
    have hle2 : ¬ (n : Int) < (n' : Int) := by omega
    have hle3 : (n' : Int) < (n : Int) := by omega
    go_wp2_with fail
    go_loopw [13] (fun i wr => ∃ k : Nat, k ≤ n' ∧ i = .int .i64 k ∧ Hid (zs.take k = zs'.take k) ∧ Hid (Below (w.heap.size + 1 + 1) ((w.alloc (Obj.cells #[.int .i64 v, .slice a n c, .string e, .int .i64 st] 25)).alloc (Obj.cells #[.int .i64 v', .slice a' n' c', .string e', .int .i64 st'] 25)) wr)) (fun i _ => n' - (intOf i).toNat)
    case atStart => exact ⟨0, Nat.zero_le _, by go_num, rfl, Below.refl _ _⟩
    case round =>
      obtain ⟨k, hk, rfl, hE, hW⟩ := hrel
      obtain ⟨l0, l1, hB0⟩ := two_lie hW.out
      obtain ⟨q0, q1, q2, _⟩ := read4 l0
      obtain ⟨r0, r1, r2, _⟩ := read4 l1
      have HBw := Lib.hid hB0
      clear l0 l1
      by_cases hlt : k < n'
      · have hz : k < zs.length := by rw [HA.out.len]; omega
        have hw : k < zs'.length := by rw [HB.out.len]; omega
        obtain ⟨g, off, rfl, d1⟩ := HA.out.at_ k hz
        obtain ⟨g', off', rfl, d2⟩ := HB.out.at_ k hw
        have c1 : wr.cell? ⟨g, off + k, none⟩ = some (.int .i64 zs[k]) := by rw [hB0.cell (p := ⟨g, off + k, none⟩) (World.block_lt_of_cell? w _ d1)]; exact d1
        have c2 : wr.cell? ⟨g', off' + k, none⟩ = some (.int .i64 zs'[k]) := by rw [hB0.cell (p := ⟨g', off' + k, none⟩) (World.block_lt_of_cell? w _ d2)]; exact d2
        have hkn : (k : Int) < (n : Int) := by omega
        have hkn' : (k : Int) < (n' : Int) := by omega
        have hknn : k < n := by omega
        have hknn' : k < n' := by omega
        have HT := Lib.hid (take_eq zs zs' k hz hw)
        have HNe := Lib.hid (fun (h : zs[k] ≠ zs'[k]) => show (zs == zs') = false by
          rw [beq_eq_false_iff_ne]; rintro rfl; exact h rfl)
        clear d1 d2 hB0
        generalize zs[k] = x at *
        generalize zs'[k] = y at *
        cases hxy : (x == y) with
        | true =>
          have HX := Lib.hid (by simpa using hxy : x = y)
          go_wp2_with fail
          go_quiet (fail)
          go_wp2_with fail
          go_roundw
          case rel => exact ⟨k + 1, by omega, by go_num, HT.out.2 ⟨hE.out, HX.out⟩, hW.out.trans ⟨rfl, rfl, rfl, Nat.le_refl _, fun _ _ => rfl⟩⟩
          case measure => simp [intOf]; omega
        | false =>
          have HX := Lib.hid (show sameP v v' zs zs' e e' = false by rw [sameP, HNe.out (by simpa using hxy)]; simp)
          go_wp2_with fail
          go_quiet (fail)
          go_wp2_with fail
          go_ret
          exact ⟨ret_bool HX.out.symm, HBw.out.trans ⟨rfl, rfl, rfl, Nat.le_refl _, fun _ _ => rfl⟩⟩
      · have hnn : ¬ n = n' := by omega
        have HS := Lib.hid (show sameP v v' zs zs' e e' = false by
          rw [sameP, show (zs == zs') = false by
            rw [beq_eq_false_iff_ne]
            rintro rfl
            exact hnn (HA.out.len.symm.trans HB.out.len)]
          simp)
        have hnb : ((n : Int) == (n' : Int)) = false := by rw [beq_eq_false_iff_ne]; omega
        go_wp2_with fail
        go_ret
        exact ⟨ret_bool HS.out.symm, HBw.out⟩
end Go.Proofs.YthhlbcllhohcnaaDoor
namespace Go.Proofs.YthhlbcllhohcnaaDoor
open Go.RowKit

theorem digits_some (u : Nat) : 0 < (Lib.decDigits u).length := by
  rw [Lib.decDigits]
  split <;> simp
theorem itoa_some (n : Int) : 0 < (Lib.itoa n).length := by
  by_cases h : n < 0
  · have : n = -((n.natAbs : Nat) : Int) := by omega
    rw [this, Lib.itoa_neg _ (by omega)]; simp
  · have : n = ((n.toNat : Nat) : Int) := by omega
    rw [this, Lib.itoa_nonneg]; exact digits_some _
theorem digit_in (u : Nat) : ∀ d ∈ Lib.decDigits u, 48 ≤ d.toNat ∧ d.toNat ≤ 57 := by
  induction u using Nat.strongRecOn with
  | ind u ih =>
    by_cases h : u ≤ 9
    · intro d hd
      rw [dec_small u h, List.mem_singleton] at hd
      subst hd
      simp; omega
    · intro d hd
      rw [dec_big u (by omega), List.mem_append, List.mem_singleton] at hd
      rcases hd with hd | hd
      · exact ih _ (by omega) d hd
      · subst hd; simp; omega
theorem digits_inj (u : Nat) : ∀ v, Lib.decDigits u = Lib.decDigits v → u = v := by
  induction u using Nat.strongRecOn with
  | ind u ih =>
    intro v h
    by_cases hu : u ≤ 9
    · by_cases hv : v ≤ 9
      · rw [dec_small u hu, dec_small v hv] at h
        have h2 := congrArg UInt8.toNat (List.cons.inj h).1
        simp at h2; omega
      · rw [dec_small u hu, dec_big v (by omega)] at h
        have h2 := congrArg List.length h
        have h3 := digits_some (v / 10)
        simp only [List.length_append, List.length_cons, List.length_nil] at h2
        omega
    · by_cases hv : v ≤ 9
      · rw [dec_small v hv, dec_big u (by omega)] at h
        have h2 := congrArg List.length h
        have h3 := digits_some (u / 10)
        simp only [List.length_append, List.length_cons, List.length_nil] at h2
        omega
      · rw [dec_big u (by omega), dec_big v (by omega)] at h
        obtain ⟨h1, h2⟩ := List.append_inj' h rfl
        have h3 := ih (u / 10) (by omega) (v / 10) h1
        have h4 := congrArg UInt8.toNat (List.cons.inj h2).1
        simp at h4
        omega
theorem itoa_in (n : Int) : ∀ d ∈ Lib.itoa n, d = 45 ∨ (48 ≤ d.toNat ∧ d.toNat ≤ 57) := by
  intro d hd
  by_cases h : n < 0
  · obtain ⟨u, hu⟩ : ∃ u : Nat, n = -(u : Int) := ⟨n.natAbs, by omega⟩
    rw [hu, Lib.itoa_neg _ (by omega), List.mem_cons] at hd
    rcases hd with hd | hd
    · exact .inl hd
    · exact .inr (digit_in _ d hd)
  · obtain ⟨u, hu⟩ : ∃ u : Nat, n = (u : Int) := ⟨n.toNat, by omega⟩
    rw [hu, Lib.itoa_nonneg] at hd
    exact .inr (digit_in _ d hd)
theorem itoa_digit (n : Int) : ∃ d ∈ Lib.itoa n, d ≠ 45 := by
  have key : ∀ u, ∃ d ∈ Lib.decDigits u, d ≠ 45 := fun u => by
    have h := digits_some u
    obtain ⟨d, hd⟩ := List.exists_mem_of_length_pos h
    exact ⟨d, hd, fun e => by have := (digit_in u d hd).1; rw [e] at this; simp at this⟩
  by_cases h : n < 0
  · obtain ⟨u, hu⟩ : ∃ u : Nat, n = -(u : Int) := ⟨n.natAbs, by omega⟩
    rw [hu, Lib.itoa_neg _ (by omega)]
    obtain ⟨d, hd, h2⟩ := key u
    exact ⟨d, List.mem_cons_of_mem _ hd, h2⟩
  · obtain ⟨u, hu⟩ : ∃ u : Nat, n = (u : Int) := ⟨n.toNat, by omega⟩
    rw [hu, Lib.itoa_nonneg]; exact key u
theorem itoa_inj (n m : Int) (h : Lib.itoa n = Lib.itoa m) : n = m := by
  have key : ∀ u v : Nat, Lib.decDigits u ≠ 45 :: Lib.decDigits v := fun u v e => by
    have := digit_in u 45 (by rw [e]; exact List.mem_cons_self)
    simp at this
  by_cases hn : n < 0
  · obtain ⟨u, hu⟩ : ∃ u : Nat, n = -(u : Int) := ⟨n.natAbs, by omega⟩
    by_cases hm : m < 0
    · obtain ⟨v, hv⟩ : ∃ v : Nat, m = -(v : Int) := ⟨m.natAbs, by omega⟩
      rw [hu, hv, Lib.itoa_neg _ (by omega), Lib.itoa_neg _ (by omega)] at h
      have := digits_inj u v (List.cons.inj h).2
      omega
    · obtain ⟨v, hv⟩ : ∃ v : Nat, m = (v : Int) := ⟨m.toNat, by omega⟩
      rw [hu, hv, Lib.itoa_neg _ (by omega), Lib.itoa_nonneg] at h
      exact absurd h.symm (key v u)
  · obtain ⟨u, hu⟩ : ∃ u : Nat, n = (u : Int) := ⟨n.toNat, by omega⟩
    by_cases hm : m < 0
    · obtain ⟨v, hv⟩ : ∃ v : Nat, m = -(v : Int) := ⟨m.natAbs, by omega⟩
      rw [hu, hv, Lib.itoa_neg _ (by omega), Lib.itoa_nonneg] at h
      exact absurd h (key u v)
    · obtain ⟨v, hv⟩ : ∃ v : Nat, m = (v : Int) := ⟨m.toNat, by omega⟩
      rw [hu, hv, Lib.itoa_nonneg, Lib.itoa_nonneg] at h
      have := digits_inj u v h
      omega

/-- what follows a word: nothing, or a space -/
def Spc (l : List UInt8) : Prop := l = [] ∨ ∃ t, l = 32 :: t
theorem word_inj : ∀ (A B X Y : List UInt8), (∀ d ∈ A, d ≠ 32) → (∀ d ∈ B, d ≠ 32) → Spc X → Spc Y → A ++ X = B ++ Y → A = B ∧ X = Y
  | [], [], _, _, _, _, _, _, h => ⟨rfl, h⟩
  | [], b :: B, X, Y, _, hB, hX, _, h => by
    rcases hX with rfl | ⟨t, rfl⟩
    · cases h
    · simp only [List.nil_append, List.cons_append, List.cons.injEq] at h
      exact absurd h.1.symm (hB b (by simp))
  | a :: A, [], X, Y, hA, _, _, hY, h => by
    rcases hY with rfl | ⟨t, rfl⟩
    · cases h
    · simp only [List.nil_append, List.cons_append, List.cons.injEq] at h
      exact absurd h.1 (hA a (by simp))
  | a :: A, b :: B, X, Y, hA, hB, hX, hY, h => by
    simp only [List.cons_append, List.cons.injEq] at h
    obtain ⟨h1, h2⟩ := word_inj A B X Y (fun d hd => hA d (by simp [hd])) (fun d hd => hB d (by simp [hd])) hX hY h.2
    exact ⟨by rw [h.1, h1], h2⟩
theorem itoa_nospace (n : Int) : ∀ d ∈ Lib.itoa n, d ≠ 32 := fun d hd e => by
  rcases itoa_in n d hd with h | h
  · rw [e] at h; exact absurd h (by decide)
  · rw [e] at h; simp at h

/-- the words of ends -/
def OEnds (e : ByteArray) : Prop := e.data.toList ∈ [[], [100, 111, 110, 101], [100, 101, 101, 112], [108, 111, 110, 103]]
theorem oends_size {e : ByteArray} (h : OEnds e) : e.size ≤ 4 := by
  have h1 : e.size = e.data.toList.length := by simp
  rw [h1]
  simp only [OEnds, List.mem_cons, List.not_mem_nil, or_false] at h
  rcases h with h | h | h | h <;> (rw [h]; decide)
theorem oends_let {e : ByteArray} (h : OEnds e) : ∀ d ∈ e.data.toList, 97 ≤ d.toNat := by
  simp only [OEnds, List.mem_cons, List.not_mem_nil, or_false] at h
  rcases h with h | h | h | h <;> (rw [h]; decide)
theorem oends_nospace {e : ByteArray} (h : OEnds e) : ∀ d ∈ e.data.toList, d ≠ 32 := fun d hd e' => by
  have := oends_let h d hd
  rw [e'] at this; simp at this
/-- the text of an outcome -/
def otext (v : Int) (zs : List Int) (e : ByteArray) (st : Int) : List UInt8 := headT v ++ numsT zs ++ (32 :: e.data.toList ++ 32 :: Lib.itoa st)
theorem itoa_not_end {e : ByteArray} (h : OEnds e) (z : Int) : e.data.toList ≠ Lib.itoa z := fun he => by
  obtain ⟨d, hd, hne⟩ := itoa_digit z
  rcases itoa_in z d hd with h1 | h1
  · exact hne h1
  · rw [← he] at hd
    have := oends_let h d hd
    omega
theorem numsT_cons (z : Int) (t : List Int) : numsT (z :: t) = 32 :: (Lib.itoa z ++ numsT t) := rfl
theorem tail_of {e : ByteArray} {st : Int} : Spc (32 :: (e.data.toList ++ 32 :: Lib.itoa st)) := .inr ⟨_, rfl⟩
theorem rest_spc (zs : List Int) (e : ByteArray) (st : Int) : Spc (numsT zs ++ 32 :: (e.data.toList ++ 32 :: Lib.itoa st)) := by
  cases zs with
  | nil => exact .inr ⟨_, rfl⟩
  | cons z t => exact .inr ⟨_, by rw [numsT_cons]; rfl⟩
theorem rest_inj {e e' : ByteArray} (he : OEnds e) (he' : OEnds e') (st st' : Int) : ∀ (zs zs' : List Int), numsT zs ++ 32 :: (e.data.toList ++ 32 :: Lib.itoa st) = numsT zs' ++ 32 :: (e'.data.toList ++ 32 :: Lib.itoa st') → zs = zs' ∧ e = e' ∧ st = st'
  | [], [], h => by
    have h1 := (List.cons.inj h).2
    obtain ⟨h2, h3⟩ := word_inj _ _ _ _ (oends_nospace he) (oends_nospace he') (.inr ⟨_, rfl⟩) (.inr ⟨_, rfl⟩) h1
    refine ⟨rfl, ?_, itoa_inj _ _ (List.cons.inj h3).2⟩
    apply ByteArray.ext; apply Array.ext'; exact h2
  | [], z :: t, h => by
    rw [numsT_cons] at h
    have h1 : e.data.toList ++ 32 :: Lib.itoa st = Lib.itoa z ++ (numsT t ++ 32 :: (e'.data.toList ++ 32 :: Lib.itoa st')) := by
      have := (List.cons.inj h).2
      simpa only [List.append_eq, List.append_assoc, List.nil_append] using this
    exact absurd (word_inj _ _ _ _ (oends_nospace he) (itoa_nospace z) (.inr ⟨_, rfl⟩) (rest_spc _ _ _) h1).1 (itoa_not_end he z)
  | z :: t, [], h => by
    rw [numsT_cons] at h
    have h1 : Lib.itoa z ++ (numsT t ++ 32 :: (e.data.toList ++ 32 :: Lib.itoa st)) = e'.data.toList ++ 32 :: Lib.itoa st' := by
      have := (List.cons.inj h).2
      simpa only [List.append_eq, List.append_assoc, List.nil_append] using this
    exact absurd (word_inj _ _ _ _ (itoa_nospace z) (oends_nospace he') (rest_spc _ _ _) (.inr ⟨_, rfl⟩) h1).1.symm (itoa_not_end he' z)
  | z :: t, z' :: t', h => by
    rw [numsT_cons, numsT_cons] at h
    have h1 : Lib.itoa z ++ (numsT t ++ 32 :: (e.data.toList ++ 32 :: Lib.itoa st)) = Lib.itoa z' ++ (numsT t' ++ 32 :: (e'.data.toList ++ 32 :: Lib.itoa st')) := by
      have := (List.cons.inj h).2
      simpa only [List.append_eq, List.append_assoc] using this
    obtain ⟨h2, h3⟩ := word_inj _ _ _ _ (itoa_nospace z) (itoa_nospace z') (rest_spc _ _ _) (rest_spc _ _ _) h1
    obtain ⟨h4, h5, h6⟩ := rest_inj he he' st st' t t' h3
    exact ⟨by rw [itoa_inj z z' h2, h4], h5, h6⟩
theorem headT_nospace (v : Int) : ∀ d ∈ headT v, d ≠ 32 := fun d hd => by
  rw [headT, List.mem_append, List.mem_singleton] at hd
  rcases hd with hd | hd
  · exact itoa_nospace v d hd
  · rw [hd]; decide
theorem otext_eq (v : Int) (zs : List Int) (e : ByteArray) (st : Int) : otext v zs e st = headT v ++ (numsT zs ++ 32 :: (e.data.toList ++ 32 :: Lib.itoa st)) := by simp [otext]
/-- outcomes of the same text are the same, their steps too -/
theorem otext_inj {v v' : Int} {zs zs' : List Int} {e e' : ByteArray} {st st' : Int} (he : OEnds e) (he' : OEnds e') (h : otext v zs e st = otext v' zs' e' st') : v = v' ∧ zs = zs' ∧ e = e' ∧ st = st' := by
  rw [otext_eq, otext_eq] at h
  obtain ⟨h1, h2⟩ := word_inj _ _ _ _ (headT_nospace v) (headT_nospace v') (rest_spc _ _ _) (rest_spc _ _ _) h
  rw [headT, headT] at h1
  exact ⟨itoa_inj _ _ (List.append_inj_left' h1 rfl), rest_inj he he' st st' zs zs' h2⟩
theorem count_none (l : List UInt8) (h : ∀ d ∈ l, d ≠ 32) : l.count 32 = 0 := List.count_eq_zero.2 fun hm => h 32 hm rfl
theorem count_nums (zs : List Int) : (numsT zs).count 32 = zs.length := by
  induction zs with
  | nil => rfl
  | cons z t ih => rw [numsT_cons, List.count_cons_self, List.count_append, count_none _ (itoa_nospace z), ih, List.length_cons]; omega
/-- how many spaces there are -/
theorem otext_spaces {e : ByteArray} (v : Int) (zs : List Int) (st : Int) (he : OEnds e) : (otext v zs e st).count 32 = zs.length + 2 := by
  rw [otext_eq, List.count_append, count_none _ (headT_nospace v), List.count_append, count_nums, List.count_cons_self, List.count_append, count_none _ (oends_nospace he), List.count_cons_self, count_none _ (itoa_nospace st)]
  omega
theorem otext_len {e : ByteArray} (v : Int) (zs : List Int) (st : Int) (he : OEnds e) (hv : Int64 v) (hst : Int64 st) (hz : ∀ z ∈ zs, Int64 z) (hl : zs.length ≤ 600) : (otext v zs e st).length ≤ 20000 := by
  have h1 := numsT_len zs hz
  have h2 := Lib.itoa_length_le v hv.1 hv.2
  have h3 := Lib.itoa_length_le st hst.1 hst.2
  have h4 := oends_size he
  have h5 : e.data.toList.length = e.size := by simp
  rw [otext]
  simp only [headT, List.length_append, List.length_cons, List.length_nil]
  omega
end Go.Proofs.YthhlbcllhohcnaaDoor
