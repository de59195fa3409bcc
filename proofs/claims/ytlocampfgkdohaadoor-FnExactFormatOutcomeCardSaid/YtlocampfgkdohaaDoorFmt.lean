/- Decimal texts, and FormatOutcome of the program. Condition: sizes of at most 2^20. -/
import Derived.Test.YtlocampfgkdohaaDoorSame
import Derived.Test.YtlocampfgkdohaaDoorBuild
import Derived.Lib.ItoaLen
import Derived.Lib.SmallJoins
import Derived.Lib.LaidTab
namespace Go.Proofs.YtlocampfgkdohaaDoor
open Go.RowKit

/-- a number of the language -/
def Int64 (n : Int) : Prop := -9223372036854775808 ≤ n ∧ n ≤ 9223372036854775807
/-- its text -/
def dec (n : Int) : ByteArray := ⟨(Lib.itoa n).toArray⟩
theorem dec_size (n : Int) (h : Int64 n) : (dec n).size ≤ 21 := by
  have := Lib.itoa_length_le n h.1 h.2
  simpa [dec, ByteArray.size] using this
/-- the table of powers lies -/
abbrev Tab (w : World) : Prop := Lib.TabIs Tryd.prog w "internal/strconv.uint64pow10" .u64 Lib.pow10Tab
theorem tab_later {w w' : World} (h : Tab w) (hb : Below w.heap.size w w') : Tab w' := Go.Joins.tab_stays (g := 0) (by kernel_rfl) h hb (Nat.le_refl _)

theorem below_grow (w : World) (os : Array Obj) (k : Nat) : Below w.heap.size w (Go.Sort.grow (w.drewN k) os) :=
  ⟨rfl, rfl, rfl, by show w.heap.size ≤ (w.heap ++ os).size; rw [Array.size_append]; omega, fun _ hj => Go.Sort.heap_grow_old (w.drewN k) os hj⟩

theorem itoa_any (n : Int) (hn : Int64 n) (w : World) (ht : Tab w) :
    Calls Tryd.prog 17 #[.int .i64 n] w fun e w' => e = .returned (.string (dec n)) ∧ Below w.heap.size w w' :=
  (Tryd.strconv_Itoa n hn.1 hn.2 w ht).mono fun e w' ⟨h, k, os, hw⟩ => ⟨h, hw ▸ below_grow w os k⟩

theorem str_add (x y : ByteArray) (h : x.size + y.size ≤ 9223372036854775807) (w : World) : (Op.stringOp .add x y).run Tryd.prog w = .ok (.string (x ++ y)) w := run_string_add_sum w x y h

def numsT (zs : List Int) : List UInt8 := zs.flatMap fun z => 32 :: Lib.itoa z
def headT (v : Int) : List UInt8 := Lib.itoa v ++ [58]

theorem ownsRow_of {w w' : World} {base : Nat} {e : TypeId} {size n : Nat} {v : Value} {xs : List Value} (h : w.ownsRow base e size v n xs) (hk : ∀ g, v.ownBlock = some g → w'.heap[g]? = w.heap[g]?) : w'.ownsRow base e size v n xs := by
  refine ⟨h.1, ?_⟩
  rcases h.2 with hn | ⟨g, cap, cur, rfl, hb, hg, rest⟩
  · exact .inl hn
  · exact .inr ⟨g, cap, cur, rfl, hb, by rw [hk g rfl]; exact hg, rest⟩
theorem isBuilder_later {w w' : World} {T e : TypeId} {B b : Nat} {bs : List Value} (h : Lib.IsBuilder T e B b bs w) (hk : ∀ k, k < w.heap.size → w'.heap[k]? = w.heap[k]?) : Lib.IsBuilder T e B b bs w' := by
  have key : ∀ p, Lib.BuilderAt T e B b p bs w → Lib.BuilderAt T e B b p bs w' := by
    rintro p ⟨h1, v, h2, h3, h4⟩
    exact ⟨h1, v, by rw [hk _ (heap_lt h2)]; exact h2, ownsRow_of h3 fun k hk' => hk k (h3.lt k hk').2, h4⟩
  exact h.imp (key _) (key _)

theorem numsT_take (zs : List Int) (k : Nat) (h : k < zs.length) : numsT (zs.take (k + 1)) = numsT (zs.take k) ++ (32 :: Lib.itoa zs[k]) := by
  unfold numsT
  rw [List.take_add_one, List.getElem?_eq_getElem h, List.flatMap_append]
  simp only [Option.toList, List.flatMap_cons, List.flatMap_nil, List.append_nil]
theorem numsT_len (zs : List Int) (hz : ∀ z ∈ zs, Int64 z) : (numsT zs).length ≤ 22 * zs.length := by
  induction zs with
  | nil => simp [numsT]
  | cons z zs ih =>
    have h1 := Lib.itoa_length_le z (hz z (by simp)).1 (hz z (by simp)).2
    have h2 := ih fun y hy => hz y (by simp [hy])
    have h3 : numsT (z :: zs) = (32 :: Lib.itoa z) ++ numsT zs := rfl
    rw [h3]
    simp only [List.length_append, List.length_cons]
    omega
theorem cells_lit (t : ByteArray) (l : List UInt8) (h : t.data.toList = l) : Lib.strCells t = Lib.byteCells l := by rw [Lib.strCells_eq, h]

theorem fin_facts {w w' : World} {x0 x1 x2 x3 : Value} {t : TypeId} (hb : Below (w.heap.size + 1) (w.alloc (Obj.cells #[x0, x1, x2, x3] t)) w') :
    w'.cell? ⟨w.heap.size, 2, none⟩ = some x2 ∧ w'.cell? ⟨w.heap.size, 3, none⟩ = some x3 ∧ Below (w.heap.size + 1) (w.alloc (Obj.cells #[x0, x1, x2, x3] t)) w' := by
  have q0 := hb.block w.heap.size (by omega)
  rw [heap_alloc_new] at q0
  obtain ⟨_, _, q2, q3⟩ := read4 q0
  exact ⟨q2, q3, hb⟩

set_option maxHeartbeats 1000000 in
set_option maxRecDepth 100000 in
theorem impl_fmt (w : World) (v : Int) (a : Option Addr) (n c : Nat) (zs : List Int) (e : ByteArray) (st : Int) (hA : Ints w a n zs) (hn : n ≤ 1048576) (he : e.size ≤ 1048576) (hv : Int64 v) (hst : Int64 st) (hz : ∀ z ∈ zs, Int64 z) (ht : Tab w) :
    Calls Tryd.prog 8 #[oV v a n c e st] w fun r w' => r = .returned (.string ⟨(headT v ++ numsT zs ++ (32 :: e.data.toList ++ 32 :: Lib.itoa st)).toArray⟩) ∧ Below w.heap.size w w' := by
  have HT := Lib.hid (fun w' hb => itoa_any v hv w' (tab_later ht hb))
  have HTs := Lib.hid (fun w' hb => itoa_any st hst w' (tab_later ht hb))
  have HTz := Lib.hid (fun z (h : Int64 z) w' hb => itoa_any z h w' (tab_later ht hb))
  have hdv := dec_size v hv
  have hds := dec_size st hst
  have z1 : (⟨#[58]⟩ : ByteArray).size = 1 := rfl
  have z2 : (⟨#[32]⟩ : ByteArray).size = 1 := rfl
  have e1 := str_add (dec v) ⟨#[58]⟩ (by omega)
  have e2 := str_add ⟨#[32]⟩ e (by omega)
  have e3 := str_add (⟨#[32]⟩ ++ e) ⟨#[32]⟩ (by simp; omega)
  have e4 := str_add (⟨#[32]⟩ ++ e ++ ⟨#[32]⟩) (dec st) (by simp; omega)
  have HL := Lib.hid hA.len
  have HAt := Lib.hid hA.at_
  have HN := Lib.hid hn
  have HE := Lib.hid he
  have HZ := Lib.hid hz
  have HNL := Lib.hid (fun k => numsT_len (zs.take k) (fun z h => hz z (List.mem_of_mem_take h)))
  have hh : (headT v).length ≤ 22 := by
    have := Lib.itoa_length_le v hv.1 hv.2
    simp [headT]; omega
  have HH := Lib.hid hh
  have HW := Lib.hid (fun (l : List UInt8) (t : ByteArray) (w' : World) (h : Lib.IsBuilder 40 5 (w.heap.size + 1) (w.heap.size + 1) (Lib.byteCells l) w') (h1 : l.length + t.size ≤ 140737488355328) (h2 : w.heap.size + 1 ≤ w'.heap.size) =>
    writeString_any (w.heap.size + 1) (w.heap.size + 1) (Lib.byteCells l) t w' h (by rw [Lib.byteCells_length]; exact h1) h2)
  have HD := Lib.hid hdv
  have HDs := Lib.hid hds
  clear z1 z2 hdv hds hA hn he hz ht hh hv hst
  unfold oV
  have hI0 := Lib.fresh_isBuilder 40 5 (w.alloc (Obj.cells #[.int .i64 v, .slice a n c, .string e, .int .i64 st] 27))
  rw [alloc_size'] at hI0
  have HI0 := Lib.hid hI0
  clear hI0
  go_enter Tryd.func8, Tryd.ntmps8
  go_wp2_with fail
  refine (HT.out _ (((Below.refl w.heap.size w).alloc (Nat.le_refl _) _).alloc (by simp) _)).mono ?_
  rintro r w2 ⟨rfl, hb⟩
  have HI2 := Lib.hid (isBuilder_later HI0.out fun j hj => hb.block j hj)
  rw [alloc_size', alloc_size'] at hb
  have HB2 := Lib.hid (((Below.refl (w.heap.size + 1) (w.alloc (Obj.cells #[.int .i64 v, .slice a n c, .string e, .int .i64 st] 27))).alloc (by rw [alloc_size']; exact Nat.le_refl _) (Obj.cells #[.pointer none, .slice none 0 0] 40)).trans (hb.mono (by omega)))
  clear hb HI0
  generalize hdv : dec v ++ ⟨#[58]⟩ = t0 at *
  have HT0 := Lib.hid (show Lib.strCells t0 = Lib.byteCells (headT v) ∧ t0.size ≤ 22 by
    subst hdv
    refine ⟨cells_lit _ _ (by simp [headT, dec]), ?_⟩
    have := HD.out
    rw [ByteArray.size_append]
    show _ + 1 ≤ 22
    omega)
  clear hdv
  have hsz2 := HB2.out.size
  rw [alloc_size'] at hsz2
  have HS2 := Lib.hid hsz2
  clear hsz2
  go_wp2_with fail
  refine (HW.out [] t0 _ HI2.out (by have := HT0.out.2; simp; omega) HS2.out).mono ?_
  rintro r w3 ⟨rfl, hI, hb⟩
  have HI3 := Lib.hid (show Lib.IsBuilder 40 5 (w.heap.size + 1) (w.heap.size + 1) (Lib.byteCells (headT v ++ numsT (zs.take 0))) w3 by
    rw [← show headT v = headT v ++ numsT (zs.take 0) by simp [numsT], ← HT0.out.1]; exact hI)
  have HB3 := Lib.hid (HB2.out.trans hb)
  have q0 := HB3.out.block w.heap.size (by omega)
  rw [heap_alloc_new] at q0
  obtain ⟨_, q1, _, _⟩ := read4 q0
  clear q0 hb hI HI2 HB2 HS2 e1
  go_wp2_with fail
  go_loopw [14] (fun i wr => ∃ k : Nat, k ≤ n ∧ i = .int .i64 k ∧ Hid (Lib.IsBuilder 40 5 (w.heap.size + 1) (w.heap.size + 1) (Lib.byteCells (headT v ++ numsT (zs.take k))) wr) ∧ Hid (Below (w.heap.size + 1) (w.alloc (Obj.cells #[.int .i64 v, .slice a n c, .string e, .int .i64 st] 27)) wr)) (fun i _ => n - (intOf i).toNat)
  case atStart => exact ⟨0, Nat.zero_le _, by go_num, HI3.out, HB3.out⟩
  case round =>
    obtain ⟨k, hk, rfl, hI, hB⟩ := hrel
    have hsz := hB.out.size
    rw [alloc_size'] at hsz
    have HSz := Lib.hid hsz
    have HBw := Lib.hid (show Below w.heap.size w wr from ((Below.refl w.heap.size w).alloc (Nat.le_refl _) _).trans (hB.out.mono (by omega)))
    have HNk := Lib.hid (show (headT v ++ numsT (zs.take k)).length ≤ 22 + 22 * 1048576 by
      have h1 := HNL.out k
      have h2 := HH.out
      have h3 := HL.out
      have h4 := HN.out
      rw [List.length_append]
      rw [List.length_take] at h1
      omega)
    clear hsz
    by_cases hlt : k < n
    · have hzl : k < zs.length := by rw [HL.out]; omega
      have hn1 : n ≤ 1048576 := HN.out
      obtain ⟨g, off, rfl, d1⟩ := HAt.out k hzl
      have c1 : wr.cell? ⟨g, off + k, none⟩ = some (.int .i64 zs[k]) := by rw [HBw.out.cell (p := ⟨g, off + k, none⟩) (World.block_lt_of_cell? w _ d1)]; exact d1
      have HC := Lib.hid (HTz.out zs[k] (HZ.out _ (List.getElem_mem hzl)) wr HBw.out)
      have HTk := Lib.hid (numsT_take zs k hzl)
      have HDk := Lib.hid (dec_size zs[k] (HZ.out _ (List.getElem_mem hzl)))
      have e5 := str_add ⟨#[32]⟩ (dec zs[k]) (by have := HDk.out; show 1 + _ ≤ _; omega)
      have HCl := Lib.hid (cells_lit (⟨#[32]⟩ ++ dec zs[k]) (32 :: Lib.itoa zs[k]) (by simp [dec]))
      have HCs := Lib.hid (show (⟨#[32]⟩ ++ dec zs[k] : ByteArray).size ≤ 22 by have := HDk.out; rw [ByteArray.size_append]; show 1 + _ ≤ 22; omega)
      have hkn : (k : Int) < (n : Int) := by omega
      clear d1
      generalize ⟨#[32]⟩ ++ dec zs[k] = tk at *
      generalize dec zs[k] = dk at *
      generalize zs[k] = z at *
      go_wp2_with fail
      refine HC.out.mono ?_
      rintro r w4 ⟨rfl, hb4⟩
      have HI4 := Lib.hid (isBuilder_later hI.out fun j hj => hb4.block j hj)
      have HB4 := Lib.hid (hB.out.trans (hb4.mono (by have := HSz.out; omega)))
      have HS4 := Lib.hid (Nat.le_trans HSz.out hb4.size)
      clear hb4
      go_wp2_with fail
      refine (HW.out _ tk _ HI4.out (by have := HNk.out; have := HCs.out; omega) HS4.out).mono ?_
      rintro r w5 ⟨rfl, hI5, hb5⟩
      have HI5 := Lib.hid hI5
      have HB5 := Lib.hid (HB4.out.trans hb5)
      clear hI5 hb5
      go_wp2_with fail
      go_roundw
      case rel =>
        refine ⟨k + 1, by omega, by go_num, ?_, HB5.out⟩
        show Lib.IsBuilder _ _ _ _ _ _
        rw [HTk.out, ← List.append_assoc, Lib.byteCells_append, ← HCl.out]
        exact HI5.out
      case measure => simp [intOf]; omega
    · have hkn : k = n := by omega
      subst hkn
      have hall : zs.take k = zs := List.take_of_length_le (by rw [HL.out]; exact Nat.le_refl _)
      have hI' := hI.out
      have hNk := HNk.out
      rw [hall] at hI' hNk
      have HI := Lib.hid hI'
      have HNk := Lib.hid hNk
      clear hI hI' hall hNk
      have HBd := Lib.hid hB.out.drew
      have HBwd := Lib.hid HBw.out.drew
      have HId := Lib.hid (show Lib.IsBuilder 40 5 (w.heap.size + 1) (w.heap.size + 1) (Lib.byteCells (headT v ++ numsT zs)) wr.drew from isBuilder_later HI.out fun _ _ => rfl)
      have HSd := Lib.hid (show w.heap.size + 1 ≤ wr.drew.heap.size from HSz.out)
      have hse : (⟨#[32]⟩ ++ e ++ ⟨#[32]⟩ ++ dec st : ByteArray).size ≤ 1048600 := by
        have h1 := HDs.out
        have h2 := HE.out
        rw [ByteArray.size_append, ByteArray.size_append, ByteArray.size_append]
        show 1 + _ + 1 + _ ≤ _
        omega
      have HCe := Lib.hid (And.intro hse (cells_lit (⟨#[32]⟩ ++ e ++ ⟨#[32]⟩ ++ dec st) (32 :: e.data.toList ++ 32 :: Lib.itoa st) (by simp [dec])))
      clear hse
      go_wp2_with fail
      go_region_held3 (fun w' => w'.cell? ⟨w.heap.size, 2, none⟩ = some (.string e) ∧ w'.cell? ⟨w.heap.size, 3, none⟩ = some (.int .i64 st) ∧ Below (w.heap.size + 1) (w.alloc (Obj.cells #[.int .i64 v, .slice a k c, .string e, .int .i64 st] 27)) w')
        ((first | assumption | exact fin_facts HBd.out | exact fin_facts HB6.out | exact fin_facts HB7.out))
        ((first
        | (go_at_call 17; refine (HTs.out _ HBwd.out).mono ?_
           rintro r w6 ⟨rfl, hb⟩
           have HI6 := Lib.hid (isBuilder_later HId.out fun j hj => hb.block j hj)
           have HB6 := Lib.hid (HBd.out.trans (hb.mono HSd.out))
           have HS6 := Lib.hid (Nat.le_trans HSd.out hb.size)
           clear hb)
        | (go_at_call 16; refine (HW.out _ _ _ HI6.out (by have := HNk.out; have := HCe.out.1; omega) HS6.out).mono ?_
           rintro r w7 ⟨rfl, hI7, hb⟩
           have HI7 := Lib.hid hI7
           have HB7 := Lib.hid (HB6.out.trans hb)
           have HS7 := Lib.hid (Nat.le_trans HS6.out hb.size)
           clear hI7 hb)))
      have HI8 := Lib.hid (show Lib.IsBuilder 40 5 (w.heap.size + 1) (w.heap.size + 1) (Lib.byteCells (headT v ++ numsT zs ++ (32 :: e.data.toList ++ 32 :: Lib.itoa st))) w7 by
        rw [Lib.byteCells_append, ← HCe.out.2]; exact HI7.out)
      go_wp2_with fail
      refine (Tryd.Builder_String_any (w.heap.size + 1) (w.heap.size + 1) _ _ HI8.out HS7.out).mono ?_
      rintro r w8 ⟨rfl, hb⟩
      have HB8 := Lib.hid (HB7.out.trans hb)
      clear hb
      go_wp2_with fail
      go_ret
      refine ⟨?_, ((Below.refl w.heap.size w).alloc (Nat.le_refl _) _).trans (HB8.out.mono (by omega))⟩
      show Ending.returned (.string ⟨(headT v ++ (numsT zs ++ 32 :: (e.data.toList ++ 32 :: Lib.itoa st))).toArray⟩) = _
      simp
end Go.Proofs.YtlocampfgkdohaaDoor
