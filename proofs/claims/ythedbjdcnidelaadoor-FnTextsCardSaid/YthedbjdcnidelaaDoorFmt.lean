/- Decimal texts, and FormatOutcome of the program. Condition: sizes of at most 2^20. -/
import Derived.Test.YthedbjdcnidelaaDoorInts
import Derived.Test.YthedbjdcnidelaaDoorBuild
import Derived.Lib.ItoaLen
import Derived.Lib.SmallJoins
import Derived.Lib.LaidTab
namespace Go.Proofs.YthedbjdcnidelaaDoor
open Go.RowKit

/-- a number of the language -/
def Int64 (n : Int) : Prop := -9223372036854775808 ≤ n ∧ n ≤ 9223372036854775807
/-- its text -/
def dec (n : Int) : ByteArray := ⟨(Lib.itoa n).toArray⟩
theorem dec_size (n : Int) (h : Int64 n) : (dec n).size ≤ 21 := by
  have := Lib.itoa_length_le n h.1 h.2
  simpa [dec, ByteArray.size] using this
/-- the table of powers lies -/
abbrev Tab (w : World) : Prop := Lib.TabIs Tryd.prog w "internal/strconv.uint64pow10" .u64 Lib.pow10Tab
theorem tab_later {w w' : World} (h : Tab w) (hb : Below w.heap.size w w') : Tab w' := Go.Joins.tab_stays (g := 0) (by kernel_rfl) h hb (Nat.le_refl _)

theorem below_grow (w : World) (os : Array Obj) (k : Nat) : Below w.heap.size w (Go.Sort.grow (w.drewN k) os) :=
  ⟨rfl, rfl, rfl, by show w.heap.size ≤ (w.heap ++ os).size; rw [Array.size_append]; omega, fun _ hj => Go.Sort.heap_grow_old (w.drewN k) os hj⟩

theorem itoa_any (n : Int) (hn : Int64 n) (w : World) (ht : Tab w) :
    Calls Tryd.prog 28 #[.int .i64 n] w fun e w' => e = .returned (.string (dec n)) ∧ Below w.heap.size w w' :=
  (Tryd.strconv_Itoa n hn.1 hn.2 w ht).mono fun e w' ⟨h, k, os, hw⟩ => ⟨h, hw ▸ below_grow w os k⟩

theorem str_add (x y : ByteArray) (h : x.size + y.size ≤ 9223372036854775807) (w : World) : (Op.stringOp .add x y).run Tryd.prog w = .ok (.string (x ++ y)) w := run_string_add_sum w x y h

def numsT (zs : List Int) : List UInt8 := zs.flatMap fun z => 32 :: Lib.itoa z
def headT (v : Int) : List UInt8 := Lib.itoa v ++ [58]

theorem ownsRow_of {w w' : World} {base : Nat} {e : TypeId} {size n : Nat} {v : Value} {xs : List Value} (h : w.ownsRow base e size v n xs) (hk : ∀ g, v.ownBlock = some g → w'.heap[g]? = w.heap[g]?) : w'.ownsRow base e size v n xs := by
  refine ⟨h.1, ?_⟩
  rcases h.2 with hn | ⟨g, cap, cur, rfl, hb, hg, rest⟩
  · exact .inl hn
  · exact .inr ⟨g, cap, cur, rfl, hb, by rw [hk g rfl]; exact hg, rest⟩
theorem isBuilder_later {w w' : World} {T e : TypeId} {B b : Nat} {bs : List Value} (h : Lib.IsBuilder T e B b bs w) (hk : ∀ k, k < w.heap.size → w'.heap[k]? = w.heap[k]?) : Lib.IsBuilder T e B b bs w' := by
  have key : ∀ p, Lib.BuilderAt T e B b p bs w → Lib.BuilderAt T e B b p bs w' := by
    rintro p ⟨h1, v, h2, h3, h4⟩
    exact ⟨h1, v, by rw [hk _ (heap_lt h2)]; exact h2, ownsRow_of h3 fun k hk' => hk k (h3.lt k hk').2, h4⟩
  exact h.imp (key _) (key _)

theorem numsT_take (zs : List Int) (k : Nat) (h : k < zs.length) : numsT (zs.take (k + 1)) = numsT (zs.take k) ++ (32 :: Lib.itoa zs[k]) := by
  unfold numsT
  rw [List.take_add_one, List.getElem?_eq_getElem h, List.flatMap_append]
  simp only [Option.toList, List.flatMap_cons, List.flatMap_nil, List.append_nil]
theorem numsT_len (zs : List Int) (hz : ∀ z ∈ zs, Int64 z) : (numsT zs).length ≤ 22 * zs.length := by
  induction zs with
  | nil => simp [numsT]
  | cons z zs ih =>
    have h1 := Lib.itoa_length_le z (hz z (by simp)).1 (hz z (by simp)).2
    have h2 := ih fun y hy => hz y (by simp [hy])
    have h3 : numsT (z :: zs) = (32 :: Lib.itoa z) ++ numsT zs := rfl
    rw [h3]
    simp only [List.length_append, List.length_cons]
    omega
theorem cells_lit (t : ByteArray) (l : List UInt8) (h : t.data.toList = l) : Lib.strCells t = Lib.byteCells l := by rw [Lib.strCells_eq, h]

end Go.Proofs.YthedbjdcnidelaaDoor
