/- A strings.Builder that a call has made: copyCheck, walked in this translation. No condition. A strings.Builder that a call has made: copyCheck and WriteString, walked in this translation; String by the library's contract. Condition: what is held and written takes at most 2^47 bytes. The texts of the program's statements as they lie in memory, and bodyText. Condition: texts of at most 2^20 bytes. -/
import Derived.Test.YtkdnbdgpcgookaaGreatDoorShelf
import Derived.Test.YtkdnbdgpcgookaaGreatDoorProg
import Derived.Lib.Builder
import Derived.Lib.AppendStr
import Derived.WalkKit
import Derived.WalkSpells
import Derived.WalkLawsBesides
import Derived.Laws.Externs
import Derived.Lib.Hide
import Derived.Test.YtkdnbdgpcgookaaGreatDoorTx
import Derived.Deep.RegionHeld3
import Derived.Deep.RegionWith
namespace Go.Proofs.YtkdnbdgpcgookaaGreatDoor
open Go.RowKit

theorem info_builder : (Tryz.prog.info? 127).map (·.size) = some 2 := by kernel_rfl
theorem lies_builder : liesAt Tryz.prog Tryz.prog.depth 127 (2 / Tryz.prog.cellsOf 127) 0 127 1 = true := by kernel_rfl
theorem info_byte : (Tryz.prog.info? 5).map (fun i => (i.zero, i.size, i.bytes)) = some (some (.int .u8 0), 1, 1) := by kernel_rfl

set_option maxHeartbeats 1000000 in
set_option maxRecDepth 100000 in
theorem copyCheck_used (b : Nat) (w : World) (h0 : w.cell? ⟨b, 0, none⟩ = some (.pointer (some ⟨b, 0, none⟩))) :
    Calls Tryz.prog 97 #[.pointer (some ⟨b, 0, none⟩)] w fun e w' => e = .returned (.tuple #[]) ∧ w' = w := by
  obtain ⟨j, hj, _⟩ := Option.map_eq_some_iff.1 info_builder
  go_enter Tryz.func97, Tryz.ntmps97
  go_wp2
  rw [Lib.run_neq_ptr_same w _ Tryz.underlying125 hj]
  go_wp2
  go_end0
  exact ⟨rfl, rfl⟩

set_option maxHeartbeats 1000000 in
set_option maxRecDepth 100000 in
theorem copyCheck_fresh (b : Nat) (w : World) (h0 : w.cell? ⟨b, 0, none⟩ = some (.pointer none)) (hsh : w.shape? b = some (127, 2)) (hfz : w.frozen? ⟨b, 0, none⟩ = false) :
    Calls Tryz.prog 97 #[.pointer (some ⟨b, 0, none⟩)] w fun e w' => e = .returned (.tuple #[]) ∧ w' = w.setCell ⟨b, 0, none⟩ (.pointer (some ⟨b, 0, none⟩)) := by
  obtain ⟨j, hj, hjs⟩ := Option.map_eq_some_iff.1 info_builder
  go_enter Tryz.func97, Tryz.ntmps97
  go_wp2
  rw [Lib.run_to_unsafe w ⟨b, 0, none⟩ Tryz.underlying125 Tryz.underlying187 hj (by rw [hjs]; decide) hsh (Nat.zero_lt_succ 1)]
  simp only [Result.andThen]
  rw [Oper.upon_value]
  go_wp2
  rw [run_callFunc_extern Tryz.func113 (by kernel_rfl) (by kernel_rfl) (by kernel_rfl) (e := Extern.AbiNoEscape.same) (by kernel_rfl)]
  rw [Lib.run_noEscape]
  simp only [Result.andThen]
  rw [Oper.upon_value]
  go_wp2
  rw [Lib.run_from_unsafe w ⟨b, 0, none⟩ Tryz.underlying187 Tryz.underlying125 hj hsh lies_builder]
  simp only [Result.andThen]
  rw [Oper.upon_value]
  go_wp2
  go_end0
  exact ⟨rfl, rfl⟩

theorem copyCheck_any (B b : Nat) (bs : List Value) (w : World) (h : Lib.IsBuilder 127 5 B b bs w) :
    Calls Tryz.prog 97 #[.pointer (some ⟨b, 0, none⟩)] w fun e w' => e = .returned (.tuple #[]) ∧ (Lib.BuilderAt 127 5 B b (.pointer (some ⟨b, 0, none⟩)) bs w' ∧ Below B w w') := by
  rcases h with h | h
  · refine (copyCheck_fresh b w h.cell0 h.shape h.frozen0).mono ?_
    rintro e w' ⟨rfl, rfl⟩
    exact ⟨rfl, h.used _, (Below.refl B w).setCell (p := ⟨b, 0, none⟩) h.1 _⟩
  · refine (copyCheck_used b w h.cell0).mono ?_
    rintro e w' ⟨rfl, rfl⟩
    exact ⟨rfl, h, Below.refl B _⟩
end Go.Proofs.YtkdnbdgpcgookaaGreatDoor
namespace Go.Proofs.YtkdnbdgpcgookaaGreatDoor
open Go.RowKit

set_option maxHeartbeats 2000000 in
set_option maxRecDepth 100000 in
theorem writeString_any (B b : Nat) (bs : List Value) (s : ByteArray) (w : World) (h : Lib.IsBuilder 127 5 B b bs w) (hlen : bs.length + s.size ≤ 140737488355328) (hBw : B ≤ w.heap.size) :
    Calls Tryz.prog 73 #[.pointer (some ⟨b, 0, none⟩), .string s] w fun e w' => e = .returned (.tuple #[.int .i64 s.size, .nilIface]) ∧ (Lib.IsBuilder 127 5 B b (bs ++ Lib.strCells s) w' ∧ Below B w w') := by
  obtain ⟨i0, hi, hz0, hz1, hz2⟩ := info_parts info_byte
  go_enter Tryz.func73, Tryz.ntmps73
  go_wp2_with (go_at_call 97; refine (copyCheck_any B b bs _ h).mono ?_)
  rintro e w1 ⟨rfl, h1, hb1⟩
  obtain ⟨hB, v, hbk, hown, hne⟩ := h1
  have c0 : w1.cell? ⟨b, 0, none⟩ = some (.pointer (some ⟨b, 0, none⟩)) := by rw [Lib.cell_of_heap hbk]; rfl
  have c1 : w1.cell? ⟨b, 1, none⟩ = some v := by rw [Lib.cell_of_heap hbk]; rfl
  go_wp2_with (at_builtin; refine Lib.wpList_append_own_string _ rfl _ _ 22 9 rfl B 5 i0 Tryz.underlying22 Tryz.underlying9 hi hz0 hz1 hz2 _ _ _ rfl hown s rfl ?c3 ?c4 ?c5 ?_)
  case c3 => unfold maxLen; omega
  case c4 => omega
  case c5 => have := hb1.size; omega
  intro v' w2 hown' hgrow _
  have hlt : b < w1.heap.size := (Array.getElem?_eq_some_iff.1 hbk).1
  have hb2 : w2.heap[b]? = some (.cells #[.pointer (some ⟨b, 0, none⟩), v] 127 (0, 0)) := by
    rw [hgrow.block b hlt (fun e => hne e.symm)]
    exact hbk
  have d0 : w2.cell? ⟨b, 0, none⟩ = some (.pointer (some ⟨b, 0, none⟩)) := by rw [Lib.cell_of_heap hb2]; rfl
  have d1 : w2.cell? ⟨b, 1, none⟩ = some v := by rw [Lib.cell_of_heap hb2]; rfl
  have f1 : w2.frozen? ⟨b, 1, none⟩ = false := Lib.frozen_of_heap hb2 1
  obtain ⟨ao, n', cap, rfl⟩ : ∃ ao n' cap, v' = .slice ao n' cap := by
    rcases hown'.2 with ⟨hv, _⟩ | ⟨g, cap, cur, hv, _⟩
    · exact ⟨_, _, _, hv⟩
    · exact ⟨_, _, _, hv⟩
  go_wp2
  go_ret2
  refine ⟨rfl, .inr ?_, ?_⟩
  · exact Lib.BuilderAt.put (T := 127) (e := 5) hB hb2 (bs' := bs ++ Lib.strCells s) (by simpa [Lib.strCells_length] using hown') (by decide)
  · exact (hb1.grown hgrow (by have := hb1.size; omega) (fun k hk => (hown.lt k hk).1)).setCell (p := ⟨b, 1, none⟩) hB _
end Go.Proofs.YtkdnbdgpcgookaaGreatDoor
namespace Go.Proofs.YtkdnbdgpcgookaaGreatDoor
open Go.RowKit Gram

theorem bytes_cells {w : World} {b : Nat} {l : List UInt8} {e : TypeId} (hb : w.heap[b]? = some (.cells (l.map fun c => Value.int .u8 (c.toNat : Int)).toArray e (0, 0))) :
    ∀ j (hj : j < l.length), w.cell? ((⟨b, 0, none⟩ : Addr).add j) = some (.int .u8 (l[j].toNat : Int)) := fun j hj => by
  have hadd : (⟨b, 0, none⟩ : Addr).add j = ⟨b, j, none⟩ := by unfold Addr.add; split <;> simp_all
  rw [hadd, Lib.cell_of_heap hb]
  simp [hj]

theorem str2 (g d : UInt8) (w : World) (b : Nat) (hb : b = w.heap.size) :
    (convert 22 9 (.slice (some ⟨b, 0, none⟩) 2 2)).run Tryz.prog (w.alloc (Obj.cells #[.int .u8 (g.toNat : Int), .int .u8 (d.toNat : Int)] 5)) =
      .ok (strV [g, d]) (w.alloc (Obj.cells #[.int .u8 (g.toNat : Int), .int .u8 (d.toNat : Int)] 5)) := by
  subst hb
  exact run_convert_bytes_back (P := Tryz.prog) _ 22 9 5 ⟨w.heap.size, 0, none⟩ 2 [g, d] Tryz.underlying22 Tryz.underlying5 Tryz.underlying9 (bytes_cells (e := 5) (heap_alloc_new _ _))

set_option maxHeartbeats 400000 in
set_option maxRecDepth 100000 in
theorem text_chg (g d : UInt8) (w : World) :
    Calls Tryz.prog 142 #[.agg #[.int .u8 g.toNat, .int .u8 d.toNat]] w fun e w' => e = .returned (strV [g, d]) ∧ Below w.heap.size w w' := by
  go_enter Tryz.func142, Tryz.ntmps142
  go_wp2_with fail
  rw [str2 g d _ _ (by simp)]
  simp only [Result.andThen]
  rw [Oper.upon_value]
  go_wp2_with fail
  go_ret
  exact ⟨rfl, ((Below.refl _ _).alloc (Nat.le_refl _) _).alloc (by simp) _⟩
set_option maxHeartbeats 400000 in
set_option maxRecDepth 100000 in
theorem text_call (c : UInt8) (w : World) :
    Calls Tryz.prog 140 #[.agg #[.int .u8 c.toNat]] w fun e w' => e = .returned (strV [67, c]) ∧ Below w.heap.size w w' := by
  go_enter Tryz.func140, Tryz.ntmps140
  go_wp2_with fail
  have hs := str2 67 c (w.alloc (Obj.cells #[.int .u8 c.toNat] 150)) (w.heap.size + 1) (by simp)
  simp only [UInt8.reduceToNat, Int.cast_ofNat_Int] at hs
  rw [hs]
  simp only [Result.andThen]
  rw [Oper.upon_value]
  go_wp2_with fail
  go_ret
  exact ⟨rfl, ((Below.refl _ _).alloc (Nat.le_refl _) _).alloc (by simp) _⟩
set_option maxHeartbeats 400000 in
theorem text_prt (w : World) :
    Calls Tryz.prog 141 #[.agg #[]] w fun e w' => e = .returned (strV [80]) ∧ Below w.heap.size w w' := by
  go_enter Tryz.func141, Tryz.ntmps141
  go_wp2_with fail
  go_ret
  exact ⟨rfl, (Below.refl _ _).alloc (Nat.le_refl _) _⟩
set_option maxHeartbeats 400000 in
theorem text_pro (w : World) :
    Calls Tryz.prog 139 #[.agg #[]] w fun e w' => e = .returned (strV [75]) ∧ Below w.heap.size w w' := by
  go_enter Tryz.func139, Tryz.ntmps139
  go_wp2_with fail
  go_ret
  exact ⟨rfl, (Below.refl _ _).alloc (Nat.le_refl _) _⟩

theorem tcho_start (w : World) (x y : Value) : ((w.alloc (Obj.cells #[x, y] 164)).drew).cell? ⟨w.heap.size, 0, none⟩ = some x ∧ ((w.alloc (Obj.cells #[x, y] 164)).drew).cell? ⟨w.heap.size, 1, none⟩ = some y ∧
    Below w.heap.size w ((w.alloc (Obj.cells #[x, y] 164)).drew) ∧ w.heap.size < ((w.alloc (Obj.cells #[x, y] 164)).drew).heap.size := by
  have h : ((w.alloc (Obj.cells #[x, y] 164)).drew).heap[w.heap.size]? = some (Obj.cells #[x, y] 164 (0, 0)) := heap_alloc_new w _
  refine ⟨by rw [Lib.cell_of_heap h]; rfl, by rw [Lib.cell_of_heap h]; rfl, ((Below.refl _ _).alloc (Nat.le_refl _) _).drew, heap_lt h⟩
theorem tcho_later {w w1 w2 : World} {x y : Value} (h : w1.cell? ⟨w.heap.size, 0, none⟩ = some x ∧ w1.cell? ⟨w.heap.size, 1, none⟩ = some y ∧ Below w.heap.size w w1 ∧ w.heap.size < w1.heap.size) (hb : Below w1.heap.size w1 w2) :
    w2.cell? ⟨w.heap.size, 0, none⟩ = some x ∧ w2.cell? ⟨w.heap.size, 1, none⟩ = some y ∧ Below w.heap.size w w2 ∧ w.heap.size < w2.heap.size :=
  ⟨cell_later hb h.1, cell_later hb h.2.1, h.2.2.1.trans (hb.mono (Nat.le_of_lt h.2.2.2)), Nat.lt_of_lt_of_le h.2.2.2 hb.size⟩
theorem tcho_below {w w1 : World} {x y : Value} (h : w1.cell? ⟨w.heap.size, 0, none⟩ = some x ∧ w1.cell? ⟨w.heap.size, 1, none⟩ = some y ∧ Below w.heap.size w w1 ∧ w.heap.size < w1.heap.size) : Below w.heap.size w w1 := h.2.2.1

theorem str_add (x y : ByteArray) (h : x.size + y.size ≤ 9223372036854775807) (w : World) : (Op.stringOp .add x y).run Tryz.prog w = .ok (.string (x ++ y)) w := run_string_add_sum w x y h

set_option maxHeartbeats 400000 in
theorem text_cho (la : Option Addr) (ln lc : Nat) (fa : Option Addr) (fn fc : Nat) (sa sb : ByteArray) (w : World) (hsa : sa.size ≤ 1048576) (hsb : sb.size ≤ 1048576)
    (ha : ∀ w', Below w.heap.size w w' → Calls Tryz.prog 43 #[.slice la ln lc] w' fun e w'' => e = .returned (.string sa) ∧ Below w'.heap.size w' w'')
    (hb : ∀ w', Below w.heap.size w w' → Calls Tryz.prog 43 #[.slice fa fn fc] w' fun e w'' => e = .returned (.string sb) ∧ Below w'.heap.size w' w'') :
    Calls Tryz.prog 143 #[.agg #[.slice la ln lc, .slice fa fn fc]] w fun e w' => e = .returned (.string (⟨#[63, 91]⟩ ++ sa ++ ⟨#[93, 91]⟩ ++ sb ++ ⟨#[93]⟩)) ∧ Below w.heap.size w w' := by
  have HA := Lib.hid ha
  have HB := Lib.hid hb
  clear ha hb
  have z1 : (⟨#[63, 91]⟩ : ByteArray).size = 2 := rfl
  have z2 : (⟨#[93, 91]⟩ : ByteArray).size = 2 := rfl
  have z3 : (⟨#[93]⟩ : ByteArray).size = 1 := rfl
  have e1 := str_add ⟨#[63, 91]⟩ sa (by omega)
  have e2 := str_add (⟨#[63, 91]⟩ ++ sa) ⟨#[93, 91]⟩ (by simp; omega)
  have e3 := str_add (⟨#[63, 91]⟩ ++ sa ++ ⟨#[93, 91]⟩) sb (by simp; omega)
  have e4 := str_add (⟨#[63, 91]⟩ ++ sa ++ ⟨#[93, 91]⟩ ++ sb) ⟨#[93]⟩ (by simp; omega)
  clear z1 z2 z3
  go_enter Tryz.func143, Tryz.ntmps143
  go_wp2_with fail
  go_region_held3 (fun w' => w'.cell? ⟨w.heap.size, 0, none⟩ = some (.slice la ln lc) ∧ w'.cell? ⟨w.heap.size, 1, none⟩ = some (.slice fa fn fc) ∧ Below w.heap.size w w' ∧ w.heap.size < w'.heap.size) ((first | assumption | exact tcho_start _ _ _ | (apply tcho_later; assumption; assumption)))
    ((first | (go_at_call_of 43 (Value.slice la ln lc); refine (HA.out _ (tcho_below (by assumption))).mono ?_; rintro e w' ⟨rfl, hb1⟩) | (go_at_call_of 43 (Value.slice fa fn fc); refine (HB.out _ (tcho_below (by assumption))).mono ?_; rintro e w' ⟨rfl, hb1⟩)))
  all_goals go_wp2_with fail
  all_goals go_ret
  all_goals exact ⟨rfl, tcho_below (by assumption)⟩


theorem meth_chg (x y : Value) (w : World) : (method 344 162 (.agg #[x, y]) "loop.example/wovenprograms/impl.text").run Tryz.prog w = .ok (142, .agg #[x, y]) w := by kernel_rfl
theorem meth_call (x : Value) (w : World) : (method 344 150 (.agg #[x]) "loop.example/wovenprograms/impl.text").run Tryz.prog w = .ok (140, .agg #[x]) w := by kernel_rfl
theorem meth_prt (w : World) : (method 344 151 (.agg #[]) "loop.example/wovenprograms/impl.text").run Tryz.prog w = .ok (141, .agg #[]) w := by kernel_rfl
theorem meth_pro (w : World) : (method 344 134 (.agg #[]) "loop.example/wovenprograms/impl.text").run Tryz.prog w = .ok (139, .agg #[]) w := by kernel_rfl
theorem meth_cho (x y : Value) (w : World) : (method 344 164 (.agg #[x, y]) "loop.example/wovenprograms/impl.text").run Tryz.prog w = .ok (143, .agg #[x, y]) w := by kernel_rfl

theorem isBuilder_later {w w' : World} {T e : TypeId} {B b : Nat} {bs : List Value} (h : Lib.IsBuilder T e B b bs w) (hk : ∀ k, k < w.heap.size → w'.heap[k]? = w.heap[k]?) : Lib.IsBuilder T e B b bs w' := by
  have key : ∀ p, Lib.BuilderAt T e B b p bs w → Lib.BuilderAt T e B b p bs w' := by
    rintro p ⟨h1, v, h2, h3, h4⟩
    exact ⟨h1, v, by rw [hk _ (heap_lt h2)]; exact h2, ownsRow_of h3 fun k hk' => hk k (h3.lt k hk').2, h4⟩
  exact h.imp (key _) (key _)

/-- the function that tells a statement's text -/
def fnOf : Stm → FuncId
  | .chg _ _ => 142
  | .prt => 141
  | .pro => 139
  | .call _ => 140
  | .cho _ _ => 143

def SaidText (n : Nat) : Prop := ∀ (x : Stm) (w : World) (S : Nat → Prop) (ty : TypeId) (pv : Value), x.txt.length ≤ n → n ≤ 1048576 → (∀ k, S k → k < w.heap.size) → IsStm w S x (.iface ty pv) →
  Calls Tryz.prog (fnOf x) #[pv] w fun e w' => e = .returned (strV x.txt) ∧ Below w.heap.size w w'
def SaidBody (n : Nat) : Prop := ∀ (xs : List Stm) (w : World) (S : Nat → Prop) (v : Value), (txts xs).length ≤ n → n ≤ 1048576 → (∀ k, S k → k < w.heap.size) → IsBody w S xs v →
  Calls Tryz.prog 43 #[v] w fun e w' => e = .returned (strV (txts xs)) ∧ Below w.heap.size w w'

theorem text_step (n : Nat) (h : ∀ m, m < n → SaidBody m) : SaidText n := by
  intro x w S ty pv hx hn hS hs
  cases x with
  | chg g d =>
    simp only [IsStm] at hs
    injection hs with h1 h2; subst h1; subst h2
    exact text_chg g d w
  | prt =>
    simp only [IsStm] at hs
    injection hs with h1 h2; subst h1; subst h2
    exact text_prt w
  | pro =>
    simp only [IsStm] at hs
    injection hs with h1 h2; subst h1; subst h2
    exact text_pro w
  | call c =>
    simp only [IsStm] at hs
    injection hs with h1 h2; subst h1; subst h2
    exact text_call c w
  | cho a b =>
    simp only [IsStm] at hs
    obtain ⟨va, vb, vas, vbs, he, r1, s1, r2, s2⟩ := hs
    injection he with h1 h2; subst h1; subst h2
    simp only [Stm.txt, List.length_cons, List.length_append, List.length_nil] at hx
    obtain ⟨la, ln, lc, rfl⟩ := slice_form r1.1
    obtain ⟨fa, fn, fc, rfl⟩ := slice_form r2.1
    have hkeep : ∀ w', Below w.heap.size w w' → ∀ k, S k → w'.heap[k]? = w.heap[k]? := fun w' hb k hk => hb.block k (hS k hk)
    refine (text_cho la ln lc fa fn fc ⟨(txts a).toArray⟩ ⟨(txts b).toArray⟩ w (by simp [ByteArray.size]; omega) (by simp [ByteArray.size]; omega) ?_ ?_).mono ?_
    · intro w' hb
      exact h (txts a).length (by omega) a w' S _ (Nat.le_refl _) (by omega) (fun k hk => Nat.lt_of_lt_of_le (hS k hk) hb.size) (IsBody.kept (hkeep w' hb) (fun _ h => h) ⟨vas, r1, s1⟩)
    · intro w' hb
      exact h (txts b).length (by omega) b w' S _ (Nat.le_refl _) (by omega) (fun k hk => Nat.lt_of_lt_of_le (hS k hk) hb.size) (IsBody.kept (hkeep w' hb) (fun _ h => h) ⟨vbs, r2, s2⟩)
    · rintro e w' ⟨rfl, hb⟩
      refine ⟨?_, hb⟩
      simp only [strV, Stm.txt]
      congr 2
      apply ByteArray.ext
      simp

theorem ttxts_take (xs : List Stm) (k : Nat) (x : Stm) (hx : xs[k]? = some x) : txts (xs.take (k + 1)) = txts (xs.take k) ++ x.txt := by
  obtain ⟨hk, rfl⟩ := List.getElem?_eq_some_iff.1 hx
  rw [List.take_succ_eq_append_getElem hk, txts_snoc]
theorem txts_le (xs : List Stm) (k : Nat) : (txts (xs.take k)).length ≤ (txts xs).length := by
  have := txts_append (xs.take k) (xs.drop k)
  rw [List.take_append_drop] at this
  rw [this]; simp
theorem IsStms.get {w : World} {S : Nat → Prop} : ∀ (xs : List Stm) (vs : List Value), IsStms w S xs vs → ∀ k, k < xs.length → ∃ x v, xs[k]? = some x ∧ vs[k]? = some v ∧ IsStm w S x v
  | [], _, _, k, hk => by simp at hk
  | x :: xs, vs, h, k, hk => by
    simp only [IsStms] at h
    obtain ⟨v, t, rfl, h1, h2⟩ := h
    cases k with
    | zero => exact ⟨x, v, rfl, rfl, h1⟩
    | succ k =>
      obtain ⟨y, u, a, b, c⟩ := IsStms.get xs t h2 k (by simpa using hk)
      exact ⟨y, u, by simpa using a, by simpa using b, c⟩

set_option maxHeartbeats 2000000 in
set_option maxRecDepth 100000 in
theorem body_loop (n : Nat) (h : SaidText n) (xs : List Stm) (w : World) (S : Nat → Prop) (a : Option Addr) (ln c : Nat) (vs : List Value) (hx : (txts xs).length ≤ n) (hn : n ≤ 1048576) (hS : ∀ k, S k → k < w.heap.size)
    (hr : Row w S (.slice a ln c) vs) (hs : IsStms w S xs vs) (hln : ln = xs.length) :
    Calls Tryz.prog 43 #[.slice a ln c] w fun e w' => e = .returned (strV (txts xs)) ∧ Below w.heap.size w w' := by
  have hle := txts_ge xs
  have hlb : ln ≤ 1048576 := by omega
  have H := Lib.hid h
  have HR := Lib.hid hr
  have HS := Lib.hid hs
  have HL := Lib.hid hln
  have hSS := Lib.hid hS
  clear h hr hs hS hln
  go_enter Tryz.func43, Tryz.ntmps43
  go_wp2_with fail
  go_loopw [8] (fun i wr => ∃ k : Nat, k ≤ ln ∧ i = .int .i64 k ∧ Hid (Lib.IsBuilder 127 5 w.heap.size w.heap.size (Lib.byteCells (txts (xs.take k))) wr) ∧ Below w.heap.size w wr) (fun i _ => ln - (intOf i).toNat)
  case atStart =>
    exact ⟨0, Nat.zero_le _, by go_num, Lib.fresh_isBuilder 127 5 w, (Below.refl _ _).alloc (Nat.le_refl _) _⟩
  case round =>
    obtain ⟨k, hk, rfl, hI, hb⟩ := hrel
    have hsz := hb.size
    by_cases hlt : k < ln
    · obtain ⟨x, v, hxk, hvk, hst⟩ := IsStms.get xs vs HS.out k (by rw [← HL.out]; exact hlt)
      obtain ⟨g, hga, hc1⟩ : ∃ g, a = some ⟨g, 0, none⟩ ∧ wr.cell? ⟨g, k, none⟩ = some v := by
        rcases HR.out.1.2 with ⟨h1, h2⟩ | ⟨g, cap, cur, h1, _, _⟩
        · injection h1 with h3 h4; omega
        · injection h1 with h3 h4 h5
          subst h3; subst h4; subst h5
          have hg : g < w.heap.size := hSS.out g (HR.out.2 g rfl)
          have := row_cell HR.out.1 k v hvk
          exact ⟨g, rfl, by rw [← this]; exact World.cell?_of_block (a := ⟨g, k, none⟩) (hb.block g hg)⟩
      subst hga
      have hkeep : ∀ j, S j → wr.heap[j]? = w.heap[j]? := fun j hj => hb.block j (hSS.out j hj)
      have hst2 := IsStm.kept hkeep (fun _ h => h) _ _ hst
      obtain ⟨ty, pv, rfl⟩ := hst2.iface
      have htl := ttxts_take xs k x hxk
      have hlk := txts_le xs (k + 1)
      rw [htl] at hlk
      simp only [List.length_append] at hlk
      have hC := H.out x wr S ty pv (by omega) hn (fun j hj => Nat.lt_of_lt_of_le (hSS.out j hj) hsz) hst2
      have HC := Lib.hid hC
      have HT := Lib.hid htl
      have hW := fun (w2 : World) (hb2 : Below wr.heap.size wr w2) => writeString_any w.heap.size w.heap.size (Lib.byteCells (txts (xs.take k))) ⟨x.txt.toArray⟩ w2 (isBuilder_later hI.out fun j hj => hb2.block j hj) (by rw [Lib.byteCells_length]; simp [ByteArray.size]; omega) (Nat.le_trans hsz hb2.size)
      have HW := Lib.hid hW
      clear hC htl hlk hW hst hkeep hxk hvk
      generalize x.txt = tx at *
      cases x with
      | pro =>
        simp only [IsStm] at hst2
        injection hst2 with h1 h2; subst h1; subst h2
        have hm := meth_pro
        go_wp2_with fail
        refine HC.out.mono ?_
        rintro e w2 ⟨rfl, hb2⟩
        have hsz2 := hb2.size
        have HB2 := Lib.hid hb2
        clear hb2
        unfold strV
        go_wp2_with fail
        refine (HW.out w2 HB2.out).mono ?_
        rintro e w3 ⟨rfl, hI3, hb3⟩
        have HI3 := Lib.hid hI3
        clear hI3
        go_wp2_with fail
        go_roundw
        case rel =>
          refine ⟨k + 1, by omega, by go_num, ?_, (hb.trans (HB2.out.mono hsz)).trans hb3⟩
          show Lib.IsBuilder _ _ _ _ _ _
          rw [HT.out, Lib.byteCells_append]
          exact HI3.out
        case measure => simp [intOf]; omega
      | chg g d =>
        simp only [IsStm] at hst2
        injection hst2 with h1 h2; subst h1; subst h2
        have hm := meth_chg (.int .u8 g.toNat) (.int .u8 d.toNat)
        go_wp2_with fail
        refine HC.out.mono ?_
        rintro e w2 ⟨rfl, hb2⟩
        have hsz2 := hb2.size
        have HB2 := Lib.hid hb2
        clear hb2
        unfold strV
        go_wp2_with fail
        refine (HW.out w2 HB2.out).mono ?_
        rintro e w3 ⟨rfl, hI3, hb3⟩
        have HI3 := Lib.hid hI3
        clear hI3
        go_wp2_with fail
        go_roundw
        case rel =>
          refine ⟨k + 1, by omega, by go_num, ?_, (hb.trans (HB2.out.mono hsz)).trans hb3⟩
          show Lib.IsBuilder _ _ _ _ _ _
          rw [HT.out, Lib.byteCells_append]
          exact HI3.out
        case measure => simp [intOf]; omega
      | prt =>
        simp only [IsStm] at hst2
        injection hst2 with h1 h2; subst h1; subst h2
        have hm := meth_prt
        go_wp2_with fail
        refine HC.out.mono ?_
        rintro e w2 ⟨rfl, hb2⟩
        have hsz2 := hb2.size
        have HB2 := Lib.hid hb2
        clear hb2
        unfold strV
        go_wp2_with fail
        refine (HW.out w2 HB2.out).mono ?_
        rintro e w3 ⟨rfl, hI3, hb3⟩
        have HI3 := Lib.hid hI3
        clear hI3
        go_wp2_with fail
        go_roundw
        case rel =>
          refine ⟨k + 1, by omega, by go_num, ?_, (hb.trans (HB2.out.mono hsz)).trans hb3⟩
          show Lib.IsBuilder _ _ _ _ _ _
          rw [HT.out, Lib.byteCells_append]
          exact HI3.out
        case measure => simp [intOf]; omega
      | call d =>
        simp only [IsStm] at hst2
        injection hst2 with h1 h2; subst h1; subst h2
        have hm := meth_call (.int .u8 d.toNat)
        go_wp2_with fail
        refine HC.out.mono ?_
        rintro e w2 ⟨rfl, hb2⟩
        have hsz2 := hb2.size
        have HB2 := Lib.hid hb2
        clear hb2
        unfold strV
        go_wp2_with fail
        refine (HW.out w2 HB2.out).mono ?_
        rintro e w3 ⟨rfl, hI3, hb3⟩
        have HI3 := Lib.hid hI3
        clear hI3
        go_wp2_with fail
        go_roundw
        case rel =>
          refine ⟨k + 1, by omega, by go_num, ?_, (hb.trans (HB2.out.mono hsz)).trans hb3⟩
          show Lib.IsBuilder _ _ _ _ _ _
          rw [HT.out, Lib.byteCells_append]
          exact HI3.out
        case measure => simp [intOf]; omega
      | cho p q =>
        simp only [IsStm] at hst2
        obtain ⟨va, vb, vas, vbs, he, _⟩ := hst2
        injection he with h1 h2; subst h1; subst h2
        have hm := meth_cho va vb
        go_wp2_with fail
        refine HC.out.mono ?_
        rintro e w2 ⟨rfl, hb2⟩
        have hsz2 := hb2.size
        have HB2 := Lib.hid hb2
        clear hb2
        unfold strV
        go_wp2_with fail
        refine (HW.out w2 HB2.out).mono ?_
        rintro e w3 ⟨rfl, hI3, hb3⟩
        have HI3 := Lib.hid hI3
        clear hI3
        go_wp2_with fail
        go_roundw
        case rel =>
          refine ⟨k + 1, by omega, by go_num, ?_, (hb.trans (HB2.out.mono hsz)).trans hb3⟩
          show Lib.IsBuilder _ _ _ _ _ _
          rw [HT.out, Lib.byteCells_append]
          exact HI3.out
        case measure => simp [intOf]; omega
    · have hkl : k = ln := by omega
      subst hkl
      have hall : xs.take k = xs := List.take_of_length_le (by rw [← HL.out]; exact Nat.le_refl _)
      have hI' := hI.out
      rw [hall] at hI'
      have HI := Lib.hid hI'
      clear hI hI' hall
      go_wp2_with fail
      refine (Tryz.Builder_String_any w.heap.size w.heap.size (txts xs) _ HI.out hsz).mono ?_
      rintro e w2 ⟨rfl, hb2⟩
      go_wp2_with fail
      go_ret
      exact ⟨rfl, hb.trans hb2⟩

theorem body_step (n : Nat) (h : SaidText n) : SaidBody n := by
  intro xs w S v hx hn hS hB
  obtain ⟨vs, hr, hs⟩ := hB
  obtain ⟨a, ln, c, rfl⟩ := slice_form hr.1
  have hl := IsStms.len _ _ hs
  refine body_loop n h xs w S a ln c vs hx hn hS hr hs ?_
  rcases hr.1.2 with ⟨h1, h2⟩ | ⟨g, cap, cur, h1, _⟩
  · injection h1 with _ h3; omega
  · injection h1 with _ h3; omega

theorem text_all (n : Nat) : SaidText n := by
  induction n using Nat.strongRecOn with
  | _ n ih => exact text_step n fun m hm => body_step m (ih m hm)

end Go.Proofs.YtkdnbdgpcgookaaGreatDoor
