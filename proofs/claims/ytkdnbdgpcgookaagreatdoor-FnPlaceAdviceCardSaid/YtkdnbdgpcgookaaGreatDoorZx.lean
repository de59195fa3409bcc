/- The laws' markText: a number's text behind 'm'; marks laid over a row's texts. Condition: numbers from 1 to 10^8. szAspect and toAspect: an aspect's size and its copy. Condition: its texts' lengths. Lists of aspects in memory: sizes, copies, comparison (the laws), AspectsValid of the program and of the model. Conditions: at most 2^20 aspects; the errors lie where start-up laid them. eqAspect at twice the same aspect. No condition. Lists of aspects: comparison with itself (the laws), AspectsValid of the model and of the program. Conditions as in Asps. The laws' markAspectS, heldAspectS over a row of aspects, its texts laid flat. Conditions: at most 2^20 aspects. -/
import Derived.Test.YtkdnbdgpcgookaaGreatDoorRd
import Derived.Test.YtkdnbdgpcgookaaGreatDoorTxt
import Derived.Test.YtkdnbdgpcgookaaGreatDoorDx
import Derived.Test.YtkdnbdgpcgookaaGreatDoorHx
import Derived.Test.YtkdnbdgpcgookaaGreatDoorSasp
import Derived.Test.YtkdnbdgpcgookaaGreatDoorOnly
import Derived.Deep.RegionHeld3
namespace Go.Proofs.YtkdnbdgpcgookaaGreatDoor
open Go.RowKit Gram

theorem bytes_one {w : World} {b : Nat} {c : UInt8} {e : TypeId} (hb : w.heap[b]? = some (.cells #[.int .u8 (c.toNat : Int)] e (0, 0))) :
    ∀ j (hj : j < [c].length), w.cell? ((⟨b, 0, none⟩ : Addr).add j) = some (.int .u8 ([c][j].toNat : Int)) := fun j hj => by
  have h0 : j = 0 := by simp at hj; exact hj
  subst h0
  have hadd : (⟨b, 0, none⟩ : Addr).add 0 = ⟨b, 0, none⟩ := by unfold Addr.add; split <;> simp_all
  rw [hadd, Lib.cell_of_heap hb]
  rfl
theorem byte_str (c : UInt8) (w : World) (b : Nat) (hb : b = w.heap.size) (n : Int) (hn : (c.toNat : Int) = n) :
    (convert 22 9 (.slice (some ⟨b, 0, none⟩) 1 1)).run Tryz.prog (w.alloc (Obj.cells #[.int .u8 n] 5)) =
      .ok (.string ⟨#[c]⟩) (w.alloc (Obj.cells #[.int .u8 n] 5)) := by
  subst hb; subst hn
  exact run_convert_bytes_back (P := Tryz.prog) _ 22 9 5 ⟨w.heap.size, 0, none⟩ 1 [c] Tryz.underlying22 Tryz.underlying5 Tryz.underlying9 (bytes_one (e := 5) (heap_alloc_new _ _))

/-- decimal digits of a number, in front of others -/
def mkL (k : Nat) (o : List UInt8) : List UInt8 := if h : k = 0 then o else mkL (k / 10) (UInt8.ofNat (48 + k % 10) :: o)
termination_by k
decreasing_by omega

def markV (k : Nat) : ByteArray := ⟨#[109]⟩ ++ ⟨(mkL k []).toArray⟩

/-- the first j texts turned into marks from k0 on -/
def marksTo (k0 j : Nat) (ss : List ByteArray) : List ByteArray := (List.range j).map (fun i => markV (k0 + i)) ++ ss.drop j
theorem marksTo_zero (k0 : Nat) (ss : List ByteArray) : marksTo k0 0 ss = ss := by simp [marksTo]
theorem marksTo_len (k0 j : Nat) (ss : List ByteArray) (h : j ≤ ss.length) : (marksTo k0 j ss).length = ss.length := by simp [marksTo]; omega
theorem marksTo_set (k0 j : Nat) (ss : List ByteArray) (h : j < ss.length) : (marksTo k0 j ss).set j (markV (k0 + j)) = marksTo k0 (j + 1) ss := by
  unfold marksTo
  rw [List.set_append_right _ _ (by simp), List.range_succ]
  rw [List.drop_eq_getElem_cons h]
  simp only [List.length_map, List.length_range, Nat.sub_self, List.set_cons_zero, List.map_append, List.map_cons, List.map_nil, List.append_assoc, List.cons_append, List.nil_append]
theorem marksTo_get (k0 n : Nat) (ss : List ByteArray) (j : Nat) (h : j < n) : (marksTo k0 n ss)[j]? = some (markV (k0 + j)) := by
  unfold marksTo
  rw [List.getElem?_append_left (by simpa using h), List.getElem?_map, List.getElem?_range h]; rfl

/-- a text of a row of texts, laid flat -/
theorem rowS_get {w : World} {B : Nat} {e : TypeId} {a : Option Addr} {n c sz : Nat} {ss : List ByteArray} (h : w.ownsRow B e sz (.slice a n c) n (ss.map Value.string)) (k : Nat) (hk : k < ss.length) :
    ∃ g s, a = some ⟨g, 0, none⟩ ∧ ss[k]? = some s ∧ w.cell? ⟨g, k, none⟩ = some (.string s) ∧ w.frozen? ⟨g, k, none⟩ = false := by
  have hl : ss.length = n * sz := by have := h.1; simp at this; omega
  rcases h.2 with ⟨h1, h2⟩ | ⟨g, cap, cur, h1, _, _⟩
  · subst h2; simp at hl; subst hl; simp at hk
  · injection h1 with h3 h4 h5
    subst h3; subst h5
    have hs : ss[k]? = some ss[k] := List.getElem?_eq_getElem (by omega)
    exact ⟨g, ss[k], rfl, hs, row_cell h k _ (by rw [List.getElem?_map, hs]; rfl), row_free h k⟩
theorem rowS_at {w w2 : World} {B : Nat} {e : TypeId} {g n c sz : Nat} {ss : List ByteArray} (h : w.ownsRow B e sz (.slice (some ⟨g, 0, none⟩) n c) n (ss.map Value.string)) (hb : Below w.heap.size w w2) (k : Nat) (hk : k < ss.length) :
    ∃ s, w2.cell? ⟨g, k, none⟩ = some (.string s) ∧ w2.frozen? ⟨g, k, none⟩ = false := by
  obtain ⟨g', s, he, _, h2, h3⟩ := rowS_get h k hk
  injection he with he
  injection he with he
  subst he
  have hl := World.block_lt_of_cell? w _ h2
  exact ⟨s, by rw [hb.cell (p := ⟨g, k, none⟩) hl]; exact h2, by rw [hb.frozen (p := ⟨g, k, none⟩) hl]; exact h3⟩
/-- one more mark -/
theorem row_mark {w w2 : World} {B g n cap k0 j sz : Nat} {e : TypeId} {ss : List ByteArray} (h : w.ownsRow B e sz (.slice (some ⟨g, 0, none⟩) n cap) n ((marksTo k0 j ss).map Value.string)) (hb : Below w.heap.size w w2) (hj : j < ss.length) :
    (w2.setCell ⟨g, j, none⟩ (.string (markV (k0 + j)))).ownsRow B e sz (.slice (some ⟨g, 0, none⟩) n cap) n ((marksTo k0 (j + 1) ss).map Value.string) := by
  have h2 := ownsRow_of (w' := w2) h (fun k hk => hb.block k (h.lt k hk).2)
  have h3 := row_set h2 j (.string (markV (k0 + j)))
  rw [← List.map_set, marksTo_set _ _ _ hj] at h3
  exact h3
theorem grown_mark {w w1 w2 : World} {g : Nat} (h : w.grownBy w1 (some g)) (hb : Below w1.heap.size w1 w2) (j : Nat) (u : Value) : w.grownBy (w2.setCell ⟨g, j, none⟩ u) (some g) :=
  grownBy_trans (grownBy_trans h (grownBy_below hb)) (grownBy_set _)
theorem held_start {w : World} {a : Addr} {v : Value} (h : w.cell? a = some v) : w.drew.cell? a = some v ∧ Below w.heap.size w w.drew := ⟨h, (Below.refl _ _).drew⟩
theorem held_later {w w1 w2 : World} {a : Addr} {v : Value} (h : w1.cell? a = some v ∧ Below w.heap.size w w1) (hb : Below w1.heap.size w1 w2) : w2.cell? a = some v ∧ Below w.heap.size w w2 :=
  ⟨by rw [hb.cell (World.block_lt_of_cell? w1 _ h.1)]; exact h.1, h.2.trans (hb.mono h.2.size)⟩
end Go.Proofs.YtkdnbdgpcgookaaGreatDoor
namespace Go.Proofs.YtkdnbdgpcgookaaGreatDoor
open Go.RowKit Gram

set_option maxHeartbeats 1000000 in
theorem sz_fits (k n s : ByteArray) (w : World) (h : k.size + n.size + s.size ≤ 1048576) :
    Calls Tryz.prog 52 #[aspV k n s, .int .i64 1048576] w fun e w' => (∃ r : Nat, r ≤ 1048576 ∧ e = .returned (.int .i64 r)) ∧ Below w.heap.size w w' := by
  unfold aspV
  go_enter Tryz.func52, Tryz.ntmps52
  go_wp2_with fail
  go_ret
  exact ⟨⟨1048576 - (k.size + n.size + s.size), by omega, ret_int (by omega)⟩, (Below.refl _ _).alloc (Nat.le_refl _) _⟩

set_option maxHeartbeats 1000000 in
theorem sz_over (k n s : ByteArray) (w : World) (hk : k.size ≤ maxLen) (hn : n.size ≤ maxLen) (hs : s.size ≤ maxLen) (h : 1048576 < k.size + n.size + s.size) :
    Calls Tryz.prog 52 #[aspV k n s, .int .i64 1048576] w fun e w' => e = .returned (.int .i64 (-1)) ∧ Below w.heap.size w w' := by
  unfold aspV
  unfold maxLen at hk hn hs
  by_cases h1 : 1048576 < k.size
  · go_enter Tryz.func52, Tryz.ntmps52
    go_wp2_with fail
    go_ret
    exact ⟨rfl, (Below.refl _ _).alloc (Nat.le_refl _) _⟩
  · by_cases h2 : 1048576 < k.size + n.size
    · go_enter Tryz.func52, Tryz.ntmps52
      go_wp2_with fail
      go_ret
      exact ⟨rfl, (Below.refl _ _).alloc (Nat.le_refl _) _⟩
    · go_enter Tryz.func52, Tryz.ntmps52
      go_wp2_with fail
      go_ret
      exact ⟨rfl, (Below.refl _ _).alloc (Nat.le_refl _) _⟩

set_option maxHeartbeats 1000000 in
theorem to_any (k n s : ByteArray) (w : World) :
    Calls Tryz.prog 53 #[aspV k n s] w fun e w' => e = .returned (aspV k n s) ∧ Below w.heap.size w w' := by
  unfold aspV
  go_enter Tryz.func53, Tryz.ntmps53
  go_wp2_with fail
  refine bodyPost_ret (v := .agg #[.string k, .string n, .string s]) ?_ rfl ⟨rfl, (((Below.refl _ w).alloc (Nat.le_refl _) _).alloc (by simp) _).alloc (by simp; omega) _⟩
  simp [results, Tryz.results53, go_sem]
end Go.Proofs.YtkdnbdgpcgookaaGreatDoor
namespace Go.Proofs.YtkdnbdgpcgookaaGreatDoor
open Go.RowKit Gram

/-- an aspect, plainly -/
abbrev As := ByteArray × ByteArray × ByteArray
def asV (p : As) : Value := aspV p.1 p.2.1 p.2.2
def asZ (p : As) : Nat := p.1.size + p.2.1.size + p.2.2.size
def asT (zs : List As) : Nat := (zs.map asZ).sum
def asOk (p : As) : Bool := (aspOf p.1 p.2.1 p.2.2).isSome

/-- the aspects of a slice -/
structure Asps (w : World) (a : Option Addr) (n : Nat) (zs : List As) : Prop where
  len : zs.length = n
  at_ : ∀ i (h : i < zs.length), ∃ g off, a = some ⟨g, off, none⟩ ∧ w.cell? ⟨g, off + i * 3, none⟩ = some (.string zs[i].1) ∧ w.cell? ⟨g, off + i * 3 + 1, none⟩ = some (.string zs[i].2.1) ∧ w.cell? ⟨g, off + i * 3 + 2, none⟩ = some (.string zs[i].2.2)
theorem Asps.later {w w' : World} {a : Option Addr} {n : Nat} {zs : List As} (h : Asps w a n zs) (hb : Below w.heap.size w w') : Asps w' a n zs :=
  ⟨h.len, fun i hi => by
    obtain ⟨g, off, ha, c0, c1, c2⟩ := h.at_ i hi
    exact ⟨g, off, ha, by rw [hb.cell (p := ⟨g, off + i * 3, none⟩) (World.block_lt_of_cell? w _ c0)]; exact c0,
      by rw [hb.cell (p := ⟨g, off + i * 3 + 1, none⟩) (World.block_lt_of_cell? w _ c1)]; exact c1,
      by rw [hb.cell (p := ⟨g, off + i * 3 + 2, none⟩) (World.block_lt_of_cell? w _ c2)]; exact c2⟩⟩

theorem asT_take (zs : List As) (k : Nat) (h : k < zs.length) : asT (zs.take (k + 1)) = asT (zs.take k) + asZ zs[k] := by
  unfold asT; rw [List.take_succ_eq_append_getElem h, List.map_append, List.sum_append]; simp
theorem asT_le (zs : List As) (k : Nat) (h : k < zs.length) : asZ zs[k] ≤ asT zs := by
  have h1 := asT_take zs k h
  have h2 : asT (zs.take (k + 1)) + asT (zs.drop (k + 1)) = asT zs := by
    unfold asT; rw [← List.sum_append, ← List.map_append, List.take_append_drop]
  omega
theorem asOk_take (zs : List As) (k : Nat) (h : k < zs.length) : (zs.take (k + 1)).all asOk = ((zs.take k).all asOk && asOk zs[k]) := by
  rw [List.take_succ_eq_append_getElem h, List.all_append]; simp
theorem asOk_not (zs : List As) (k : Nat) (h : k < zs.length) (hn : asOk zs[k] = false) : zs.all asOk = false := by
  rw [List.all_eq_false]; exact ⟨zs[k], List.getElem_mem h, by rw [hn]; decide⟩

set_option maxHeartbeats 1000000 in
theorem sz_one (p : As) (l : Nat) (w : World) (hl : l ≤ 1048576) (hk : p.1.size ≤ maxLen) (hn : p.2.1.size ≤ maxLen) (hs : p.2.2.size ≤ maxLen) :
    Calls Tryz.prog 52 #[asV p, .int .i64 l] w fun e w' => e = .returned (.int .i64 (if asZ p ≤ l then ((l - asZ p : Nat) : Int) else -1)) ∧ Below w.heap.size w w' := by
  obtain ⟨k, n, s⟩ := p
  unfold maxLen at hk hn hs
  simp only at hk hn hs
  unfold asV aspV asZ
  simp only
  by_cases h : k.size + n.size + s.size ≤ l
  · rw [if_pos h]
    go_enter Tryz.func52, Tryz.ntmps52
    go_wp2_with fail
    go_ret
    exact ⟨ret_int (by omega), (Below.refl _ _).alloc (Nat.le_refl _) _⟩
  · rw [if_neg h]
    by_cases h1 : l < k.size
    · go_enter Tryz.func52, Tryz.ntmps52
      go_wp2_with fail
      go_ret
      exact ⟨rfl, (Below.refl _ _).alloc (Nat.le_refl _) _⟩
    · by_cases h2 : l < k.size + n.size
      · go_enter Tryz.func52, Tryz.ntmps52
        go_wp2_with fail
        go_ret
        exact ⟨rfl, (Below.refl _ _).alloc (Nat.le_refl _) _⟩
      · go_enter Tryz.func52, Tryz.ntmps52
        go_wp2_with fail
        go_ret
        exact ⟨rfl, (Below.refl _ _).alloc (Nat.le_refl _) _⟩

set_option maxHeartbeats 1000000 in
set_option maxRecDepth 100000 in
theorem szs_any (w : World) (a : Option Addr) (n c : Nat) (zs : List As) (hA : Asps w a n zs) (hn : n ≤ maxLen) (hz : ∀ p ∈ zs, p.1.size ≤ maxLen ∧ p.2.1.size ≤ maxLen ∧ p.2.2.size ≤ maxLen) :
    Calls Tryz.prog 24 #[.slice a n c, .int .i64 1048576] w fun e w' => (∃ r : Int, e = .returned (.int .i64 r) ∧ (r = -1 ∨ (0 ≤ r ∧ r ≤ 1048576 ∧ n + asT zs ≤ 1048576))) ∧ Below w.heap.size w w' := by
  have HA := Lib.hid hA
  have HZ := Lib.hid hz
  clear hA hz
  unfold maxLen at hn
  by_cases h : n ≤ 1048576
  · go_enter Tryz.func24, Tryz.ntmps24
    go_wp2_with fail
    go_loopw [5, 1] (fun i l wr => ∃ k m : Nat, k ≤ n ∧ i = .int .i64 k ∧ l = .int .i64 m ∧ Hid (m + n + asT (zs.take k) = 1048576) ∧ Hid (Below w.heap.size w wr)) (fun i _ _ => n - (intOf i).toNat)
    case atStart => exact ⟨0, 1048576 - n, Nat.zero_le _, by go_num, by congr 1; omega, by show _ = _; simp [asT]; omega, Below.refl _ _⟩
    case round =>
      obtain ⟨k, m, hk, rfl, rfl, hE, hW⟩ := hrel
      by_cases hlt : k < n
      · have hz : k < zs.length := by rw [HA.out.len]; exact hlt
        obtain ⟨g, off, rfl, c0, c1, c2⟩ := (HA.out.later hW.out).at_ k hz
        have HS := Lib.hid (asT_take zs k hz)
        have HX := Lib.hid (fun w => sz_one zs[k] m w (by have := hE.out; omega) (HZ.out _ (List.getElem_mem hz)).1 (HZ.out _ (List.getElem_mem hz)).2.1 (HZ.out _ (List.getElem_mem hz)).2.2)
        unfold asV aspV at HX
        generalize zs[k] = p at *
        obtain ⟨x, y, z⟩ := p
        by_cases hf : asZ (x, y, z) ≤ m
        · rw [if_pos hf] at HX
          obtain ⟨m', hm'⟩ : ∃ m', m' = m - asZ (x, y, z) := ⟨_, rfl⟩
          rw [← hm'] at HX
          have HM := Lib.hid hm'
          have HF := Lib.hid hf
          have HL := Lib.hid (show m' ≤ 1048576 by have := hE.out; omega)
          clear hm' hf
          go_wp2_with fail
          refine (HX.out _).mono ?_
          rintro e w5 ⟨rfl, hb⟩
          have HB := Lib.hid (hW.out.trans (hb.mono hW.out.size))
          clear hb
          go_wp2_with fail
          exact ⟨⟨k + 1, m', by omega, by go_num, rfl, by show _ = _; have := hE.out; have := HS.out; have := HM.out; have := HF.out; omega, HB.out⟩, by simp [intOf]; omega⟩
        · rw [if_neg hf] at HX
          clear hf
          go_wp2_with fail
          refine (HX.out _).mono ?_
          rintro e w5 ⟨rfl, hb⟩
          have HB := Lib.hid (hW.out.trans (hb.mono hW.out.size))
          clear hb
          go_wp2_with fail
          go_ret
          exact ⟨⟨-1, rfl, .inl rfl⟩, HB.out⟩
      · have HE := Lib.hid (show n + asT zs ≤ 1048576 ∧ m ≤ 1048576 by
          have h1 := hE.out
          have h2 : zs.take k = zs := List.take_of_length_le (by rw [HA.out.len]; omega)
          rw [h2] at h1; omega)
        go_wp2_with fail
        go_ret
        exact ⟨⟨m, rfl, .inr ⟨by omega, by have := HE.out; omega, HE.out.1⟩⟩, hW.out⟩
  · go_enter Tryz.func24, Tryz.ntmps24
    go_wp2_with fail
    go_ret
    exact ⟨⟨-1, rfl, .inl rfl⟩, Below.refl _ _⟩

theorem info_asp : (Tryz.prog.info? 24).map (fun i => (i.zero, i.size, i.bytes)) = some (some (aspV ⟨#[]⟩ ⟨#[]⟩ ⟨#[]⟩), 3, 48) := by kernel_rfl
/-- make of a row of elements of any size -/
theorem wpList_make_wide {P : Program} (w : World) {ops : Array Oper} {rest : List Oper} {o : Oper} {a : Act} {Q : Exit → Act → World → Prop}
    (hg : o.guard = none) (l c : Operand) (t : TypeId) (hop : o.op = Op.makeSlice t l c)
    (e : TypeId) (i : TypeInfo) (z : Value) (size : Nat) (ht : P.underlying t = some (.slice e)) (hi : P.info? e = some i) (hz : i.zero = some z) (hsize : i.size = size) (zc : Array Value) (hzc : z.cells = zc)
    (kl kc : IntKind) (n : Nat) (hl : a.eval l = .int kl (n : Int)) (hc : a.eval c = .int kc (n : Int)) (hbytes : i.bytes * n ≤ 281474976710656) (h63 : n ≤ 9223372036854775807)
    (hK : wpList P ops Q rest (a.put o.dst (.slice (some ⟨w.heap.size, 0, none⟩) n n)) (w.alloc (.cells (madeCells zc (n * size)) e))) :
    wpList P ops Q (o :: rest) a w := by
  refine wpList_plain hg fun K hK' => ?_
  have hrun := run_make (P := P) w t e i z ht hi hz kl kc (n : Int) (n : Int) (by omega) (by omega) (by have h := Int.ofNat_le.2 hbytes; rw [Int.natCast_mul] at h; omega) (by omega)
  rw [hsize, Int.toNat_natCast, hzc] at hrun
  unfold Oper.wp
  simp [execOp, hop, hl, hc, hrun, Result.andThen]
  exact hK' _ _ hK

/-- the copy so far -/
def CopiedA (w : World) (g n k : Nat) (zs : List As) (wr : World) : Prop := ∃ arr : Array Value, wr.heap[g]? = some (.cells arr 24 (0, 0)) ∧ arr.size = n * 3 ∧
  (∀ i (h : i < zs.length), i < k → arr[i * 3]? = some (.string zs[i].1) ∧ arr[i * 3 + 1]? = some (.string zs[i].2.1) ∧ arr[i * 3 + 2]? = some (.string zs[i].2.2)) ∧ Below w.heap.size w wr

theorem copiedA_step {w wr : World} {n k : Nat} {zs : List As} {arr : Array Value} (harr : wr.heap[w.heap.size]? = some (.cells arr 24 (0, 0))) (hsz : arr.size = n * 3)
    (hin : ∀ i (h : i < zs.length), i < k → arr[i * 3]? = some (.string zs[i].1) ∧ arr[i * 3 + 1]? = some (.string zs[i].2.1) ∧ arr[i * 3 + 2]? = some (.string zs[i].2.2)) (hB : Below w.heap.size w wr) (hz : k < zs.length) (hk : k < n) :
    CopiedA w w.heap.size n (k + 1) zs (((wr.setCell ⟨w.heap.size, k * 3, none⟩ (.string zs[k].1)).setCell ⟨w.heap.size, k * 3 + 1, none⟩ (.string zs[k].2.1)).setCell ⟨w.heap.size, k * 3 + 2, none⟩ (.string zs[k].2.2)) := by
  refine ⟨_, heap_set_same (heap_set_same (heap_set_same harr _) _) _, by simp [hsz], fun i h hi => ?_, ((hB.setCell (p := ⟨w.heap.size, k * 3, none⟩) (Nat.le_refl _) _).setCell (p := ⟨w.heap.size, k * 3 + 1, none⟩) (Nat.le_refl _) _).setCell (p := ⟨w.heap.size, k * 3 + 2, none⟩) (Nat.le_refl _) _⟩
  by_cases he : i = k
  · subst he
    simp only [Array.getElem?_setIfInBounds, Array.size_setIfInBounds, hsz]
    refine ⟨?_, ?_, ?_⟩ <;> simp <;> omega
  · simp only [Array.getElem?_setIfInBounds, Array.size_setIfInBounds, hsz]
    obtain ⟨h0, h1, h2⟩ := hin i h (by omega)
    refine ⟨?_, ?_, ?_⟩
    · rw [if_neg (by omega), if_neg (by omega), if_neg (by omega)]; exact h0
    · rw [if_neg (by omega), if_neg (by omega), if_neg (by omega)]; exact h1
    · rw [if_neg (by omega), if_neg (by omega), if_neg (by omega)]; exact h2

/-- the copy at its start -/
theorem copiedA_start (w : World) (n : Nat) (zs : List As) : CopiedA w w.heap.size n 0 zs (w.alloc (.cells (madeCells #[.string ⟨#[]⟩, .string ⟨#[]⟩, .string ⟨#[]⟩] (n * 3)) 24)) :=
  ⟨_, heap_alloc_new _ _, size_madeCells _ _, fun i h h0 => by omega, (Below.refl _ _).alloc (Nat.le_refl _) _⟩

set_option maxHeartbeats 1000000 in
set_option maxRecDepth 100000 in
theorem tos_heap (w : World) (a : Option Addr) (n c : Nat) (zs : List As) (hA : Asps w a n zs) (hn : n ≤ 1048576) :
    Calls Tryz.prog 25 #[.slice a n c] w fun e w' => ∃ g, w.heap.size ≤ g ∧ e = .returned (.slice (some ⟨g, 0, none⟩) n n) ∧ Asps w' (some ⟨g, 0, none⟩) n zs ∧ Below w.heap.size w w' ∧ ∃ arr : Array Value, w'.heap[g]? = some (.cells arr 24 (0, 0)) ∧ arr.size = n * 3 := by
  have HA := Lib.hid hA
  obtain ⟨i0, hi, hz0, hz1, hz2⟩ := info_parts info_asp
  clear hA
  go_enter Tryz.func25, Tryz.ntmps25
  go_wp2_with (at_make; refine wpList_make_wide _ rfl _ _ 31 rfl 24 i0 (aspV ⟨#[]⟩ ⟨#[]⟩ ⟨#[]⟩) 3 Tryz.underlying31 hi hz0 hz1 #[.string ⟨#[]⟩, .string ⟨#[]⟩, .string ⟨#[]⟩] (by rfl) _ _ n rfl rfl ?c1 ?c2 ?_)
  case c1 => rw [hz2]; omega
  case c2 => omega
  go_wp2_with fail
  go_loopw [4] (fun i wr => ∃ k : Nat, k ≤ n ∧ i = .int .i64 k ∧ Hid (CopiedA w w.heap.size n k zs wr)) (fun i _ => n - (intOf i).toNat)
  case atStart =>
    exact ⟨0, Nat.zero_le _, by go_num, copiedA_start _ _ _⟩
  case round =>
    obtain ⟨k, hk, rfl, hC⟩ := hrel
    by_cases hlt : k < n
    · have hz : k < zs.length := by rw [HA.out.len]; exact hlt
      obtain ⟨arr, harr, hsz, hin, hB⟩ := hC.out
      obtain ⟨g, off, rfl, c0, c1, c2⟩ := (HA.out.later hB).at_ k hz
      have HT := Lib.hid (fun w => to_any zs[k].1 zs[k].2.1 zs[k].2.2 w)
      unfold aspV at HT
      have HN := Lib.hid (fun (w5 : World) (hb5 : Below wr.heap.size wr w5) => copiedA_step ((hb5.block _ (heap_lt harr)).trans harr) hsz hin (hB.trans (hb5.mono hB.size)) hz (by omega))
      have HR := Lib.hid (fun (w5 : World) (hb5 : Below wr.heap.size wr w5) => (hb5.block _ (heap_lt harr)).trans harr)
      have hs3 : k * 3 + 2 < arr.size := by omega
      clear harr hin hB hC
      generalize zs[k] = p at *
      obtain ⟨x, y, z⟩ := p
      go_wp2_with fail
      refine (HT.out _).mono ?_
      rintro e w5 ⟨rfl, hb5⟩
      have HN5 := Lib.hid (HN.out _ hb5)
      have h5 := HR.out _ hb5
      have d0 : w5.cell? ⟨w.heap.size, k * 3, none⟩ = some arr[k * 3] := by rw [Lib.cell_of_heap h5]; exact Array.getElem?_eq_getElem (by omega)
      have d1 : w5.cell? ⟨w.heap.size, k * 3 + 1, none⟩ = some arr[k * 3 + 1] := by rw [Lib.cell_of_heap h5]; exact Array.getElem?_eq_getElem (by omega)
      have d2 : w5.cell? ⟨w.heap.size, k * 3 + 2, none⟩ = some arr[k * 3 + 2] := by rw [Lib.cell_of_heap h5]; exact Array.getElem?_eq_getElem (by omega)
      have f0 := Lib.frozen_of_heap h5 (k * 3)
      have f1 := Lib.frozen_of_heap h5 (k * 3 + 1)
      have f2 := Lib.frozen_of_heap h5 (k * 3 + 2)
      clear h5 HN HR hb5 c0 c1 c2
      generalize arr[k * 3] = o0 at *
      generalize arr[k * 3 + 1] = o1 at *
      generalize arr[k * 3 + 2] = o2 at *
      go_wp2_with fail
      exact ⟨⟨k + 1, by omega, by go_num, HN5.out⟩, by simp [intOf]; omega⟩
    · obtain ⟨arr, harr, hsz, hin, hB⟩ := hC.out
      have HI := Lib.hid (show Asps wr (some ⟨w.heap.size, 0, none⟩) n zs from ⟨HA.out.len, fun i hi => ⟨_, _, rfl, by
        rw [Nat.zero_add, Lib.cell_of_heap harr, Lib.cell_of_heap harr, Lib.cell_of_heap harr]
        exact hin i hi (by have := HA.out.len; omega)⟩⟩)
      have HBb := Lib.hid hB
      have HAR := Lib.hid harr
      have HSZ := Lib.hid hsz
      clear harr hsz hin hB
      go_wp2_with fail
      go_ret
      exact ⟨_, Nat.le_refl _, rfl, HI.out, HBb.out, arr, HAR.out, HSZ.out⟩
theorem tos_any (w : World) (a : Option Addr) (n c : Nat) (zs : List As) (hA : Asps w a n zs) (hn : n ≤ 1048576) :
    Calls Tryz.prog 25 #[.slice a n c] w fun e w' => ∃ g, w.heap.size ≤ g ∧ e = .returned (.slice (some ⟨g, 0, none⟩) n n) ∧ Asps w' (some ⟨g, 0, none⟩) n zs ∧ Below w.heap.size w w' :=
  (tos_heap w a n c zs hA hn).mono fun _ _ ⟨g, h1, h2, h3, h4, _⟩ => ⟨g, h1, h2, h3, h4⟩
end Go.Proofs.YtkdnbdgpcgookaaGreatDoor
namespace Go.Proofs.YtkdnbdgpcgookaaGreatDoor
open Go.RowKit Gram

set_option maxHeartbeats 1000000 in
set_option maxRecDepth 100000 in
theorem eqasp_same (k c b : ByteArray) (w : World) :
    Calls Tryz.prog 54 #[aspV k c b, aspV k c b] w fun e w' => e = .returned (.bool true) ∧ Below w.heap.size w w' := by
  unfold aspV
  go_enter Tryz.func54, Tryz.ntmps54
  go_wp2_with fail
  go_ret
  exact ⟨rfl, ((Below.refl _ w).alloc (Nat.le_refl _) _).alloc (by simp) _⟩
end Go.Proofs.YtkdnbdgpcgookaaGreatDoor
namespace Go.Proofs.YtkdnbdgpcgookaaGreatDoor
open Go.RowKit Gram

theorem six_later {w0 w w' : World} {g o g' o' : Nat} {x y z x' y' z' : Value} (h : w.cell? ⟨g, o, none⟩ = some x ∧ w.cell? ⟨g, o + 1, none⟩ = some y ∧ w.cell? ⟨g, o + 2, none⟩ = some z ∧
    w.cell? ⟨g', o', none⟩ = some x' ∧ w.cell? ⟨g', o' + 1, none⟩ = some y' ∧ w.cell? ⟨g', o' + 2, none⟩ = some z' ∧ Below w0.heap.size w0 w) (hb : Below w.heap.size w w') :
    w'.cell? ⟨g, o, none⟩ = some x ∧ w'.cell? ⟨g, o + 1, none⟩ = some y ∧ w'.cell? ⟨g, o + 2, none⟩ = some z ∧
    w'.cell? ⟨g', o', none⟩ = some x' ∧ w'.cell? ⟨g', o' + 1, none⟩ = some y' ∧ w'.cell? ⟨g', o' + 2, none⟩ = some z' ∧ Below w0.heap.size w0 w' := by
  obtain ⟨h0, h1, h2, h3, h4, h5, h6⟩ := h
  refine ⟨?_, ?_, ?_, ?_, ?_, ?_, h6.trans (hb.mono h6.size)⟩
  · rw [hb.cell (p := ⟨g, o, none⟩) (World.block_lt_of_cell? w _ h0)]; exact h0
  · rw [hb.cell (p := ⟨g, o + 1, none⟩) (World.block_lt_of_cell? w _ h1)]; exact h1
  · rw [hb.cell (p := ⟨g, o + 2, none⟩) (World.block_lt_of_cell? w _ h2)]; exact h2
  · rw [hb.cell (p := ⟨g', o', none⟩) (World.block_lt_of_cell? w _ h3)]; exact h3
  · rw [hb.cell (p := ⟨g', o' + 1, none⟩) (World.block_lt_of_cell? w _ h4)]; exact h4
  · rw [hb.cell (p := ⟨g', o' + 2, none⟩) (World.block_lt_of_cell? w _ h5)]; exact h5

set_option maxHeartbeats 1000000 in
set_option maxRecDepth 100000 in
theorem eqs_any (w : World) (a b : Option Addr) (n c d : Nat) (zs : List As) (hA : Asps w a n zs) (hB : Asps w b n zs) (hn : n ≤ 1048576) :
    Calls Tryz.prog 26 #[.slice a n c, .slice b n d] w fun e w' => e = .returned (.bool true) ∧ Below w.heap.size w w' := by
  have HA := Lib.hid hA
  have HB := Lib.hid hB
  clear hA hB
  go_enter Tryz.func26, Tryz.ntmps26
  go_wp2_with fail
  go_loopw [5] (fun i wr => ∃ k : Nat, k ≤ n ∧ i = .int .i64 k ∧ Hid (Below w.heap.size w wr)) (fun i _ => n - (intOf i).toNat)
  case atStart => exact ⟨0, Nat.zero_le _, by go_num, Below.refl _ _⟩
  case round =>
    obtain ⟨k, hk, rfl, hW⟩ := hrel
    by_cases hlt : k < n
    · have hz : k < zs.length := by rw [HA.out.len]; exact hlt
      obtain ⟨g, off, rfl, c0, c1, c2⟩ := (HA.out.later hW.out).at_ k hz
      obtain ⟨g', off', rfl, d0, d1, d2⟩ := (HB.out.later hW.out).at_ k hz
      have HE := Lib.hid (fun w => eqasp_same zs[k].1 zs[k].2.1 zs[k].2.2 w)
      unfold aspV at HE
      generalize zs[k] = p at *
      obtain ⟨x, y, z⟩ := p
      go_wp2_with fail
      go_region_held3 (fun w' => w'.cell? ⟨g, off + k * 3, none⟩ = some (.string x) ∧ w'.cell? ⟨g, off + k * 3 + 1, none⟩ = some (.string y) ∧ w'.cell? ⟨g, off + k * 3 + 2, none⟩ = some (.string z) ∧
          w'.cell? ⟨g', off' + k * 3, none⟩ = some (.string x) ∧ w'.cell? ⟨g', off' + k * 3 + 1, none⟩ = some (.string y) ∧ w'.cell? ⟨g', off' + k * 3 + 2, none⟩ = some (.string z) ∧ Below w.heap.size w w')
        ((first | assumption | exact ⟨c0, c1, c2, d0, d1, d2, hW.out.drew⟩ | (apply six_later; assumption; assumption)))
        ((first | (go_at_call 54; refine (HE.out _).mono ?_; rintro e w5 ⟨rfl, hb5⟩)))
      all_goals
        have HB5 := Lib.hid (hW.out.drew.trans (hb5.mono hW.out.drew.size))
        go_wp2_with fail
        exact ⟨⟨k + 1, by omega, by go_num, HB5.out⟩, by simp [intOf]; omega⟩
    · go_wp2_with fail
      go_ret
      exact ⟨rfl, hW.out⟩

def aspsP (zs : List As) : Bool := zs.all asOk && decide (zs.length ≤ 5)

set_option maxHeartbeats 1000000 in
set_option maxRecDepth 100000 in
theorem specs_any (w : World) (a : Option Addr) (n c : Nat) (zs : List As) (hA : Asps w a n zs) (hn : n + asT zs ≤ 1048576) :
    Calls Tryz.prog 16 #[.slice a n c] w fun e w' => e = .returned (.bool (aspsP zs)) ∧ Below w.heap.size w w' := by
  have HA := Lib.hid hA
  have HN := Lib.hid hn
  have hn1 : n ≤ 1048576 := by omega
  clear hA hn
  go_enter Tryz.func16, Tryz.ntmps16
  go_wp2_with fail
  go_loopw [7] (fun i wr => ∃ k : Nat, k ≤ n ∧ i = .int .i64 k ∧ Hid ((zs.take k).all asOk = true) ∧ Hid (Below w.heap.size w wr)) (fun i _ => n - (intOf i).toNat)
  case atStart => exact ⟨0, Nat.zero_le _, by go_num, by show _ = _; simp, Below.refl _ _⟩
  case round =>
    obtain ⟨k, hk, rfl, hO, hW⟩ := hrel
    by_cases hlt : k < n
    · have hz : k < zs.length := by rw [HA.out.len]; exact hlt
      obtain ⟨g, off, rfl, c0, c1, c2⟩ := (HA.out.later hW.out).at_ k hz
      have HE := Lib.hid (fun w => spec_asp zs[k].1 zs[k].2.1 zs[k].2.2 w (by have h1 := asT_le zs k hz; have h2 := HN.out; unfold asZ at h1; omega) (by have h1 := asT_le zs k hz; have h2 := HN.out; unfold asZ at h1; omega))
      have HT := Lib.hid (asOk_take zs k hz)
      have HF := Lib.hid (asOk_not zs k hz)
      cases hb : asOk zs[k] with
      | true =>
        have HO := Lib.hid hb
        rw [hb] at HT HF
        unfold asOk at hb
        rw [hb] at HE
        clear hb HF
        generalize zs[k] = p at *
        obtain ⟨x, y, z⟩ := p
        have HB0 := Lib.hid (hW.out.alloc hW.out.size (Obj.cells #[.string x, .string y, .string z] 24))
        go_wp2_with fail
        refine (HE.out _).mono ?_
        rintro e w5 ⟨rfl, hb5⟩
        have HB5 := Lib.hid (HB0.out.trans (hb5.mono HB0.out.size))
        clear hb5
        go_wp2_with fail
        exact ⟨⟨k + 1, by omega, by go_num, by show _ = _; rw [HT.out, hO.out]; rfl, HB5.out⟩, by simp [intOf]; omega⟩
      | false =>
        have HP := Lib.hid (show aspsP zs = false by unfold aspsP; rw [HF.out hb]; rfl)
        unfold asOk at hb
        rw [hb] at HE
        clear hb HT HF
        generalize zs[k] = p at *
        obtain ⟨x, y, z⟩ := p
        have HB0 := Lib.hid (hW.out.alloc hW.out.size (Obj.cells #[.string x, .string y, .string z] 24))
        go_wp2_with fail
        refine (HE.out _).mono ?_
        rintro e w5 ⟨rfl, hb5⟩
        have HB5 := Lib.hid (HB0.out.trans (hb5.mono HB0.out.size))
        clear hb5
        go_wp2_with fail
        go_ret
        exact ⟨ret_bool HP.out.symm, HB5.out⟩
    · have HO := Lib.hid (show aspsP zs = decide (n ≤ 5) by
        have h2 : zs.take k = zs := List.take_of_length_le (by rw [HA.out.len]; omega)
        have h1 := hO.out
        rw [h2] at h1
        unfold aspsP; rw [h1, HA.out.len]; rfl)
      go_wp2_with fail
      go_ret
      exact ⟨by rw [HO.out]; simp; try omega, hW.out⟩

set_option maxHeartbeats 1000000 in
set_option maxRecDepth 100000 in
theorem impls_any (w : World) (a : Option Addr) (n c : Nat) (zs : List As) (hA : Asps w a n zs) (hn : n + asT zs ≤ 1048576) (ek ec eb el ep : Addr) (he : Errs w ek ec eb el ep) :
    Calls Tryz.prog 15 #[.slice a n c] w fun e w' => e = .returned (.bool (aspsP zs)) ∧ Below w.heap.size w w' := by
  have HA := Lib.hid hA
  have HN := Lib.hid hn
  have HR := Lib.hid he
  have hn1 : n ≤ 1048576 := by omega
  clear hA hn he
  by_cases h5 : n ≤ 5
  · go_enter Tryz.func15, Tryz.ntmps15
    go_wp2_with fail
    go_loopw [10] (fun i wr => ∃ k : Nat, k ≤ n ∧ i = .int .i64 k ∧ Hid ((zs.take k).all asOk = true) ∧ Hid (Below w.heap.size w wr)) (fun i _ => n - (intOf i).toNat)
    case atStart => exact ⟨0, Nat.zero_le _, by go_num, by show _ = _; simp, Below.refl _ _⟩
    case round =>
      obtain ⟨k, hk, rfl, hO, hW⟩ := hrel
      by_cases hlt : k < n
      · have hz : k < zs.length := by rw [HA.out.len]; exact hlt
        obtain ⟨g, off, rfl, c0, c1, c2⟩ := (HA.out.later hW.out).at_ k hz
        have HE := Lib.hid (fun w' (hb : Below w.heap.size w w') => impl_asp zs[k].1 zs[k].2.1 zs[k].2.2 w' ek ec eb el ep (HR.out.later hb) (by have h1 := asT_le zs k hz; have h2 := HN.out; unfold asZ at h1; omega) (by have h1 := asT_le zs k hz; have h2 := HN.out; unfold asZ at h1; omega))
        unfold aspV at HE
        have HT := Lib.hid (asOk_take zs k hz)
        have HF := Lib.hid (asOk_not zs k hz)
        cases hb : asOk zs[k] with
        | true =>
          have HO := Lib.hid hb
          rw [hb] at HT HF
          unfold asOk at hb
          rw [hb] at HE
          clear hb HF
          generalize zs[k] = p at *
          obtain ⟨x, y, z⟩ := p
          have HB0 := Lib.hid (hW.out.alloc hW.out.size (Obj.cells #[.string x, .string y, .string z] 24))
          go_wp2_with fail
          refine (HE.out _ HB0.out).mono ?_
          rintro e w5 ⟨rfl, hb5⟩
          have HB5 := Lib.hid (HB0.out.trans (hb5.mono HB0.out.size))
          clear hb5
          go_wp2_with fail
          exact ⟨⟨k + 1, by omega, by go_num, by show _ = _; rw [HT.out, hO.out]; rfl, HB5.out⟩, by simp [intOf]; omega⟩
        | false =>
          have HP := Lib.hid (show aspsP zs = false by unfold aspsP; rw [HF.out hb]; rfl)
          unfold asOk at hb
          rw [hb] at HE
          clear hb HT HF
          generalize zs[k] = p at *
          obtain ⟨x, y, z⟩ := p
          have HB0 := Lib.hid (hW.out.alloc hW.out.size (Obj.cells #[.string x, .string y, .string z] 24))
          go_wp2_with fail
          refine (HE.out _ HB0.out).mono ?_
          rintro e w5 ⟨rfl, hb5⟩
          have HB5 := Lib.hid (HB0.out.trans (hb5.mono HB0.out.size))
          clear hb5
          go_wp2_with fail
          go_ret
          exact ⟨ret_bool HP.out.symm, HB5.out⟩
      · have HO := Lib.hid (show aspsP zs = true by
          have h2 : zs.take k = zs := List.take_of_length_le (by rw [HA.out.len]; omega)
          have h1 := hO.out
          rw [h2] at h1
          unfold aspsP; rw [h1, HA.out.len]; simpa using h5)
        go_wp2_with fail
        go_ret
        exact ⟨ret_bool HO.out.symm, hW.out⟩
  · have HO := Lib.hid (show aspsP zs = false by unfold aspsP; rw [HA.out.len]; simp; intro _; omega)
    go_enter Tryz.func15, Tryz.ntmps15
    go_wp2_with fail
    go_ret
    exact ⟨ret_bool HO.out.symm, Below.refl _ _⟩
end Go.Proofs.YtkdnbdgpcgookaaGreatDoor
namespace Go.Proofs.YtkdnbdgpcgookaaGreatDoor
open Go.RowKit Gram

/-- the texts of aspects, laid flat -/
def asF (zs : List As) : List ByteArray := zs.flatMap fun p => [p.1, p.2.1, p.2.2]
theorem asF_len (zs : List As) : (asF zs).length = zs.length * 3 := by
  induction zs with
  | nil => rfl
  | cons p t ih => simp only [asF, List.flatMap_cons, List.length_append, List.length_cons, List.length_nil] at ih ⊢; omega
theorem asF_get (zs : List As) : ∀ i (h : i < zs.length), (asF zs)[i * 3]? = some zs[i].1 ∧ (asF zs)[i * 3 + 1]? = some zs[i].2.1 ∧ (asF zs)[i * 3 + 2]? = some zs[i].2.2 := by
  induction zs with
  | nil => intro i h; simp at h
  | cons p t ih =>
    intro i h
    cases i with
    | zero => exact ⟨rfl, rfl, rfl⟩
    | succ i =>
      have := ih i (by simpa using h)
      rw [show (i + 1) * 3 = i * 3 + 1 + 1 + 1 by omega, show i * 3 + 1 + 1 + 1 + 1 = i * 3 + 1 + 1 + 1 + 1 from rfl]
      simp only [asF, List.flatMap_cons, List.cons_append, List.nil_append, List.getElem?_cons_succ, List.getElem_cons_succ]
      exact this
theorem asF_snoc (zs : List As) (p : As) : asF (zs ++ [p]) = asF zs ++ [p.1, p.2.1, p.2.2] := by simp [asF]

/-- a row of aspects is a list of them -/
theorem asps_of_row {w : World} {B n c : Nat} {a : Option Addr} {zs : List As} (h : w.ownsRow B 24 3 (.slice a n c) n ((asF zs).map Value.string)) : Asps w a n zs := by
  have hl : zs.length = n := by have := h.1; rw [List.length_map, asF_len] at this; omega
  refine ⟨hl, fun i hi => ?_⟩
  obtain ⟨e0, e1, e2⟩ := asF_get zs i hi
  have hlen := asF_len zs
  obtain ⟨g, s, rfl, _, _, _⟩ := rowS_get h (i * 3) (by omega)
  refine ⟨g, 0, rfl, ?_, ?_, ?_⟩
  · rw [Nat.zero_add]; exact row_cell h _ _ (by rw [List.getElem?_map, e0]; rfl)
  · rw [Nat.zero_add]; exact row_cell h _ _ (by rw [List.getElem?_map, e1]; rfl)
  · rw [Nat.zero_add]; exact row_cell h _ _ (by rw [List.getElem?_map, e2]; rfl)
/-- a fresh copy is a row -/
theorem row_of_asps {w : World} {g n B : Nat} {zs : List As} {arr : Array Value} (h : Asps w (some ⟨g, 0, none⟩) n zs) (harr : w.heap[g]? = some (.cells arr 24 (0, 0))) (hsz : arr.size = n * 3) (hn : n ≤ maxLen) (hb : B ≤ g) :
    w.ownsRow B 24 3 (.slice (some ⟨g, 0, none⟩) n n) n ((asF zs).map Value.string) := by
  have hl := h.len
  refine ⟨by rw [List.length_map, asF_len, hl], .inr ⟨g, n, arr, rfl, hb, harr, Nat.le_refl _, hn, hsz, ?_⟩⟩
  rw [List.take_of_length_le (by simp [hsz])]
  apply List.ext_getElem?
  intro j
  by_cases hj : j < n * 3
  · have hi : j / 3 < zs.length := by omega
    obtain ⟨g', off, ha, c0, c1, c2⟩ := h.at_ (j / 3) hi
    injection ha with ha
    injection ha with ha1 ha2
    subst ha1; subst ha2
    obtain ⟨e0, e1, e2⟩ := asF_get zs (j / 3) hi
    rw [Nat.zero_add, Lib.cell_of_heap harr] at c0 c1 c2
    rw [Array.getElem?_toList, List.getElem?_map]
    have hm : j = j / 3 * 3 ∨ j = j / 3 * 3 + 1 ∨ j = j / 3 * 3 + 2 := by omega
    rcases hm with hm | hm | hm
    · rw [hm, show j / 3 * 3 / 3 = j / 3 by omega] at *; rw [c0, e0]; rfl
    · rw [hm, show (j / 3 * 3 + 1) / 3 = j / 3 by omega] at *; rw [c1, e1]; rfl
    · rw [hm, show (j / 3 * 3 + 2) / 3 = j / 3 by omega] at *; rw [c2, e2]; rfl
  · rw [List.getElem?_eq_none (by simp [hsz]; omega), List.getElem?_eq_none (by rw [List.length_map, asF_len, hl]; omega)]

theorem three_later {w0 w w' : World} {g o : Nat} {x y z : Value} (h : w.cell? ⟨g, o, none⟩ = some x ∧ w.cell? ⟨g, o + 1, none⟩ = some y ∧ w.cell? ⟨g, o + 2, none⟩ = some z ∧ Below w0.heap.size w0 w) (hb : Below w.heap.size w w') :
    w'.cell? ⟨g, o, none⟩ = some x ∧ w'.cell? ⟨g, o + 1, none⟩ = some y ∧ w'.cell? ⟨g, o + 2, none⟩ = some z ∧ Below w0.heap.size w0 w' := by
  obtain ⟨h0, h1, h2, h3⟩ := h
  refine ⟨?_, ?_, ?_, h3.trans (hb.mono h3.size)⟩
  · rw [hb.cell (p := ⟨g, o, none⟩) (World.block_lt_of_cell? w _ h0)]; exact h0
  · rw [hb.cell (p := ⟨g, o + 1, none⟩) (World.block_lt_of_cell? w _ h1)]; exact h1
  · rw [hb.cell (p := ⟨g, o + 2, none⟩) (World.block_lt_of_cell? w _ h2)]; exact h2

end Go.Proofs.YtkdnbdgpcgookaaGreatDoor
