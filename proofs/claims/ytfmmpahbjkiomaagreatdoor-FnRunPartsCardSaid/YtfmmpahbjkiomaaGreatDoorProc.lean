/- letterOf and readProcedure: a name and a body, or none, as a part's plain reading tells. Condition: texts of at most 2^30 bytes, and the library's own number can be read. -/
import Derived.Test.YtfmmpahbjkiomaaGreatDoorParts
import Derived.Test.YtfmmpahbjkiomaaGreatDoorLet
import Derived.Test.YtfmmpahbjkiomaaGreatDoorRbody
import Derived.Test.YtfmmpahbjkiomaaGreatDoorShelf
namespace Go.Proofs.YtfmmpahbjkiomaaGreatDoor
open Go.RowKit Gram

/-- the library's own number can be read -/
def MaxCell (w : World) : Prop := ∃ m, w.cell? ⟨0, 0, none⟩ = some (.int .i64 m)
theorem MaxCell.pos {w : World} (h : MaxCell w) : 0 < w.heap.size := by
  obtain ⟨m, h⟩ := h
  exact World.block_lt_of_cell? w _ h
theorem MaxCell.later {w w' : World} (h : MaxCell w) (hb : Below w.heap.size w w') : MaxCell w' := by
  have := h.pos
  obtain ⟨m, h⟩ := h
  exact ⟨m, by rw [hb.cell (p := ⟨0, 0, none⟩) this]; exact h⟩

/-- what readProcedure hands back for what a part tells -/
def ProcTo (o : Option Pr) (w : World) (r : Ending) (w' : World) : Prop :=
  (match o with
    | some (n, xs) => ∃ v S, r = .returned (.tuple #[.agg #[.int .u8 n.toNat, v], .bool true]) ∧ IsBody w' S xs v ∧ ∀ k, S k → w.heap.size ≤ k ∧ ∃ cur fz, w'.heap[k]? = some (.cells cur 103 fz)
    | none => ∃ (n : UInt8) (a : Option Addr) (m c : Nat), r = .returned (.tuple #[.agg #[.int .u8 n.toNat, .slice a m c], .bool false])) ∧ Below w.heap.size w w'

theorem proc_plain (p : List UInt8) : procOf p = (match nameOf (Lib.cut p [58]).1, (Lib.cut p [58]).2.2, bodyOf ⟨(Lib.cut p [58]).2.1.toArray⟩ with | some n, true, some b => some (n, b) | _, _, _ => none) := by
  rw [cut_colon]
  dsimp only
  generalize Lib.cut p [58] = c
  obtain ⟨a, b, f⟩ := c
  dsimp only
  generalize bodyOf ⟨b.toArray⟩ = o
  match a with
  | [] => simp [nameOf]
  | [n] =>
    cases hl : isLet n <;> cases f <;> cases o <;> simp [nameOf, hl]
  | n :: m :: r => simp [nameOf]

theorem cut_len (p : List UInt8) : (Lib.cut p [58]).2.1.length ≤ p.length := by
  unfold Lib.cut
  split
  · simp
  · simp

theorem proc_cells {w w3 : World} {n : Nat} (h : Below ((w.alloc (Obj.cells #[.int .u8 0, .slice none 0 0] 65)).drewN n).heap.size ((w.alloc (Obj.cells #[.int .u8 0, .slice none 0 0] 65)).drewN n) w3) :
    w3.heap[w.heap.size]? = some (Obj.cells #[.int .u8 0, .slice none 0 0] 65 (0, 0)) ∧ w.heap.size < ((w.alloc (Obj.cells #[.int .u8 0, .slice none 0 0] 65)).drewN n).heap.size ∧ Below w.heap.size w w3 := by
  have hz : ((w.alloc (Obj.cells #[.int .u8 0, .slice none 0 0] 65)).drewN n).heap.size = w.heap.size + 1 := by
    show (w.heap.push _).size = _
    rw [Array.size_push]
  have hb : w3.heap[w.heap.size]? = some (Obj.cells #[.int .u8 0, .slice none 0 0] 65 (0, 0)) := by
    rw [h.block w.heap.size (by omega)]; exact heap_alloc_new w _
  have h1 : Below w.heap.size w ((w.alloc (Obj.cells #[.int .u8 0, .slice none 0 0] 65)).drewN n) := ((Below.refl _ _).alloc (Nat.le_refl _) _).trans ⟨rfl, rfl, rfl, Nat.le_refl _, fun _ _ => rfl⟩
  exact ⟨hb, by omega, h1.trans (h.mono h1.size)⟩

theorem proc_set {w3 : World} {g : Nat} (hb : w3.heap[g]? = some (Obj.cells #[.int .u8 0, .slice none 0 0] 65 (0, 0))) (x y : Value) :
    ((w3.setCell ⟨g, 0, none⟩ x).setCell ⟨g, 1, none⟩ y).cell? ⟨g, 0, none⟩ = some x ∧ ((w3.setCell ⟨g, 0, none⟩ x).setCell ⟨g, 1, none⟩ y).cell? ⟨g, 1, none⟩ = some y ∧
      ∀ k, k ≠ g → ((w3.setCell ⟨g, 0, none⟩ x).setCell ⟨g, 1, none⟩ y).heap[k]? = w3.heap[k]? := by
  have h2 := heap_set_same (k := 1) (heap_set_same (k := 0) hb x) y
  exact ⟨by rw [Lib.cell_of_heap h2]; rfl, by rw [Lib.cell_of_heap h2]; rfl, fun k hk => by rw [heap_set_other hk, heap_set_other hk]⟩

set_option maxHeartbeats 1000000 in
theorem procedure_any (s : ByteArray) (w : World) (hs : s.size ≤ 1073741824) (hm : MaxCell w) :
    Calls Tryz.prog 66 #[.string s] w (ProcTo (procOf s.data.toList) w) := by
  obtain ⟨m, hm⟩ := hm
  have hlt := World.block_lt_of_cell? w _ hm
  have hcl := cut_len s.data.toList
  rw [proc_plain]
  have hC : ∀ w2 : World, w2.cell? ⟨0, 0, none⟩ = some (.int .i64 m) → Calls Tryz.prog 101 #[.string s, .string ⟨#[58]⟩] w2 fun e w' => e = .returned (.tuple #[.string ⟨(Lib.cut s.data.toList [58]).1.toArray⟩, .string ⟨(Lib.cut s.data.toList [58]).2.1.toArray⟩, .bool (Lib.cut s.data.toList [58]).2.2]) ∧ ∃ n, w' = w2.drewN n :=
    fun w2 h => Tryz.strings_Cut s ⟨#[58]⟩ m w2 (by omega) h
  generalize Lib.cut s.data.toList [58] = c at *
  obtain ⟨a, b, f⟩ := c
  dsimp only at *
  have hb : (⟨b.toArray⟩ : ByteArray).size ≤ 1073741824 := by
    have : (⟨b.toArray⟩ : ByteArray).size = b.length := rfl
    have : s.data.toList.length = s.size := size_of s
    omega
  have HL := Lib.hid (letter_of ⟨a.toArray⟩)
  have HR := Lib.hid (fun w => body_any ⟨b.toArray⟩ w hb)
  have HC := Lib.hid hC
  have HM := Lib.hid hm
  clear hm hC hb hcl hs
  rw [show ((⟨a.toArray⟩ : ByteArray).data.toList) = a from rfl] at HL
  generalize nameOf a = nm at *
  have HE : Hid (∀ n, nm = some n → letN nm = n) := fun n h => by rw [h]; rfl
  generalize letN nm = ln at *
  generalize bodyOf ⟨b.toArray⟩ = bd at *
  generalize (⟨a.toArray⟩ : ByteArray) = sa at *
  generalize (⟨b.toArray⟩ : ByteArray) = sb at *
  cases bd with
  | none =>
    cases f <;> cases nm
    all_goals
      dsimp only
      go_enter Tryz.func66, Tryz.ntmps66
      go_wp2_with fail
      refine (HC.out _ ?_).mono ?_
      · exact cell_later ((Below.refl _ _).alloc (Nat.le_refl _) _) HM.out
      rintro e w1 ⟨rfl, n, rfl⟩
      go_wp2_with fail
      refine (HL.out _).mono ?_
      rintro e w2 ⟨rfl, rfl⟩
      go_wp2_with fail
      refine (HR.out _).mono ?_
      rintro e w3 ⟨hr, hbw⟩
      obtain ⟨qb, qn, qw⟩ := proc_cells hbw
      have q1 : w3.cell? ⟨w.heap.size, 0, none⟩ = some (.int .u8 0) := by rw [Lib.cell_of_heap qb]; rfl
      have q2 : w3.cell? ⟨w.heap.size, 1, none⟩ = some (.slice none 0 0) := by rw [Lib.cell_of_heap qb]; rfl
      have q3 : w3.frozen? ⟨w.heap.size, 0, none⟩ = false := Lib.frozen_of_heap qb 0
      have q4 : w3.frozen? ⟨w.heap.size, 1, none⟩ = false := Lib.frozen_of_heap qb 1
      have QB := Lib.hid qb
      have HB := Lib.hid qw
      have HW := Lib.hid hbw
      have QN := Lib.hid qn
      clear hbw qw qb qn
      dsimp only at hr
      subst hr
      go_wp2_with fail
      clear q1 q2 q3 q4
      obtain ⟨c0, c1, hk⟩ := proc_set QB.out (.int .u8 ln.toNat) (.slice none 0 0)
      refine bodyPost_ret (v := .tuple #[.agg #[.int .u8 ln.toNat, .slice none 0 0], .bool false]) ?_ rfl ?_
      · simp [results, Tryz.results66, go_sem, c0, c1]
      · exact ⟨⟨_, _, _, _, rfl⟩, (HB.out.setCell (Nat.le_refl _) _).setCell (Nat.le_refl _) _⟩
  | some xs =>
    cases f <;> cases nm
    all_goals
      dsimp only
      go_enter Tryz.func66, Tryz.ntmps66
      go_wp2_with fail
      refine (HC.out _ ?_).mono ?_
      · exact cell_later ((Below.refl _ _).alloc (Nat.le_refl _) _) HM.out
      rintro e w1 ⟨rfl, n, rfl⟩
      go_wp2_with fail
      refine (HL.out _).mono ?_
      rintro e w2 ⟨rfl, rfl⟩
      go_wp2_with fail
      refine (HR.out _).mono ?_
      rintro e w3 ⟨hr, hbw⟩
      obtain ⟨qb, qn, qw⟩ := proc_cells hbw
      have q1 : w3.cell? ⟨w.heap.size, 0, none⟩ = some (.int .u8 0) := by rw [Lib.cell_of_heap qb]; rfl
      have q2 : w3.cell? ⟨w.heap.size, 1, none⟩ = some (.slice none 0 0) := by rw [Lib.cell_of_heap qb]; rfl
      have q3 : w3.frozen? ⟨w.heap.size, 0, none⟩ = false := Lib.frozen_of_heap qb 0
      have q4 : w3.frozen? ⟨w.heap.size, 1, none⟩ = false := Lib.frozen_of_heap qb 1
      have QB := Lib.hid qb
      have HB := Lib.hid qw
      have HW := Lib.hid hbw
      have QN := Lib.hid qn
      clear hbw qw qb qn
      obtain ⟨v, S, hre, hB, hS⟩ := hr
      obtain ⟨va, vn, vc, hv⟩ := hB.form
      subst hv
      subst hre
      have HBd := Lib.hid hB
      have HS := Lib.hid hS
      clear hB hS
      go_wp2_with fail
      clear q1 q2 q3 q4
      obtain ⟨c0, c1, hk⟩ := proc_set QB.out (.int .u8 ln.toNat) (.slice va vn vc)
    · refine bodyPost_ret (v := .tuple #[.agg #[.int .u8 ln.toNat, .slice va vn vc], .bool false]) ?_ rfl ?_
      · simp [results, Tryz.results66, go_sem, c0, c1]
      · exact ⟨⟨_, _, _, _, rfl⟩, (HB.out.setCell (Nat.le_refl _) _).setCell (Nat.le_refl _) _⟩
    · refine bodyPost_ret (v := .tuple #[.agg #[.int .u8 ln.toNat, .slice va vn vc], .bool false]) ?_ rfl ?_
      · simp [results, Tryz.results66, go_sem, c0, c1]
      · exact ⟨⟨_, _, _, _, rfl⟩, (HB.out.setCell (Nat.le_refl _) _).setCell (Nat.le_refl _) _⟩
    · refine bodyPost_ret (v := .tuple #[.agg #[.int .u8 ln.toNat, .slice va vn vc], .bool false]) ?_ rfl ?_
      · simp [results, Tryz.results66, go_sem, c0, c1]
      · exact ⟨⟨_, _, _, _, rfl⟩, (HB.out.setCell (Nat.le_refl _) _).setCell (Nat.le_refl _) _⟩
    · have hln := HE.out _ rfl
      subst hln
      have hlo := QN.out
      refine bodyPost_ret (v := .tuple #[.agg #[.int .u8 ln.toNat, .slice va vn vc], .bool true]) ?_ rfl ?_
      · simp [results, Tryz.results66, go_sem, c0, c1]
      · refine ⟨⟨_, S, rfl, ?_, ?_⟩, (HB.out.setCell (Nat.le_refl _) _).setCell (Nat.le_refl _) _⟩
        · exact HBd.out.kept (fun k hS => hk k (by have := (HS.out k hS).1; omega)) (fun _ h => h)
        · intro k hS
          obtain ⟨h1, cur, fz, h2⟩ := HS.out k hS
          exact ⟨by omega, cur, fz, by rw [hk k (by omega)]; exact h2⟩
end Go.Proofs.YtfmmpahbjkiomaaGreatDoor
