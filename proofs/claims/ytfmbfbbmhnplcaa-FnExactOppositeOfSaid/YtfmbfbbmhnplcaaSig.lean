/- The signs of the program's cuts in front of their parts. Condition: cuts that are well formed. -/
import Derived.Test.YtfmbfbbmhnplcaaEcut
import Derived.Test.YtfmbfbbmhnplcaaOpt
import Derived.Test.YtfmbfbbmhnplcaaShelf
import Derived.Deep.RegionHeld3
import Derived.Deep.RegionWith
namespace Go.Proofs.Ytfmbfbbmhnplcaa
open Go.RowKit Gram

theorem txt_sgs (x : Ct) : x.txt = sgs x ++ (kids x).flatMap Ct.txt := by cases x <;> simp [Ct.txt, sgs, kids]

/-- the function that tells a cut's signs -/
def signsFn : Ct → FuncId
  | .prt => 83
  | .lt _ _ => 78
  | .fix _ => 87
  | .opp _ => 74
  | .two _ _ _ => 70
theorem meth_signs (x : Ct) (w : World) : (method 211 x.ty x.arg "loop.example/wovenprograms/impl.signs").run Try.prog w = .ok (signsFn x, x.arg) w := by cases x <;> kernel_rfl
theorem enters_signs (x : Ct) (args : Array Value) (w : World) : (callFunc (signsFn x) args).run Try.prog w = .ok (.enter (signsFn x) args) w := by cases x <;> kernel_rfl

set_option maxHeartbeats 400000 in
theorem signs_prt (w : World) : Calls Try.prog 83 #[.agg #[]] w fun e w' => e = .returned (.string (txtOf (sgs .prt))) ∧ Below w.heap.size w w' := by
  go_enter Try.func83, Try.ntmps83
  go_wp2_with fail
  go_ret
  exact ⟨rfl, (Below.refl _ _).alloc (Nat.le_refl _) _⟩
set_option maxHeartbeats 400000 in
theorem signs_fix (b : Bool) (w : World) : Calls Try.prog 87 #[.agg #[.bool b]] w fun e w' => e = .returned (.string (txtOf (sgs (.fix b)))) ∧ Below w.heap.size w w' := by
  cases b
  all_goals
    go_enter Try.func87, Try.ntmps87
    go_wp2_with fail
    go_ret
    exact ⟨rfl, (Below.refl _ _).alloc (Nat.le_refl _) _⟩
set_option maxHeartbeats 400000 in
theorem signs_opp (ty : TypeId) (av : Value) (w : World) : Calls Try.prog 74 #[.agg #[.iface ty av]] w fun e w' => e = .returned (.string (txtOf [33])) ∧ Below w.heap.size w w' := by
  go_enter Try.func74, Try.ntmps74
  go_wp2_with fail
  go_ret
  exact ⟨rfl, (Below.refl _ _).alloc (Nat.le_refl _) _⟩
theorem encS (c : UInt8) (h : c.toNat < 128) : Utf8.encode (c.toNat : Int) = ⟨#[c]⟩ := by
  unfold Utf8.encode
  have hv : Utf8.valid (c.toNat : Int) = true := by simp [Utf8.valid]; omega
  simp only [hv, if_true, Int.toNat_natCast, h]
  simp
theorem strS (c : UInt8) (h : c.toNat < 128) (w : World) : (convert 21 9 (.int .i32 (c.toNat : Int))).run Try.prog w = .ok (.string ⟨#[c]⟩) w := by
  rw [run_convert_int_string w _ _ _ _ (by rw [Try.underlying21]; rfl) Try.underlying9, encS c h]
set_option maxHeartbeats 400000 in
theorem signs_two (g : UInt8) (hg : g = 38 ∨ g = 124) (ty : TypeId) (av : Value) (ty2 : TypeId) (av2 : Value) (w : World) : Calls Try.prog 70 #[.agg #[.int .u8 g.toNat, .iface ty av, .iface ty2 av2]] w fun e w' => e = .returned (.string (txtOf [g])) ∧ Below w.heap.size w w' := by
  rcases hg with rfl | rfl
  all_goals
    go_enter Try.func70, Try.ntmps70
    go_wp2_with fail
    go_ret
    exact ⟨rfl, (Below.refl _ _).alloc (Nat.le_refl _) _⟩
theorem bytes_cellsS {w : World} {b : Nat} {l : List UInt8} {e : TypeId} (hb : w.heap[b]? = some (.cells (l.map fun c => Value.int .u8 (c.toNat : Int)).toArray e (0, 0))) :
    ∀ j (hj : j < l.length), w.cell? ((⟨b, 0, none⟩ : Addr).add j) = some (.int .u8 (l[j].toNat : Int)) := fun j hj => by
  have hadd : (⟨b, 0, none⟩ : Addr).add j = ⟨b, j, none⟩ := by unfold Addr.add; split <;> simp_all
  rw [hadd, Lib.cell_of_heap hb]
  simp [hj]
theorem convS (g d : UInt8) (w : World) (b : Nat) (hb : b = w.heap.size) :
    (convert 48 9 (.slice (some ⟨b, 0, none⟩) 2 2)).run Try.prog (w.alloc (Obj.cells #[.int .u8 (g.toNat : Int), .int .u8 (d.toNat : Int)] 5)) =
      .ok (.string (txtOf [g, d])) (w.alloc (Obj.cells #[.int .u8 (g.toNat : Int), .int .u8 (d.toNat : Int)] 5)) := by
  subst hb
  exact run_convert_bytes_back (P := Try.prog) _ 48 9 5 ⟨w.heap.size, 0, none⟩ 2 [g, d] Try.underlying48 Try.underlying5 Try.underlying9 (bytes_cellsS (e := 5) (heap_alloc_new _ _))
set_option maxHeartbeats 400000 in
set_option maxRecDepth 100000 in
theorem signs_lt (g c : UInt8) (w : World) : Calls Try.prog 78 #[.agg #[.int .u8 g.toNat, .int .u8 c.toNat]] w fun e w' => e = .returned (.string (txtOf [g, c])) ∧ Below w.heap.size w w' := by
  go_enter Try.func78, Try.ntmps78
  go_wp2_with fail
  rw [convS g c _ _ (by simp)]
  simp only [Result.andThen]
  rw [Oper.upon_value]
  go_wp2_with fail
  go_ret
  exact ⟨rfl, ((Below.refl _ _).alloc (Nat.le_refl _) _).alloc (by simp) _⟩

theorem signs_all (x : Ct) (hw : x.wf = true) (w : World) : Calls Try.prog (signsFn x) #[x.arg] w fun e w' => e = .returned (.string (txtOf (sgs x))) ∧ Below w.heap.size w w' := by
  cases x with
  | prt => exact signs_prt w
  | fix b => exact signs_fix b w
  | lt g c => exact signs_lt g c w
  | opp x => exact signs_opp x.ty x.arg w
  | two g x y =>
    simp only [Ct.wf, Bool.and_eq_true] at hw
    exact signs_two g (by simpa only [isAO, Bool.or_eq_true, beq_iff_eq] using hw.1) x.ty x.arg y.ty y.arg w

/-- a row of texts for strings.Join without anything between them -/
theorem join_row (x : Ct) (hl : x.txt.length ≤ 1048576) (w : World) (B : Nat) (v : Value) (h : w.ownsRow B 9 1 v (kids x).length ((kids x).map fun y => .string (txtOf y.txt))) (hB : B ≤ w.heap.size) :
    Calls Try.prog 29 #[v, .string ⟨#[]⟩] w fun e w' => e = .returned (.string (txtOf ((kids x).flatMap Ct.txt))) ∧ Below w.heap.size w w' := by
  by_cases h0 : (kids x).length = 0
  · have hk : kids x = [] := List.eq_nil_of_length_eq_zero h0
    rw [hk] at h ⊢
    obtain ⟨a, c, rfl⟩ : ∃ a c, v = .slice a 0 c := by
      rcases h.2 with ⟨h1, _⟩ | ⟨g, cap, cur, h1, _⟩
      · exact ⟨_, _, h1⟩
      · exact ⟨_, _, h1⟩
    refine (Try.strings_Join_none a c ⟨#[]⟩ w).mono ?_
    rintro e w' ⟨rfl, rfl⟩
    exact ⟨rfl, Below.refl _ _⟩
  · rcases h.2 with ⟨h1, h2⟩ | ⟨g, cap, cur, h1, _, hc, hle, _⟩
    · exact absurd h2 h0
    subst h1
    have hcells := h.cells (g := g) rfl
    have hg := (h.lt g rfl).2
    have hlen : ((kids x).flatMap Ct.txt).length ≤ 1048576 := by
      have := congrArg List.length (txt_sgs x)
      rw [List.length_append] at this; omega
    have hj : Lib.join (((kids x).map fun y => txtOf y.txt).map (·.data.toList)) (⟨#[]⟩ : ByteArray).data.toList = (kids x).flatMap Ct.txt := by
      cases x <;> simp [kids, Lib.join, List.intercalate, txtOf]
    have hJ := Try.strings_Join g 0 cap ((kids x).map fun y => txtOf y.txt) ⟨#[]⟩ w (fun j y hy => by
      have h3 := hcells j (.string y) (by
        rw [List.getElem?_map] at hy ⊢
        cases hq : (kids x)[j]? with
        | none => rw [hq] at hy; cases hy
        | some q => rw [hq] at hy; simp at hy ⊢; exact hy)
      have hadd : (⟨g, 0, none⟩ : Addr).add j = ⟨g, 0 + j, none⟩ := by unfold Addr.add; split <;> simp_all
      rw [← hadd]; exact h3) hg (by rw [List.length_map]; have := kids_len x; omega) (by rw [List.length_map]; exact hle) (by rw [hj]; omega)
    rw [List.length_map, hj] at hJ
    exact hJ
end Go.Proofs.Ytfmbfbbmhnplcaa
