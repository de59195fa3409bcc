/- ProgramValid of the program and of the model. Condition: for the program's, the library's own number can be read. The law FnExactProgramValid answers true at every text. Condition: the library's own number can be read. The size of a procedure. Condition: a program as readProgram lays it. The law FnExactSizeOf answers true at every text. Condition: the library's own number can be read. The law FnExactProcsOf answers true at every text. Condition: the library's own number can be read. -/
import Derived.Test.YtjomgdekkfabhaaDoorFacts
import Derived.Test.YtjomgdekkfabhaaDoorOx
import Derived.Test.YtjomgdekkfabhaaDoorByte
namespace Go.Proofs.YtjomgdekkfabhaaDoor
open Go.RowKit Gram

set_option maxHeartbeats 400000 in
theorem impl_valid (s : ByteArray) (w : World) (hs : s.size ≤ 1073741824) (hm : MaxCell w) :
    Calls Tryd.prog 13 #[.string s] w fun e w' => e = .returned (.bool (progOf s).isSome) ∧ Below w.heap.size w w' := by
  have HR := Lib.hid ((read_prog s w hs hm).mono fun _ _ h => h.cases)
  generalize (progOf s).isSome = b at *
  clear hm
  go_enter Tryd.func13, Tryd.ntmps13
  go_wp2_with fail
  refine HR.out.mono ?_
  rintro e w2 ⟨a, n, c, rfl, hb, _⟩
  have HB := Lib.hid hb
  clear hb
  go_wp2_with fail
  go_ret
  exact ⟨rfl, HB.out⟩
set_option maxHeartbeats 400000 in
theorem spec_valid (s : ByteArray) (w : World) (hs : s.size ≤ 1073741824) :
    Calls Tryd.prog 16 #[.string s] w fun e w' => e = .returned (.bool (progOf s).isSome) ∧ Below w.heap.size w w' := by
  have HR := Lib.hid ((open_prog s w hs).mono fun _ _ h => h.cases)
  generalize (progOf s).isSome = b at *
  go_enter Tryd.func16, Tryd.ntmps16
  go_wp2_with fail
  refine HR.out.mono ?_
  rintro e w2 ⟨a, n, c, ps, rfl, hb, _⟩
  have HB := Lib.hid hb
  clear hb
  go_wp2_with fail
  go_ret
  exact ⟨rfl, HB.out⟩
end Go.Proofs.YtjomgdekkfabhaaDoor
namespace Go.Proofs.YtjomgdekkfabhaaDoor
open Go.RowKit Gram

set_option maxHeartbeats 400000 in
theorem valid_long (s : ByteArray) (w : World) (hl : 1048576 < s.size) (hx : s.size ≤ maxLen) :
    Calls Tryd.prog 5 #[.string s] w fun e w' => e = .returned (.bool true) ∧ Below w.heap.size w w' := by
  unfold maxLen at hx
  go_enter Tryd.func5, Tryd.ntmps5
  go_wp2_with fail
  go_ret
  exact ⟨rfl, Below.refl _ _⟩
set_option maxHeartbeats 400000 in
theorem valid_short (s : ByteArray) (w : World) (hl : s.size ≤ 1048576) (hm : MaxCell w) :
    Calls Tryd.prog 5 #[.string s] w fun e w' => e = .returned (.bool true) ∧ Below w.heap.size w w' := by
  have HI := Lib.hid (fun w => impl_valid s w (by omega))
  have HS := Lib.hid (fun w => spec_valid s w (by omega))
  have HM := Lib.hid hm
  generalize (progOf s).isSome = b at *
  clear hm
  go_enter Tryd.func5, Tryd.ntmps5
  go_wp2_with fail
  refine (HS.out _).mono ?_
  rintro e w1 ⟨rfl, b1⟩
  have B1 := Lib.hid b1
  clear b1
  go_wp2_with fail
  refine (HI.out _ (HM.out.later B1.out)).mono ?_
  rintro e w2 ⟨rfl, b2⟩
  have B2 := Lib.hid (B1.out.trans (b2.mono B1.out.size))
  clear b2
  cases b
  all_goals
    go_wp2_with fail
    go_ret
    exact ⟨rfl, B2.out⟩
theorem valid_any (s : ByteArray) (w : World) (hx : s.size ≤ maxLen) (hm : MaxCell w) :
    Calls Tryd.prog 5 #[.string s] w fun e w' => e = .returned (.bool true) ∧ Below w.heap.size w w' := by
  by_cases h : s.size ≤ 1048576
  · exact valid_short s w h hm
  · exact valid_long s w (by omega) hx
end Go.Proofs.YtjomgdekkfabhaaDoor
namespace Go.Proofs.YtjomgdekkfabhaaDoor
open Go.RowKit Gram

def stepN (m : Nat) (_ : Stm) : Nat := m + 1
def okN (m : Nat) (_ : Stm) : Prop := m < 1048576
set_option maxHeartbeats 1000000 in
theorem visits_size : Visits 67 3 (fun n => .int .i64 n) stepN okN := by
  intro w S c a x ty pv ho hx hc
  have hlt := heap_lt hc
  have HC := Lib.hid hc
  have hoo : a < 1048576 := ho
  have q0 : w.cell? ⟨c, 0, none⟩ = some (.int .i64 a) := Lib.cell_of_heap hc 0
  have q1 : w.frozen? ⟨c, 0, none⟩ = false := Lib.frozen_of_heap hc 0
  clear hc ho hx
  go_enter Tryd.func67, Tryd.ntmps67
  go_wp2_with fail
  go_end0
  exact ⟨rfl, heap_set_same (k := 0) HC.out _, (But.refl c w).setCell 0 _⟩
theorem fold_size (l : List Stm) : ∀ m, l.foldl stepN m = m + l.length := by
  induction l with
  | nil => intro m; rfl
  | cons x t ih => intro m; rw [List.foldl_cons, ih, stepN, List.length_cons]; omega
theorem okAll_size (l : List Stm) : ∀ m, m + l.length ≤ 1048576 → okAll okN stepN m l := by
  induction l with
  | nil => intro m _; trivial
  | cons x t ih => intro m h; simp only [List.length_cons] at h; exact ⟨show m < 1048576 by omega, ih (m + 1) (by omega)⟩
theorem enters_size (args : Array Value) (w : World) : (callFunc 67 args).run Tryd.prog w = .ok (.enter 67 args) w :=
  enters_of Tryd.func67 (by kernel_rfl) rfl args w
/-- size: how many statements a body has, those within others too -/
theorem size_any {w : World} {S : Nat → Prop} {p : Pr} {v : Value} (hB : IsBody w S p.2 v) (hS : ∀ k, S k → k < w.heap.size) (hg : Good p) :
    Calls Tryd.prog 36 #[.agg #[.int .u8 p.1.toNat, v]] w fun e w' => e = .returned (.int .i64 (flats p.2).length) ∧ Below w.heap.size w w' := by
  obtain ⟨ba, bn, bc, rfl⟩ := hB.form
  have hfl := flats_le p.2
  have hlen := hg.2.2.1
  have hE : ∀ w2 : World, (∀ k, k < w.heap.size → w2.heap[k]? = w.heap[k]?) → w.heap.size + 1 < w2.heap.size → w2.heap[w.heap.size + 1]? = some (.cells #[.int .i64 ((0 : Nat) : Int)] 3 (0, 0)) → _ :=
    fun w2 hk hz hc => each_all 67 3 (fun n => .int .i64 n) stepN okN enters_size visits_size (flats p.2).length p.2 w2 S (.slice ba bn bc) (w.heap.size + 1) 0 (Nat.le_refl _) (by omega)
      (fun k hk' => by have := hS k hk'; omega) (hB.kept (fun k hk' => hk k (hS k hk')) (fun _ h => h)) hc (okAll_size _ 0 (by omega))
  have HE := Lib.hid hE
  have HF := Lib.hid (fold_size (flats p.2) 0)
  clear hE hfl hlen hB hS hg
  go_enter Tryd.func36, Tryd.ntmps36
  go_wp2_with fail
  refine (HE.out _ (two_old _ _ _) (two_size _ _ _) (two_cell _ _ _)).mono ?_
  rintro e w2 ⟨rfl, hc, hb⟩
  rw [HF.out, Nat.zero_add] at hc
  have q := Lib.cell_of_heap hc 0
  have q0 : w2.cell? ⟨w.heap.size + 1, 0, none⟩ = some (.int .i64 (flats p.2).length) := q
  have HW := Lib.hid (two_below hb)
  clear hc hb q
  go_wp2_with fail
  go_ret
  exact ⟨rfl, HW.out⟩
end Go.Proofs.YtjomgdekkfabhaaDoor
namespace Go.Proofs.YtjomgdekkfabhaaDoor
open Go.RowKit Gram

def isMark (c : UInt8) : Bool := ([43, 45, 42, 80, 67, 75, 63] : List UInt8).contains c
theorem mark_sgn (g : UInt8) (h : isSgn g = true) : isMark g = true := by
  simp only [isSgn, Bool.or_eq_true, beq_iff_eq] at h
  rcases h with (h | h) | h <;> subst h <;> decide
theorem mark_dig (g : UInt8) (h : isDig g = true) : isMark g = false := by
  cases hm : isMark g with
  | false => rfl
  | true =>
    simp only [isMark, List.contains_iff_mem, List.mem_cons, List.not_mem_nil, or_false] at hm
    rcases hm with hm | hm | hm | hm | hm | hm | hm <;> subst hm <;> exact absurd h (by decide)
theorem mark_let (g : UInt8) (h : isLet g = true) : isMark g = false := by
  cases hm : isMark g with
  | false => rfl
  | true =>
    simp only [isMark, List.contains_iff_mem, List.mem_cons, List.not_mem_nil, or_false] at hm
    rcases hm with hm | hm | hm | hm | hm | hm | hm <;> subst hm <;> exact absurd h (by decide)
mutual
theorem count_stm (x : Stm) (h : x.wf = true) : x.txt.countP isMark = x.flat.length := by
  match x with
  | .chg g d =>
    simp only [Stm.wf, Bool.and_eq_true] at h
    simp [Stm.txt, Stm.flat, List.countP_cons, mark_sgn g h.1, mark_dig d h.2]
  | .prt => rfl
  | .pro => rfl
  | .call c =>
    simp only [Stm.wf] at h
    simp [Stm.txt, Stm.flat, List.countP_cons, mark_let c h]; rfl
  | .cho a b =>
    simp only [Stm.wf, Bool.and_eq_true] at h
    have h1 := count_stms a h.1
    have h2 := count_stms b h.2
    have e1 : isMark 63 = true := by decide
    have e2 : isMark 91 = false := by decide
    have e3 : isMark 93 = false := by decide
    simp [Stm.txt, Stm.flat, List.countP_cons, List.countP_append, h1, h2, e1, e2, e3]
theorem count_stms (xs : List Stm) (h : wfs xs = true) : (txts xs).countP isMark = (flats xs).length := by
  match xs with
  | [] => rfl
  | x :: xs =>
    simp only [wfs, Bool.and_eq_true] at h
    simp [txts, flats, List.countP_append, count_stm x h.1, count_stms xs h.2]
end

def sizeSum (ps : List Pr) : Nat := (ps.map fun p => (flats p.2).length).sum
def sizeP (s : ByteArray) : Int := match progOf s with | none => -1 | some ps => (sizeSum ps : Int)
theorem sizeSum_take (ps : List Pr) (k : Nat) (hk : k < ps.length) : sizeSum (ps.take (k + 1)) = sizeSum (ps.take k) + (flats ps[k].2).length := by
  rw [List.take_succ_eq_append_getElem hk, sizeSum, List.map_append, List.sum_append]; simp [sizeSum]
theorem sizeSum_le (ps : List Pr) (hg : ∀ p ∈ ps, Good p) : sizeSum ps ≤ ps.length * 400 := by
  induction ps with
  | nil => simp [sizeSum]
  | cons p t ih =>
    have h1 := ih fun q hq => hg q (List.mem_cons_of_mem _ hq)
    have h2 := flats_le p.2
    have h3 := (hg p (List.mem_cons_self ..)).2.2.1
    simp only [sizeSum, List.map_cons, List.sum_cons, List.length_cons] at h1 ⊢
    omega

set_option maxHeartbeats 1000000 in
theorem count_any (s : ByteArray) (w : World) (hs : s.size ≤ 1048576) :
    Calls Tryd.prog 38 #[.string s] w fun e w' => e = .returned (.int .i64 (s.data.toList.countP isMark : Nat)) ∧ w = w' := by
  go_enter Tryd.func38, Tryd.ntmps38
  go_wp2_with fail
  go_loop [3, 7] (fun n i => ∃ (k m : Nat), i = .int .i64 k ∧ k ≤ s.size ∧ n = .int .i64 m ∧ m ≤ k ∧ Hid (m = (s.data.toList.take k).countP isMark)) (fun _ i => s.size - (intOf i).toNat)
  case atStart => exact ⟨0, 0, by go_num, Nat.zero_le _, by go_num, Nat.le_refl _, by show _ = _; simp⟩
  case round =>
    obtain ⟨k, m, rfl, hk, rfl, hm, hM⟩ := hrel
    by_cases hlt : k < s.size
    · have hkl : k < s.data.toList.length := by simpa using hlt
      have HT := Lib.hid (by rw [List.take_succ_eq_append_getElem hkl, List.countP_append, ← hM.out, List.countP_singleton]; rfl : (s.data.toList.take (k + 1)).countP isMark = m + if isMark s[k] = true then 1 else 0)
      have HH := Lib.hid (fun w => has_any ⟨#[43, 45, 42, 80, 67, 75, 63]⟩ s[k] (by decide) w)
      rw [show ∀ c, ((⟨#[43, 45, 42, 80, 67, 75, 63]⟩ : ByteArray).data.toList.contains c) = isMark c from fun _ => rfl] at HH
      clear hM
      cases hmk : isMark s[k] with
      | true =>
        rw [hmk] at HH HT
        clear hmk
        go_wp2_with fail
        refine (HH.out _).mono ?_
        rintro e w2 ⟨rfl, rfl⟩
        go_wp2_with fail
        go_round
        case rel => exact ⟨k + 1, m + 1, by go_num, by omega, by go_num, by omega, by show _ = _; rw [HT.out]; rfl⟩
        case measure => simp [intOf]; omega
      | false =>
        rw [hmk] at HH HT
        clear hmk
        go_wp2_with fail
        refine (HH.out _).mono ?_
        rintro e w2 ⟨rfl, rfl⟩
        go_wp2_with fail
        go_round
        case rel => exact ⟨k + 1, m, by go_num, by omega, rfl, by omega, by show _ = _; rw [HT.out]; rfl⟩
        case measure => simp [intOf]; omega
    · have HM := Lib.hid (by rw [hM.out, List.take_of_length_le (by simp; omega)] : m = s.data.toList.countP isMark)
      clear hM
      have hM2 := HM.out
      subst hM2
      clear HM
      go_wp2_with fail
      go_ret
      exact ⟨rfl, rfl⟩

set_option maxHeartbeats 1000000 in
theorem impl_size (s : ByteArray) (w : World) (hs : s.size ≤ 1073741824) (hm : MaxCell w) :
    Calls Tryd.prog 15 #[.string s] w fun e w' => e = .returned (.int .i64 (sizeP s)) ∧ Below w.heap.size w w' := by
  have HR := Lib.hid ((read_prog s w hs hm).mono fun _ _ h => h.cases)
  clear hm
  cases hp : progOf s with
  | none =>
    rw [hp] at HR
    have HZ := Lib.hid (by rw [sizeP, hp] : sizeP s = -1)
    clear hp
    go_enter Tryd.func15, Tryd.ntmps15
    go_wp2_with fail
    refine HR.out.mono ?_
    rintro e w2 ⟨a, n, c, rfl, hb, _⟩
    have HB := Lib.hid hb
    clear hb
    go_wp2_with fail
    go_ret
    exact ⟨ret_int HZ.out.symm, HB.out⟩
  | some ps =>
    rw [hp] at HR
    have hf := prog_facts hp
    have HZ := Lib.hid (by rw [sizeP, hp] : sizeP s = (sizeSum ps : Int))
    clear hp
    go_enter Tryd.func15, Tryd.ntmps15
    go_wp2_with fail
    refine HR.out.mono ?_
    rintro e w2 ⟨a, n, c, rfl, hb, hq⟩
    obtain ⟨S, qs, hqp, hP, hG⟩ := hq ps rfl
    have hnq : n = qs.length := by
      obtain ⟨a', c', h⟩ := hP.form
      injection h
    have hln : n ≤ 401 := by rw [hnq, ← List.length_map (f := fun q : Qr => q.1), hqp]; exact hf.1
    have HQ := Lib.hid hqp
    have HP := Lib.hid hP
    have HG := Lib.hid hG
    have HN := Lib.hid hnq
    have HB := Lib.hid hb
    have HF := Lib.hid hf
    clear hqp hP hG hnq hb hf hq
    go_wp2_with fail
    go_loopw [5, 17] (fun m i wr => ∃ (k z : Nat), i = .int .i64 k ∧ k ≤ n ∧ m = .int .i64 z ∧ z ≤ 400 * k ∧ Hid (z = sizeSum (ps.take k)) ∧ Hid (Below w2.heap.size w2 wr)) (fun _ i _ => n - (intOf i).toNat)
    case atStart => exact ⟨0, 0, by go_num, Nat.zero_le _, by go_num, by omega, by show _ = _; simp [sizeSum], Below.refl _ _⟩
    case round =>
      obtain ⟨k, z, rfl, hk, rfl, hz, hZ, hb⟩ := hrel
      by_cases hlt : k < n
      · have hkq : k < qs.length := by rw [← HN.out]; exact hlt
        have hkp : k < ps.length := by rw [← HQ.out]; simpa using hkq
        obtain ⟨g, rfl, _, c0, c1⟩ := HP.out.get k hkq
        have hgl : g < w2.heap.size := World.block_lt_of_cell? w2 _ c0
        have d0 : wr.cell? ⟨g, k * 2, none⟩ = some (.int .u8 qs[k].1.1.toNat) := by rw [hb.out.cell (p := ⟨g, k * 2, none⟩) hgl]; exact c0
        have d1 : wr.cell? ⟨g, k * 2 + 1, none⟩ = some qs[k].2 := by rw [hb.out.cell (p := ⟨g, k * 2 + 1, none⟩) hgl]; exact c1
        have hq := HG.out qs[k] (List.getElem_mem hkq)
        have hbody := prog_body HP.out k hkq
        obtain ⟨ba, bn, bc, hbv⟩ := hbody.form
        have hC : ∀ w3, Below w2.heap.size w2 w3 → _ := fun w3 hb3 => size_any (w := w3) (S := S) (p := qs[k].1) (hbody.kept (w' := w3) (fun j hj => hb3.block j (HP.out.lt j hj)) (fun _ h => h)) (fun j hj => Nat.lt_of_lt_of_le (HP.out.lt j hj) hb3.size) hq
        rw [hbv] at d1 hC
        have HC := Lib.hid hC
        have hpk : ps[k] = qs[k].1 := by
          have : (qs.map (·.1))[k]? = some qs[k].1 := by rw [List.getElem?_map, List.getElem?_eq_getElem hkq]; rfl
          rw [HQ.out, List.getElem?_eq_getElem hkp] at this
          injection this
        have HT := Lib.hid (sizeSum_take ps k hkp)
        rw [hpk] at HT
        have hfl : (flats qs[k].1.2).length ≤ 400 := Nat.le_trans (flats_le _) hq.2.2.1
        clear hC c0 c1 hgl hq hbv hbody hpk hkp
        generalize (flats qs[k].1.2).length = fl at *
        go_wp2_with fail
        refine (HC.out _ (hb.out.alloc hb.out.size _)).mono ?_
        rintro e w3 ⟨rfl, hb3⟩
        have HB3 := Lib.hid (((hb.out.alloc hb.out.size _)).trans (hb3.mono (Nat.le_trans hb.out.size (by rw [alloc_size']; omega))))
        clear hb3
        go_wp2_with fail
        go_roundw
        case rel => exact ⟨k + 1, z + fl, by go_num, by omega, by go_num, by omega, by show _ = _; rw [HT.out, hZ.out], HB3.out⟩
        case measure => simp [intOf]; omega
      · have hlen : ps.length = n := by rw [← HQ.out, List.length_map]; exact HN.out.symm
        have HZ2 := Lib.hid (by rw [hZ.out, List.take_of_length_le (by omega)] : z = sizeSum ps)
        clear hZ hlen
        go_wp2_with fail
        go_ret
        exact ⟨ret_int (by rw [HZ.out, HZ2.out]), HB.out.trans (hb.out.mono HB.out.size)⟩

set_option maxHeartbeats 1000000 in
theorem spec_size (s : ByteArray) (w : World) (hs : s.size ≤ 1073741824) :
    Calls Tryd.prog 18 #[.string s] w fun e w' => e = .returned (.int .i64 (sizeP s)) ∧ Below w.heap.size w w' := by
  have HR := Lib.hid ((open_prog s w hs).mono fun _ _ h => h.cases)
  cases hp : progOf s with
  | none =>
    rw [hp] at HR
    have HZ := Lib.hid (by rw [sizeP, hp] : sizeP s = -1)
    clear hp
    go_enter Tryd.func18, Tryd.ntmps18
    go_wp2_with fail
    refine HR.out.mono ?_
    rintro e w2 ⟨a, n, c, qs, rfl, hb, _⟩
    have HB := Lib.hid hb
    clear hb
    go_wp2_with fail
    go_ret
    exact ⟨ret_int HZ.out.symm, HB.out⟩
  | some ps =>
    rw [hp] at HR
    have hf := prog_facts hp
    have HZ := Lib.hid (by rw [sizeP, hp] : sizeP s = (sizeSum ps : Int))
    clear hp
    go_enter Tryd.func18, Tryd.ntmps18
    go_wp2_with fail
    refine HR.out.mono ?_
    rintro e w2 ⟨a, n, c, qs, rfl, hb, hnl, ho, hq⟩
    have hqp := hq ps rfl
    subst hqp
    have hln : n ≤ 401 := by rw [← hnl]; exact hf.1
    have HN := Lib.hid hnl
    rw [← hnl] at ho
    have HO := Lib.hid ho
    have HB := Lib.hid hb
    have HF := Lib.hid hf
    clear ho hb hf hq hnl
    go_wp2_with fail
    go_loopw [3, 17] (fun m i wr => ∃ (k z : Nat), i = .int .i64 k ∧ k ≤ n ∧ m = .int .i64 z ∧ z ≤ 400 * k ∧ Hid (z = sizeSum (qs.take k)) ∧ Hid (Below w2.heap.size w2 wr)) (fun _ i _ => n - (intOf i).toNat)
    case atStart => exact ⟨0, 0, by go_num, Nat.zero_le _, by go_num, by omega, by show _ = _; simp [sizeSum], Below.refl _ _⟩
    case round =>
      obtain ⟨k, z, rfl, hk, rfl, hz, hZ, hb⟩ := hrel
      by_cases hlt : k < n
      · have hkp : k < qs.length := by rw [HN.out]; exact hlt
        obtain ⟨g, rfl, c0, c1⟩ := pr_get HO.out k hkp
        have hgl : g < w2.heap.size := World.block_lt_of_cell? w2 _ c0
        have d0 : wr.cell? ⟨g, k * 2, none⟩ = some (.int .u8 qs[k].1.toNat) := by rw [hb.out.cell (p := ⟨g, k * 2, none⟩) hgl]; exact c0
        have d1 : wr.cell? ⟨g, k * 2 + 1, none⟩ = some (.string (txtOf (txts qs[k].2))) := by rw [hb.out.cell (p := ⟨g, k * 2 + 1, none⟩) hgl]; exact c1
        have hq := HF.out.2.1 qs[k] (List.getElem_mem hkp)
        have hC := fun w => count_any (txtOf (txts qs[k].2)) w (by have := hq.2.2.1; rw [txtOf_size]; omega)
        rw [show (txtOf (txts qs[k].2)).data.toList = txts qs[k].2 from rfl, count_stms _ hq.1] at hC
        have HC := Lib.hid hC
        have HT := Lib.hid (sizeSum_take qs k hkp)
        have hfl : (flats qs[k].2).length ≤ 400 := Nat.le_trans (flats_le _) hq.2.2.1
        clear hC c0 c1 hgl hq
        generalize (flats qs[k].2).length = fl at *
        generalize txtOf (txts qs[k].2) = tx at *
        go_wp2_with fail
        refine (HC.out _).mono ?_
        rintro e w3 ⟨rfl, rfl⟩
        go_wp2_with fail
        go_roundw
        case rel => exact ⟨k + 1, z + fl, by go_num, by omega, by go_num, by omega, by show _ = _; rw [HT.out, hZ.out], hb.out.alloc hb.out.size _⟩
        case measure => simp [intOf]; omega
      · have HZ2 := Lib.hid (by rw [hZ.out, List.take_of_length_le (by rw [HN.out]; omega)] : z = sizeSum qs)
        clear hZ
        go_wp2_with fail
        go_ret
        exact ⟨ret_int (by rw [HZ.out, HZ2.out]), HB.out.trans (hb.out.mono HB.out.size)⟩

set_option maxHeartbeats 400000 in
theorem size_long (s : ByteArray) (w : World) (hl : 1048576 < s.size) (hx : s.size ≤ maxLen) :
    Calls Tryd.prog 9 #[.string s] w fun e w' => e = .returned (.bool true) ∧ Below w.heap.size w w' := by
  unfold maxLen at hx
  go_enter Tryd.func9, Tryd.ntmps9
  go_wp2_with fail
  go_ret
  exact ⟨rfl, Below.refl _ _⟩
set_option maxHeartbeats 400000 in
theorem size_short (s : ByteArray) (w : World) (hl : s.size ≤ 1048576) (hm : MaxCell w) :
    Calls Tryd.prog 9 #[.string s] w fun e w' => e = .returned (.bool true) ∧ Below w.heap.size w w' := by
  have HI := Lib.hid (fun w => impl_size s w (by omega))
  have HS := Lib.hid (fun w => spec_size s w (by omega))
  have HM := Lib.hid hm
  generalize sizeP s = b at *
  clear hm
  go_enter Tryd.func9, Tryd.ntmps9
  go_wp2_with fail
  refine (HS.out _).mono ?_
  rintro e w1 ⟨rfl, b1⟩
  have B1 := Lib.hid b1
  clear b1
  go_wp2_with fail
  refine (HI.out _ (HM.out.later B1.out)).mono ?_
  rintro e w2 ⟨rfl, b2⟩
  have B2 := Lib.hid (B1.out.trans (b2.mono B1.out.size))
  clear b2
  go_wp2_with fail
  go_ret
  exact ⟨rfl, B2.out⟩
theorem size_of_any (s : ByteArray) (w : World) (hx : s.size ≤ maxLen) (hm : MaxCell w) :
    Calls Tryd.prog 9 #[.string s] w fun e w' => e = .returned (.bool true) ∧ Below w.heap.size w w' := by
  by_cases h : s.size ≤ 1048576
  · exact size_short s w h hm
  · exact size_long s w (by omega) hx
end Go.Proofs.YtjomgdekkfabhaaDoor
namespace Go.Proofs.YtjomgdekkfabhaaDoor
open Go.RowKit Gram

def procsP (s : ByteArray) : ByteArray := match progOf s with | none => ⟨#[]⟩ | some ps => txtOf (namesOf ps)

set_option maxHeartbeats 1000000 in
theorem impl_procs (s : ByteArray) (w : World) (hs : s.size ≤ 1073741824) (hm : MaxCell w) :
    Calls Tryd.prog 14 #[.string s] w fun e w' => e = .returned (.string (procsP s)) ∧ Below w.heap.size w w' := by
  have HR := Lib.hid ((read_prog s w hs hm).mono fun _ _ h => h.cases)
  clear hm
  cases hp : progOf s with
  | none =>
    rw [hp] at HR
    have HZ := Lib.hid (by rw [procsP, hp] : procsP s = ⟨#[]⟩)
    clear hp
    go_enter Tryd.func14, Tryd.ntmps14
    go_wp2_with fail
    refine HR.out.mono ?_
    rintro e w2 ⟨a, n, c, rfl, hb, _⟩
    have HB := Lib.hid hb
    clear hb
    go_wp2_with fail
    go_ret
    exact ⟨by rw [HZ.out]; rfl, HB.out⟩
  | some ps =>
    rw [hp] at HR
    have hf := prog_facts hp
    have HZ := Lib.hid (by rw [procsP, hp] : procsP s = txtOf (namesOf ps))
    clear hp
    go_enter Tryd.func14, Tryd.ntmps14
    go_wp2_with fail
    refine HR.out.mono ?_
    rintro e w2 ⟨a, n, c, rfl, hb, hq⟩
    obtain ⟨S, qs, hqp, hP, hG⟩ := hq ps rfl
    have hnq : qs.length ≤ 1048576 := by rw [← List.length_map (f := fun q : Qr => q.1), hqp]; exact Nat.le_trans hf.1 (by decide)
    have HN := Lib.hid (names_set hP hG hnq)
    have hnm : namesQ qs = namesOf ps := by rw [← hqp, namesOf, List.map_map]; rfl
    rw [hnm] at HN
    have hlets : lets (namesOf ps) := by rw [← hnm]; exact namesQ_lets hG
    have HT := Lib.hid (fun w => text_set (namesOf ps) hlets w)
    rw [upTo_asc _ (procs_asc _ _ _ hf.2.2.2 (by simp [asc, namesOf])) hlets] at HT
    have HB := Lib.hid hb
    clear hb hq hqp hP hG hnq hnm hlets hf
    generalize namesOf ps = nm at *
    go_wp2_with fail
    refine HN.out.mono ?_
    rintro e w3 ⟨rfl, hb3⟩
    have HB3 := Lib.hid (HB.out.trans (hb3.mono HB.out.size))
    clear hb3
    go_wp2_with fail
    refine (HT.out _).mono ?_
    rintro e w4 ⟨rfl, hb4⟩
    have HB4 := Lib.hid (HB3.out.trans (hb4.mono HB3.out.size))
    clear hb4
    go_wp2_with fail
    go_ret
    exact ⟨by rw [HZ.out]; rfl, HB4.out⟩

theorem names_take (ps : List Pr) (k : Nat) (hk : k < ps.length) : txtOf (namesOf (ps.take (k + 1))) = txtOf (namesOf (ps.take k)) ++ ⟨#[ps[k].1]⟩ := by
  have h1 : namesOf (ps.take (k + 1)) = namesOf (ps.take k) ++ [ps[k].1] := by rw [List.take_succ_eq_append_getElem hk, namesOf, List.map_append]; rfl
  rw [h1]
  apply ByteArray.ext
  apply Array.ext'
  simp [txtOf]
theorem row_max {w : World} {B n c : Nat} {a : Option Addr} {e : TypeId} {xs : List Value} (h : w.ownsRow B e 2 (.slice a n c) n xs) : n ≤ 9223372036854775807 := by
  rcases h.2 with ⟨h1, h2⟩ | ⟨g, cap, cur, h1, _, _, h3, h4, _⟩
  · omega
  · unfold maxLen at h4; omega

set_option maxHeartbeats 1000000 in
theorem spec_procs (s : ByteArray) (w : World) (hs : s.size ≤ 1048576) :
    Calls Tryd.prog 17 #[.string s] w fun e w' => e = .returned (.string (procsP s)) ∧ Below w.heap.size w w' := by
  have HR := Lib.hid ((open_prog s w (by omega)).mono fun _ _ h => h.cases)
  cases hp : progOf s with
  | none =>
    rw [hp] at HR
    have HZ := Lib.hid (by rw [procsP, hp] : procsP s = ⟨#[]⟩)
    clear hp
    go_enter Tryd.func17, Tryd.ntmps17
    go_wp2_with fail
    refine HR.out.mono ?_
    rintro e w2 ⟨a, n, c, qs, rfl, hb, hnl, ho, _⟩
    have HB := Lib.hid hb
    rw [← hnl] at ho
    have HO := Lib.hid ho
    have HN := Lib.hid hnl
    clear hb ho hnl
    have hn63 := row_max HO.out
    rw [HN.out] at hn63
    go_wp2_with fail
    go_loopw [3, 15] (fun o i wr => ∃ k : Nat, i = .int .i64 k ∧ k ≤ n ∧ o = .string ⟨#[]⟩ ∧ Hid (Below w2.heap.size w2 wr)) (fun _ i _ => n - (intOf i).toNat)
    case atStart => exact ⟨0, by go_num, Nat.zero_le _, rfl, Below.refl _ _⟩
    case round =>
      obtain ⟨k, rfl, hk, rfl, hb⟩ := hrel
      by_cases hlt : k < n
      · have hkp : k < qs.length := by rw [HN.out]; exact hlt
        obtain ⟨g, rfl, c0, c1⟩ := pr_get HO.out k hkp
        have hgl : g < w2.heap.size := World.block_lt_of_cell? w2 _ c0
        have d0 : wr.cell? ⟨g, k * 2, none⟩ = some (.int .u8 qs[k].1.toNat) := by rw [hb.out.cell (p := ⟨g, k * 2, none⟩) hgl]; exact c0
        have d1 : wr.cell? ⟨g, k * 2 + 1, none⟩ = some (.string (txtOf (txts qs[k].2))) := by rw [hb.out.cell (p := ⟨g, k * 2 + 1, none⟩) hgl]; exact c1
        clear c0 c1 hgl
        generalize txtOf (txts qs[k].2) = tx at *
        go_wp2_with fail
        go_roundw
        case rel => exact ⟨k + 1, by go_num, by omega, rfl, hb.out.alloc hb.out.size _⟩
        case measure => simp [intOf]; omega
      · go_wp2_with fail
        go_ret
        exact ⟨by rw [HZ.out]; rfl, HB.out.trans (hb.out.mono HB.out.size)⟩
  | some ps =>
    rw [hp] at HR
    have hf := prog_facts hp
    have HZ := Lib.hid (by rw [procsP, hp] : procsP s = txtOf (namesOf ps))
    clear hp
    go_enter Tryd.func17, Tryd.ntmps17
    go_wp2_with fail
    refine HR.out.mono ?_
    rintro e w2 ⟨a, n, c, qs, rfl, hb, hnl, ho, hq⟩
    have hqp := hq ps rfl
    subst hqp
    have hln : n ≤ 401 := by rw [← hnl]; exact hf.1
    have HN := Lib.hid hnl
    rw [← hnl] at ho
    have HO := Lib.hid ho
    have HB := Lib.hid hb
    clear ho hb hf hq hnl
    go_wp2_with fail
    go_loopw [3, 15] (fun o i wr => ∃ k : Nat, i = .int .i64 k ∧ k ≤ n ∧ o = .string (txtOf (namesOf (qs.take k))) ∧ Hid (Below w2.heap.size w2 wr)) (fun _ i _ => n - (intOf i).toNat)
    case atStart => exact ⟨0, by go_num, Nat.zero_le _, rfl, Below.refl _ _⟩
    case round =>
      obtain ⟨k, rfl, hk, rfl, hb⟩ := hrel
      by_cases hlt : k < n
      · have hkp : k < qs.length := by rw [HN.out]; exact hlt
        obtain ⟨g, rfl, c0, c1⟩ := pr_get HO.out k hkp
        have hgl : g < w2.heap.size := World.block_lt_of_cell? w2 _ c0
        have d0 : wr.cell? ⟨g, k * 2, none⟩ = some (.int .u8 qs[k].1.toNat) := by rw [hb.out.cell (p := ⟨g, k * 2, none⟩) hgl]; exact c0
        have d1 : wr.cell? ⟨g, k * 2 + 1, none⟩ = some (.string (txtOf (txts qs[k].2))) := by rw [hb.out.cell (p := ⟨g, k * 2 + 1, none⟩) hgl]; exact c1
        have HT := Lib.hid (names_take qs k hkp)
        have e1 := str_sum (txtOf (namesOf (qs.take k))) ⟨#[qs[k].1]⟩ (by rw [txtOf_size, show (⟨#[qs[k].1]⟩ : ByteArray).size = 1 from rfl]; simp [namesOf]; omega)
        have e2 := fun o : Obj => chr1 qs[k].1 (wr.alloc o) (wr.heap.size + 1) (by rw [alloc_size'])
        clear c0 c1 hgl
        generalize txtOf (txts qs[k].2) = tx at *
        generalize txtOf (namesOf (qs.take k)) = nm at *
        generalize qs[k].1 = ch at *
        go_wp2_with fail
        go_roundw
        case rel => exact ⟨k + 1, by go_num, by omega, by rw [HT.out], (hb.out.alloc hb.out.size _).alloc (by rw [alloc_size']; exact Nat.le_succ_of_le hb.out.size) _⟩
        case measure => simp [intOf]; omega
      · have hall : qs.take k = qs := List.take_of_length_le (by rw [HN.out]; omega)
        rw [hall]
        go_wp2_with fail
        go_ret
        exact ⟨by rw [HZ.out]; rfl, HB.out.trans (hb.out.mono HB.out.size)⟩

set_option maxHeartbeats 400000 in
theorem procs_long (s : ByteArray) (w : World) (hl : 1048576 < s.size) (hx : s.size ≤ maxLen) :
    Calls Tryd.prog 6 #[.string s] w fun e w' => e = .returned (.bool true) ∧ Below w.heap.size w w' := by
  unfold maxLen at hx
  go_enter Tryd.func6, Tryd.ntmps6
  go_wp2_with fail
  go_ret
  exact ⟨rfl, Below.refl _ _⟩
set_option maxHeartbeats 400000 in
theorem procs_short (s : ByteArray) (w : World) (hl : s.size ≤ 1048576) (hm : MaxCell w) :
    Calls Tryd.prog 6 #[.string s] w fun e w' => e = .returned (.bool true) ∧ Below w.heap.size w w' := by
  have HI := Lib.hid (fun w => impl_procs s w (by omega))
  have HS := Lib.hid (fun w => spec_procs s w hl)
  have HM := Lib.hid hm
  generalize procsP s = b at *
  clear hm
  go_enter Tryd.func6, Tryd.ntmps6
  go_wp2_with fail
  refine (HS.out _).mono ?_
  rintro e w1 ⟨rfl, b1⟩
  have B1 := Lib.hid b1
  clear b1
  go_wp2_with fail
  refine (HI.out _ (HM.out.later B1.out)).mono ?_
  rintro e w2 ⟨rfl, b2⟩
  have B2 := Lib.hid (B1.out.trans (b2.mono B1.out.size))
  clear b2
  go_wp2_with fail
  go_ret
  exact ⟨rfl, B2.out⟩
theorem procs_of_any (s : ByteArray) (w : World) (hx : s.size ≤ maxLen) (hm : MaxCell w) :
    Calls Tryd.prog 6 #[.string s] w fun e w' => e = .returned (.bool true) ∧ Below w.heap.size w w' := by
  by_cases h : s.size ≤ 1048576
  · exact procs_short s w h hm
  · exact procs_long s w (by omega) hx
end Go.Proofs.YtjomgdekkfabhaaDoor
