/- FormatOutcome of the model. Condition: sizes of at most 2^20. -/
import Derived.Test.YtlocampfgkdohaaDoorDec
namespace Go.Proofs.YtlocampfgkdohaaDoor
open Go.RowKit

theorem str_to (x y z : ByteArray) (h : x.size + y.size ≤ 9223372036854775807) (hz : x ++ y = z) (w : World) : (Op.stringOp .add x y).run Tryd.prog w = .ok (.string z) w := by
  rw [str_add x y h w, hz]

set_option maxHeartbeats 1000000 in
set_option maxRecDepth 100000 in
theorem spec_fmt (w : World) (v : Int) (a : Option Addr) (n c : Nat) (zs : List Int) (e : ByteArray) (st : Int) (hA : Ints w a n zs) (hn : n ≤ 1048576) (he : e.size ≤ 1048576) (hv : Int64 v) (hst : Int64 st) (hz : ∀ z ∈ zs, Int64 z) :
    Calls Tryd.prog 6 #[oV v a n c e st] w fun r w' => r = .returned (.string ⟨(headT v ++ numsT zs ++ (32 :: e.data.toList ++ 32 :: Lib.itoa st)).toArray⟩) ∧ Below w.heap.size w w' := by
  have HT := Lib.hid (fun w' => dec_any v hv w')
  have HTs := Lib.hid (fun w' => dec_any st hst w')
  have HTz := Lib.hid (fun z (h : Int64 z) w' => dec_any z h w')
  have hdv := dec_size v hv
  have hds := dec_size st hst
  have z1 : (⟨#[58]⟩ : ByteArray).size = 1 := rfl
  have z2 : (⟨#[32]⟩ : ByteArray).size = 1 := rfl
  have e1 := str_add (dec v) ⟨#[58]⟩ (by omega)
  have HL := Lib.hid hA.len
  have HAt := Lib.hid hA.at_
  have HN := Lib.hid hn
  have HE := Lib.hid he
  have HZ := Lib.hid hz
  have HNL := Lib.hid (fun k => numsT_len (zs.take k) (fun z h => hz z (List.mem_of_mem_take h)))
  have hh : (headT v).length ≤ 22 := by
    have := Lib.itoa_length_le v hv.1 hv.2
    simp [headT]; omega
  have HH := Lib.hid hh
  have HD := Lib.hid hdv
  have HDs := Lib.hid hds
  have HH0 := Lib.hid (show dec v ++ ⟨#[58]⟩ = ⟨(headT v ++ numsT (zs.take 0)).toArray⟩ by
    apply ByteArray.ext; apply Array.ext'; simp [dec, headT, numsT])
  clear z1 z2 hdv hds hA hn he hz hh hv hst
  unfold oV
  go_enter Tryd.func6, Tryd.ntmps6
  go_wp2_with fail
  refine (HT.out _).mono ?_
  rintro r w2 ⟨rfl, hb⟩
  rw [alloc_size'] at hb
  have HB2 := Lib.hid hb
  have q0 := hb.block w.heap.size (by omega)
  rw [heap_alloc_new] at q0
  obtain ⟨_, q1, _, _⟩ := read4 q0
  clear q0 hb
  generalize dec v ++ ⟨#[58]⟩ = t0 at *
  go_wp2_with fail
  go_loopw [3, 13] (fun o i wr => ∃ k : Nat, k ≤ n ∧ i = .int .i64 k ∧ o = .string ⟨(headT v ++ numsT (zs.take k)).toArray⟩ ∧ Hid (Below (w.heap.size + 1) (w.alloc (Obj.cells #[.int .i64 v, .slice a n c, .string e, .int .i64 st] 27)) wr)) (fun _ i _ => n - (intOf i).toNat)
  case atStart => exact ⟨0, Nat.zero_le _, by go_num, by rw [HH0.out], HB2.out⟩
  case round =>
    obtain ⟨k, hk, rfl, rfl, hB⟩ := hrel
    have hsz := hB.out.size
    rw [alloc_size'] at hsz
    have HSz := Lib.hid hsz
    have HBw := Lib.hid (show Below w.heap.size w wr from ((Below.refl w.heap.size w).alloc (Nat.le_refl _) _).trans (hB.out.mono (by omega)))
    have HNk := Lib.hid (show (headT v ++ numsT (zs.take k)).length ≤ 22 + 22 * 1048576 by
      have h1 := HNL.out k
      have h2 := HH.out
      have h3 := HL.out
      have h4 := HN.out
      rw [List.length_append]
      rw [List.length_take] at h1
      omega)
    clear hsz
    obtain ⟨acc, hacc⟩ : ∃ acc : ByteArray, acc = ⟨(headT v ++ numsT (zs.take k)).toArray⟩ := ⟨_, rfl⟩
    have HAc := Lib.hid hacc
    have has : acc.size ≤ 22 + 22 * 1048576 := by
      have := HNk.out
      rw [hacc]
      show (headT v ++ numsT (zs.take k)).toArray.size ≤ _
      rw [List.size_toArray]; exact this
    have HAs := Lib.hid has
    rw [← hacc]
    clear hacc has
    have e2 := str_add acc ⟨#[32]⟩ (by have := HAs.out; show _ + 1 ≤ _; omega)
    by_cases hlt : k < n
    · have hzl : k < zs.length := by rw [HL.out]; omega
      have hn1 : n ≤ 1048576 := HN.out
      obtain ⟨g, off, rfl, d1⟩ := HAt.out k hzl
      have c1 : wr.cell? ⟨g, off + k, none⟩ = some (.int .i64 zs[k]) := by rw [HBw.out.cell (p := ⟨g, off + k, none⟩) (World.block_lt_of_cell? w _ d1)]; exact d1
      have HC := Lib.hid (HTz.out zs[k] (HZ.out _ (List.getElem_mem hzl)) wr)
      have HDk := Lib.hid (dec_size zs[k] (HZ.out _ (List.getElem_mem hzl)))
      have HR := Lib.hid (show acc ++ ⟨#[32]⟩ ++ dec zs[k] = ⟨(headT v ++ numsT (zs.take (k + 1))).toArray⟩ by
        rw [HAc.out, numsT_take zs k hzl]
        apply ByteArray.ext; apply Array.ext'; simp [dec])
      have e5 := str_add (acc ++ ⟨#[32]⟩) (dec zs[k]) (by have := HDk.out; have := HAs.out; rw [ByteArray.size_append]; show _ + 1 + _ ≤ _; omega)
      have hkn : (k : Int) < (n : Int) := by omega
      clear d1
      generalize dec zs[k] = dk at *
      generalize zs[k] = z at *
      go_wp2_with fail
      refine HC.out.mono ?_
      rintro r w4 ⟨rfl, hb4⟩
      have HB4 := Lib.hid (hB.out.trans (hb4.mono (by have := HSz.out; omega)))
      clear hb4
      go_wp2_with fail
      go_roundw
      case rel => exact ⟨k + 1, by omega, by go_num, by rw [HR.out], HB4.out⟩
      case measure => simp [intOf]; omega
    · have hkn : k = n := by omega
      subst hkn
      have hall : zs.take k = zs := List.take_of_length_le (by rw [HL.out]; exact Nat.le_refl _)
      have HBd := Lib.hid hB.out.drew
      have HSd := Lib.hid (show w.heap.size + 1 ≤ wr.drew.heap.size from HSz.out)
      have HR := Lib.hid (show acc ++ ⟨#[32]⟩ ++ e ++ ⟨#[32]⟩ ++ dec st = ⟨(headT v ++ numsT zs ++ (32 :: e.data.toList ++ 32 :: Lib.itoa st)).toArray⟩ by
        rw [HAc.out, hall]
        apply ByteArray.ext; apply Array.ext'; simp [dec])
      have e3 := str_add (acc ++ ⟨#[32]⟩) e (by have := HE.out; have := HAs.out; rw [ByteArray.size_append]; show _ + 1 + _ ≤ _; omega)
      have e4 := str_add (acc ++ ⟨#[32]⟩ ++ e) ⟨#[32]⟩ (by have := HE.out; have := HAs.out; rw [ByteArray.size_append, ByteArray.size_append]; show _ + 1 + _ + 1 ≤ _; omega)
      have e5 := str_add (acc ++ ⟨#[32]⟩ ++ e ++ ⟨#[32]⟩) (dec st) (by have := HE.out; have := HAs.out; have := HDs.out; rw [ByteArray.size_append, ByteArray.size_append, ByteArray.size_append]; show _ + 1 + _ + 1 + _ ≤ _; omega)
      clear hall
      generalize dec st = ds at *
      go_wp2_with fail
      go_region_held3 (fun w' => w'.cell? ⟨w.heap.size, 2, none⟩ = some (.string e) ∧ w'.cell? ⟨w.heap.size, 3, none⟩ = some (.int .i64 st) ∧ Below (w.heap.size + 1) (w.alloc (Obj.cells #[.int .i64 v, .slice a k c, .string e, .int .i64 st] 27)) w')
        ((first | assumption | exact fin_facts HBd.out | exact fin_facts HB6.out))
        ((first
        | (go_at_call 14; refine (HTs.out _).mono ?_
           rintro r w6 ⟨rfl, hb⟩
           have HB6 := Lib.hid (HBd.out.trans (hb.mono HSd.out))
           clear hb)))
      go_wp2_with fail
      go_ret
      refine ⟨?_, ((Below.refl w.heap.size w).alloc (Nat.le_refl _) _).trans (HB6.out.mono (by omega))⟩
      show Ending.returned (.string (acc ++ ⟨#[32]⟩ ++ e ++ ⟨#[32]⟩ ++ ds)) = _
      rw [HR.out]
      simp
end Go.Proofs.YtlocampfgkdohaaDoor
