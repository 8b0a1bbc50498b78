/- The law NumBack: its walk. -/
import Derived.Test.YtemgjjnkdopnnaaDoorSmall
import Derived.Test.YtemgjjnkdopnnaaDoorHexFacts
import Derived.Test.YtemgjjnkdopnnaaDoorPlain2
import Derived.Deep.DeepCutAuto
namespace Go.Proofs.YtemgjjnkdopnnaaDoor
open Go.ChangeShapes Go.WideShapes Go.ChangeAt Go.RowKit

theorem back_long (a : Int) (s : ByteArray) (hs : 200 < s.size) (hmax : s.size ≤ 9223372036854775807) (w : World) (hv : Vars w) :
    Calls Tryd.prog 4 #[.int .i64 a, .string s] w fun e w' => e = .returned (.bool true) ∧ Below w.heap.size w w' := by
  have HS := Lib.hid (small_any w hv)
  clear hv
  go_enter Tryd.func4, Tryd.ntmps4
  go_wp2_with (go_at_call 6; refine HS.out.mono ?_; rintro e w1 ⟨rfl, hb⟩)
  go_ret
  exact ⟨rfl, hb⟩

/-- What the law calls, at its own arguments. -/
structure BackHas (a : Int) (s T X : ByteArray) (m : Int) (had : Bool) (u : ByteArray) (has : Bool) : Prop where
  text : ∀ W, Vars W → Calls Tryd.prog 11 #[.int .i64 a] W fun e w' => e = .returned (.string T) ∧ Below W.heap.size W w'
  back : ∀ W, Vars W → Calls Tryd.prog 7 #[.string T, .int .i64 (-9223372036854775808), .int .i64 9223372036854775807] W fun e w' => e = .returned (.tuple #[.int .i64 a, .bool true]) ∧ Below W.heap.size W w'
  parse : ∀ W, Vars W → Calls Tryd.prog 7 #[.string s, .int .i64 (-9223372036854775808), .int .i64 9223372036854775807] W fun e w' => e = .returned (.tuple #[.int .i64 m, .bool had]) ∧ Below W.heap.size W w'
  hex : ∀ W, Calls Tryd.prog 15 #[.string s] W fun e w' => e = .returned (.string X) ∧ Below W.heap.size W w'
  unhex : ∀ W, Calls Tryd.prog 9 #[.string X] W fun e w' => e = .returned (.tuple #[.string s, .bool true]) ∧ Below W.heap.size W w'
  un : ∀ W, Calls Tryd.prog 9 #[.string s] W fun e w' => e = .returned (.tuple #[.string u, .bool has]) ∧ Below W.heap.size W w'
  size : X.size = 2 * s.size

set_option maxRecDepth 100000 in
set_option maxHeartbeats 800000 in
theorem back_walk (a : Int) (s T X : ByteArray) (m : Int) (had : Bool) (u : ByteArray) (has : Bool) (H : BackHas a s T X m had u has) (hs : s.size ≤ 200) (w : World) (hv : Vars w)
    (hm : had = false → m = 0) (htext : had = true → ∀ W, Vars W → Calls Tryd.prog 11 #[.int .i64 m] W fun e w' => e = .returned (.string s) ∧ Below W.heap.size W w')
    (hno : has = false → u.size = 0)
    (Y : ByteArray) (hhex : has = true → ∀ W, Calls Tryd.prog 15 #[.string u] W fun e w' => e = .returned (.string Y) ∧ Below W.heap.size W w')
    (hun : has = true → ∀ W, Calls Tryd.prog 9 #[.string Y] W fun e w' => e = .returned (.tuple #[.string u, .bool true]) ∧ Below W.heap.size W w') (hsize : has = true → 2 * u.size = s.size) :
    Calls Tryd.prog 4 #[.int .i64 a, .string s] w fun e w' => e = .returned (.bool true) ∧ Below w.heap.size w w' := by
  have HS := Lib.hid (small_any w hv)
  have HV := Lib.hid hv
  have hX : ((X.size : Int) != 2 * (s.size : Int)) = false := by rw [bne_eq_false_iff_eq, H.size]; omega
  have HH := Lib.hid H
  have HM := Lib.hid hm
  have HT := Lib.hid htext
  have HN := Lib.hid hno
  have HX := Lib.hid hhex
  have HU := Lib.hid hun
  have HZ := Lib.hid hsize
  clear hv H hm htext hno hhex hun hsize
  go_enter Tryd.func4, Tryd.ntmps4
  go_wp2_with (go_at_call 6; refine HS.out.mono ?_; rintro e w1 ⟨rfl, hb⟩)
  refine (HH.out.text _ (HV.out.below hb)).mono ?_
  rintro e w2 ⟨rfl, hb'⟩
  replace hb := Qtrans hb hb'; clear hb'
  go_wp2_with fail
  refine (HH.out.back _ (HV.out.below hb)).mono ?_
  rintro e w2 ⟨rfl, hb'⟩
  replace hb := Qtrans hb hb'; clear hb'
  go_wp2_with fail
  refine (HH.out.parse _ (HV.out.below hb)).mono ?_
  rintro e w2 ⟨rfl, hb'⟩
  replace hb := Qtrans hb hb'; clear hb'
  go_wp2_with fail
  refine (HH.out.hex _).mono ?_
  rintro e w2 ⟨rfl, hb'⟩
  replace hb := Qtrans hb hb'; clear hb'
  go_wp2_with fail
  refine (HH.out.unhex _).mono ?_
  rintro e w2 ⟨rfl, hb'⟩
  replace hb := Qtrans hb hb'; clear hb'
  go_wp2_with fail
  refine (HH.out.un _).mono ?_
  rintro e w2 ⟨rfl, hb'⟩
  replace hb := Qtrans hb hb'; clear hb'
  go_upto_region 8 with fail
  go_cut [84] (fun x wx => x = .bool false ∧ Below w.heap.size w wx)
  case first =>
    cases had with
    | false =>
      obtain rfl : m = 0 := HM.out rfl
      go_wp2_with (go_at_call 15; refine (HH.out.hex _).mono ?_; rintro e w3 ⟨rfl, hb'⟩)
      go_meet
      exact ⟨rfl, Qtrans hb hb'⟩
    | true =>
      go_wp2_with fail
      refine (HT.out trivial _ (HV.out.below hb)).mono ?_
      rintro e w3 ⟨rfl, hb'⟩
      replace hb := Qtrans hb hb'; clear hb'
      go_wp2_with fail
      refine (HH.out.hex _).mono ?_
      rintro e w4 ⟨rfl, hb'⟩
      go_wp2_with fail
      go_meet
      exact ⟨rfl, Qtrans hb hb'⟩
  case rest =>
    obtain ⟨rfl, hb2⟩ := hcut
    clear hb
    cases has with
    | false =>
      have hu : u.size = 0 := HN.out rfl
      have e1 : u.toList = [] := by rw [ByteArray.toList_eq]; exact List.eq_nil_of_length_eq_zero (by rw [Array.length_toList]; exact hu)
      have e2 : u.toList.isEmpty = true := by rw [e1]; rfl
      clear hu
      go_wp2_with fail
      go_ret
      exact ⟨rfl, hb2⟩
    | true =>
      have hz : 2 * u.size = s.size := HZ.out rfl
      have hz1 : ((u.size : Int) * 2 == (s.size : Int)) = true := beq_iff_eq.2 (by omega)
      have hz2 : u.size ≤ 200 := by omega
      clear hz
      go_wp2_with fail
      refine (HX.out trivial _).mono ?_
      rintro e w3 ⟨rfl, hb'⟩
      replace hb2 := Qtrans hb2 hb'; clear hb'
      go_wp2_with fail
      refine (HU.out trivial _).mono ?_
      rintro e w4 ⟨rfl, hb'⟩
      go_wp2_with fail
      go_ret
      exact ⟨rfl, Qtrans hb2 hb'⟩
end Go.Proofs.YtemgjjnkdopnnaaDoor
