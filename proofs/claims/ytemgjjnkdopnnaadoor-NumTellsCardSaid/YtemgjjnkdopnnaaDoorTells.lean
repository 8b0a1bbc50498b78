/- The law NumTells: its walk. -/
import Derived.Test.YtemgjjnkdopnnaaDoorSmall
import Derived.Test.YtemgjjnkdopnnaaDoorRefParse
namespace Go.Proofs.YtemgjjnkdopnnaaDoor
open Go.ChangeShapes Go.WideShapes Go.ChangeAt Go.RowKit

theorem tells_long (a b c : Int) (s : ByteArray) (hs : 200 < s.size) (hmax : s.size ≤ 9223372036854775807) (w : World) (hv : Vars w) :
    Calls Tryd.prog 3 #[.int .i64 a, .int .i64 b, .int .i64 c, .string s] w fun e w' => e = .returned (.bool true) ∧ Below w.heap.size w w' := by
  have HS := Lib.hid (small_any w hv)
  clear hv
  go_enter Tryd.func3, Tryd.ntmps3
  go_wp2_with (go_at_call 6; refine HS.out.mono ?_; rintro e w1 ⟨rfl, hb⟩)
  go_ret
  exact ⟨rfl, hb⟩

/-- The package's answers and the reference's are the same. -/
structure Same (a b c : Int) (s : ByteArray) (n : Int) (ok : Bool) (t : ByteArray) (had : Bool) (T : ByteArray) (P : Int → ByteArray) (X : ByteArray) (C : Int) : Prop where
  parse : ∀ W, Vars W → Calls Tryd.prog 7 #[.string s, .int .i64 b, .int .i64 c] W fun e w' => e = .returned (.tuple #[.int .i64 n, .bool ok]) ∧ Below W.heap.size W w'
  parseR : ∀ W, Calls Tryd.prog 8 #[.string s, .int .i64 b, .int .i64 c] W fun e w' => e = .returned (.tuple #[.int .i64 n, .bool ok]) ∧ Below W.heap.size W w'
  unhex : ∀ W, Calls Tryd.prog 9 #[.string s] W fun e w' => e = .returned (.tuple #[.string t, .bool had]) ∧ Below W.heap.size W w'
  unhexR : ∀ W, Calls Tryd.prog 10 #[.string s] W fun e w' => e = .returned (.tuple #[.string t, .bool had]) ∧ Below W.heap.size W w'
  text : ∀ W, Vars W → Calls Tryd.prog 11 #[.int .i64 a] W fun e w' => e = .returned (.string T) ∧ Below W.heap.size W w'
  textR : ∀ W, Calls Tryd.prog 12 #[.int .i64 a] W fun e w' => e = .returned (.string T) ∧ Below W.heap.size W w'
  pad : ∀ k W, Vars W → Calls Tryd.prog 13 #[.int .i64 a, .int .i64 k] W fun e w' => e = .returned (.string (P k)) ∧ Below W.heap.size W w'
  padR : ∀ k W, Calls Tryd.prog 14 #[.int .i64 a, .int .i64 k] W fun e w' => e = .returned (.string (P k)) ∧ Below W.heap.size W w'
  hex : ∀ W, Calls Tryd.prog 15 #[.string s] W fun e w' => e = .returned (.string X) ∧ Below W.heap.size W w'
  hexR : ∀ W, Calls Tryd.prog 16 #[.string s] W fun e w' => e = .returned (.string X) ∧ Below W.heap.size W w'
  clamp : ∀ W : World, Calls Tryd.prog 17 #[.int .i64 a, .int .i64 b, .int .i64 c] W fun e w' => e = .returned (.int .i64 C) ∧ W = w'
  clampR : ∀ W : World, Calls Tryd.prog 18 #[.int .i64 a, .int .i64 b, .int .i64 c] W fun e w' => e = .returned (.int .i64 C) ∧ W = w'

set_option maxRecDepth 100000 in
set_option maxHeartbeats 1600000 in
theorem tells_walk (a b c : Int) (s : ByteArray) (n : Int) (ok : Bool) (t : ByteArray) (had : Bool) (T : ByteArray) (P : Int → ByteArray) (X : ByteArray) (C : Int) (H : Same a b c s n ok t had T P X C) (hs : s.size ≤ 200) (w : World) (hv : Vars w) :
    Calls Tryd.prog 3 #[.int .i64 a, .int .i64 b, .int .i64 c, .string s] w fun e w' => e = .returned (.bool true) ∧ Below w.heap.size w w' := by
  have HS := Lib.hid (small_any w hv)
  have HV := Lib.hid hv
  have HH := Lib.hid H
  clear hv H
  go_enter Tryd.func3, Tryd.ntmps3
  go_wp2_with (go_at_call 6; refine HS.out.mono ?_; rintro e w1 ⟨rfl, hb⟩)
  refine (HH.out.parse _ (HV.out.below hb)).mono ?_
  rintro e w2 ⟨rfl, hb'⟩
  replace hb := Qtrans hb hb'; clear hb'
  go_wp2_with fail
  refine (HH.out.parseR _).mono ?_
  rintro e w2 ⟨rfl, hb'⟩
  replace hb := Qtrans hb hb'; clear hb'
  go_wp2_with fail
  refine (HH.out.unhex _).mono ?_
  rintro e w2 ⟨rfl, hb'⟩
  replace hb := Qtrans hb hb'; clear hb'
  go_wp2_with fail
  refine (HH.out.unhexR _).mono ?_
  rintro e w2 ⟨rfl, hb'⟩
  replace hb := Qtrans hb hb'; clear hb'
  go_wp2_with fail
  refine (HH.out.text _ (HV.out.below hb)).mono ?_
  rintro e w2 ⟨rfl, hb'⟩
  replace hb := Qtrans hb hb'; clear hb'
  go_wp2_with fail
  refine (HH.out.textR _).mono ?_
  rintro e w2 ⟨rfl, hb'⟩
  replace hb := Qtrans hb hb'; clear hb'
  go_wp2_with fail
  refine (HH.out.pad _ _ (HV.out.below hb)).mono ?_
  rintro e w2 ⟨rfl, hb'⟩
  replace hb := Qtrans hb hb'; clear hb'
  go_wp2_with fail
  refine (HH.out.padR _ _).mono ?_
  rintro e w2 ⟨rfl, hb'⟩
  replace hb := Qtrans hb hb'; clear hb'
  go_wp2_with fail
  refine (HH.out.pad _ _ (HV.out.below hb)).mono ?_
  rintro e w2 ⟨rfl, hb'⟩
  replace hb := Qtrans hb hb'; clear hb'
  go_wp2_with fail
  refine (HH.out.padR _ _).mono ?_
  rintro e w2 ⟨rfl, hb'⟩
  replace hb := Qtrans hb hb'; clear hb'
  go_wp2_with fail
  refine (HH.out.hex _).mono ?_
  rintro e w2 ⟨rfl, hb'⟩
  replace hb := Qtrans hb hb'; clear hb'
  go_wp2_with fail
  refine (HH.out.hexR _).mono ?_
  rintro e w2 ⟨rfl, hb'⟩
  replace hb := Qtrans hb hb'; clear hb'
  go_wp2_with fail
  refine (HH.out.clamp _).mono ?_
  rintro e w2 ⟨rfl, rfl⟩
  go_wp2_with fail
  refine (HH.out.clampR _).mono ?_
  rintro e w2 ⟨rfl, rfl⟩
  go_wp2_with fail
  go_ret
  exact ⟨rfl, hb⟩
end Go.Proofs.YtemgjjnkdopnnaaDoor
