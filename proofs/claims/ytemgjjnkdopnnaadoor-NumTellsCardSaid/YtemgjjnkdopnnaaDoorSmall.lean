/- The example that every statement evaluates first holds. -/
import Derived.Test.YtemgjjnkdopnnaaDoorParse
import Derived.Test.YtemgjjnkdopnnaaDoorPad
import Derived.Test.YtemgjjnkdopnnaaDoorUnhex2
namespace Go.Proofs.YtemgjjnkdopnnaaDoor
open Go.ChangeShapes Go.WideShapes Go.ChangeAt Go.RowKit

theorem Qtrans {w w1 w2 : World} (h : Below w.heap.size w w1) (k : Below w1.heap.size w1 w2) : Below w.heap.size w w2 := h.trans (k.mono h.size)

theorem parse_is (s : ByteArray) (lo hi : Int) (o : Option Int) (hs : s.size ≤ 1000) (ho : parseIn s.data.toList lo hi = o) (n : Int) (b : Bool) (hn : o.getD 0 = n) (hb : o.isSome = b) (w : World) (hv : Vars w) :
    Calls Tryd.prog 7 #[.string s, .int .i64 lo, .int .i64 hi] w fun e w' => e = .returned (.tuple #[.int .i64 n, .bool b]) ∧ Below w.heap.size w w' := by
  subst hn hb ho
  exact parse_any s lo hi hs w hv
theorem unhex_is (s : ByteArray) (hs : s.size ≤ 1000) (l : List UInt8) (b : Bool) (hl : unhexS s.data.toList = l) (hb : unhexOk s.data.toList = b) (w : World) :
    Calls Tryd.prog 9 #[.string s] w fun e w' => e = .returned (.tuple #[.string ⟨l.toArray⟩, .bool b]) ∧ Below w.heap.size w w' := by
  subst hl hb
  exact unhex_any s hs w
theorem text_is (n : Int) (h0 : -9223372036854775808 ≤ n) (h1 : n ≤ 9223372036854775807) (l : List UInt8) (hl : Lib.itoa n = l) (w : World) (hv : Vars w) :
    Calls Tryd.prog 11 #[.int .i64 n] w fun e w' => e = .returned (.string ⟨l.toArray⟩) ∧ Below w.heap.size w w' := by
  subst hl
  exact text_any n h0 h1 w hv
theorem pad_is (n k : Int) (h0 : -9223372036854775808 ≤ n) (h1 : n ≤ 9223372036854775807) (l : List UInt8) (hl : padS n k = l) (w : World) (hv : Vars w) :
    Calls Tryd.prog 13 #[.int .i64 n, .int .i64 k] w fun e w' => e = .returned (.string ⟨l.toArray⟩) ∧ Below w.heap.size w w' := by
  subst hl
  exact pad_any n k h0 h1 w hv
theorem hex_is (s : ByteArray) (hs : s.size ≤ 1000) (l : List UInt8) (hl : hexL s.data.toList = l) (w : World) :
    Calls Tryd.prog 15 #[.string s] w fun e w' => e = .returned (.string ⟨l.toArray⟩) ∧ Below w.heap.size w w' := by
  subst hl
  exact hex_any s hs w

theorem i305 : Lib.itoa (-305) = [45, 51, 48, 53] := by
  have h : Lib.decDigits 305 = [51, 48, 53] := by
    rw [Lib.decDigits, dif_neg (by decide), Lib.decDigits_two (by decide) (by decide)]; rfl
  show 45 :: Lib.decDigits 305 = _
  rw [h]
theorem i0 : Lib.itoa 0 = [48] := itoa_pos1 0 (by decide) (by decide)
theorem p7 : padS 7 3 = [48, 48, 55] := by
  have h : Lib.itoa 7 = [55] := itoa_pos1 7 (by decide) (by decide)
  rw [padS, if_neg (by decide), padL, h]; rfl
theorem p1234 : padS 1234 3 = [49, 50, 51, 52] := by
  have h : Lib.decDigits 1234 = [49, 50, 51, 52] := by
    rw [Lib.decDigits, dif_neg (by decide), Lib.decDigits, dif_neg (by decide), Lib.decDigits_two (by decide) (by decide)]; rfl
  have h : Lib.itoa 1234 = [49, 50, 51, 52] := h
  rw [padS, if_neg (by decide), padL, h]; rfl

theorem small_any (w : World) (hv : Vars w) : Calls Tryd.prog 6 #[] w fun e w' => e = .returned (.bool true) ∧ Below w.heap.size w w' := by
  have c1 := Lib.hid (fun W hW => parse_is ⟨#[45, 51, 48, 53]⟩ (-305) 9 (some (-305)) (by decide) (by decide) (-305) true rfl rfl W hW)
  have c2 := Lib.hid (fun W hW => parse_is ⟨#[48, 48, 55]⟩ 0 9 none (by decide) (by decide) 0 false rfl rfl W hW)
  have c3 := Lib.hid (fun W hW => parse_is ⟨#[49, 48]⟩ 0 9 none (by decide) (by decide) 0 false rfl rfl W hW)
  have c4 := Lib.hid (fun W => unhex_is ⟨#[48, 48, 102, 70]⟩ (by decide) [0, 255] true (by decide) (by decide) W)
  have c5 := Lib.hid (fun W => unhex_is ⟨#[48]⟩ (by decide) [] false (by decide) (by decide) W)
  have c6 := Lib.hid (fun W => unhex_is ⟨#[48, 103]⟩ (by decide) [] false (by decide) (by decide) W)
  have c7 := Lib.hid (fun W hW => text_is (-305) (by decide) (by decide) _ i305 W hW)
  have c8 := Lib.hid (fun W hW => text_is 0 (by decide) (by decide) _ i0 W hW)
  have c9 := Lib.hid (fun W hW => pad_is 7 3 (by decide) (by decide) _ p7 W hW)
  have c10 := Lib.hid (fun W hW => pad_is 1234 3 (by decide) (by decide) _ p1234 W hW)
  have c11 := Lib.hid (fun W hW => pad_is (-1) 3 (by decide) (by decide) [] rfl W hW)
  have c12 := Lib.hid (fun W => hex_is ⟨#[0, 255]⟩ (by decide) [48, 48, 102, 102] (by decide) W)
  have HV := Lib.hid hv
  clear hv
  go_enter Tryd.func6, Tryd.ntmps6
  go_wp2_with fail
  refine (c1.out _ HV.out).mono ?_
  rintro e w1 ⟨rfl, hb⟩
  go_wp2_with fail
  refine (c2.out _ (HV.out.below hb)).mono ?_
  rintro e w2 ⟨rfl, hb'⟩
  replace hb := Qtrans hb hb'; clear hb'
  go_wp2_with fail
  refine (c3.out _ (HV.out.below hb)).mono ?_
  rintro e w3 ⟨rfl, hb'⟩
  replace hb := Qtrans hb hb'; clear hb'
  go_wp2_with fail
  refine (c4.out _).mono ?_
  rintro e w2 ⟨rfl, hb'⟩
  replace hb := Qtrans hb hb'; clear hb'
  go_wp2_with fail
  refine (c5.out _).mono ?_
  rintro e w2 ⟨rfl, hb'⟩
  replace hb := Qtrans hb hb'; clear hb'
  go_wp2_with fail
  refine (c6.out _).mono ?_
  rintro e w2 ⟨rfl, hb'⟩
  replace hb := Qtrans hb hb'; clear hb'
  go_wp2_with fail
  refine (c7.out _ (HV.out.below hb)).mono ?_
  rintro e w2 ⟨rfl, hb'⟩
  replace hb := Qtrans hb hb'; clear hb'
  go_wp2_with fail
  refine (c8.out _ (HV.out.below hb)).mono ?_
  rintro e w2 ⟨rfl, hb'⟩
  replace hb := Qtrans hb hb'; clear hb'
  go_wp2_with fail
  refine (c9.out _ (HV.out.below hb)).mono ?_
  rintro e w2 ⟨rfl, hb'⟩
  replace hb := Qtrans hb hb'; clear hb'
  go_wp2_with fail
  refine (c10.out _ (HV.out.below hb)).mono ?_
  rintro e w2 ⟨rfl, hb'⟩
  replace hb := Qtrans hb hb'; clear hb'
  go_wp2_with fail
  refine (c11.out _ (HV.out.below hb)).mono ?_
  rintro e w2 ⟨rfl, hb'⟩
  replace hb := Qtrans hb hb'; clear hb'
  go_wp2_with fail
  refine (c12.out _).mono ?_
  rintro e w2 ⟨rfl, hb'⟩
  replace hb := Qtrans hb hb'; clear hb'
  go_wp2_with fail
  refine (clamp_any 5 1 3 _).mono ?_
  rintro e w2 ⟨rfl, rfl⟩
  go_wp2_with fail
  refine (clamp_any 0 1 3 _).mono ?_
  rintro e w2 ⟨rfl, rfl⟩
  go_wp2_with fail
  refine (clamp_any 2 1 3 _).mono ?_
  rintro e w2 ⟨rfl, rfl⟩
  go_wp2_with fail
  go_ret
  exact ⟨rfl, hb⟩
end Go.Proofs.YtemgjjnkdopnnaaDoor
