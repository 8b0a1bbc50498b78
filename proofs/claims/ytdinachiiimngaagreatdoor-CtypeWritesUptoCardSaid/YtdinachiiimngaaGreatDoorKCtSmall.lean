/- The example. -/
import Derived.Test.YtdinachiiimngaaGreatDoorK11
namespace Go.Proofs.YtdinachiiimngaaGreatDoor
open Go.ChangeShapes Go.WideShapes Go.ChangeAt Go.RowKit
open TokP AdrP CtP

def LA : List (List UInt8 × List UInt8) := [([99, 104, 97, 114, 115, 101, 116], [120, 32, 121]), ([97], [226, 130, 172])]
def LC : List (List UInt8 × List UInt8) := [([102, 105, 108, 101, 110, 97, 109, 101], [97, 46, 98])]
theorem par_d : paramV LA [67, 72, 65, 82, 83, 69, 84] = some [120, 32, 121] := by decide +kernel
structure Sa (w Q : World) (b1 b3 g1 c1 : Nat) (a3 : Option Addr) (c3 gd : Nat) : Prop where
  bel : Below w.heap.size w Q
  x1 : Tyx Q b1 ⟨#[116, 101, 120, 116]⟩ ⟨#[104, 116, 109, 108]⟩ (.slice (some ⟨g1, 0, none⟩) 2 c1)
  x3 : Tyx Q b3 ⟨#[116, 101, 120, 116]⟩ ⟨#[112, 108, 97, 105, 110]⟩ (.slice a3 0 c3)
  f1 : PAt Q g1 0 LA
  fd : PAt Q gd 0 LC
theorem Sa.step {w Q Q' : World} {b1 b3 g1 c1 : Nat} {a3 : Option Addr} {c3 gd : Nat} (h : Sa w Q b1 b3 g1 c1 a3 c3 gd) (hb : Below Q.heap.size Q Q') : Sa w Q' b1 b3 g1 c1 a3 c3 gd :=
  ⟨h.bel.trans (hb.mono h.bel.size), h.x1.step hb, h.x3.step hb, h.f1.step hb, h.fd.step hb⟩
theorem Sa.all {w Q : World} {b1 b3 g1 c1 : Nat} {a3 : Option Addr} {c3 gd : Nat} (h : Sa w Q b1 b3 g1 c1 a3 c3 gd) : Hid (Sa w Q b1 b3 g1 c1 a3 c3 gd) ∧ Q.cell? ⟨b1, 0, none⟩ = some (.string ⟨#[116, 101, 120, 116]⟩) ∧ Q.cell? ⟨b1, 1, none⟩ = some (.string ⟨#[104, 116, 109, 108]⟩) ∧ Q.cell? ⟨b1, 2, none⟩ = some (.slice (some ⟨g1, 0, none⟩) 2 c1) ∧ Q.cell? ⟨b3, 0, none⟩ = some (.string ⟨#[116, 101, 120, 116]⟩) ∧ Q.cell? ⟨b3, 1, none⟩ = some (.string ⟨#[112, 108, 97, 105, 110]⟩) ∧ Q.cell? ⟨g1, 2, none⟩ = some (.string ⟨#[97]⟩) ∧ Q.cell? ⟨g1, 3, none⟩ = some (.string ⟨#[226, 130, 172]⟩) ∧ Q.cell? ⟨gd, 0, none⟩ = some (.string ⟨#[102, 105, 108, 101, 110, 97, 109, 101]⟩) ∧ Q.cell? ⟨gd, 1, none⟩ = some (.string ⟨#[97, 46, 98]⟩) :=
  ⟨Lib.hid h, h.x1.c0, h.x1.c1, h.x1.c2, h.x3.c0, h.x3.c1, (h.f1 1 _ rfl).1, (h.f1 1 _ rfl).2, (h.fd 0 _ rfl).1, (h.fd 0 _ rfl).2⟩
theorem ex_a (w : World) (hv : Vr w) : Calls Tryz.prog 10 #[.string ⟨#[84, 101, 120, 116, 47, 72, 84, 77, 76, 32, 40, 99, 41, 59, 32, 67, 104, 97, 114, 115, 101, 116, 61, 34, 120, 32, 121, 34, 59, 32, 97, 42, 48, 42, 61, 117, 116, 102, 45, 56, 39, 39, 37, 101, 50, 37, 56, 50, 59, 32, 97, 42, 49, 42, 61, 37, 97, 99, 59, 32, 98]⟩] w fun e w' => ∃ g c, e = .returned (.tuple #[.agg #[.string ⟨#[116, 101, 120, 116]⟩, .string ⟨#[104, 116, 109, 108]⟩, .slice (some ⟨g, 0, none⟩) 2 c], .bool true]) ∧ PAt w' g 0 LA ∧ Below w.heap.size w w' := by
  have h := parse_c exA (by decide) w hv
  rw [ans_a] at h
  refine h.mono fun e w' ⟨a, c, h1, h2, h3⟩ => ?_
  obtain ⟨g, rfl, hf⟩ := OwnP.at (xs := LA) h2 (by decide)
  exact ⟨g, c, h1, hf, h3⟩
theorem ex_b (w : World) (hv : Vr w) : Calls Tryz.prog 10 #[.string ⟨#[116, 101, 120, 116]⟩] w fun e w' => ∃ a c, e = .returned (.tuple #[.agg #[.string ⟨#[116, 101, 120, 116]⟩, .string ⟨#[112, 108, 97, 105, 110]⟩, .slice a 0 c], .bool false]) ∧ Below w.heap.size w w' := by
  have h := parse_c ⟨#[116, 101, 120, 116]⟩ (by decide) w hv
  rw [show (⟨#[116, 101, 120, 116]⟩ : ByteArray).data.toList = [116, 101, 120, 116] from rfl, ans_b] at h
  exact h.mono fun e w' ⟨a, c, h1, h2, h3⟩ => ⟨a, c, h1, h3⟩
theorem ex_c (w : World) (hv : Vr w) : Calls Tryz.prog 12 #[.string ⟨#[65, 116, 116, 97, 99, 104, 109, 101, 110, 116, 59, 32, 102, 105, 108, 101, 110, 97, 109, 101, 61, 97, 46, 98]⟩] w fun e w' => ∃ g c, e = .returned (.tuple #[.string ⟨#[97, 116, 116, 97, 99, 104, 109, 101, 110, 116]⟩, .slice (some ⟨g, 0, none⟩) 1 c]) ∧ PAt w' g 0 LC ∧ Below w.heap.size w w' := by
  have h := disp_any ⟨#[65, 116, 116, 97, 99, 104, 109, 101, 110, 116, 59, 32, 102, 105, 108, 101, 110, 97, 109, 101, 61, 97, 46, 98]⟩ (by decide) w hv
  rw [show (⟨#[65, 116, 116, 97, 99, 104, 109, 101, 110, 116, 59, 32, 102, 105, 108, 101, 110, 97, 109, 101, 61, 97, 46, 98]⟩ : ByteArray).data.toList = [65, 116, 116, 97, 99, 104, 109, 101, 110, 116, 59, 32, 102, 105, 108, 101, 110, 97, 109, 101, 61, 97, 46, 98] from rfl, ans_c] at h
  refine h.mono fun e w' ⟨a, c, h1, h2, h3⟩ => ?_
  obtain ⟨g, rfl, hf⟩ := OwnP.at (xs := LC) h2 (by decide)
  exact ⟨g, c, h1, hf, h3⟩
theorem ex_d (w Q : World) (b1 b3 g1 c1 : Nat) (a3 : Option Addr) (c3 gd : Nat) (h : Hid (Sa w Q b1 b3 g1 c1 a3 c3 gd)) : Calls Tryz.prog 14 #[.slice (some ⟨g1, 0, none⟩) 2 c1, .string ⟨#[67, 72, 65, 82, 83, 69, 84]⟩] Q fun e w' => e = .returned (.tuple #[.string ⟨#[120, 32, 121]⟩, .bool true]) ∧ Hid (Sa w w' b1 b3 g1 c1 a3 c3 gd) :=
  (param_c (.slice (some ⟨g1, 0, none⟩) 2 c1) LA ⟨#[67, 72, 65, 82, 83, 69, 84]⟩ (by decide) (by decide) (by decide) (some [120, 32, 121]) par_d Q (Lib.hid (.inr ⟨g1, 0, c1, rfl, h.out.f1⟩))).mono fun _ _ hh => ⟨hh.1, Lib.hid (h.out.step hh.2)⟩
theorem ex_e (w Q : World) (b1 b3 g1 c1 : Nat) (a3 : Option Addr) (c3 gd : Nat) (h : Hid (Sa w Q b1 b3 g1 c1 a3 c3 gd)) : Calls Tryz.prog 18 #[.agg #[.string ⟨#[116, 101, 120, 116]⟩, .string ⟨#[104, 116, 109, 108]⟩, .slice (some ⟨g1, 0, none⟩) 2 c1]] Q fun e w' => e = .returned (.string ⟨#[116, 101, 120, 116, 47, 104, 116, 109, 108, 59, 32, 99, 104, 97, 114, 115, 101, 116, 61, 34, 120, 32, 121, 34, 59, 32, 97, 42, 61, 117, 116, 102, 45, 56, 39, 39, 37, 69, 50, 37, 56, 50, 37, 65, 67]⟩) ∧ Hid (Sa w w' b1 b3 g1 c1 a3 c3 gd) := by
  have h2 := write_w ⟨#[116, 101, 120, 116]⟩ ⟨#[104, 116, 109, 108]⟩ (.slice (some ⟨g1, 0, none⟩) 2 c1) LA (by decide) (by decide) (by decide +kernel) Q (Lib.hid (.inr ⟨g1, 0, c1, rfl, h.out.f1⟩))
  rw [show (⟨#[116, 101, 120, 116]⟩ : ByteArray).data.toList ++ 47 :: (⟨#[104, 116, 109, 108]⟩ : ByteArray).data.toList = [116, 101, 120, 116, 47, 104, 116, 109, 108] from rfl, show lineW [116, 101, 120, 116, 47, 104, 116, 109, 108] LA = _ from ans_d] at h2
  exact h2.mono fun _ _ hh => ⟨hh.1, Lib.hid (h.out.step hh.2)⟩
set_option maxRecDepth 1000000 in
set_option maxHeartbeats 8000000 in
theorem small_any (w : World) (hv : Vr w) : Calls Tryz.prog 8 #[] w fun e w' => e = .returned (.bool true) ∧ Below w.heap.size w w' := by
  have HV := Lib.hid hv
  have cA := ex_a w hv
  have cB := fun W (hv : Hid (Vr W)) => ex_b W hv.out
  have cC := fun W (hv : Hid (Vr W)) => ex_c W hv.out
  have hE1 : ∀ W, (Op.equalIn 10000 37 (.agg #[.string ⟨#[97]⟩, .string ⟨#[226, 130, 172]⟩]) (.agg #[.string ⟨#[97]⟩, .string ⟨#[226, 130, 172]⟩])).run Tryz.prog W = .ok true W := fun W => by
    have := run_equal_pm ([97], [226, 130, 172]) ([97], [226, 130, 172]) W
    rw [decide_eq_true rfl] at this
    exact this
  have hE2 : ∀ W, (Op.equalIn 10000 37 (.agg #[.string ⟨#[102, 105, 108, 101, 110, 97, 109, 101]⟩, .string ⟨#[97, 46, 98]⟩]) (.agg #[.string ⟨#[102, 105, 108, 101, 110, 97, 109, 101]⟩, .string ⟨#[97, 46, 98]⟩])).run Tryz.prog W = .ok true W := fun W => by
    have := run_equal_pm ([102, 105, 108, 101, 110, 97, 109, 101], [97, 46, 98]) ([102, 105, 108, 101, 110, 97, 109, 101], [97, 46, 98]) W
    rw [decide_eq_true rfl] at this
    exact this
  clear hv
  go_enter Tryz.func8, Tryz.ntmps8
  go_wp2_with (first
    | (go_at_call 10; (with_reducible refine cA.mono ?_); rintro e w1 ⟨g1, c1, rfl, hp1, hb1⟩; have HB1 := Lib.hid (hb1.alloc hb1.size (.cells #[.string ⟨#[116, 101, 120, 116]⟩, .string ⟨#[104, 116, 109, 108]⟩, .slice (some ⟨g1, 0, none⟩) 2 c1] 26)); have HX1 := Lib.hid (tyx_new w1 ⟨#[116, 101, 120, 116]⟩ ⟨#[104, 116, 109, 108]⟩ (.slice (some ⟨g1, 0, none⟩) 2 c1)); have HF1 := Lib.hid (hp1.step ((Below.refl _ w1).alloc (Nat.le_refl _) (.cells #[.string ⟨#[116, 101, 120, 116]⟩, .string ⟨#[104, 116, 109, 108]⟩, .slice (some ⟨g1, 0, none⟩) 2 c1] 26))); have HV1 := Lib.hid (HV.out.below HB1.out); clear cA hp1 hb1)
    | (go_at_call 10; (with_reducible refine (cB _ HV1).mono ?_); rintro e w2 ⟨a3, c3, rfl, hb2⟩; have hbb := hb2.alloc hb2.size (.cells #[.string ⟨#[116, 101, 120, 116]⟩, .string ⟨#[112, 108, 97, 105, 110]⟩, .slice a3 0 c3] 26); have HX3 := Lib.hid (tyx_new w2 ⟨#[116, 101, 120, 116]⟩ ⟨#[112, 108, 97, 105, 110]⟩ (.slice a3 0 c3)); have HB2 := Lib.hid (HB1.out.trans (hbb.mono HB1.out.size)); have HX2 := Lib.hid (HX1.out.step hbb); have HF2 := Lib.hid (HF1.out.step hbb); have HV2 := Lib.hid (HV.out.below HB2.out); clear cB hb2 hbb)
    | (go_at_call 12; (with_reducible refine (cC _ HV2).mono ?_); rintro e w3 ⟨gd, cd, rfl, hp3, hb3⟩; have ST := Lib.hid (Sa.mk (HB2.out.trans (hb3.mono HB2.out.size)) (HX2.out.step hb3) (HX3.out.step hb3) (HF2.out.step hb3) hp3); obtain ⟨_, y0, y1, y2, y3, y4, y5, y6, y7, y8⟩ := ST.out.all; clear cC hp3 hb3)
    | (go_at_call 14; (with_reducible refine (ex_d _ _ _ _ _ _ _ _ _ ST).mono ?_); rintro e w4 ⟨rfl, hs4⟩; clear y0 y1 y2 y3 y4 y5 y6 y7 y8; obtain ⟨_, y0, y1, y2, y3, y4, y5, y6, y7, y8⟩ := hs4.out.all)
    | (go_at_call 18; (with_reducible refine (ex_e _ _ _ _ _ _ _ _ _ hs4).mono ?_); rintro e w5 ⟨rfl, hs5⟩))
  go_ret
  exact ⟨rfl, hs5.out.bel⟩
end Go.Proofs.YtdinachiiimngaaGreatDoor
