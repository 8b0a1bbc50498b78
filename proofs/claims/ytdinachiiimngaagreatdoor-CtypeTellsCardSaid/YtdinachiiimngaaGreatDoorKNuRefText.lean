/- The reference's decimal conversion. -/
import Derived.Test.YtdinachiiimngaaGreatDoorK5
import Derived.Deep.RegionWith
import Derived.Lib.ItoaLen
namespace Go.Proofs.YtdinachiiimngaaGreatDoor.Nu
open Go.ChangeShapes Go.WideShapes Go.ChangeAt Go.RowKit

/-- The conversion of a new slice of one byte to a string. -/
theorem conv_one (w : World) (b : Nat) (x : Int) (h0 : 0 ≤ x) (h1 : x < 256) (h : w.cell? ⟨b, 0, none⟩ = some (.int .u8 x)) :
    (convert 59 9 (.slice (some ⟨b, 0, none⟩) 1 1)).run Tryz.prog w = .ok (.string ⟨[UInt8.ofNat x.toNat].toArray⟩) w := by
  refine run_convert_bytes_back w 59 9 5 ⟨b, 0, none⟩ 1 [UInt8.ofNat x.toNat] Tryz.underlying59 Tryz.underlying5 Tryz.underlying9 fun j hj => ?_
  obtain rfl : j = 0 := by simpa using hj
  have e : ((UInt8.ofNat x.toNat).toNat : Int) = x := by
    rw [UInt8.toNat_ofNat']; omega
  show w.cell? ⟨b, 0, none⟩ = some (.int .u8 ((UInt8.ofNat x.toNat).toNat : Int))
  rw [e]; exact h
theorem conv_new (x : Int) (h0 : 0 ≤ x) (h1 : x < 256) (w : World) :
    (convert 59 9 (.slice (some ⟨w.heap.size, 0, none⟩) 1 1)).run Tryz.prog (w.alloc (.cells #[.int .u8 x] 5)) = .ok (.string ⟨[UInt8.ofNat x.toNat].toArray⟩) (w.alloc (.cells #[.int .u8 x] 5)) :=
  conv_one _ _ x h0 h1 (World.cell?_alloc_mark w #[.int .u8 x] 5 (0, 0) 0)

/-- The same, behind a call that made memory. -/
theorem conv_after (x : Int) (h0 : 0 ≤ x) (h1 : x < 256) {w w1 : World} {B : Nat} (hb : Below B (w.alloc (.cells #[.int .u8 x] 5)).drew w1) (hB : w.heap.size < B) :
    (convert 59 9 (.slice (some ⟨w.heap.size, 0, none⟩) 1 1)).run Tryz.prog w1 = .ok (.string ⟨[UInt8.ofNat x.toNat].toArray⟩) w1 :=
  conv_one _ _ x h0 h1 ((hb.cell (p := ⟨w.heap.size, 0, none⟩) hB).trans (World.cell?_alloc_mark w #[.int .u8 x] 5 (0, 0) 0))

theorem itoa_pos1 (n : Int) (h0 : 0 ≤ n) (h1 : n < 10) : Lib.itoa n = [UInt8.ofNat (48 + n).toNat] := by
  unfold Lib.itoa
  rw [if_neg (by omega), Lib.decDigits_one (by omega)]
  congr 2; omega
theorem itoa_neg1 (n : Int) (h0 : -10 < n) (h1 : n < 0) : Lib.itoa n = 45 :: [UInt8.ofNat (48 - n).toNat] := by
  unfold Lib.itoa
  rw [if_pos (by omega), Lib.decDigits_one (by omega)]
  congr 3; omega
theorem itoa_posS (n : Int) (h0 : 10 ≤ n) : Lib.itoa n = Lib.itoa (n / 10) ++ [UInt8.ofNat (48 + n % 10).toNat] := by
  unfold Lib.itoa
  rw [if_neg (by omega), if_neg (by omega), Lib.decDigits, dif_neg (by omega)]
  rw [show n.toNat / 10 = (n / 10).toNat by omega, show 48 + n.toNat % 10 = (48 + n % 10).toNat by omega]
theorem itoa_negS (n : Int) (h0 : n ≤ -10) : Lib.itoa n = Lib.itoa (n.tdiv 10) ++ [UInt8.ofNat (48 - n.tmod 10).toNat] := by
  obtain ⟨m, rfl⟩ : ∃ m : Nat, n = -(m : Int) := ⟨n.natAbs, by omega⟩
  have e1 : (-(m : Int)).tdiv 10 = -((m / 10 : Nat) : Int) := by rw [Int.neg_tdiv]; rfl
  have e2 : (-(m : Int)).tmod 10 = -((m % 10 : Nat) : Int) := by rw [Int.neg_tmod]; rfl
  rw [e1, e2]
  unfold Lib.itoa
  rw [if_pos (by omega), if_pos (by omega), Int.natAbs_neg, Int.natAbs_neg, Int.natAbs_natCast, Int.natAbs_natCast, Lib.decDigits, dif_neg (by omega), List.cons_append]
  congr 5; omega

theorem textR_neg1 (n : Int) (h0 : -10 < n) (h1 : n < 0) (w : World) :
    Calls Tryz.prog 187 #[.int .i64 n] w fun e w' => e = .returned (.string ⟨(Lib.itoa n).toArray⟩) ∧ Below w.heap.size w w' := by
  have hcv := conv_new (48 - n) (by omega) (by omega)
  go_enter Tryz.func187, Tryz.ntmps187
  go_wp2_with fail
  go_ret
  exact ⟨by rw [itoa_neg1 n h0 h1]; rfl, (Below.refl _ _).alloc (Nat.le_refl _) _⟩
theorem textR_pos1 (n : Int) (h0 : 0 ≤ n) (h1 : n < 10) (w : World) :
    Calls Tryz.prog 187 #[.int .i64 n] w fun e w' => e = .returned (.string ⟨(Lib.itoa n).toArray⟩) ∧ Below w.heap.size w w' := by
  have hcv := conv_new (48 + n) (by omega) (by omega)
  go_enter Tryz.func187, Tryz.ntmps187
  go_wp2_with fail
  go_ret
  exact ⟨by rw [itoa_pos1 n h0 h1]; rfl, (Below.refl _ _).alloc (Nat.le_refl _) _⟩
theorem textR_pos (n m r : Int) (hm : 0 ≤ m) (hr0 : 0 ≤ r) (hr1 : r < 10) (hn : n = 10 * m + r) (h0 : 10 ≤ n) (h1 : n ≤ 9223372036854775807) (w : World)
    (ih : ∀ W : World, Calls Tryz.prog 187 #[.int .i64 m] W fun e w' => e = .returned (.string ⟨(Lib.itoa m).toArray⟩) ∧ Below W.heap.size W w') :
    Calls Tryz.prog 187 #[.int .i64 n] w fun e w' => e = .returned (.string ⟨(Lib.itoa n).toArray⟩) ∧ Below w.heap.size w w' := by
  have hcv := conv_new (48 + r) (by omega) (by omega)
  have hcd : ∀ W : World, (convert 59 9 (.slice (some ⟨W.heap.size, 0, none⟩) 1 1)).run Tryz.prog (W.alloc (.cells #[.int .u8 (48 + r)] 5)).drew = .ok (.string ⟨[UInt8.ofNat (48 + r).toNat].toArray⟩) (W.alloc (.cells #[.int .u8 (48 + r)] 5)).drew :=
    fun W => conv_one _ _ _ (by omega) (by omega) (World.cell?_alloc_mark W #[.int .u8 (48 + r)] 5 (0, 0) 0)
  have e1 : IntKind.i64.wrap (n.tdiv 10) = m := by
    rw [Int.tdiv_eq_ediv_of_nonneg (by omega), IntWalk.i64_in _ (by omega)]; omega
  have e2 : n.tmod 10 = r := by
    rw [Int.tmod_eq_emod_of_nonneg (by omega)]; omega
  have e3 : IntKind.i64.wrap (48 + r) = 48 + r := IntWalk.i64_in _ (by omega)
  have e4 : IntKind.u8.wrap (48 + r) = 48 + r := IntWalk.u8_in _ (by omega)
  have hfin : Lib.itoa n = Lib.itoa m ++ [UInt8.ofNat (48 + r).toNat] := by
    have := itoa_posS n h0
    rwa [show n / 10 = m by omega, show n % 10 = r by omega] at this
  have hlen : (Lib.itoa m).length ≤ 21 := Lib.itoa_length_le m (by omega) (by omega)
  have hadd : ∀ W, (Op.stringOp .add ⟨(Lib.itoa m).toArray⟩ ⟨[UInt8.ofNat (48 + r).toNat].toArray⟩).run Tryz.prog W = .ok (.string ⟨(Lib.itoa m ++ [UInt8.ofNat (48 + r).toNat]).toArray⟩) W := fun W => run_string_add_lists W _ _ (by omega) (by simp)
  clear hlen
  have IH := Lib.hid ih
  have HN := Lib.hid hn
  have HF := Lib.hid hfin
  clear ih hn hfin
  go_enter Tryz.func187, Tryz.ntmps187
  go_wp2_with fail
  go_region_with (go_at_call 187; refine (IH.out _).mono ?_; rintro e w1 ⟨rfl, hb⟩; try (have hq := conv_after (48 + r) (by omega) (by omega) hb (by simp)))
  all_goals go_wp2_with fail
  all_goals go_ret
  all_goals refine ⟨by rw [HF.out]; rfl, ?_⟩
  all_goals have hs := hb.size
  all_goals first
    | exact ((Below.refl _ _).drew.trans hb).alloc hs _
    | exact ((Below.refl _ _).alloc (Nat.le_refl _) _).drew.trans (hb.mono (by simp))
theorem tdiv_neg10 (n m r : Int) (hm : m ≤ 0) (hr0 : r ≤ 0) (hr1 : -10 < r) (hn : n = 10 * m + r) : n.tdiv 10 = m := by
  obtain ⟨k, rfl⟩ : ∃ k : Nat, n = -(k : Int) := ⟨n.natAbs, by omega⟩
  rw [Int.neg_tdiv, Int.tdiv_eq_ediv_of_nonneg (by omega)]; omega
theorem tmod_neg10 (n m r : Int) (hm : m ≤ 0) (hr0 : r ≤ 0) (hr1 : -10 < r) (hn : n = 10 * m + r) : n.tmod 10 = r := by
  obtain ⟨k, rfl⟩ : ∃ k : Nat, n = -(k : Int) := ⟨n.natAbs, by omega⟩
  rw [Int.neg_tmod, Int.tmod_eq_emod_of_nonneg (by omega)]; omega
theorem textR_neg (n m r : Int) (hm : m ≤ 0) (hr0 : r ≤ 0) (hr1 : -10 < r) (hn : n = 10 * m + r) (h0 : n ≤ -10) (h1 : -9223372036854775808 ≤ n) (w : World)
    (ih : ∀ W : World, Calls Tryz.prog 187 #[.int .i64 m] W fun e w' => e = .returned (.string ⟨(Lib.itoa m).toArray⟩) ∧ Below W.heap.size W w') :
    Calls Tryz.prog 187 #[.int .i64 n] w fun e w' => e = .returned (.string ⟨(Lib.itoa n).toArray⟩) ∧ Below w.heap.size w w' := by
  have hcv := conv_new (48 - r) (by omega) (by omega)
  have hcd : ∀ W : World, (convert 59 9 (.slice (some ⟨W.heap.size, 0, none⟩) 1 1)).run Tryz.prog (W.alloc (.cells #[.int .u8 (48 - r)] 5)).drew = .ok (.string ⟨[UInt8.ofNat (48 - r).toNat].toArray⟩) (W.alloc (.cells #[.int .u8 (48 - r)] 5)).drew :=
    fun W => conv_one _ _ _ (by omega) (by omega) (World.cell?_alloc_mark W #[.int .u8 (48 - r)] 5 (0, 0) 0)
  have e1 : IntKind.i64.wrap (n.tdiv 10) = m := by
    rw [tdiv_neg10 n m r hm hr0 hr1 hn, IntWalk.i64_in _ (by omega)]
  have e2 : n.tmod 10 = r := by
    exact tmod_neg10 n m r hm hr0 hr1 hn
  have e3 : IntKind.i64.wrap (48 - r) = 48 - r := IntWalk.i64_in _ (by omega)
  have e4 : IntKind.u8.wrap (48 - r) = 48 - r := IntWalk.u8_in _ (by omega)
  have hfin : Lib.itoa n = Lib.itoa m ++ [UInt8.ofNat (48 - r).toNat] := by
    have := itoa_negS n h0
    rwa [tdiv_neg10 n m r hm hr0 hr1 hn, tmod_neg10 n m r hm hr0 hr1 hn] at this
  have hlen : (Lib.itoa m).length ≤ 21 := Lib.itoa_length_le m (by omega) (by omega)
  have hadd : ∀ W, (Op.stringOp .add ⟨(Lib.itoa m).toArray⟩ ⟨[UInt8.ofNat (48 - r).toNat].toArray⟩).run Tryz.prog W = .ok (.string ⟨(Lib.itoa m ++ [UInt8.ofNat (48 - r).toNat]).toArray⟩) W := fun W => run_string_add_lists W _ _ (by omega) (by simp)
  clear hlen
  have IH := Lib.hid ih
  have HN := Lib.hid hn
  have HF := Lib.hid hfin
  clear ih hn hfin
  go_enter Tryz.func187, Tryz.ntmps187
  go_wp2_with fail
  go_region_with (go_at_call 187; refine (IH.out _).mono ?_; rintro e w1 ⟨rfl, hb⟩; try (have hq := conv_after (48 - r) (by omega) (by omega) hb (by simp)))
  all_goals go_wp2_with fail
  all_goals go_ret
  all_goals refine ⟨by rw [HF.out]; rfl, ?_⟩
  all_goals have hs := hb.size
  all_goals first
    | exact ((Below.refl _ _).drew.trans hb).alloc hs _
    | exact ((Below.refl _ _).alloc (Nat.le_refl _) _).drew.trans (hb.mono (by simp))
theorem textR_upto (k : Nat) : ∀ (n : Int) (w : World), n.natAbs ≤ k → -9223372036854775808 ≤ n → n ≤ 9223372036854775807 →
    Calls Tryz.prog 187 #[.int .i64 n] w fun e w' => e = .returned (.string ⟨(Lib.itoa n).toArray⟩) ∧ Below w.heap.size w w' := by
  induction k with
  | zero => intro n w hk _ _; exact textR_pos1 n (by omega) (by omega) w
  | succ k ih =>
    intro n w hk h0 h1
    by_cases a : n < 0
    · by_cases b : -10 < n
      · exact textR_neg1 n b a w
      · exact textR_neg n (-((-n) / 10)) (-((-n) % 10)) (by omega) (by omega) (by omega) (by omega) (by omega) h0 w fun W => ih _ W (by omega) (by omega) (by omega)
    · by_cases b : n < 10
      · exact textR_pos1 n (by omega) b w
      · exact textR_pos n (n / 10) (n % 10) (by omega) (by omega) (by omega) (by omega) (by omega) h1 w fun W => ih _ W (by omega) (by omega) (by omega)
theorem textR_any (n : Int) (h0 : -9223372036854775808 ≤ n) (h1 : n ≤ 9223372036854775807) (w : World) :
    Calls Tryz.prog 187 #[.int .i64 n] w fun e w' => e = .returned (.string ⟨(Lib.itoa n).toArray⟩) ∧ Below w.heap.size w w' :=
  textR_upto _ n w (Nat.le_refl _) h0 h1
end Go.Proofs.YtdinachiiimngaaGreatDoor.Nu
