/- Package fold: the variables that it reads, the lower case of a code point. -/
import Derived.Test.YtbplbifmohbfdaaDoorShelf
import Derived.Test.YtbplbifmohbfdaaDoorBridge
import Derived.Test.YtbplbifmohbfdaaDoorGlobP
import Derived.WalkKit
import Derived.ProofKit
import Derived.Lib.Hide
namespace Go.Proofs.YtbplbifmohbfdaaDoor
open Go.ChangeShapes Go.WideShapes Go.ChangeAt Go.RowKit

/-- The rows of the table: the first, the last, the step, the way to the lower case. -/
def rowsT : List (Int × Int × Int × Int) := [(65, 90, 1, 32), (192, 214, 1, 32), (216, 222, 1, 32), (256, 302, 2, 1), (306, 310, 2, 1), (313, 327, 2, 1), (330, 374, 2, 1), (376, 376, 1, -121), (377, 381, 2, 1), (902, 902, 1, 38), (904, 906, 1, 37), (908, 908, 1, 64), (910, 911, 1, 63), (913, 929, 1, 32), (931, 939, 1, 32), (1024, 1039, 1, 80), (1040, 1071, 1, 32)]
def rowV (x : Int × Int × Int × Int) : List Value := [.int .i32 x.1, .int .i32 x.2.1, .int .i32 x.2.2.1, .int .i32 x.2.2.2]
/-- What the package and the library read of their variables. -/
structure Vars (w : World) : Prop where
  rows : ∃ b o c, w.cell? ⟨0, 0, none⟩ = some (.slice (some ⟨b, o, none⟩) 17 c) ∧ ∀ i, i < 17 → ∀ j, j < 4 → w.cell? ⟨b, o + i * 4 + j, none⟩ = (rowV (rowsT.getD i (0, 0, 0, 0)))[j]?
  max : ∃ m, w.cell? ⟨1, 0, none⟩ = some (.int .i64 m)
theorem cell_lt {w : World} {b i : Nat} {v : Value} (h : w.cell? ⟨b, i, none⟩ = some v) : b < w.heap.size := by
  rcases Nat.lt_or_ge b w.heap.size with h' | h'
  · exact h'
  · simp [World.cell?, Array.getElem?_eq_none h'] at h
theorem cell_below {w w' : World} {b i : Nat} {v : Value} (h : w.cell? ⟨b, i, none⟩ = some v) (hb : Below w.heap.size w w') : w'.cell? ⟨b, i, none⟩ = some v := by
  rw [hb.cell (p := ⟨b, i, none⟩) (cell_lt h)]; exact h
theorem rowV_some (x : Int × Int × Int × Int) : ∀ j, j < 4 → ∃ v, (rowV x)[j]? = some v
  | 0, _ => ⟨_, rfl⟩
  | 1, _ => ⟨_, rfl⟩
  | 2, _ => ⟨_, rfl⟩
  | 3, _ => ⟨_, rfl⟩
  | n + 4, h => by omega
theorem Vars.below {w w' : World} (h : Vars w) (hb : Below w.heap.size w w') : Vars w' := by
  obtain ⟨b, o, c, h1, h2⟩ := h.rows
  obtain ⟨m, h3⟩ := h.max
  refine ⟨⟨b, o, c, cell_below h1 hb, fun i hi j hj => ?_⟩, ⟨m, cell_below h3 hb⟩⟩
  obtain ⟨v, hv⟩ := rowV_some (rowsT.getD i (0, 0, 0, 0)) j hj
  have := h2 i hi j hj
  rw [hv] at this
  rw [cell_below this hb, hv]

/-- As the program looks the rows through. -/
def lowR : List (Int × Int × Int × Int) → Int → Int
  | [], r => r
  | x :: t, r => if x.2.1 < r then lowR t r else if x.1 ≤ r ∧ (r - x.1) % x.2.2.1 = 0 then r + x.2.2.2 else r
theorem lowR_small : ∀ r : Fin 2048, lowR rowsT (r.val : Int) = (lowN r.val : Nat) := by decide +kernel
theorem lowR_big (r : Int) (h : 2048 ≤ r) : lowR rowsT r = r := by
  unfold rowsT
  simp only [lowR]
  repeat rw [if_pos (by omega)]
theorem lowR_eq (r : Nat) : lowR rowsT (r : Int) = (lowN r : Nat) := by
  by_cases h : r < 2048
  · exact lowR_small ⟨r, h⟩
  · rw [lowR_big _ (by omega), low_big (by omega)]
theorem rowsT_ok : ∀ x ∈ rowsT, 0 ≤ x.1 ∧ x.1 ≤ 2000 ∧ 0 ≤ x.2.1 ∧ x.2.1 ≤ 2000 ∧ 1 ≤ x.2.2.1 ∧ x.2.2.1 ≤ 2 ∧ -200 ≤ x.2.2.2 ∧ x.2.2.2 ≤ 200 := by decide
set_option maxHeartbeats 4000000 in
set_option maxRecDepth 1000000 in
theorem lower_any (r : Nat) (hr : r ≤ 1114111) (w : World) (hv : Vars w) :
    Calls Tryd.prog 25 #[.int .i32 r] w fun e w' => e = .returned (.int .i32 (lowN r : Nat)) ∧ Below w.heap.size w w' := by
  obtain ⟨b, o, c, hg, hc⟩ := hv.rows
  rw [← lowR_eq]
  obtain ⟨ANS, hA⟩ : ∃ z, lowR rowsT (r : Int) = z := ⟨_, rfl⟩
  rw [hA]
  have HA := Lib.hid hA
  clear hA
  go_enter Tryd.func25, Tryd.ntmps25
  go_wp2_with fail
  go_loopw [7] (fun v wr => ∃ (k : Nat), v = .int .i64 k ∧ k ≤ 17 ∧ Below w.heap.size w wr ∧ Hid (lowR (rowsT.drop k) (r : Int) = ANS)) (fun v wr => 17 - (intOf v).toNat)
  case atStart => exact ⟨0, rfl, by omega, Below.refl _ _, HA⟩
  case round =>
    obtain ⟨k, rfl, hk, hbw, HK⟩ := hrel
    by_cases hk2 : k < 17
    · obtain ⟨⟨F, L, S, D⟩, hx⟩ : ∃ x, rowsT[k]? = some x := ⟨rowsT[k]'hk2, List.getElem?_eq_getElem hk2⟩
      have hx2 : rowsT.getD k (0, 0, 0, 0) = (F, L, S, D) := by rw [List.getD_eq_getElem?_getD, hx]; rfl
      have hb0 := rowsT_ok _ (List.mem_of_getElem? hx)
      simp only at hb0
      obtain ⟨b1, b2, b3, b4, b5, b6, b7, b8⟩ := hb0
      have hstep : rowsT.drop k = (F, L, S, D) :: rowsT.drop (k + 1) := by
        rw [List.drop_eq_getElem_cons hk2]
        congr 1
        have := List.getElem?_eq_getElem (l := rowsT) hk2
        rw [hx] at this
        injection this with this
        exact this.symm
      have hcc := fun j hj => hc k hk2 j hj
      rw [hx2] at hcc
      have c0 : wr.cell? ⟨b, o + k * 4, none⟩ = some (.int .i32 F) := cell_below (hcc 0 (by omega)) hbw
      have c1 : wr.cell? ⟨b, o + k * 4 + 1, none⟩ = some (.int .i32 L) := cell_below (hcc 1 (by omega)) hbw
      have c2 : wr.cell? ⟨b, o + k * 4 + 2, none⟩ = some (.int .i32 S) := cell_below (hcc 2 (by omega)) hbw
      have c3 : wr.cell? ⟨b, o + k * 4 + 3, none⟩ = some (.int .i32 D) := cell_below (hcc 3 (by omega)) hbw
      have HS := HK.out
      rw [hstep] at HS
      simp only [lowR] at HS
      clear hcc hc hg hx hx2 HK hstep
      have hszr : w.heap.size ≤ wr.heap.size := hbw.size
      have hS0 : ¬ S = 0 := by omega
      by_cases hL : L < (r : Int)
      · rw [if_pos hL] at HS
        replace HS := Lib.hid HS
        go_wp2_with fail
        go_roundw
        case rel => exact ⟨k + 1, rfl, by omega, hbw.alloc hszr _, HS⟩
        case measure => simp only [intOf, Int.toNat_natCast]; omega
      · rw [if_neg hL] at HS
        by_cases hF : F ≤ (r : Int)
        · by_cases hS : ((r : Int) - F) % S = 0
          · rw [if_pos ⟨hF, hS⟩] at HS
            replace HS := Lib.hid HS
            have hS2 : ((r : Int) - F).tmod S = 0 := by rw [Int.tmod_eq_emod_of_nonneg (by omega)]; exact hS
            go_wp2_with fail
            go_ret
            exact ⟨by rw [← HS.out]; rfl, hbw.alloc hszr _⟩
          · rw [if_neg (fun h => hS h.2)] at HS
            replace HS := Lib.hid HS
            have hS2 : ¬ ((r : Int) - F).tmod S = 0 := by rw [Int.tmod_eq_emod_of_nonneg (by omega)]; exact hS
            go_wp2_with fail
            go_ret
            exact ⟨by rw [← HS.out]; rfl, hbw.alloc hszr _⟩
        · rw [if_neg (fun h => hF h.1)] at HS
          replace HS := Lib.hid HS
          go_wp2_with fail
          go_ret
          exact ⟨by rw [← HS.out]; rfl, hbw.alloc hszr _⟩
    · have : k = 17 := by omega
      subst this
      have HS := Lib.hid HK.out
      go_wp2_with fail
      go_ret
      exact ⟨by rw [← HS.out]; rfl, hbw⟩
end Go.Proofs.YtbplbifmohbfdaaDoor
