/- The reference's encoders. -/
import Derived.Test.YtbaddpkeaealpaaHas
namespace Go.Proofs.Ytbaddpkeaealpaa
open Go.ChangeShapes Go.WideShapes Go.ChangeAt Go.RowKit

theorem Qtrans {w w1 w2 : World} (h : Below w.heap.size w w1) (k : Below w1.heap.size w1 w2) : Below w.heap.size w w2 := h.trans (k.mono h.size)

theorem numR_nat (n : Nat) (h1 : n < 9223372036854775808) (w : World) :
    Calls Try.prog 12 #[.int .i64 n] w fun e w' => e = .returned (.string ⟨(varL n).toArray⟩) ∧ Below w.heap.size w w' := by
  obtain ⟨i0, hi, hz0, hz1, hz2⟩ := info_parts info5
  have h9 := Lib.hid (varL_nine h1)
  go_enter Try.func12, Try.ntmps12
  go_wp2_with fail
  go_loopw [0, 3] (fun i u wr => ∃ (m : Nat) (d : List UInt8), m ≤ n ∧ i = .int .i64 m ∧ wr.ownsRow w.heap.size 5 1 u d.length (cellsOf d) ∧ Hid (varL n = d ++ varL m) ∧ Below w.heap.size w wr)
    (fun i _ _ => (intOf i).toNat)
  case atStart => exact ⟨n, [], Nat.le_refl _, rfl, World.ownsRow_nil _ _ _ _, rfl, Below.refl _ _⟩
  case round =>
    obtain ⟨m, d, hm, rfl, hown, hd, hbel⟩ := hrel
    have hdl : d.length ≤ 8 := by
      have e := congrArg List.length hd.out
      rw [List.length_append] at e
      have := varL_pos m
      have := h9.out
      omega
    have hsz := hbel.size
    by_cases hge : 128 ≤ m
    · have hge' : (128 : Int) ≤ (m : Int) := by omega
      obtain ⟨c, hc⟩ : ∃ c : UInt8, c = UInt8.ofNat (m % 128 + 128) := ⟨_, rfl⟩
      have hcn : m % 128 + 128 = c.toNat := by rw [hc, byte_small (by omega)]
      have e1 : (m : Int).tmod 128 = (c.toNat : Int) - 128 := by rw [Int.tmod_eq_emod_of_nonneg (by omega)]; omega
      have e1' : (m : Int) % 128 = (c.toNat : Int) - 128 := by omega
      have hc256 := c.toNat_lt
      have HE : Hid (varL m = c :: varL (m / 128)) := by show _ = _; rw [varL_big hge, hc]
      clear hc
      go_wp2_with (at_builtin; (refine wpList_append_own _ rfl (.tmp 8) (.tmp 13) 51 rfl w.heap.size 5 i0 (.int .u8 0) 1 1 Try.underlying51 hi hz0 hz1 hz2 rfl (by decide) _ d.length (cellsOf d) rfl (hown.alloc _) ⟨wr.heap.size, 0, none⟩ 1 1 (cellsOf [c]) rfl rfl (bytes_new _ [c]) (cellsOf_one _) (by unfold maxLen; omega) (by omega) (by simp; omega) ?_; intro v2 w2 hown2 hgrow2 hnil2))
      trace_state
      go_roundw
      case rel =>
        refine ⟨m / 128, d ++ [c], by omega, by go_num, ?_, ?_, (hbel.alloc (by omega) _).grown hgrow2 (by simp; omega) (fun k h => (hown.lt k h).1)⟩
        · rw [List.length_append]
          unfold cellsOf at hown2 ⊢
          rw [List.map_append]; exact hown2
        · show _ = _
          rw [hd.out, HE.out]; simp
      case measure => simp [intOf]; omega
    · have hge' : ¬ (128 : Int) ≤ (m : Int) := by omega
      obtain ⟨c, rfl⟩ : ∃ c : UInt8, c.toNat = m := ⟨UInt8.ofNat m, byte_small (by omega)⟩
      have HE : Hid (varL n = d ++ [c]) := by show _ = _; rw [hd.out, varL_small (by omega)]; simp
      have hcv := fun W (v : Value) (hW : W.ownsRow w.heap.size 5 1 v (d ++ [c]).length (cellsOf (d ++ [c]))) => conv_any (w := W) rfl hW
      have HC := Lib.hid hcv
      clear hcv
      go_wp2_with (at_builtin; (refine wpList_append_own _ rfl (.tmp 17) (.tmp 20) 51 rfl w.heap.size 5 i0 (.int .u8 0) 1 1 Try.underlying51 hi hz0 hz1 hz2 rfl (by decide) _ d.length (cellsOf d) rfl (hown.alloc _) ⟨wr.heap.size, 0, none⟩ 1 1 (cellsOf [c]) rfl rfl (bytes_new _ [c]) (cellsOf_one _) (by unfold maxLen; omega) (by omega) (by simp; omega) ?_; intro v2 w2 hown2 hgrow2 hnil2; have hcv := HC.out w2 v2 (by rw [List.length_append]; unfold cellsOf at hown2 ⊢; rw [List.map_append]; exact hown2)))
      go_ret
      rw [HE.out]
      exact ⟨rfl, (hbel.alloc (by omega) _).grown hgrow2 (by simp; omega) (fun k h => (hown.lt k h).1)⟩
end Go.Proofs.Ytbaddpkeaealpaa
