/- The reference's encoders of strings and lists. -/
import Derived.Test.YtbaddpkeaealpaaREnc
import Derived.Laws.Concat
namespace Go.Proofs.Ytbaddpkeaealpaa
open Go.ChangeShapes Go.WideShapes Go.ChangeAt Go.RowKit

theorem add_lists (x y : List UInt8) (h : x.length + y.length ≤ 9223372036854775807) (W : World) :
    (Op.stringOp .add ⟨x.toArray⟩ ⟨y.toArray⟩).run Try.prog W = .ok (.string ⟨(x ++ y).toArray⟩) W := by
  rw [run_string_add_sum W _ _ (by rw [bytes_size, bytes_size]; exact h), ByteArray.mk_append_mk]
theorem numRI (n : Int) (h1 : n < 9223372036854775808) (w : World) :
    Calls Try.prog 12 #[.int .i64 n] w fun e w' => e = .returned (.string ⟨(varI n).toArray⟩) ∧ Below w.heap.size w w' := by
  by_cases h : n < 0
  · rw [varI_neg h]
    go_enter Try.func12, Try.ntmps12
    go_wp2_with fail
    go_ret
    exact ⟨rfl, Below.refl _ _⟩
  · obtain ⟨m, rfl⟩ : ∃ m : Nat, n = m := ⟨n.toNat, by omega⟩
    rw [varI_nat]
    exact numR_nat m (by omega) w
theorem textR_enc (s : List UInt8) (hs : s.length ≤ 140737488355000) (w : World) :
    Calls Try.prog 14 #[strV s] w fun e w' => e = .returned (strV (textL s)) ∧ Below w.heap.size w w' := by
  have h9 := varL_nine (n := s.length) (by omega)
  have hadd := add_lists (varL s.length) s (by omega)
  have HN := Lib.hid (fun W => numR_nat s.length (by omega) W)
  have HT : Hid (textL s = varL s.length ++ s) := rfl
  unfold strV
  go_enter Try.func14, Try.ntmps14
  go_wp2_with fail
  refine (HN.out _).mono ?_
  rintro e w1 ⟨rfl, hbel⟩
  go_wp2_with fail
  go_ret
  rw [HT.out]
  exact ⟨rfl, hbel⟩
theorem preL_len (xs : List (List UInt8)) : xs.length < (pre textL xs xs.length).length := by
  rw [pre_all, List.length_append]
  have h1 := varL_pos xs.length
  have h2 : ∀ l : List (List UInt8), l.length ≤ (l.flatMap textL).length := by
    intro l
    induction l with
    | nil => simp
    | cons a l ih => rw [List.flatMap_cons, List.length_append, List.length_cons, textL, List.length_append]; have := varL_pos a.length; omega
  have := h2 xs
  omega
theorem listL_pre' (xs : List (List UInt8)) : listL xs = pre textL xs xs.length := by rw [pre_all, listL]
theorem textL_len (s : List UInt8) : s.length < (textL s).length := by
  have := varL_pos s.length
  rw [textL, List.length_append]; omega

theorem listR_enc {v : Value} {xs : List (List UInt8)} {w : World} (h : Has strV w v xs) (hlen : xs.length ≤ 140737488355000) (hsz : (listL xs).length ≤ 140737488355000) :
    Calls Try.prog 16 #[v] w fun e w' => e = .returned (strV (listL xs)) ∧ Below w.heap.size w w' := by
  have HN := Lib.hid (fun W => numR_nat xs.length (by omega) W)
  rw [listL_pre'] at hsz ⊢
  have HS := Lib.hid hsz
  clear hsz
  unfold strV
  rcases h with ⟨rfl, rfl⟩ | ⟨a, c, rfl, h2⟩
  · have HP : Hid (pre textL ([] : List (List UInt8)) 0 = varL 0) := pre_zero _ _
    go_enter Try.func16, Try.ntmps16
    go_wp2_with fail
    refine (HN.out _).mono ?_
    rintro e w1 ⟨rfl, hbel⟩
    go_wp2_with fail
    go_loop [3, 4] (fun u i => u = .string ⟨(varL 0).toArray⟩ ∧ i = .int .i64 0) (fun _ _ => 0)
    case atStart => exact ⟨rfl, rfl⟩
    case round =>
      obtain ⟨rfl, rfl⟩ := hrel
      go_wp2_with fail
      go_ret
      exact ⟨congrArg (fun l : List UInt8 => Ending.returned (.string ⟨l.toArray⟩)) HP.out.symm, hbel⟩
  · have H2 := Lib.hid h2
    clear h2
    go_enter Try.func16, Try.ntmps16
    go_wp2_with fail
    refine (HN.out _).mono ?_
    rintro e w1 ⟨rfl, hbel⟩
    go_wp2_with fail
    go_loopw [3, 4] (fun u i wr => ∃ k : Nat, k ≤ xs.length ∧ i = .int .i64 k ∧ u = .string ⟨(pre textL xs k).toArray⟩ ∧ Below w.heap.size w wr)
      (fun _ i _ => xs.length - (intOf i).toNat)
    case atStart => exact ⟨0, Nat.zero_le _, rfl, by rw [pre_zero], hbel⟩
    case round =>
      clear hbel
      obtain ⟨k, hk, rfl, rfl, hbel⟩ := hrel
      by_cases hlt : k < xs.length
      · have hcell : wr.cell? (a.add k) = some (strV xs[k]) := by
          rw [hbel.cell (p := a.add k) (World.block_lt_of_cell? w (a.add k) (H2.out k hlt))]; exact H2.out k hlt
        have hsum : (pre textL xs k).length + (textL xs[k]).length ≤ 140737488355000 := by
          have h3 := pre_le textL xs (k + 1)
          rw [pre_succ textL xs k hlt, List.length_append] at h3
          have := HS.out
          omega
        have hadd := add_lists (pre textL xs k) (textL xs[k]) (by omega)
        have HE : Hid (pre textL xs (k + 1) = pre textL xs k ++ textL xs[k]) := pre_succ textL xs k hlt
        have HC := Lib.hid (fun W => textR_enc xs[k] (by have := textL_len xs[k]; omega) W)
        clear hsum
        unfold strV at hcell
        go_wp2_with fail
        refine (HC.out _).mono ?_
        rintro e w2 ⟨rfl, hbel2⟩
        unfold strV
        go_wp2_with fail
        go_roundw
        case rel => exact ⟨k + 1, by omega, by go_num, by rw [HE.out], hbel.trans (hbel2.mono hbel.size)⟩
        case measure => simp [intOf]; omega
      · obtain rfl : k = xs.length := by omega
        go_wp2_with fail
        go_ret
        exact ⟨rfl, hbel⟩

theorem numsR_enc {v : Value} {xs : List Int} {w : World} (h : Has intV w v xs) (hb : ∀ x ∈ xs, x ≤ 9223372036854775807) (hlen : xs.length ≤ 140737488355000) (hsz : (numsL xs).length ≤ 140737488355000) :
    Calls Try.prog 18 #[v] w fun e w' => e = .returned (strV (numsL xs)) ∧ Below w.heap.size w w' := by
  have HN := Lib.hid (fun W => numR_nat xs.length (by omega) W)
  rw [numsL_pre] at hsz ⊢
  have HS := Lib.hid hsz
  have HB := Lib.hid hb
  clear hb
  clear hsz
  unfold strV
  rcases h with ⟨rfl, rfl⟩ | ⟨a, c, rfl, h2⟩
  · have HP : Hid (pre varI ([] : List Int) 0 = varL 0) := pre_zero _ _
    go_enter Try.func18, Try.ntmps18
    go_wp2_with fail
    refine (HN.out _).mono ?_
    rintro e w1 ⟨rfl, hbel⟩
    go_wp2_with fail
    go_loop [3, 4] (fun u i => u = .string ⟨(varL 0).toArray⟩ ∧ i = .int .i64 0) (fun _ _ => 0)
    case atStart => exact ⟨rfl, rfl⟩
    case round =>
      obtain ⟨rfl, rfl⟩ := hrel
      go_wp2_with fail
      go_ret
      exact ⟨congrArg (fun l : List UInt8 => Ending.returned (.string ⟨l.toArray⟩)) HP.out.symm, hbel⟩
  · have H2 := Lib.hid h2
    clear h2
    go_enter Try.func18, Try.ntmps18
    go_wp2_with fail
    refine (HN.out _).mono ?_
    rintro e w1 ⟨rfl, hbel⟩
    go_wp2_with fail
    go_loopw [3, 4] (fun u i wr => ∃ k : Nat, k ≤ xs.length ∧ i = .int .i64 k ∧ u = .string ⟨(pre varI xs k).toArray⟩ ∧ Below w.heap.size w wr)
      (fun _ i _ => xs.length - (intOf i).toNat)
    case atStart => exact ⟨0, Nat.zero_le _, rfl, by rw [pre_zero], hbel⟩
    case round =>
      clear hbel
      obtain ⟨k, hk, rfl, rfl, hbel⟩ := hrel
      by_cases hlt : k < xs.length
      · have hcell : wr.cell? (a.add k) = some (intV xs[k]) := by
          rw [hbel.cell (p := a.add k) (World.block_lt_of_cell? w (a.add k) (H2.out k hlt))]; exact H2.out k hlt
        have hsum : (pre varI xs k).length + (varI xs[k]).length ≤ 140737488355000 := by
          have h3 := pre_le varI xs (k + 1)
          rw [pre_succ varI xs k hlt, List.length_append] at h3
          have := HS.out
          omega
        have hadd := add_lists (pre varI xs k) (varI xs[k]) (by omega)
        have HE : Hid (pre varI xs (k + 1) = pre varI xs k ++ varI xs[k]) := pre_succ varI xs k hlt
        have HC := Lib.hid (fun W => numRI xs[k] (by have := HB.out xs[k] (List.getElem_mem hlt); omega) W)
        clear hsum
        unfold intV at hcell
        go_wp2_with fail
        refine (HC.out _).mono ?_
        rintro e w2 ⟨rfl, hbel2⟩
        skip
        go_wp2_with fail
        go_roundw
        case rel => exact ⟨k + 1, by omega, by go_num, by rw [HE.out], hbel.trans (hbel2.mono hbel.size)⟩
        case measure => simp [intOf]; omega
      · obtain rfl : k = xs.length := by omega
        go_wp2_with fail
        go_ret
        exact ⟨rfl, hbel⟩
end Go.Proofs.Ytbaddpkeaealpaa
