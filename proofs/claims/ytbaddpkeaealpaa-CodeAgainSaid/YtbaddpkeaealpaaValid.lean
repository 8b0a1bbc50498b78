/- The law's limits on a list of values. -/
import Derived.Test.YtbaddpkeaealpaaVals
import Derived.Test.YtbaddpkeaealpaaTells
namespace Go.Proofs.Ytbaddpkeaealpaa
open Go.ChangeShapes Go.WideShapes Go.ChangeAt Go.RowKit

def goodV (x : V) : Bool := decide (0 ≤ x.n) && fewP x.texts && decide (x.text.length ≤ 10000) && decide (x.nums.length ≤ 100) && x.nums.all (fun y => decide (0 ≤ y))
def validP (xs : List V) : Bool := xs.all goodV && decide (xs.length ≤ 20)
/-- The sizes that arguments have. -/
structure SizeV (x : V) : Prop where
  texts : ∀ y ∈ x.texts, y.length ≤ 140737488355328
  many : x.texts.length ≤ 140737488355328
  nums : x.nums.length ≤ 140737488355328
theorem valid_bad {xs : List V} {k : Nat} (h : k < xs.length) (hg : goodV xs[k] = false) : validP xs = false := by
  unfold validP
  rw [Bool.and_eq_false_iff]
  exact Or.inl (List.all_eq_false.2 ⟨_, List.getElem_mem h, by rw [hg]; decide⟩)
theorem valid_all {xs : List V} (h : ∀ j (hj : j < xs.length), goodV xs[j] = true) : validP xs = decide (xs.length ≤ 20) := by
  unfold validP
  rw [List.all_eq_true.2 (fun x hx => by obtain ⟨j, hj, rfl⟩ := List.getElem_of_mem hx; exact h j hj), Bool.true_and]
theorem valid_nil (w : World) : Calls Try.prog 37 #[.slice none 0 0] w fun e w' => e = .returned (.bool (validP [])) ∧ w = w' := by
  go_enter Try.func37, Try.ntmps37
  go_wp2_with fail
  go_loop [3] (fun i => i = .int .i64 0) (fun _ => 0)
  case atStart => rfl
  case round =>
    subst hrel
    go_wp2_with fail
    go_ret
    exact ⟨rfl, rfl⟩
set_option maxRecDepth 100000 in
set_option maxHeartbeats 1600000 in
theorem valid_some (a : Addr) (c : Nat) (xs : List V) (w : World) (h : ∀ j (h : j < xs.length), At w (a.add (j * 5)) xs[j]) (hh : ∀ x ∈ xs, Has strV w x.tv x.texts ∧ Has intV w x.uv x.nums) (hs : ∀ x ∈ xs, SizeV x) (hl : xs.length ≤ 140737488355328) :
    Calls Try.prog 37 #[.slice (some a) xs.length c] w fun e w' => e = .returned (.bool (validP xs)) ∧ w = w' := by
  have H := Lib.hid h
  have HH := Lib.hid hh
  have HO := Lib.hid hs
  clear h hh hs
  go_enter Try.func37, Try.ntmps37
  go_wp2_with fail
  go_loop [3] (fun i => ∃ k : Nat, k ≤ xs.length ∧ i = .int .i64 k ∧ Hid (∀ j (hj : j < xs.length), j < k → goodV xs[j] = true))
    (fun i => xs.length - (intOf i).toNat)
  case atStart => exact ⟨0, Nat.zero_le _, rfl, by intro j hj h; omega⟩
  case round =>
    obtain ⟨k, hk, rfl, hgood⟩ := hrel
    by_cases hlt : k < xs.length
    · have HX := Lib.hid (HH.out _ (List.getElem_mem hlt))
      have HK := Lib.hid (HO.out _ (List.getElem_mem hlt))
      have HBAD := Lib.hid (fun h => valid_bad hlt h)
      have HNEXT : Hid (goodV xs[k] = true → ∀ j (hj : j < xs.length), j < k + 1 → goodV xs[j] = true) := by
        intro h1 j hj h2
        rcases (show j < k ∨ j = k by omega) with h3 | rfl
        · exact hgood.out j hj h3
        · exact h1
      obtain ⟨e0, e1, e2, e3, e4⟩ := H.out k hlt
      obtain ⟨x, hx⟩ : ∃ x, xs[k] = x := ⟨_, rfl⟩
      rw [hx] at HX HK HBAD HNEXT e0 e1 e2 e3 e4
      clear hx
      unfold intV at e0 e1
      unfold strV at e2
      obtain ⟨a4, c4, hsh⟩ := HX.out.2.shape
      rw [hsh] at e4
      have HSH := Lib.hid hsh
      have hnl := HK.out.nums
      have HF := Lib.hid (few_any HX.out.1 HK.out.texts HK.out.many)
      clear hsh
      by_cases hn : x.n < 0
      · have HB := Lib.hid (HBAD.out (by simp [goodV]; omega))
        go_wp2_with fail
        refine HF.out.mono ?_
        rintro e w1 ⟨rfl, rfl⟩
        go_wp2_with fail
        go_ret
        rw [HB.out]
        exact ⟨rfl, rfl⟩
      · cases hf : fewP x.texts with
        | false =>
          have HB := Lib.hid (HBAD.out (by simp [goodV, hf]))
          rw [hf] at HF
          clear hf
          go_wp2_with fail
          refine HF.out.mono ?_
          rintro e w1 ⟨rfl, rfl⟩
          go_wp2_with fail
          go_ret
          rw [HB.out]
          exact ⟨rfl, rfl⟩
        | true =>
          rw [hf] at HF
          have HFW := Lib.hid hf
          clear hf
          by_cases ht : 10000 < x.text.length
          · have HB := Lib.hid (HBAD.out (by simp [goodV]; omega))
            go_wp2_with fail
            refine HF.out.mono ?_
            rintro e w1 ⟨rfl, rfl⟩
            go_wp2_with fail
            go_ret
            rw [HB.out]
            exact ⟨rfl, rfl⟩
          · by_cases hm : 100 < x.nums.length
            · have HB := Lib.hid (HBAD.out (by simp [goodV]; omega))
              go_wp2_with fail
              refine HF.out.mono ?_
              rintro e w1 ⟨rfl, rfl⟩
              go_wp2_with fail
              go_ret
              rw [HB.out]
              exact ⟨rfl, rfl⟩
            · go_wp2_with fail
              refine HF.out.mono ?_
              rintro e w1 ⟨rfl, rfl⟩
              go_wp2_with fail
              go_loop [5] (fun i => ∃ m : Nat, m ≤ x.nums.length ∧ i = .int .i64 m ∧ Hid (∀ j (hj : j < x.nums.length), j < m → 0 ≤ x.nums[j]))
                (fun i => x.nums.length - (intOf i).toNat)
              case atStart => exact ⟨0, Nat.zero_le _, rfl, by intro j hj h; omega⟩
              case round =>
                obtain ⟨m, hml, rfl, hpos⟩ := hrel
                by_cases hmlt : m < x.nums.length
                · have hc : ∃ a', a4 = some a' ∧ w.cell? (a'.add m) = some (.int .i64 x.nums[m]) := by
                    rcases HX.out.2 with ⟨_, h0⟩ | ⟨a', c', h1, h2⟩
                    · rw [h0] at hmlt; simp at hmlt
                    · rw [HSH.out] at h1
                      injection h1 with h1 _ _
                      exact ⟨a', h1, h2 m hmlt⟩
                  obtain ⟨a', rfl, hcell⟩ := hc
                  by_cases hneg : x.nums[m] < 0
                  · have HB := Lib.hid (HBAD.out (by
                      unfold goodV
                      rw [Bool.and_eq_false_iff]
                      exact Or.inr (List.all_eq_false.2 ⟨_, List.getElem_mem hmlt, by simp; omega⟩)))
                    go_wp2_with fail
                    go_ret
                    rw [HB.out]
                    exact ⟨rfl, rfl⟩
                  · go_wp2_with fail
                    go_round
                    case rel =>
                      refine ⟨m + 1, by omega, by go_num, ?_⟩
                      intro j hj h2
                      rcases (show j < m ∨ j = m by omega) with h3 | rfl
                      · exact hpos.out j hj h3
                      · omega
                    case measure => simp [intOf]; omega
                · obtain rfl : m = x.nums.length := by omega
                  have HG := Lib.hid (HNEXT.out (by
                    unfold goodV
                    rw [HFW.out, List.all_eq_true.2 (fun y hy => by obtain ⟨j, hj, rfl⟩ := List.getElem_of_mem hy; exact decide_eq_true (hpos.out j hj hj))]
                    simp; omega))
                  go_wp2_with fail
                  go_round
                  case rel => exact ⟨k + 1, by omega, by go_num, HG.out⟩
                  case measure => simp [intOf]; omega
    · obtain rfl : k = xs.length := by omega
      have HG := Lib.hid (valid_all (xs := xs) (fun j hj => hgood.out j hj hj))
      by_cases h20 : xs.length ≤ 20
      · have HD : Hid (decide (xs.length ≤ 20) = true) := decide_eq_true h20
        have h20' : (xs.length : Int) ≤ 20 := by omega
        go_wp2_with fail
        go_ret
        rw [HG.out, HD.out]
        exact ⟨rfl, rfl⟩
      · have HD : Hid (decide (xs.length ≤ 20) = false) := decide_eq_false h20
        have h20' : ¬ (xs.length : Int) ≤ 20 := by omega
        go_wp2_with fail
        go_ret
        rw [HG.out, HD.out]
        exact ⟨rfl, rfl⟩
theorem valid_any {v : Value} {xs : List V} {w : World} (h : HasVs w v xs) (hs : ∀ x ∈ xs, SizeV x) (hl : xs.length ≤ 140737488355328) :
    Calls Try.prog 37 #[v] w fun e w' => e = .returned (.bool (validP xs)) ∧ w = w' := by
  rcases h.1 with ⟨rfl, rfl⟩ | ⟨a, c, rfl, h1⟩
  · exact valid_nil w
  · exact valid_some a c xs w h1 h.2 hs hl
theorem good_is {x : V} (h : goodV x = true) : 0 ≤ x.n ∧ fewP x.texts = true ∧ x.text.length ≤ 10000 ∧ x.nums.length ≤ 100 ∧ ∀ y ∈ x.nums, 0 ≤ y := by
  unfold goodV at h
  simp only [Bool.and_eq_true, decide_eq_true_eq, List.all_eq_true] at h
  obtain ⟨⟨⟨⟨h1, h2⟩, h3⟩, h4⟩, h5⟩ := h
  exact ⟨h1, h2, h3, h4, h5⟩
theorem valid_is {xs : List V} (h : validP xs = true) : xs.length ≤ 20 ∧ ∀ x ∈ xs, goodV x = true := by
  unfold validP at h
  rw [Bool.and_eq_true, decide_eq_true_eq, List.all_eq_true] at h
  exact ⟨h.2, h.1⟩
end Go.Proofs.Ytbaddpkeaealpaa
