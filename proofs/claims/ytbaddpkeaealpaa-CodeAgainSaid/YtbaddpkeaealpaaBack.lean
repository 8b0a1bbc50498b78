/- The law CodeBack: its walk. -/
import Derived.Test.YtbaddpkeaealpaaValid
import Derived.Deep.RegionWith
namespace Go.Proofs.Ytbaddpkeaealpaa
open Go.ChangeShapes Go.WideShapes Go.ChangeAt Go.RowKit

theorem Rd.drew {T : TypeId} {w : World} {b : Nat} {s : RS} (h : Rd T w b s) : Rd T w.drew b s := h
theorem back_out {v : Value} {bh : List UInt8} {b : Bool} (w : World) (hf : ∀ W, Below w.heap.size w W → Calls Try.prog 37 #[v] W fun e w' => e = .returned (.bool b) ∧ W = w') (ho : b = false ∨ 10000 < bh.length) :
    Calls Try.prog 5 #[v, .string ⟨bh.toArray⟩] w fun e w' => e = .returned (.bool true) ∧ Below w.heap.size w w' := by
  have HS := Lib.hid (small_any w)
  have HF := Lib.hid hf
  clear hf
  rcases (show b = false ∨ (b = true ∧ 10000 < bh.length) by cases b; exact Or.inl rfl; exact Or.inr ⟨rfl, by rcases ho with h | h; cases h; exact h⟩) with rfl | ⟨rfl, hk⟩
  all_goals
    clear ho
    go_enter Try.func5, Try.ntmps5
    go_wp2_with fail
    refine HS.out.mono ?_
    rintro e w1 ⟨rfl, hb⟩
    go_wp2_with fail
    refine (HF.out _ hb).mono ?_
    rintro e w2 ⟨rfl, rfl⟩
    go_wp2_with fail
    go_ret
    exact ⟨rfl, hb⟩

/-- What is unread when k values have been read. -/
def rem (xs : List V) (bh : List UInt8) (k : Nat) : List UInt8 := (xs.drop k).flatMap encV ++ bh
theorem rem_succ {xs : List V} {bh : List UInt8} {k : Nat} (h : k < xs.length) : rem xs bh k = encV xs[k] ++ rem xs bh (k + 1) := by
  unfold rem
  rw [List.drop_eq_getElem_cons h, List.flatMap_cons, List.append_assoc]
theorem rem_end (xs : List V) (bh : List UInt8) : rem xs bh xs.length = bh := by unfold rem; rw [List.drop_length]; rfl
theorem rem_zero (xs : List V) (bh : List UInt8) : rem xs bh 0 = xs.flatMap encV ++ bh := by unfold rem; rw [List.drop_zero]
theorem rem_le (xs : List V) (bh : List UInt8) (k : Nat) : (rem xs bh k).length ≤ (rem xs bh 0).length := by
  rw [rem_zero]
  unfold rem
  conv => rhs; rw [← List.take_append_drop k xs, List.flatMap_append]
  simp only [List.length_append]; omega
/-- A value that the law admits decodes to itself. -/
structure Fine (x : V) : Prop where
  n : 0 ≤ x.n ∧ x.n ≤ 9223372036854775807
  text : x.text.length < 9223372036854775808
  texts : ∀ y ∈ x.texts, y.length < 9223372036854775808
  many : x.texts.length ≤ 100
  nums : ∀ y ∈ x.nums, 0 ≤ y ∧ y < 9223372036854775808
  some : x.nums.length ≤ 100

set_option maxRecDepth 100000 in
set_option maxHeartbeats 1600000 in
theorem back_in {v : Value} {xs : List V} {bh : List UInt8} {w : World} (hv : HasVs w v xs) (hfine : ∀ x ∈ xs, Fine x) (hlen : xs.length ≤ 20) (hbh : bh.length ≤ 10000) (hrem : (rem xs bh 0).length ≤ 1000000)
    (hf : ∀ W, Below w.heap.size w W → Calls Try.prog 37 #[v] W fun e w' => e = .returned (.bool true) ∧ W = w')
    (he : ∀ W, Below w.heap.size w W → Calls Try.prog 38 #[v] W fun e w' => e = .returned (.string ⟨(xs.flatMap encV).toArray⟩) ∧ Below W.heap.size W w') :
    Calls Try.prog 5 #[v, .string ⟨bh.toArray⟩] w fun e w' => e = .returned (.bool true) ∧ Below w.heap.size w w' := by
  have HS := Lib.hid (small_any w)
  have HF := Lib.hid hf
  have HE := Lib.hid he
  have HV := Lib.hid hv
  have HFN := Lib.hid hfine
  have HRM := Lib.hid hrem
  have hadd := add_lists (xs.flatMap encV) bh (by rw [rem_zero, List.length_append] at hrem; omega)
  obtain ⟨a, c, hsh⟩ := hv.shape
  subst hsh
  obtain ⟨n, hn⟩ : ∃ n, xs.length = n := ⟨_, rfl⟩
  rw [hn] at hlen HV HF HE ⊢
  have HN := Lib.hid hn
  clear hf he hv hfine hrem hn
  go_enter Try.func5, Try.ntmps5
  go_wp2_with fail
  refine HS.out.mono ?_
  rintro e w1 ⟨rfl, hb⟩
  go_wp2_with fail
  refine (HF.out _ hb).mono ?_
  rintro e w2 ⟨rfl, rfl⟩
  go_wp2_with fail
  refine (HE.out _ hb).mono ?_
  rintro e w2 ⟨rfl, hb'⟩
  replace hb := Qtrans hb hb'; clear hb'
  go_wp2_with fail
  refine (open_any _ _).mono ?_
  rintro e w3 ⟨rfl, hr, g⟩
  have hr : Rd 57 w3 w2.heap.size (rem xs bh 0, false) := by rw [rem_zero]; exact hr
  have HRD := Lib.hid hr
  have hlo : Hid (w.heap.size ≤ w2.heap.size) := hb.size
  replace hb := hb.grown g hb.size (fun k h => by cases h)
  clear hr g hadd
  obtain ⟨r, hr⟩ : ∃ r, w2.heap.size = r := ⟨_, rfl⟩
  rw [hr] at HRD hlo
  rw [hr]
  clear hr
  have HB := Lib.hid hb
  clear hb
  go_wp2_with fail
  go_loopw [8] (fun i wr => ∃ k : Nat, k ≤ n ∧ i = .int .i64 k ∧ Hid (Rd 57 wr r (rem xs bh k, false)) ∧ Hid (Below w.heap.size w wr))
    (fun i _ => n - (intOf i).toNat)
  case atStart => exact ⟨0, Nat.zero_le _, rfl, HRD, HB⟩
  case round =>
    clear HRD HB
    obtain ⟨k, hk, rfl, hrd, hbel⟩ := hrel
    by_cases hlt : k < n
    · have hc : ∃ a', a = some a' ∧ ∀ (h : k < xs.length), At w (a'.add (k * 5)) xs[k] := by
        rcases HV.out.1 with ⟨_, h0⟩ | ⟨a', c', h1, h2⟩
        · have := HN.out
          rw [h0] at this; simp at this; omega
        · injection h1 with h1 _ _
          exact ⟨a', h1, fun h => h2 k h⟩
      obtain ⟨a', rfl, hat0⟩ := hc
      have hkx : k < xs.length := by have := HN.out; omega
      have HA0 := Lib.hid (hat0 hkx)
      clear hat0
      have HX := Lib.hid (HV.out.2 _ (List.getElem_mem hkx))
      have HK := Lib.hid (HFN.out _ (List.getElem_mem hkx))
      have HRS := Lib.hid (rem_succ (bh := bh) hkx)
      have HLE := Lib.hid (Nat.le_trans (rem_le xs bh k) HRM.out)
      obtain ⟨x, hx⟩ : ∃ x, xs[k] = x := ⟨_, rfl⟩
      rw [hx] at HA0 HX HK HRS
      clear hx hkx
      have HNE : Hid (∀ j, some ((a'.add (k * 5)).block) ≠ some r ∧ (blk x.tv = some j → j < w.heap.size → j ≠ r) ∧ (blk x.uv = some j → j < w.heap.size → j ≠ r)) := fun j => ⟨fun e => by
        injection e with e
        have h1 := HA0.out.lt
        have h2 := hlo.out
        omega, fun _ h => by have h2 := hlo.out; omega, fun _ h => by have h2 := hlo.out; omega⟩
      have HA := Lib.hid (HA0.out.keep (hbel.out.block _ HA0.out.lt))
      have HXT := Lib.hid (HX.out.1.below' hbel.out)
      have HXU := Lib.hid (HX.out.2.below' hbel.out)
      obtain ⟨e0, e1, e2, e3, e4⟩ := HA.out
      unfold intV at e0 e1
      unfold strV at e2
      rcases kindP_four x with hk0 | hk0 | hk0 | hk0
      · have HEV : Hid (encV x = varI x.n) := by show _ = _; simp [encV, hk0]
        have HKD := Lib.hid (fun W => kind_is hk0 W)
        clear hk0
        have HP : Hid (numP (varI x.n ++ rem xs bh (k + 1), false) = (x.n.toNat, (rem xs bh (k + 1), false))) := (by have h := HK.out.n; show _ = _; obtain ⟨m, hm⟩ : ∃ m : Nat, x.n = m := ⟨x.n.toNat, by omega⟩; rw [hm, varI_nat]; exact numP_enc (by omega) _ _)
        rw [← HEV.out, ← HRS.out] at HP
        go_wp2_with fail
        refine (HKD.out _).mono ?_
        rintro e w4 ⟨rfl, hb4⟩
        have hrd4 := Lib.hid (hrd.out.kept (grown_below hb4) (fun e => by cases e))
        have HA4 := Lib.hid (HA.out.keep (hb4.block _ HA.out.lt))
        have HXT4 := Lib.hid (HXT.out.below' hb4)
        have HXU4 := Lib.hid (HXU.out.below' hb4)
        replace hbel := Lib.hid (hbel.out.trans (hb4.mono hbel.out.size))
        clear hb4 e0 e1 e2 e3 e4 HA HXT HXU hrd
        obtain ⟨e0, e1, e2, e3, e4⟩ := HA4.out
        unfold intV at e0 e1
        unfold strV at e2
        have HTN : (x.n.toNat : Int) = x.n := by have := HK.out.n; omega
        go_wp2_with fail
        go_region_with (go_at_call 21; refine (num_is HP.out hrd4.out.drew).mono ?_; rintro e w5 ⟨rfl, h5, g5⟩; have HA5 := Lib.hid (HA4.out.keep (g5.block _ (show _ < w4.drew.heap.size from HA4.out.lt) (HNE.out 0).1)); obtain ⟨f0, f1, f2, f3, f4⟩ := HA5.out; unfold intV at f0 f1; unfold strV at f2)
        all_goals
          replace hbel := Lib.hid (hbel.out.drew.grown g5 (show w.heap.size ≤ w4.drew.heap.size from hbel.out.size) (fun k hk => by cases hk; exact hlo.out))
          go_wp2_with fail
          go_roundw
          case rel => exact ⟨k + 1, by omega, by go_num, Lib.hid h5, hbel⟩
          case measure => simp [intOf]; omega
      · have HEV : Hid (encV x = textL x.text) := by show _ = _; simp [encV, hk0]
        have HKD := Lib.hid (fun W => kind_is hk0 W)
        clear hk0
        have HP : Hid (textP (textL x.text ++ rem xs bh (k + 1), false) = (x.text, (rem xs bh (k + 1), false))) := textP_enc HK.out.text _ _
        rw [← HEV.out, ← HRS.out] at HP
        go_wp2_with fail
        refine (HKD.out _).mono ?_
        rintro e w4 ⟨rfl, hb4⟩
        have hrd4 := Lib.hid (hrd.out.kept (grown_below hb4) (fun e => by cases e))
        have HA4 := Lib.hid (HA.out.keep (hb4.block _ HA.out.lt))
        have HXT4 := Lib.hid (HXT.out.below' hb4)
        have HXU4 := Lib.hid (HXU.out.below' hb4)
        replace hbel := Lib.hid (hbel.out.trans (hb4.mono hbel.out.size))
        clear hb4 e0 e1 e2 e3 e4 HA HXT HXU hrd
        obtain ⟨e0, e1, e2, e3, e4⟩ := HA4.out
        unfold intV at e0 e1
        unfold strV at e2
        go_wp2_with fail
        go_region_with (go_at_call 23; refine (text_is HP.out hrd4.out.drew).mono ?_; rintro e w5 ⟨rfl, h5, g5⟩; have HA5 := Lib.hid (HA4.out.keep (g5.block _ (show _ < w4.drew.heap.size from HA4.out.lt) (HNE.out 0).1)); obtain ⟨f0, f1, f2, f3, f4⟩ := HA5.out; unfold intV at f0 f1; unfold strV at f2)
        all_goals
          replace hbel := Lib.hid (hbel.out.drew.grown g5 (show w.heap.size ≤ w4.drew.heap.size from hbel.out.size) (fun k hk => by cases hk; exact hlo.out))
          go_wp2_with fail
          go_roundw
          case rel => exact ⟨k + 1, by omega, by go_num, Lib.hid h5, hbel⟩
          case measure => simp [intOf]; omega
      · have HEV : Hid (encV x = listL x.texts) := by show _ = _; simp [encV, hk0]
        have HKD := Lib.hid (fun W => kind_is hk0 W)
        clear hk0
        have HP : Hid (allP textP (listL x.texts ++ rem xs bh (k + 1), false) = (x.texts, (rem xs bh (k + 1), false))) := listP_enc x.texts HK.out.texts (by have := HK.out.many; omega) _
        rw [← HEV.out, ← HRS.out] at HP
        go_wp2_with fail
        refine (HKD.out _).mono ?_
        rintro e w4 ⟨rfl, hb4⟩
        have hrd4 := Lib.hid (hrd.out.kept (grown_below hb4) (fun e => by cases e))
        have HA4 := Lib.hid (HA.out.keep (hb4.block _ HA.out.lt))
        have HXT4 := Lib.hid (HXT.out.below' hb4)
        have HXU4 := Lib.hid (HXU.out.below' hb4)
        replace hbel := Lib.hid (hbel.out.trans (hb4.mono hbel.out.size))
        clear hb4 e0 e1 e2 e3 e4 HA HXT HXU hrd
        obtain ⟨e0, e1, e2, e3, e4⟩ := HA4.out
        unfold intV at e0 e1
        unfold strV at e2
        go_wp2_with fail
        go_region_with (first | (go_at_call 26; refine (list_is HP.out (show (rem xs bh k).length ≤ 1000000000000 by have := HLE.out; omega) hrd4.out.drew).mono ?_; rintro e w5 ⟨v1, rfl, hv1, hv1f, h5, g5⟩; have HA5 := Lib.hid (HA4.out.keep (g5.block _ (show _ < w4.drew.heap.size from HA4.out.lt) (HNE.out 0).1)); obtain ⟨f0, f1, f2, f3, f4⟩ := HA5.out; unfold intV at f0 f1; unfold strV at f2) | (go_at_call 25; refine (sameT_is hv1 (HX.out.1.below' (hbel.out.drew.grown g5 (show w.heap.size ≤ w4.drew.heap.size from hbel.out.size) (fun k hk => by cases hk; exact hlo.out))) (by have := HK.out.many; omega) (f := true) (by simp)).mono ?_; rintro e w6 ⟨rfl, g6⟩))
        all_goals
          replace hbel := Lib.hid (hbel.out.drew.grown g5 (show w.heap.size ≤ w4.drew.heap.size from hbel.out.size) (fun k hk => by cases hk; exact hlo.out))
          replace hbel := Lib.hid (hbel.out.grown g6 hbel.out.size (fun k hk => by cases hk))
          have h6 := Lib.hid (h5.kept g6 (fun e => by cases e))
          go_wp2_with fail
          go_roundw
          case rel => exact ⟨k + 1, by omega, by go_num, h6, hbel⟩
          case measure => simp [intOf]; omega
      · have HEV : Hid (encV x = numsL x.nums) := by show _ = _; simp [encV, hk0]
        have HKD := Lib.hid (fun W => kind_is hk0 W)
        clear hk0
        have HP : Hid (allP intP (numsL x.nums ++ rem xs bh (k + 1), false) = (x.nums, (rem xs bh (k + 1), false))) := numsP_enc x.nums HK.out.nums (by have := HK.out.some; omega) _
        rw [← HEV.out, ← HRS.out] at HP
        go_wp2_with fail
        refine (HKD.out _).mono ?_
        rintro e w4 ⟨rfl, hb4⟩
        have hrd4 := Lib.hid (hrd.out.kept (grown_below hb4) (fun e => by cases e))
        have HA4 := Lib.hid (HA.out.keep (hb4.block _ HA.out.lt))
        have HXT4 := Lib.hid (HXT.out.below' hb4)
        have HXU4 := Lib.hid (HXU.out.below' hb4)
        replace hbel := Lib.hid (hbel.out.trans (hb4.mono hbel.out.size))
        clear hb4 e0 e1 e2 e3 e4 HA HXT HXU hrd
        obtain ⟨e0, e1, e2, e3, e4⟩ := HA4.out
        unfold intV at e0 e1
        unfold strV at e2
        go_wp2_with fail
        go_region_with (first | (go_at_call 29; refine (nums_is HP.out (show (rem xs bh k).length ≤ 1000000000000 by have := HLE.out; omega) hrd4.out.drew).mono ?_; rintro e w5 ⟨v1, rfl, hv1, hv1f, h5, g5⟩; have HA5 := Lib.hid (HA4.out.keep (g5.block _ (show _ < w4.drew.heap.size from HA4.out.lt) (HNE.out 0).1)); obtain ⟨f0, f1, f2, f3, f4⟩ := HA5.out; unfold intV at f0 f1; unfold strV at f2) | (go_at_call 28; refine (sameI_is hv1 (HX.out.2.below' (hbel.out.drew.grown g5 (show w.heap.size ≤ w4.drew.heap.size from hbel.out.size) (fun k hk => by cases hk; exact hlo.out))) (by have := HK.out.some; omega) (f := true) (by simp)).mono ?_; rintro e w6 ⟨rfl, g6⟩))
        all_goals
          replace hbel := Lib.hid (hbel.out.drew.grown g5 (show w.heap.size ≤ w4.drew.heap.size from hbel.out.size) (fun k hk => by cases hk; exact hlo.out))
          replace hbel := Lib.hid (hbel.out.grown g6 hbel.out.size (fun k hk => by cases hk))
          have h6 := Lib.hid (h5.kept g6 (fun e => by cases e))
          go_wp2_with fail
          go_roundw
          case rel => exact ⟨k + 1, by omega, by go_num, h6, hbel⟩
          case measure => simp [intOf]; omega
    · obtain rfl : k = n := by omega
      have HEN : Hid (rem xs bh k = bh) := by have := rem_end xs bh; rw [HN.out] at this; exact this
      rw [HEN.out] at hrd
      go_wp2_with fail
      refine (left_is (n := bh.length) rfl hrd.out).mono ?_
      rintro e w4 ⟨rfl, rfl⟩
      go_wp2_with fail
      refine (done_is (f := bh.isEmpty) (by simp [doneP]) hrd.out).mono ?_
      rintro e w4 ⟨rfl, rfl⟩
      go_wp2_with fail
      refine (take_is (t := bh) (s' := ([], false)) (by have := takeP_enc bh [] false; rw [List.append_nil] at this; exact this) hrd.out).mono ?_
      rintro e w5 ⟨rfl, h5, g5⟩
      go_wp2_with fail
      refine (done_is (f := true) rfl h5).mono ?_
      rintro e w6 ⟨rfl, rfl⟩
      go_wp2_with fail
      go_ret
      exact ⟨rfl, hbel.out.grown g5 hbel.out.size (fun k hk => by cases hk; exact hlo.out)⟩
end Go.Proofs.Ytbaddpkeaealpaa
