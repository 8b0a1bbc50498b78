/- The law CodeCut: its walk. -/
import Derived.Test.YtbaddpkeaealpaaBack
namespace Go.Proofs.Ytbaddpkeaealpaa
open Go.ChangeShapes Go.WideShapes Go.ChangeAt Go.RowKit

theorem at_new (w : World) (x : V) : At (w.alloc (.cells #[.int .i64 x.kind, .int .i64 x.n, .string ⟨x.text.toArray⟩, x.tv, x.uv] 47)) ⟨w.heap.size, 0, none⟩ x :=
  ⟨World.cell?_alloc_mark w _ 47 (0, 0) 0, World.cell?_alloc_mark w _ 47 (0, 0) 1, World.cell?_alloc_mark w _ 47 (0, 0) 2, World.cell?_alloc_mark w _ 47 (0, 0) 3, World.cell?_alloc_mark w _ 47 (0, 0) 4⟩
theorem values_one {w : World} {x : V} (h : Has strV w x.tv x.texts ∧ Has intV w x.uv x.nums) : HasVs (w.alloc (.cells #[.int .i64 x.kind, .int .i64 x.n, .string ⟨x.text.toArray⟩, x.tv, x.uv] 47)) (.slice (some ⟨w.heap.size, 0, none⟩) 1 1) [x] := by
  have hb : Below w.heap.size w (w.alloc (.cells #[.int .i64 x.kind, .int .i64 x.n, .string ⟨x.text.toArray⟩, x.tv, x.uv] 47)) := (Below.refl _ _).alloc (Nat.le_refl _) _
  refine ⟨Or.inr ⟨_, _, rfl, fun j hj => ?_⟩, fun y hy => ?_⟩
  · obtain rfl : j = 0 := by simpa using hj
    exact at_new w x
  · obtain rfl : y = x := by simpa using hy
    exact ⟨h.1.below' hb, h.2.below' hb⟩
/-- What the first call of the law on a cut encoding leaves: the flag. -/
theorem num_bad {n m : Nat} (h : m < (varL n).length) : (numP ((varL n).take m, false)) = (0, bad) := numP_cut h
theorem nextbad : numP bad = (0, bad) := by decide

set_option maxRecDepth 100000 in
set_option maxHeartbeats 1600000 in
theorem cut_any (x : V) (m : Int) {w : World} (hx : Has strV w x.tv x.texts ∧ Has intV w x.uv x.nums) (hs : SizeV x) (hok : OkV x) (hfine : goodV x = true → Fine x) (htot : (encV x).length ≤ 1000000000000) :
    Calls Try.prog 7 #[valV x, .int .i64 m] w fun e w' => e = .returned (.bool true) ∧ Below w.heap.size w w' := by
  have hs1 : ∀ y ∈ [x], SizeV y := by intro y hy; rw [List.mem_singleton] at hy; rw [hy]; exact hs
  have ho1 : ∀ y ∈ [x], OkV y := by intro y hy; rw [List.mem_singleton] at hy; rw [hy]; exact hok
  have HV : Hid (∀ (W : World) (b : Nat), W.heap.size = b → Below w.heap.size w W → Calls Try.prog 37 #[.slice (some ⟨b, 0, none⟩) 1 1] (W.alloc (.cells #[.int .i64 x.kind, .int .i64 x.n, .string ⟨x.text.toArray⟩, x.tv, x.uv] 47)) fun e w' => e = .returned (.bool (validP [x])) ∧ W.alloc (.cells #[.int .i64 x.kind, .int .i64 x.n, .string ⟨x.text.toArray⟩, x.tv, x.uv] 47) = w') := by
    intro W b hb hW
    subst hb
    exact valid_any (values_one (w := W) ⟨hx.1.below' hW, hx.2.below' hW⟩) hs1 (by simp)
  have HE : Hid (∀ (W : World) (b : Nat), W.heap.size = b → Below w.heap.size w W → Calls Try.prog 38 #[.slice (some ⟨b, 0, none⟩) 1 1] (W.alloc (.cells #[.int .i64 x.kind, .int .i64 x.n, .string ⟨x.text.toArray⟩, x.tv, x.uv] 47)) fun e w' => e = .returned (.string ⟨([x].flatMap encV).toArray⟩) ∧ Below (W.alloc (.cells #[.int .i64 x.kind, .int .i64 x.n, .string ⟨x.text.toArray⟩, x.tv, x.uv] 47)).heap.size (W.alloc (.cells #[.int .i64 x.kind, .int .i64 x.n, .string ⟨x.text.toArray⟩, x.tv, x.uv] 47)) w') := by
    intro W b hb hW
    subst hb
    exact encoded_any (values_one (w := W) ⟨hx.1.below' hW, hx.2.below' hW⟩) ho1 (by simp) (by simp; omega)
  have hflat : [x].flatMap encV = encV x := by simp
  rw [hflat] at HE
  have HB := Lib.hid (hfine)
  obtain ⟨X, hX⟩ : ∃ X : ByteArray, X = ⟨(encV x).toArray⟩ := ⟨_, rfl⟩
  have hXs : X.size = (encV x).length := by rw [hX, bytes_size]
  have hXb : X.size ≤ 1000000000000 := by omega
  rw [← hX] at HE
  have HX := Lib.hid hX
  have HXS := Lib.hid hXs
  have HSM := Lib.hid (fun W => small_any W)
  clear hX hXs hflat hs1 ho1 hx hs hok hfine htot
  obtain ⟨ok, hok⟩ : ∃ b, validP [x] = b := ⟨_, rfl⟩
  rw [hok] at HV
  have HOK := Lib.hid hok
  clear hok
  unfold valV intV strV
  go_enter Try.func7, Try.ntmps7
  go_wp2_with fail
  have hat := Lib.hid (at_new w x)
  have hb0 := Lib.hid ((Below.refl w.heap.size w).alloc (Nat.le_refl _) (.cells #[.int .i64 x.kind, .int .i64 x.n, .string ⟨x.text.toArray⟩, x.tv, x.uv] 47))
  refine (HSM.out _).mono ?_
  rintro e w1 ⟨rfl, hb⟩
  replace hat := Lib.hid (hat.out.keep (hb.block _ hat.out.lt))
  replace hb0 := Lib.hid (hb0.out.trans (hb.mono hb0.out.size)); clear hb
  obtain ⟨d0, d1, d2, d3, d4⟩ := hat.out
  unfold intV at d0 d1
  unfold strV at d2
  go_wp2_with fail
  refine (HV.out w1 _ rfl hb0.out).mono ?_
  rintro e w2 ⟨rfl, rfl⟩
  replace hat := Lib.hid (hat.out.keep (Below.heap_alloc w1 (.cells #[.int .i64 x.kind, .int .i64 x.n, .string ⟨x.text.toArray⟩, x.tv, x.uv] 47) _ hat.out.lt))
  replace hb0 := Lib.hid (hb0.out.alloc hb0.out.size (.cells #[.int .i64 x.kind, .int .i64 x.n, .string ⟨x.text.toArray⟩, x.tv, x.uv] 47))
  clear d0 d1 d2 d3 d4
  obtain ⟨d0, d1, d2, d3, d4⟩ := hat.out
  unfold intV at d0 d1
  unfold strV at d2
  go_wp2_with fail
  refine (HE.out _ _ (by simp) hb0.out).mono ?_
  rintro e w3 ⟨rfl, hb3⟩
  replace hat := Lib.hid ((hat.out.keep (Below.heap_alloc _ (.cells #[.int .i64 x.kind, .int .i64 x.n, .string ⟨x.text.toArray⟩, x.tv, x.uv] 47) _ hat.out.lt)).keep (hb3.block _ (by have := hat.out.lt; simp; simp at this; omega)))
  replace hb0 := Lib.hid ((hb0.out.alloc hb0.out.size (.cells #[.int .i64 x.kind, .int .i64 x.n, .string ⟨x.text.toArray⟩, x.tv, x.uv] 47)).trans (hb3.mono (by have := hb0.out.size; simp; simp at this; omega)))
  clear d0 d1 d2 d3 d4 hb3
  obtain ⟨d0, d1, d2, d3, d4⟩ := hat.out
  unfold intV at d0 d1
  unfold strV at d2
  cases ok with
  | false =>
    go_wp2_with fail
    go_ret
    exact ⟨rfl, hb0.out⟩
  | true =>
    rcases (show m < 0 ∨ (0 ≤ m ∧ (X.size : Int) ≤ m) ∨ (0 ≤ m ∧ m < (X.size : Int)) by omega) with hm | ⟨hm, hm2⟩ | ⟨hm, hm2⟩
    · go_wp2_with fail
      go_ret
      exact ⟨rfl, hb0.out⟩
    · go_wp2_with fail
      go_ret
      exact ⟨rfl, hb0.out⟩
    · obtain ⟨k, rfl⟩ : ∃ k : Nat, m = k := ⟨m.toNat, by omega⟩
      have hkX : k < X.size := by omega
      have hg : goodV x = true := (valid_is HOK.out).2 x (by simp)
      have HFN := Lib.hid (HB.out hg)
      clear hg
      go_wp2_with fail
      refine (open_any _ _).mono ?_
      rintro e w4 ⟨rfl, hr, g⟩
      have hr : Rd 57 w4 w3.heap.size ((encV x).take k, false) := by
        have e1 : (X.extract 0 k).data.toList = (encV x).take k := by rw [ext, HX.out]; simp
        rw [e1] at hr; exact hr
      have hrd := Lib.hid hr
      have hlo : Hid (w.heap.size ≤ w3.heap.size) := hb0.out.size
      have hbx : Hid (w.heap.size ≠ w3.heap.size) := fun e => by have := hat.out.lt; simp at this; omega
      replace hat := Lib.hid (hat.out.keep (g.block _ hat.out.lt (fun e => by cases e)))
      replace hb0 := Lib.hid (hb0.out.grown g hb0.out.size (fun k h => by cases h))
      clear d0 d1 d2 d3 d4 hr g
      obtain ⟨r, hr⟩ : ∃ r, w3.heap.size = r := ⟨_, rfl⟩
      rw [hr] at hrd hlo hbx ⊢
      clear hr
      obtain ⟨d0, d1, d2, d3, d4⟩ := hat.out
      unfold intV at d0 d1
      unfold strV at d2
      have HKX : Hid (k < (encV x).length) := by have := HXS.out; show k < _; omega
      have hlen : Hid (((encV x).take k).length ≤ 1000000000000) := by show _ ≤ _; rw [List.length_take]; have := HXS.out; omega
      rcases kindP_four x with hk0 | hk0 | hk0 | hk0
      · have HEV : Hid (encV x = varI x.n) := by show _ = _; simp [encV, hk0]
        have HKD := Lib.hid (fun W => kind_is hk0 W)
        clear hk0
        rw [HEV.out] at hrd HKX hlen
        have HBD : Hid ((numP ((varI x.n).take k, false)).2 = bad) := by
          show _ = _
          have h := HFN.out.n; have h2 := HKX.out; obtain ⟨z, hz⟩ : ∃ z : Nat, x.n = z := ⟨x.n.toNat, by omega⟩; rw [hz, varI_nat] at h2 ⊢; rw [numP_cut h2]
        unfold valV intV strV at HKD
        go_wp2_with fail
        refine (HKD.out _).mono ?_
        rintro e w5 ⟨rfl, hb5⟩
        replace hrd := Lib.hid (hrd.out.kept (grown_below hb5) (fun e => by cases e))
        replace hb0 := Lib.hid (hb0.out.trans (hb5.mono hb0.out.size)); clear hb5 d0 d1 d2 d3 d4
        go_wp2_with fail
        refine (num_any hrd.out).mono ?_
        rintro e w6 ⟨rfl, h6, g6⟩
        rw [HBD.out] at h6
        have h6 := Lib.hid h6
        replace hb0 := Lib.hid (hb0.out.grown g6 hb0.out.size (fun k h => by cases h; exact hlo.out)); clear g6
        go_wp2_with fail
        refine (num_is nextbad h6.out).mono ?_
        rintro e w7 ⟨rfl, h7, g7⟩
        replace hb0 := Lib.hid (hb0.out.grown g7 hb0.out.size (fun k h => by cases h; exact hlo.out)); clear g7
        have h7 := Lib.hid h7
        go_wp2_with fail
        refine (done_is (f := false) rfl h7.out).mono ?_
        rintro e w8 ⟨rfl, rfl⟩
        go_wp2_with fail
        refine (left_is (n := 0) rfl h7.out).mono ?_
        rintro e w8 ⟨rfl, rfl⟩
        go_wp2_with fail
        go_ret
        exact ⟨rfl, hb0.out⟩
      · have HEV : Hid (encV x = textL x.text) := by show _ = _; simp [encV, hk0]
        have HKD := Lib.hid (fun W => kind_is hk0 W)
        clear hk0
        rw [HEV.out] at hrd HKX hlen
        have HBD : Hid ((textP ((textL x.text).take k, false)).2 = bad) := by
          show _ = _
          rw [textP_cut HFN.out.text k HKX.out]
        unfold valV intV strV at HKD
        go_wp2_with fail
        refine (HKD.out _).mono ?_
        rintro e w5 ⟨rfl, hb5⟩
        replace hrd := Lib.hid (hrd.out.kept (grown_below hb5) (fun e => by cases e))
        replace hb0 := Lib.hid (hb0.out.trans (hb5.mono hb0.out.size)); clear hb5 d0 d1 d2 d3 d4
        go_wp2_with fail
        refine (text_any hrd.out).mono ?_
        rintro e w6 ⟨rfl, h6, g6⟩
        rw [HBD.out] at h6
        have h6 := Lib.hid h6
        replace hb0 := Lib.hid (hb0.out.grown g6 hb0.out.size (fun k h => by cases h; exact hlo.out)); clear g6
        go_wp2_with fail
        refine (num_is nextbad h6.out).mono ?_
        rintro e w7 ⟨rfl, h7, g7⟩
        replace hb0 := Lib.hid (hb0.out.grown g7 hb0.out.size (fun k h => by cases h; exact hlo.out)); clear g7
        have h7 := Lib.hid h7
        go_wp2_with fail
        refine (done_is (f := false) rfl h7.out).mono ?_
        rintro e w8 ⟨rfl, rfl⟩
        go_wp2_with fail
        refine (left_is (n := 0) rfl h7.out).mono ?_
        rintro e w8 ⟨rfl, rfl⟩
        go_wp2_with fail
        go_ret
        exact ⟨rfl, hb0.out⟩
      · have HEV : Hid (encV x = listL x.texts) := by show _ = _; simp [encV, hk0]
        have HKD := Lib.hid (fun W => kind_is hk0 W)
        clear hk0
        rw [HEV.out] at hrd HKX hlen
        have HBD : Hid ((allP textP ((listL x.texts).take k, false)).2 = bad) := by
          show _ = _
          exact listP_cut x.texts HFN.out.texts (by have := HFN.out.many; omega) HKX.out
        unfold valV intV strV at HKD
        go_wp2_with fail
        refine (HKD.out _).mono ?_
        rintro e w5 ⟨rfl, hb5⟩
        replace hrd := Lib.hid (hrd.out.kept (grown_below hb5) (fun e => by cases e))
        replace hb0 := Lib.hid (hb0.out.trans (hb5.mono hb0.out.size)); clear hb5 d0 d1 d2 d3 d4
        go_wp2_with fail
        refine (declist_any hrd.out hlen.out).mono ?_
        rintro e w6 ⟨v6, rfl, _, _, h6, g6⟩
        rw [HBD.out] at h6
        have h6 := Lib.hid h6
        replace hb0 := Lib.hid (hb0.out.grown g6 hb0.out.size (fun k h => by cases h; exact hlo.out)); clear g6
        go_wp2_with fail
        refine (num_is nextbad h6.out).mono ?_
        rintro e w7 ⟨rfl, h7, g7⟩
        replace hb0 := Lib.hid (hb0.out.grown g7 hb0.out.size (fun k h => by cases h; exact hlo.out)); clear g7
        have h7 := Lib.hid h7
        go_wp2_with fail
        refine (done_is (f := false) rfl h7.out).mono ?_
        rintro e w8 ⟨rfl, rfl⟩
        go_wp2_with fail
        refine (left_is (n := 0) rfl h7.out).mono ?_
        rintro e w8 ⟨rfl, rfl⟩
        go_wp2_with fail
        go_ret
        exact ⟨rfl, hb0.out⟩
      · have HEV : Hid (encV x = numsL x.nums) := by show _ = _; simp [encV, hk0]
        have HKD := Lib.hid (fun W => kind_is hk0 W)
        clear hk0
        rw [HEV.out] at hrd HKX hlen
        have HBD : Hid ((allP intP ((numsL x.nums).take k, false)).2 = bad) := by
          show _ = _
          exact numsP_cut x.nums HFN.out.nums (by have := HFN.out.some; omega) HKX.out
        unfold valV intV strV at HKD
        go_wp2_with fail
        refine (HKD.out _).mono ?_
        rintro e w5 ⟨rfl, hb5⟩
        replace hrd := Lib.hid (hrd.out.kept (grown_below hb5) (fun e => by cases e))
        replace hb0 := Lib.hid (hb0.out.trans (hb5.mono hb0.out.size)); clear hb5 d0 d1 d2 d3 d4
        go_wp2_with fail
        refine (decnums_any hrd.out hlen.out).mono ?_
        rintro e w6 ⟨v6, rfl, _, _, h6, g6⟩
        rw [HBD.out] at h6
        have h6 := Lib.hid h6
        replace hb0 := Lib.hid (hb0.out.grown g6 hb0.out.size (fun k h => by cases h; exact hlo.out)); clear g6
        go_wp2_with fail
        refine (num_is nextbad h6.out).mono ?_
        rintro e w7 ⟨rfl, h7, g7⟩
        replace hb0 := Lib.hid (hb0.out.grown g7 hb0.out.size (fun k h => by cases h; exact hlo.out)); clear g7
        have h7 := Lib.hid h7
        go_wp2_with fail
        refine (done_is (f := false) rfl h7.out).mono ?_
        rintro e w8 ⟨rfl, rfl⟩
        go_wp2_with fail
        refine (left_is (n := 0) rfl h7.out).mono ?_
        rintro e w8 ⟨rfl, rfl⟩
        go_wp2_with fail
        go_ret
        exact ⟨rfl, hb0.out⟩
end Go.Proofs.Ytbaddpkeaealpaa
