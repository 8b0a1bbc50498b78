/- SumTells: the checksum, the digest, Hex, Read and Less are the reference's. -/
import Derived.Test.YtddcephegpmbbaaDoorOrder
import Derived.Test.YtddcephegpmbbaaDoorGoes
import Derived.Test.YtddcephegpmbbaaDoorRefR
import Derived.Test.YtddcephegpmbbaaDoorRefS
namespace Go.Proofs.YtddcephegpmbbaaDoor
open Go.ChangeShapes Go.WideShapes Go.ChangeAt Go.RowKit

theorem OrS.start2 {W : World} (hv : Vars W) (a b : List UInt8) : OrS W [(W.heap.size + 1, b), (W.heap.size, a)] ((W.alloc (.cells (cellsOf a).toArray 23)).alloc (.cells (cellsOf b).toArray 23)) := by
  have h := OrS.new (OrS.new (OrS.start hv) a) b
  have e1 : (W.alloc (.cells (cellsOf a).toArray 23)).heap.size = W.heap.size + 1 := by simp
  rw [e1] at h
  exact h
theorem keep_S {f : FuncId} {args : Array Value} {v : Value} {W w : World} {rows : List (Nat × List UInt8)} (h : OrS W rows w) (hc : Calls Tryd.prog f args w fun e w' => e = .returned v ∧ Below w.heap.size w w') :
    Calls Tryd.prog f args w fun e w' => e = .returned v ∧ OrS W rows w' :=
  hc.mono (by rintro e w' ⟨rfl, hb⟩; exact ⟨rfl, h.below hb⟩)
theorem same_S {f : FuncId} {args : Array Value} {v : Value} {W w : World} {rows : List (Nat × List UInt8)} (h : OrS W rows w) (hc : Calls Tryd.prog f args w fun e w' => e = .returned v ∧ w = w') :
    Calls Tryd.prog f args w fun e w' => e = .returned v ∧ OrS W rows w' :=
  hc.mono (by rintro e w' ⟨rfl, rfl⟩; exact ⟨rfl, h⟩)
theorem sha_len (l : List UInt8) : (shaL l).length = 32 := out_len _

set_option maxRecDepth 100000 in
set_option maxHeartbeats 3200000 in
theorem tells_any (s t : ByteArray) (a b : List UInt8) (ha : a.length = 32) (hb : b.length = 32) (hs : s.size ≤ 140737488351232) (ht : t.size ≤ 140737488351232) (w : World) (hv : Vars w) :
    Calls Tryd.prog 3 #[.string s, .string t, .agg (cellsOf a).toArray, .agg (cellsOf b).toArray] w fun e w' => e = .returned (.bool true) ∧ Below w.heap.size w w' := by
  have hS0 := Lib.hid (OrS.start2 hv a b)
  clear hv
  by_cases hle : s.size ≤ 100000
  · obtain ⟨hA, eA⟩ : ∃ x : ByteArray, ⟨(hexL a).toArray⟩ = x := ⟨_, rfl⟩
    obtain ⟨d, hd⟩ : ∃ x, readL t.data.toList = x := ⟨_, rfl⟩
    obtain ⟨ok, hok⟩ : ∃ x, readOk t.data.toList = x := ⟨_, rfl⟩
    obtain ⟨lab, hlab⟩ : ∃ x, lessL a b = x := ⟨_, rfl⟩
    obtain ⟨c, hc⟩ : ∃ x, crcL (nats s.data.toList) = x := ⟨_, rfl⟩
    obtain ⟨m, hm⟩ : ∃ x, shaL s.data.toList = x := ⟨_, rfl⟩
    have hdl : d.length = 32 := by rw [← hd]; exact read_len _
    have hml : m.length = 32 := by rw [← hm]; exact sha_len _
    have K8 : Hid (∀ rows u, OrS w rows u → Calls Tryd.prog 8 #[.string t] u fun e w' => e = .returned (.tuple #[.agg (cellsOf d).toArray, .bool ok]) ∧ OrS w rows w') := by
      subst hd
      subst hok
      exact fun rows u h => keep_S h (read_any t ht u)
    have K9 : Hid (∀ rows u, OrS w rows u → Calls Tryd.prog 9 #[.string t] u fun e w' => e = .returned (.tuple #[.agg (cellsOf d).toArray, .bool ok]) ∧ OrS w rows w') := by
      subst hd
      subst hok
      exact fun rows u h => keep_S h (readR_any t (by omega) u)
    have K10 : Hid (∀ rows u, OrS w rows u → Calls Tryd.prog 10 #[.string s] u fun e w' => e = .returned (.int .u32 (c : Int)) ∧ OrS w rows w') := by
      subst hc
      exact fun rows u h => same_S h (crc_any s (by omega) u)
    have K11 : Hid (∀ rows u, OrS w rows u → Calls Tryd.prog 11 #[.string s] u fun e w' => e = .returned (.int .u32 (c : Int)) ∧ OrS w rows w') := by
      subst hc
      exact fun rows u h => same_S h (crcR_any s (by omega) u)
    have K12 : Hid (∀ rows u, OrS w rows u → Calls Tryd.prog 12 #[.string s] u fun e w' => e = .returned (.agg (cellsOf m).toArray) ∧ OrS w rows w') := by
      subst hm
      exact fun rows u h => keep_S h (sha_any s (by omega) u h.var)
    have K13 : Hid (∀ rows u, OrS w rows u → Calls Tryd.prog 13 #[.string s] u fun e w' => e = .returned (.agg (cellsOf m).toArray) ∧ OrS w rows w') := by
      subst hm
      exact fun rows u h => keep_S h (shaR_any s hle u)
    have K14 : Hid (∀ rows u, OrS w rows u → Calls Tryd.prog 14 #[.agg (cellsOf a).toArray] u fun e w' => e = .returned (.string hA) ∧ OrS w rows w') := by
      subst eA
      exact fun rows u h => keep_S h (hexD_any a ha u)
    have K15 : Hid (∀ rows u, OrS w rows u → Calls Tryd.prog 15 #[.agg (cellsOf a).toArray] u fun e w' => e = .returned (.string hA) ∧ OrS w rows w') := by
      subst eA
      exact fun rows u h => keep_S h (hexR_any a ha u)
    have K16 : Hid (∀ rows u, OrS w rows u → Calls Tryd.prog 16 #[.agg (cellsOf a).toArray, .agg (cellsOf b).toArray] u fun e w' => e = .returned (.bool lab) ∧ OrS w rows w') := by
      subst hlab
      exact fun rows u h => keep_S h (less_any a b ha hb u)
    have K17 : Hid (∀ rows u, OrS w rows u → Calls Tryd.prog 17 #[.agg (cellsOf a).toArray, .agg (cellsOf b).toArray] u fun e w' => e = .returned (.bool lab) ∧ OrS w rows w') := by
      subst hlab
      exact fun rows u h => keep_S h (lessR_any a b ha hb u)
    clear hd hok hlab hc hm eA
    have heqm := fun w => run_same m m hml hml w
    have heqd := fun w => run_same d d hdl hdl w
    simp only [decide_true] at heqm heqd
    have YA := Lib.hid (info23_list ha)
    have YB := Lib.hid (info23_list hb)
    have YD := Lib.hid (info23_list hdl)
    have ZD := Lib.hid (cells_size hdl)
    have HD := Lib.hid hdl
    clear hdl hml ha hb hs ht
    go_enter Tryd.func3, Tryd.ntmps3
    go_wp2_with fail
    refine (small_any _ hS0.out.var).mono ?_
    rintro r w1 ⟨rfl, hb1⟩
    have hS1 := OrS.below hS0.out hb1
    clear hb1 hS0
    go_wp2_with fail
    refine (K8.out _ _ (by assumption)).mono ?_
    rintro r w3 ⟨rfl, hS3⟩
    clear hS1
    have hS4 := OrS.new hS3 d
    go_upto_region 5 with (refine wpList_store_row rfl 23 _ _ rfl w3.heap.size (cellsOf d).toArray rfl rfl 23 _ (heap_alloc_new _ _) ZD.out (size32 HD.out) (cells_one _) ?_)
    rw [World.setRow_alloc_new]
    obtain ⟨D, hD⟩ : ∃ D, w3.heap.size = D := ⟨_, rfl⟩
    obtain ⟨w4, hw4⟩ : ∃ w4, w3.alloc (.cells (cellsOf d).toArray 23) = w4 := ⟨_, rfl⟩
    rw [hw4, hD] at hS4
    rw [hw4, hD]
    clear hw4 hD hS3
    go_wp2_with fail
    refine (K9.out _ _ (by assumption)).mono ?_
    rintro r w5 ⟨rfl, hS5⟩
    clear hS4
    have hS6 := OrS.new hS5 d
    go_upto_region 6 with (refine wpList_store_row rfl 23 _ _ rfl w5.heap.size (cellsOf d).toArray rfl rfl 23 _ (heap_alloc_new _ _) ZD.out (size32 HD.out) (cells_one _) ?_)
    rw [World.setRow_alloc_new]
    obtain ⟨E, hEq⟩ : ∃ E, w5.heap.size = E := ⟨_, rfl⟩
    obtain ⟨w6, hw6⟩ : ∃ w6, w5.alloc (.cells (cellsOf d).toArray 23) = w6 := ⟨_, rfl⟩
    rw [hw6, hEq] at hS6
    rw [hw6, hEq]
    clear hw6 hEq hS5
    refine wp_region_noPanic ?_
    refine wp_region_held_drew (S := OrS w [(E, d), (D, d), (w.heap.size + 1, b), (w.heap.size, a)]) (by kernel_rfl) (OrS.drew hS6) (fun hS => ?_)
    refine held_take (i := 0) (.bool true) rfl (by kernel_rfl) (by kernel_rfl) (by kernel_rfl) (by rfl) (fun w hSw => by go_simp) (by assumption) ?_
    simp only [Act.put, List.setIfInBounds_toArray, List.set_cons_zero, List.set_cons_succ]
    refine held_take (i := 1) (.bool true) rfl (by kernel_rfl) (by kernel_rfl) (by kernel_rfl) (by rfl) (fun w hSw => by go_simp) (by assumption) ?_
    simp only [Act.put, List.setIfInBounds_toArray, List.set_cons_zero, List.set_cons_succ]
    refine held_take (i := 2) (.string s) rfl (by kernel_rfl) (by kernel_rfl) (by kernel_rfl) (by rfl) (fun w hSw => by go_simp) (by assumption) ?_
    simp only [Act.put, List.setIfInBounds_toArray, List.set_cons_zero, List.set_cons_succ]
    refine held_take (i := 4) (.string s) rfl (by kernel_rfl) (by kernel_rfl) (by kernel_rfl) (by rfl) (fun w hSw => by go_simp) (by assumption) ?_
    simp only [Act.put, List.setIfInBounds_toArray, List.set_cons_zero, List.set_cons_succ]
    refine held_step (i := 3) (.int .u32 (c : Int)) rfl (by kernel_rfl) (by rfl) (fun K hK => ?_) (fun w' hS => ?_)
    · go_simp
      refine (K10.out _ _ (by assumption)).mono ?_
      rintro e w2 ⟨rfl, hS2⟩
      exact hK _ hS2
    simp only [Act.put, List.setIfInBounds_toArray, List.set_cons_zero, List.set_cons_succ]
    refine held_step (i := 5) (.int .u32 (c : Int)) rfl (by kernel_rfl) (by rfl) (fun K hK => ?_) (fun w' hS => ?_)
    · go_simp
      refine (K11.out _ _ (by assumption)).mono ?_
      rintro e w2 ⟨rfl, hS2⟩
      exact hK _ hS2
    simp only [Act.put, List.setIfInBounds_toArray, List.set_cons_zero, List.set_cons_succ]
    refine held_take (i := 6) (.bool true) rfl (by kernel_rfl) (by kernel_rfl) (by kernel_rfl) (by rfl) (fun w hSw => by go_simp) (by assumption) ?_
    simp only [Act.put, List.setIfInBounds_toArray, List.set_cons_zero, List.set_cons_succ]
    refine held_take (i := 7) (.bool true) rfl (by kernel_rfl) (by kernel_rfl) (by kernel_rfl) (by rfl) (fun w hSw => by go_simp) (by assumption) ?_
    simp only [Act.put, List.setIfInBounds_toArray, List.set_cons_zero, List.set_cons_succ]
    refine held_take (i := 8) (.bool true) rfl (by kernel_rfl) (by kernel_rfl) (by kernel_rfl) (by rfl) (fun w hSw => by go_simp) (by assumption) ?_
    simp only [Act.put, List.setIfInBounds_toArray, List.set_cons_zero, List.set_cons_succ]
    refine held_take (i := 9) (.string s) rfl (by kernel_rfl) (by kernel_rfl) (by kernel_rfl) (by rfl) (fun w hSw => by go_simp) (by assumption) ?_
    simp only [Act.put, List.setIfInBounds_toArray, List.set_cons_zero, List.set_cons_succ]
    refine held_take (i := 11) (.string s) rfl (by kernel_rfl) (by kernel_rfl) (by kernel_rfl) (by rfl) (fun w hSw => by go_simp) (by assumption) ?_
    simp only [Act.put, List.setIfInBounds_toArray, List.set_cons_zero, List.set_cons_succ]
    refine held_step (i := 10) (.agg (cellsOf m).toArray) rfl (by kernel_rfl) (by rfl) (fun K hK => ?_) (fun w' hS => ?_)
    · go_simp
      refine (K12.out _ _ (by assumption)).mono ?_
      rintro e w2 ⟨rfl, hS2⟩
      exact hK _ hS2
    simp only [Act.put, List.setIfInBounds_toArray, List.set_cons_zero, List.set_cons_succ]
    refine held_step (i := 12) (.agg (cellsOf m).toArray) rfl (by kernel_rfl) (by rfl) (fun K hK => ?_) (fun w' hS => ?_)
    · go_simp
      refine (K13.out _ _ (by assumption)).mono ?_
      rintro e w2 ⟨rfl, hS2⟩
      exact hK _ hS2
    simp only [Act.put, List.setIfInBounds_toArray, List.set_cons_zero, List.set_cons_succ]
    refine held_take (i := 13) (.bool true) rfl (by kernel_rfl) (by kernel_rfl) (by kernel_rfl) (by rfl) (fun w hSw => by go_simp) (by assumption) ?_
    simp only [Act.put, List.setIfInBounds_toArray, List.set_cons_zero, List.set_cons_succ]
    refine held_take (i := 14) (.bool true) rfl (by kernel_rfl) (by kernel_rfl) (by kernel_rfl) (by rfl) (fun w hSw => by go_simp) (by assumption) ?_
    simp only [Act.put, List.setIfInBounds_toArray, List.set_cons_zero, List.set_cons_succ]
    refine held_take (i := 15) (.bool true) rfl (by kernel_rfl) (by kernel_rfl) (by kernel_rfl) (by rfl) (fun w hSw => by go_simp) (by assumption) ?_
    simp only [Act.put, List.setIfInBounds_toArray, List.set_cons_zero, List.set_cons_succ]
    refine held_load (i := 16) w.heap.size (cellsOf a) rfl (by kernel_rfl) (by kernel_rfl) (by kernel_rfl) (by rfl) rfl rfl Tryd.underlying23 rfl YA.out (fun _ h => range_of_row (h.row (w.heap.size, a) (by simp))) (by assumption) ?_
    simp only [Act.put, List.setIfInBounds_toArray, List.set_cons_zero, List.set_cons_succ]
    refine held_load (i := 18) w.heap.size (cellsOf a) rfl (by kernel_rfl) (by kernel_rfl) (by kernel_rfl) (by rfl) rfl rfl Tryd.underlying23 rfl YA.out (fun _ h => range_of_row (h.row (w.heap.size, a) (by simp))) (by assumption) ?_
    simp only [Act.put, List.setIfInBounds_toArray, List.set_cons_zero, List.set_cons_succ]
    refine held_step (i := 17) (.string hA) rfl (by kernel_rfl) (by rfl) (fun K hK => ?_) (fun w' hS => ?_)
    · go_simp
      refine (K14.out _ _ (by assumption)).mono ?_
      rintro e w2 ⟨rfl, hS2⟩
      exact hK _ hS2
    simp only [Act.put, List.setIfInBounds_toArray, List.set_cons_zero, List.set_cons_succ]
    refine held_step (i := 19) (.string hA) rfl (by kernel_rfl) (by rfl) (fun K hK => ?_) (fun w' hS => ?_)
    · go_simp
      refine (K15.out _ _ (by assumption)).mono ?_
      rintro e w2 ⟨rfl, hS2⟩
      exact hK _ hS2
    simp only [Act.put, List.setIfInBounds_toArray, List.set_cons_zero, List.set_cons_succ]
    refine held_take (i := 20) (.bool true) rfl (by kernel_rfl) (by kernel_rfl) (by kernel_rfl) (by rfl) (fun w hSw => by go_simp) (by assumption) ?_
    simp only [Act.put, List.setIfInBounds_toArray, List.set_cons_zero, List.set_cons_succ]
    refine held_take (i := 21) (.bool true) rfl (by kernel_rfl) (by kernel_rfl) (by kernel_rfl) (by rfl) (fun w hSw => by go_simp) (by assumption) ?_
    simp only [Act.put, List.setIfInBounds_toArray, List.set_cons_zero, List.set_cons_succ]
    refine held_take (i := 22) (.bool true) rfl (by kernel_rfl) (by kernel_rfl) (by kernel_rfl) (by rfl) (fun w hSw => by go_simp) (by assumption) ?_
    simp only [Act.put, List.setIfInBounds_toArray, List.set_cons_zero, List.set_cons_succ]
    refine held_load (i := 23) D (cellsOf d) rfl (by kernel_rfl) (by kernel_rfl) (by kernel_rfl) (by rfl) rfl rfl Tryd.underlying23 rfl YD.out (fun _ h => range_of_row (h.row (D, d) (by simp))) (by assumption) ?_
    simp only [Act.put, List.setIfInBounds_toArray, List.set_cons_zero, List.set_cons_succ]
    refine held_load (i := 24) E (cellsOf d) rfl (by kernel_rfl) (by kernel_rfl) (by kernel_rfl) (by rfl) rfl rfl Tryd.underlying23 rfl YD.out (fun _ h => range_of_row (h.row (E, d) (by simp))) (by assumption) ?_
    simp only [Act.put, List.setIfInBounds_toArray, List.set_cons_zero, List.set_cons_succ]
    refine held_take (i := 25) (.bool true) rfl (by kernel_rfl) (by kernel_rfl) (by kernel_rfl) (by rfl) (fun w hSw => by go_simp) (by assumption) ?_
    simp only [Act.put, List.setIfInBounds_toArray, List.set_cons_zero, List.set_cons_succ]
    refine held_take (i := 26) (.bool true) rfl (by kernel_rfl) (by kernel_rfl) (by kernel_rfl) (by rfl) (fun w hSw => by go_simp) (by assumption) ?_
    simp only [Act.put, List.setIfInBounds_toArray, List.set_cons_zero, List.set_cons_succ]
    refine held_take (i := 27) (.bool true) rfl (by kernel_rfl) (by kernel_rfl) (by kernel_rfl) (by rfl) (fun w hSw => by go_simp) (by assumption) ?_
    simp only [Act.put, List.setIfInBounds_toArray, List.set_cons_zero, List.set_cons_succ]
    refine held_take (i := 28) (.bool ok) rfl (by kernel_rfl) (by kernel_rfl) (by kernel_rfl) (by rfl) (fun w hSw => by go_simp) (by assumption) ?_
    simp only [Act.put, List.setIfInBounds_toArray, List.set_cons_zero, List.set_cons_succ]
    refine held_take (i := 29) (.bool ok) rfl (by kernel_rfl) (by kernel_rfl) (by kernel_rfl) (by rfl) (fun w hSw => by go_simp) (by assumption) ?_
    simp only [Act.put, List.setIfInBounds_toArray, List.set_cons_zero, List.set_cons_succ]
    refine held_take (i := 30) (.bool true) rfl (by kernel_rfl) (by kernel_rfl) (by kernel_rfl) (by rfl) (fun w hSw => by go_simp) (by assumption) ?_
    simp only [Act.put, List.setIfInBounds_toArray, List.set_cons_zero, List.set_cons_succ]
    refine held_take (i := 31) (.bool true) rfl (by kernel_rfl) (by kernel_rfl) (by kernel_rfl) (by rfl) (fun w hSw => by go_simp) (by assumption) ?_
    simp only [Act.put, List.setIfInBounds_toArray, List.set_cons_zero, List.set_cons_succ]
    refine held_take (i := 32) (.bool true) rfl (by kernel_rfl) (by kernel_rfl) (by kernel_rfl) (by rfl) (fun w hSw => by go_simp) (by assumption) ?_
    simp only [Act.put, List.setIfInBounds_toArray, List.set_cons_zero, List.set_cons_succ]
    refine held_load (i := 33) w.heap.size (cellsOf a) rfl (by kernel_rfl) (by kernel_rfl) (by kernel_rfl) (by rfl) rfl rfl Tryd.underlying23 rfl YA.out (fun _ h => range_of_row (h.row (w.heap.size, a) (by simp))) (by assumption) ?_
    simp only [Act.put, List.setIfInBounds_toArray, List.set_cons_zero, List.set_cons_succ]
    refine held_load (i := 34) (w.heap.size + 1) (cellsOf b) rfl (by kernel_rfl) (by kernel_rfl) (by kernel_rfl) (by rfl) rfl rfl Tryd.underlying23 rfl YB.out (fun _ h => range_of_row (h.row (w.heap.size + 1, b) (by simp))) (by assumption) ?_
    simp only [Act.put, List.setIfInBounds_toArray, List.set_cons_zero, List.set_cons_succ]
    refine held_load (i := 36) w.heap.size (cellsOf a) rfl (by kernel_rfl) (by kernel_rfl) (by kernel_rfl) (by rfl) rfl rfl Tryd.underlying23 rfl YA.out (fun _ h => range_of_row (h.row (w.heap.size, a) (by simp))) (by assumption) ?_
    simp only [Act.put, List.setIfInBounds_toArray, List.set_cons_zero, List.set_cons_succ]
    refine held_load (i := 37) (w.heap.size + 1) (cellsOf b) rfl (by kernel_rfl) (by kernel_rfl) (by kernel_rfl) (by rfl) rfl rfl Tryd.underlying23 rfl YB.out (fun _ h => range_of_row (h.row (w.heap.size + 1, b) (by simp))) (by assumption) ?_
    simp only [Act.put, List.setIfInBounds_toArray, List.set_cons_zero, List.set_cons_succ]
    refine held_step (i := 35) (.bool lab) rfl (by kernel_rfl) (by rfl) (fun K hK => ?_) (fun w' hS => ?_)
    · go_simp
      refine (K16.out _ _ (by assumption)).mono ?_
      rintro e w2 ⟨rfl, hS2⟩
      exact hK _ hS2
    simp only [Act.put, List.setIfInBounds_toArray, List.set_cons_zero, List.set_cons_succ]
    refine held_step (i := 38) (.bool lab) rfl (by kernel_rfl) (by rfl) (fun K hK => ?_) (fun w' hS => ?_)
    · go_simp
      refine (K17.out _ _ (by assumption)).mono ?_
      rintro e w2 ⟨rfl, hS2⟩
      exact hK _ hS2
    simp only [Act.put, List.setIfInBounds_toArray, List.set_cons_zero, List.set_cons_succ]
    refine held_take (i := 39) (.bool true) rfl (by kernel_rfl) (by kernel_rfl) (by kernel_rfl) (by rfl) (fun w hSw => by go_simp) (by assumption) ?_
    simp only [Act.put, List.setIfInBounds_toArray, List.set_cons_zero, List.set_cons_succ]
    refine held_take (i := 40) (.bool true) rfl (by kernel_rfl) (by kernel_rfl) (by kernel_rfl) (by rfl) (fun w hSw => by go_simp) (by assumption) ?_
    simp only [Act.put, List.setIfInBounds_toArray, List.set_cons_zero, List.set_cons_succ]
    refine held_take (i := 41) (.bool true) rfl (by kernel_rfl) (by kernel_rfl) (by kernel_rfl) (by rfl) (fun w hSw => by go_simp) (by assumption) ?_
    simp only [Act.put, List.setIfInBounds_toArray, List.set_cons_zero, List.set_cons_succ]
    refine wpAnyH_done (by kernel_rfl) ?_ _
    refine NoPanic.normal ?_
    go_wp2_with fail
    go_ret
    exact ⟨rfl, OrS.bel (by assumption)⟩
  · go_enter Tryd.func3, Tryd.ntmps3
    go_wp2_with fail
    refine (small_any _ hS0.out.var).mono ?_
    rintro r w1 ⟨rfl, hb1⟩
    have hS1 := OrS.below hS0.out hb1
    go_wp2_with fail
    go_ret
    exact ⟨rfl, hS1.bel⟩
end Go.Proofs.YtddcephegpmbbaaDoor
