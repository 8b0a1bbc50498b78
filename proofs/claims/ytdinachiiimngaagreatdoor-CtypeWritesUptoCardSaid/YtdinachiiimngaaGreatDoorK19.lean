/- The reference's Write. CtypeWrites. -/
import Derived.Test.YtdinachiiimngaaGreatDoorKCtRLine
import Derived.Test.YtdinachiiimngaaGreatDoorK12
import Derived.Test.YtdinachiiimngaaGreatDoorK2
namespace Go.Proofs.YtdinachiiimngaaGreatDoor
open Go.ChangeShapes Go.WideShapes Go.ChangeAt Go.RowKit
open TokP AdrP CtP

set_option maxRecDepth 100000 in
set_option maxHeartbeats 2000000 in
theorem rwrite_any (K S : ByteArray) (v : Value) (l : List (List UInt8 × List UInt8)) (hv : ∀ p ∈ l, p.2.length ≤ 2000) (hl : l.length ≤ 20) (hz : (lineW (K.data.toList ++ 47 :: S.data.toList) l).length ≤ 3900000) (w : World) (h : Hid (HasP w v l)) :
    Calls Tryz.prog 19 #[.agg #[.string K, .string S, v]] w fun e w' => e = .returned (.string (strL (lineW (K.data.toList ++ 47 :: S.data.toList) l))) ∧ Below w.heap.size w w' := by
  have hle := lineW_le (K.data.toList ++ 47 :: S.data.toList) l 0
  have h0 : lineW (K.data.toList ++ 47 :: S.data.toList) [] = K.data.toList ++ 47 :: S.data.toList := by unfold lineW; simp
  rw [List.take_zero, h0, List.length_append, List.length_cons, ← size_list, ← size_list] at hle
  have hz1 : K.size + (⟨#[47]⟩ : ByteArray).size ≤ 4000000 := by show K.size + 1 ≤ _; omega
  have hz2 : (K ++ (⟨#[47]⟩ : ByteArray)).size + S.size ≤ 4000000 := by rw [ByteArray.size_append]; show K.size + 1 + S.size ≤ _; omega
  have hFL : ((K ++ (⟨#[47]⟩ : ByteArray)) ++ S).data.toList = K.data.toList ++ 47 :: S.data.toList := by rw [list_append, list_append, List.append_assoc]; rfl
  have HB0 := Lib.hid ((Below.refl w.heap.size w).alloc (Nat.le_refl _) (.cells #[.string K, .string S, v] 26))
  obtain ⟨FF, hFF⟩ : ∃ FF, (K ++ (⟨#[47]⟩ : ByteArray)) ++ S = FF := ⟨_, rfl⟩
  rw [hFF] at hFL
  have cL := fun W (h : Hid (HasP W v l)) => rline_any FF v l hv hl (by rw [hFL]; exact hz) W h
  rw [hFL] at cL
  have H1 : Hid (HasP (w.alloc (.cells #[.string K, .string S, v] 26)) v l) := Lib.hid (h.out.step HB0.out)
  have HH := Lib.hid h.out.form
  have HF := Lib.hid hFF
  generalize strL (lineW (K.data.toList ++ 47 :: S.data.toList) l) = ANS at cL ⊢
  obtain ⟨a, c, rfl⟩ := HH.out
  obtain ⟨m, hm⟩ : ∃ m, l.length = m := ⟨_, rfl⟩
  rw [hm] at cL H1 HB0 ⊢
  clear hle h0 hFL hFF hv hl hz h HH hm
  go_enter Tryz.func19, Tryz.ntmps19
  go_wp2_with (first
    | (rw [HF.out])
    | (go_at_call 21; (with_reducible refine (cL _ H1).mono ?_); rintro e w2 ⟨rfl, hb2⟩; have HB2 := Lib.hid (HB0.out.trans (hb2.mono HB0.out.size)); clear hb2 cL))
  go_ret
  exact ⟨rfl, HB2.out⟩
end Go.Proofs.YtdinachiiimngaaGreatDoor
namespace Go.Proofs.YtdinachiiimngaaGreatDoor
open Go.ChangeShapes Go.WideShapes Go.ChangeAt Go.RowKit
open TokP AdrP CtP

set_option maxRecDepth 100000 in
set_option maxHeartbeats 8000000 in
theorem writes_any (K S : ByteArray) (v : Value) (l : List (List UInt8 × List UInt8)) (hz : K.size + S.size + (l.map fun p => p.1.length + p.2.length).sum ≤ 1048576) (w : World) (h : HasP w v l) (hv : Vr w) :
    Calls Tryz.prog 4 #[.agg #[.string K, .string S, v]] w fun e w' => e = .returned (.bool true) ∧ Below w.heap.size w w' := by
  obtain ⟨a, c, rfl⟩ := h.form
  obtain ⟨m, hm⟩ : ∃ m, l.length = m := ⟨_, rfl⟩
  have hsum : ∀ p ∈ l, p.1.length + p.2.length ≤ 1048576 := fun p hp => by
    have : p.1.length + p.2.length ≤ (l.map fun p => p.1.length + p.2.length).sum := le_sum hp
    omega
  rw [hm] at h ⊢
  have HM := Lib.hid hm
  obtain ⟨W0, hW0⟩ : ∃ W0, w.alloc (.cells #[.string K, .string S, .slice a m c] 26) = W0 := ⟨_, rfl⟩
  have HW0 := Lib.hid hW0
  have HB0 := Lib.hid (hW0 ▸ (Below.refl w.heap.size w).alloc (Nat.le_refl _) (.cells #[.string K, .string S, .slice a m c] 26) : Below w.heap.size w W0)
  have HX := Lib.hid (hW0 ▸ tyx_new w K S (.slice a m c) : Tyx W0 w.heap.size K S (.slice a m c))
  have HP := Lib.hid (h.step HB0.out)
  have HV := Lib.hid (hv.below HB0.out)
  have cS := small_any W0 HV.out
  rw [← hW0] at cS
  by_cases h20 : 20 < m
  · have h20' : (20 : Int) < (m : Int) := by omega
    clear hW0 h hv hm hsum hz
    go_enter Tryz.func4, Tryz.ntmps4
    go_wp2_with (go_at_call 8; (with_reducible refine cS.mono ?_); rintro e w1 ⟨rfl, hb1⟩; have HB1 := Lib.hid (HW0.out ▸ hb1 : Below W0.heap.size W0 w1); obtain ⟨y0, y1, y2, _⟩ := (HX.out.step HB1.out).all; clear hb1 cS)
    go_ret
    exact ⟨rfl, HB0.out.trans (HB1.out.mono HB0.out.size)⟩
  have h20' : ¬ (20 : Int) < (m : Int) := by omega
  have HZ := Lib.hid hz
  clear hW0 h hv hm hsum hz
  go_enter Tryz.func4, Tryz.ntmps4
  go_wp2_with (go_at_call 8; (with_reducible refine cS.mono ?_); rintro e w1 ⟨rfl, hb1⟩; have HB1 := Lib.hid (HW0.out ▸ hb1 : Below W0.heap.size W0 w1); obtain ⟨y0, y1, y2, _⟩ := (HX.out.step HB1.out).all; clear hb1 cS)
  clear y0 y1 y2
  go_loopw [4] (fun i wr => ∃ k : Nat, k ≤ m ∧ i = .int .i64 k ∧ Hid (Below W0.heap.size W0 wr) ∧ Hid (∀ p ∈ l.take k, p.2.length ≤ 2000)) (fun i _ => m - (intOf i).toNat)
  case atStart => exact ⟨0, Nat.zero_le _, rfl, HB1, Lib.hid (fun p hp => by rw [List.take_zero] at hp; cases hp)⟩
  case round =>
    obtain ⟨k, hk, rfl, HB, HF⟩ := hrel
    have F1 : IntKind.i64.wrap ((k : Int) + 1) = (k : Int) + 1 := by rw [IntKind.wrap_i64]; omega
    obtain ⟨y0, y1, y2, _⟩ := (HX.out.step HB.out).all
    by_cases hlt : k < m
    · have hlt' : (k : Int) < (m : Int) := by omega
      obtain ⟨g, o, rfl, hfa⟩ := HP.out.at (by omega)
      obtain ⟨p, hp⟩ : ∃ p, l[k]? = some p := ⟨_, List.getElem?_eq_getElem (by rw [HM.out]; exact hlt)⟩
      have p1 := (hfa.step HB.out k p hp).2
      have cF := fun W => few_any (strL p.2) W
      rw [strL_list] at cF
      have HPK := Lib.hid hp
      generalize strL p.2 = V at p1 cF
      clear hfa hp
      by_cases hf : p.2.length ≤ 2000
      · rw [decide_eq_true hf] at cF
        have HF2 := Lib.hid (show ∀ q ∈ l.take (k + 1), q.2.length ≤ 2000 from fun q hq => by
          rw [List.take_add_one, HPK.out, Option.toList_some, List.mem_append, List.mem_singleton] at hq
          rcases hq with hq | rfl
          · exact HF.out q hq
          · exact hf)
        clear hf
        go_wp2_with (go_at_call 9; (with_reducible refine (cF _).mono ?_); rintro e w3 ⟨rfl, rfl⟩)
        go_roundw
        case rel => exact ⟨k + 1, by omega, by go_num, HB, HF2⟩
        case measure => simp [intOf]; omega
      · rw [decide_eq_false hf] at cF
        clear hf
        go_wp2_with (go_at_call 9; (with_reducible refine (cF _).mono ?_); rintro e w3 ⟨rfl, rfl⟩)
        go_ret
        exact ⟨rfl, HB0.out.trans (HB.out.mono HB0.out.size)⟩
    · have hlt' : ¬ (k : Int) < (m : Int) := by omega
      have hval : ∀ p ∈ l, p.2.length ≤ 2000 := by
        have := HF.out
        rw [List.take_of_length_le (by rw [HM.out]; omega)] at this
        exact this
      have hz := HZ.out
      have hm := HM.out
      have hn1 := line_less (K.data.toList ++ 47 :: S.data.toList) l hval
      have hn2 := line_less K.data.toList l hval
      rw [List.length_append, List.length_cons, ← size_list, ← size_list] at hn1
      rw [← size_list] at hn2
      have HPW := Lib.hid (fun Q (hb : Hid (Below W0.heap.size W0 Q)) => (Lib.hid (HP.out.step hb.out) : Hid (HasP Q (.slice a m c) l)))
      have c1 := fun Q (hb : Hid (Below W0.heap.size W0 Q)) => write_w K S (.slice a m c) l (fun p hp => by have := hval p hp; omega) (by omega) (by omega) Q (HPW.out Q hb)
      have c2 := fun Q (hb : Hid (Below W0.heap.size W0 Q)) => rwrite_any K S (.slice a m c) l hval (by omega) (by omega) Q (HPW.out Q hb)
      have c3 := fun Q (hb : Hid (Below W0.heap.size W0 Q)) => line_w K (.slice a m c) l (fun p hp => by have := hval p hp; omega) (by omega) (by omega) Q (HPW.out Q hb)
      have c4 := fun Q (hb : Hid (Below W0.heap.size W0 Q)) => rline_any K (.slice a m c) l hval (by omega) (by omega) Q (HPW.out Q hb)
      generalize strL (lineW (K.data.toList ++ 47 :: S.data.toList) l) = X at c1 c2
      generalize strL (lineW K.data.toList l) = Y at c3 c4
      have hq1 := fun Q (hb : Hid (Below W0.heap.size W0 Q)) => (c1 Q hb).mono (fun e w' hh => (⟨hh.1, Lib.hid (hb.out.trans (hh.2.mono hb.out.size))⟩ : e = .returned (.string X) ∧ Hid (Below W0.heap.size W0 w')))
      have hq2 := fun Q (hb : Hid (Below W0.heap.size W0 Q)) => (c2 Q hb).mono (fun e w' hh => (⟨hh.1, Lib.hid (hb.out.trans (hh.2.mono hb.out.size))⟩ : e = .returned (.string X) ∧ Hid (Below W0.heap.size W0 w')))
      have hq3 := fun Q (hb : Hid (Below W0.heap.size W0 Q)) => (c3 Q hb).mono (fun e w' hh => (⟨hh.1, Lib.hid (hb.out.trans (hh.2.mono hb.out.size))⟩ : e = .returned (.string Y) ∧ Hid (Below W0.heap.size W0 w')))
      have hq4 := fun Q (hb : Hid (Below W0.heap.size W0 Q)) => (c4 Q hb).mono (fun e w' hh => (⟨hh.1, Lib.hid (hb.out.trans (hh.2.mono hb.out.size))⟩ : e = .returned (.string Y) ∧ Hid (Below W0.heap.size W0 w')))
      have HK := Lib.hid (fun Q (h : Hid (Below W0.heap.size W0 Q)) => (⟨h, (HX.out.step h.out).c0, (HX.out.step h.out).c1, (HX.out.step h.out).c2⟩ : Hid (Below W0.heap.size W0 Q) ∧ Q.cell? ⟨w.heap.size, 0, none⟩ = some (.string K) ∧ Q.cell? ⟨w.heap.size, 1, none⟩ = some (.string S) ∧ Q.cell? ⟨w.heap.size, 2, none⟩ = some (.slice a m c)))
      clear c1 c2 c3 c4 hn1 hn2 hz hm hval HF
      go_wp2_with fail
      refine wp_region_noPanic ?_
      refine wp_region_held_drew (S := (fun Q => Hid (Below W0.heap.size W0 Q) ∧ Q.cell? ⟨w.heap.size, 0, none⟩ = some (.string K) ∧ Q.cell? ⟨w.heap.size, 1, none⟩ = some (.string S) ∧ Q.cell? ⟨w.heap.size, 2, none⟩ = some (.slice a m c))) (by kernel_rfl) (HK.out _ (Lib.hid HB.out.drew)) (fun hH0 => ?_)
      refine held_take (i := 0) (.bool true) rfl (by kernel_rfl) (by kernel_rfl) (by kernel_rfl) (by rfl) (fun w hSw => by obtain ⟨_, k0, k1, k2⟩ := hSw; go_simp) (by exact hH0) ?_
      simp only [Act.put, List.setIfInBounds_toArray, List.set_cons_zero, List.set_cons_succ]
      refine held_take (i := 1) (.bool true) rfl (by kernel_rfl) (by kernel_rfl) (by kernel_rfl) (by rfl) (fun w hSw => by obtain ⟨_, k0, k1, k2⟩ := hSw; go_simp) (by exact hH0) ?_
      simp only [Act.put, List.setIfInBounds_toArray, List.set_cons_zero, List.set_cons_succ]
      refine held_take (i := 2) (.agg #[.string K, .string S, .slice a m c]) rfl (by kernel_rfl) (by kernel_rfl) (by kernel_rfl) (by rfl) (fun w hSw => by obtain ⟨_, k0, k1, k2⟩ := hSw; go_simp) (by exact hH0) ?_
      simp only [Act.put, List.setIfInBounds_toArray, List.set_cons_zero, List.set_cons_succ]
      refine held_take (i := 4) (.agg #[.string K, .string S, .slice a m c]) rfl (by kernel_rfl) (by kernel_rfl) (by kernel_rfl) (by rfl) (fun w hSw => by obtain ⟨_, k0, k1, k2⟩ := hSw; go_simp) (by exact hH0) ?_
      simp only [Act.put, List.setIfInBounds_toArray, List.set_cons_zero, List.set_cons_succ]
      refine held_step (i := 3) (.string X) rfl (by kernel_rfl) (by rfl) (fun K hK => ?_) (fun wH1 hH1 => ?_)
      · go_simp
        refine (hq1 _ hH0.1).mono ?_
        rintro e w2 ⟨rfl, hS2⟩
        exact hK _ (HK.out _ hS2)
      simp only [Act.put, List.setIfInBounds_toArray, List.set_cons_zero, List.set_cons_succ]
      refine held_step (i := 5) (.string X) rfl (by kernel_rfl) (by rfl) (fun K hK => ?_) (fun wH2 hH2 => ?_)
      · go_simp
        refine (hq2 _ hH1.1).mono ?_
        rintro e w2 ⟨rfl, hS2⟩
        exact hK _ (HK.out _ hS2)
      simp only [Act.put, List.setIfInBounds_toArray, List.set_cons_zero, List.set_cons_succ]
      refine held_take (i := 6) (.bool true) rfl (by kernel_rfl) (by kernel_rfl) (by kernel_rfl) (by rfl) (fun w hSw => by obtain ⟨_, k0, k1, k2⟩ := hSw; go_simp) (by exact hH2) ?_
      simp only [Act.put, List.setIfInBounds_toArray, List.set_cons_zero, List.set_cons_succ]
      refine held_take (i := 7) (.bool true) rfl (by kernel_rfl) (by kernel_rfl) (by kernel_rfl) (by rfl) (fun w hSw => by obtain ⟨_, k0, k1, k2⟩ := hSw; go_simp) (by exact hH2) ?_
      simp only [Act.put, List.setIfInBounds_toArray, List.set_cons_zero, List.set_cons_succ]
      refine held_take (i := 8) (.bool true) rfl (by kernel_rfl) (by kernel_rfl) (by kernel_rfl) (by rfl) (fun w hSw => by obtain ⟨_, k0, k1, k2⟩ := hSw; go_simp) (by exact hH2) ?_
      simp only [Act.put, List.setIfInBounds_toArray, List.set_cons_zero, List.set_cons_succ]
      refine held_take (i := 9) (.pointer (some ⟨w.heap.size, 0, none⟩)) rfl (by kernel_rfl) (by kernel_rfl) (by kernel_rfl) (by rfl) (fun w hSw => by obtain ⟨_, k0, k1, k2⟩ := hSw; go_simp) (by exact hH2) ?_
      simp only [Act.put, List.setIfInBounds_toArray, List.set_cons_zero, List.set_cons_succ]
      refine held_take (i := 10) (.string K) rfl (by kernel_rfl) (by kernel_rfl) (by kernel_rfl) (by rfl) (fun w hSw => by obtain ⟨_, k0, k1, k2⟩ := hSw; go_simp) (by exact hH2) ?_
      simp only [Act.put, List.setIfInBounds_toArray, List.set_cons_zero, List.set_cons_succ]
      refine held_take (i := 11) (.pointer (some ⟨w.heap.size, 2, none⟩)) rfl (by kernel_rfl) (by kernel_rfl) (by kernel_rfl) (by rfl) (fun w hSw => by obtain ⟨_, k0, k1, k2⟩ := hSw; go_simp) (by exact hH2) ?_
      simp only [Act.put, List.setIfInBounds_toArray, List.set_cons_zero, List.set_cons_succ]
      refine held_take (i := 12) (.slice a m c) rfl (by kernel_rfl) (by kernel_rfl) (by kernel_rfl) (by rfl) (fun w hSw => by obtain ⟨_, k0, k1, k2⟩ := hSw; go_simp) (by exact hH2) ?_
      simp only [Act.put, List.setIfInBounds_toArray, List.set_cons_zero, List.set_cons_succ]
      refine held_take (i := 14) (.pointer (some ⟨w.heap.size, 0, none⟩)) rfl (by kernel_rfl) (by kernel_rfl) (by kernel_rfl) (by rfl) (fun w hSw => by obtain ⟨_, k0, k1, k2⟩ := hSw; go_simp) (by exact hH2) ?_
      simp only [Act.put, List.setIfInBounds_toArray, List.set_cons_zero, List.set_cons_succ]
      refine held_take (i := 15) (.string K) rfl (by kernel_rfl) (by kernel_rfl) (by kernel_rfl) (by rfl) (fun w hSw => by obtain ⟨_, k0, k1, k2⟩ := hSw; go_simp) (by exact hH2) ?_
      simp only [Act.put, List.setIfInBounds_toArray, List.set_cons_zero, List.set_cons_succ]
      refine held_take (i := 16) (.pointer (some ⟨w.heap.size, 2, none⟩)) rfl (by kernel_rfl) (by kernel_rfl) (by kernel_rfl) (by rfl) (fun w hSw => by obtain ⟨_, k0, k1, k2⟩ := hSw; go_simp) (by exact hH2) ?_
      simp only [Act.put, List.setIfInBounds_toArray, List.set_cons_zero, List.set_cons_succ]
      refine held_take (i := 17) (.slice a m c) rfl (by kernel_rfl) (by kernel_rfl) (by kernel_rfl) (by rfl) (fun w hSw => by obtain ⟨_, k0, k1, k2⟩ := hSw; go_simp) (by exact hH2) ?_
      simp only [Act.put, List.setIfInBounds_toArray, List.set_cons_zero, List.set_cons_succ]
      refine held_step (i := 13) (.string Y) rfl (by kernel_rfl) (by rfl) (fun K hK => ?_) (fun wH3 hH3 => ?_)
      · go_simp
        refine (hq3 _ hH2.1).mono ?_
        rintro e w2 ⟨rfl, hS2⟩
        exact hK _ (HK.out _ hS2)
      simp only [Act.put, List.setIfInBounds_toArray, List.set_cons_zero, List.set_cons_succ]
      refine held_step (i := 18) (.string Y) rfl (by kernel_rfl) (by rfl) (fun K hK => ?_) (fun wH4 hH4 => ?_)
      · go_simp
        refine (hq4 _ hH3.1).mono ?_
        rintro e w2 ⟨rfl, hS2⟩
        exact hK _ (HK.out _ hS2)
      simp only [Act.put, List.setIfInBounds_toArray, List.set_cons_zero, List.set_cons_succ]
      refine held_take (i := 19) (.bool true) rfl (by kernel_rfl) (by kernel_rfl) (by kernel_rfl) (by rfl) (fun w hSw => by obtain ⟨_, k0, k1, k2⟩ := hSw; go_simp) (by exact hH4) ?_
      simp only [Act.put, List.setIfInBounds_toArray, List.set_cons_zero, List.set_cons_succ]
      refine held_take (i := 20) (.bool true) rfl (by kernel_rfl) (by kernel_rfl) (by kernel_rfl) (by rfl) (fun w hSw => by obtain ⟨_, k0, k1, k2⟩ := hSw; go_simp) (by exact hH4) ?_
      simp only [Act.put, List.setIfInBounds_toArray, List.set_cons_zero, List.set_cons_succ]
      refine held_take (i := 21) (.bool true) rfl (by kernel_rfl) (by kernel_rfl) (by kernel_rfl) (by rfl) (fun w hSw => by obtain ⟨_, k0, k1, k2⟩ := hSw; go_simp) (by exact hH4) ?_
      simp only [Act.put, List.setIfInBounds_toArray, List.set_cons_zero, List.set_cons_succ]
      refine wpAnyH_done (by kernel_rfl) ?_ _
      refine NoPanic.normal ?_
      have hsE := hH4.1
      go_wp2_with fail
      go_ret
      exact ⟨rfl, HB0.out.trans (hsE.out.mono HB0.out.size)⟩
end Go.Proofs.YtdinachiiimngaaGreatDoor
