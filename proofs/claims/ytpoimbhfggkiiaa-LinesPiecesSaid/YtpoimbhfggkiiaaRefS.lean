/- The reference's Split and Bare, told; few. -/
import Derived.Test.YtpoimbhfggkiiaaApp
namespace Go.Proofs.Ytpoimbhfggkiiaa
open Go.ChangeShapes Go.WideShapes Go.ChangeAt Go.RowKit
open LinesP

theorem own_one (w : World) (x : List UInt8) : Own (w.alloc (.cells #[.string (strL x)] 9)) (.slice (some ⟨w.heap.size, 0, none⟩) 1 1) [x] :=
  ⟨w.heap.size, rfl, .inr ⟨w.heap.size, 1, #[.string (strL x)], rfl, Nat.le_refl _, World.alloc_heap_new w _, Nat.le_refl _, by unfold maxLen; omega, rfl, rfl⟩⟩
theorem split_parts (s : List UInt8) : splitL s = doneL s ++ splitL (restL s) := (good_parts (split_good s)).2.1
theorem split_rest (s : List UInt8) : splitL s = if restL s = [] then doneL s else doneL s ++ [restL s] := by
  by_cases h : restL s = []
  · rw [if_pos h, split_parts, h]
    show doneL s ++ [] = _
    rw [List.append_nil]
  · rw [if_neg h, split_parts, split_tail ⟨h, rest_no s⟩]
theorem step_lf (s : List UInt8) : doneL (s ++ [10]) = doneL s ++ [restL s ++ [10]] ∧ restL (s ++ [10]) = [] := by
  obtain ⟨h1, h2⟩ := done_one (rest_no s) (x := [10]) ⟨[], rfl, by simp⟩
  exact ⟨by rw [done_more, h1], by rw [rest_more, h2]⟩
theorem step_no (s : List UInt8) (c : UInt8) (hc : c ≠ 10) : doneL (s ++ [c]) = doneL s ∧ restL (s ++ [c]) = restL s ++ [c] := by
  obtain ⟨h1, h2⟩ := done_none (rest_no s) (x := [c]) ⟨by simp, by simp; exact fun e => hc e.symm⟩
  exact ⟨by rw [done_more, h1, List.append_nil], by rw [rest_more, h2]⟩
theorem take_snoc (s : List UInt8) (k : Nat) (h : k < s.length) : s.take (k + 1) = s.take k ++ [s[k]] := by
  rw [List.take_add_one, List.getElem?_eq_getElem h]; rfl
/-- Where the rest begins. -/
def fromN (s : List UInt8) : Nat := (doneL s).flatten.length
theorem from_le (s : List UInt8) : fromN s + (restL s).length = s.length := by
  have := congrArg List.length (done_rest s)
  rw [List.length_append] at this
  exact this
theorem rest_is (s t : List UInt8) : (s ++ t).drop (fromN s) = restL s ++ t := by
  have h := done_rest s
  unfold fromN
  rw [← h]
  conv => lhs; rw [List.append_assoc]
  have e : (doneL s).flatten.length = (doneL ((doneL s).flatten ++ restL s)).flatten.length := by rw [h]
  rw [← e, List.drop_left]
  rw [h]
theorem done_len (s : List UInt8) : (doneL s).length ≤ s.length := by
  have h1 := List.length_filter_le ends (splitL s)
  have h2 := split_len s
  unfold doneL
  omega
set_option maxRecDepth 100000 in
set_option maxHeartbeats 4000000 in
theorem rsplit_any (s : ByteArray) (hs : s.size ≤ 30000) (w : World) :
    Calls Try.prog 12 #[.string s] w fun e w' => ∃ a c, e = .returned (.slice a (splitL s.data.toList).length c) ∧ w'.ownsRow w.heap.size 9 1 (.slice a (splitL s.data.toList).length c) (splitL s.data.toList).length ((splitL s.data.toList).map strV) ∧ Below w.heap.size w w' := by
  obtain ⟨S, hS⟩ : ∃ S, s.data.toList = S := ⟨_, rfl⟩
  have hsz : S.length = s.size := by rw [← hS, ← size_list]
  have HS := Lib.hid hS
  have HZ := Lib.hid hsz
  rw [hS]
  clear hS hsz
  go_enter Try.func12, Try.ntmps12
  go_wp2_with fail
  go_loopw [3, 4, 5] (fun o f i wr => ∃ k : Nat, k ≤ s.size ∧ i = .int .i64 k ∧ f = .int .i64 (fromN (S.take k) : Int) ∧ (∃ a c, o = .slice a (doneL (S.take k)).length c ∧ Hid (wr.ownsRow w.heap.size 9 1 o (doneL (S.take k)).length ((doneL (S.take k)).map strV))) ∧ Hid (Below w.heap.size w wr)) (fun _ _ i _ => s.size - (intOf i).toNat)
  case atStart => exact ⟨0, Nat.zero_le _, rfl, rfl, ⟨none, 0, rfl, ⟨rfl, .inl ⟨rfl, rfl⟩⟩⟩, Below.refl _ _⟩
  case round =>
    obtain ⟨k, hk, rfl, rfl, ⟨a, c, rfl, ho⟩, hb⟩ := hrel
    have hfr := from_le (S.take k)
    have hdl := done_len (S.take k)
    have hkl : (S.take k).length = k := by rw [List.length_take, HZ.out]; omega
    rw [hkl] at hfr hdl
    by_cases hlt : k < s.size
    · have RI := run_index_str s k k rfl hlt
      have hcS : (s[k]'hlt) = S[k]'(by rw [HZ.out]; exact hlt) := by
        have h2 := HS.out
        subst h2
        rfl
      have hsn := take_snoc S k (by rw [HZ.out]; exact hlt)
      rw [← hcS] at hsn
      obtain ⟨cc, hcc⟩ : ∃ cc, s[k]'hlt = cc := ⟨_, rfl⟩
      rw [hcc] at RI hsn
      have F1 : IntKind.i64.wrap ((k : Int) + 1) = (k : Int) + 1 := by rw [IntKind.wrap_i64]; omega
      by_cases h10 : cc = 10
      · subst h10
        have e10 : (((10 : UInt8).toNat : Int) == 10) = true := rfl
        obtain ⟨p1, p2⟩ := step_lf (S.take k)
        rw [← hsn] at p1 p2
        obtain ⟨X, hX⟩ : ∃ X, restL (S.take k) ++ [10] = X := ⟨_, rfl⟩
        have hcut : s.extract (fromN (S.take k)) (k + 1) = strL X := bytes_is (by
          rw [part_of s _ _ (by omega) (by omega), strL_list, HS.out, strL_list, ← hX]
          have hd := rest_is (S.take k) ([10] ++ S.drop (k + 1))
          have e : S.take k ++ ([10] ++ S.drop (k + 1)) = S := by rw [← List.append_assoc, ← hsn, List.take_append_drop]
          rw [e] at hd
          rw [hd, ← List.append_assoc]
          rw [List.take_append_of_le_length (by rw [List.length_append]; simp; omega), List.take_of_length_le (by rw [List.length_append]; simp; omega)])
        have R1 := run_slice_str s (fromN (S.take k)) (k + 1) ((k : Int) + 1) (by omega) (by omega) (by omega)
        rw [hcut] at R1
        have hf2 : fromN (S.take (k + 1)) = k + 1 := by
          have := from_le (S.take (k + 1))
          rw [p2, List.length_take, HZ.out] at this
          simp at this
          omega
        have P1 : Hid (doneL (S.take (k + 1)) = doneL (S.take k) ++ [X]) := by rw [← hX]; exact p1
        have HF := Lib.hid hf2
        generalize fromN (S.take k) = fr at R1 hfr
        clear p1 p2 hX hcut hf2 hsn hcc hcS hfr hkl
        go_wp2_with (at_builtin; refine wpList_app (by rfl) (.tmp 16) (.tmp 22) rfl rfl w.heap.size rfl rfl (ho.out.alloc _) (own_one wr X) (by have := hb.out.size; rw [World.size_alloc]; omega) (by simp; omega) ?_; intro a2 c2 w2 h2 g2; replace h2 := Lib.hid h2; replace g2 := Lib.hid g2)
        go_roundw
        case rel =>
          refine ⟨k + 1, by omega, by go_num, by rw [HF.out]; go_num, ⟨a2, c2, by rw [P1.out, List.length_append]; rfl, ?_⟩, ?_⟩
          · have h := h2.out
            rw [List.length_append, List.length_singleton] at h
            show w2.ownsRow _ _ _ _ _ _
            rw [P1.out, List.length_append, List.length_singleton]
            exact h
          · exact (hb.out.alloc hb.out.size _).grown g2.out (by have := hb.out.size; rw [World.size_alloc]; omega) (fun k e => (ho.out.lt k e).1)
        case measure => simp [intOf]; omega
      · have e10 : ((cc.toNat : Int) == 10) = false := by
          rw [beq_eq_false_iff_ne]
          intro e
          exact h10 (UInt8.toNat_inj.1 (by show cc.toNat = 10; omega))
        obtain ⟨p1, p2⟩ := step_no (S.take k) cc h10
        rw [← hsn] at p1 p2
        have P1 := Lib.hid p1
        clear p1 p2 hsn hcc hcS h10
        go_wp2_with fail
        go_roundw
        case rel => exact ⟨k + 1, by omega, by go_num, by unfold fromN; rw [P1.out], ⟨a, c, by rw [P1.out], by rw [P1.out]; exact ho⟩, hb⟩
        case measure => simp [intOf]; omega
    · obtain rfl : k = s.size := by omega
      have hT : S.take s.size = S := List.take_of_length_le (by rw [HZ.out]; exact Nat.le_refl _)
      rw [hT] at ho hfr ⊢
      by_cases hr : restL S = []
      · have hsp : splitL S = doneL S := by rw [split_rest, if_pos hr]
        have hlt2 : decide ((fromN S : Int) < (s.size : Int)) = false := by rw [decide_eq_false_iff_not]; rw [hr] at hfr; simp at hfr; omega
        have HSP := Lib.hid hsp
        rw [hr] at hfr
        have hf3 : fromN S = s.size := by simp at hfr; omega
        rw [hf3]
        clear hsp hlt2 hfr hr hf3
        go_wp2_with fail
        go_ret
        rw [HSP.out]
        exact ⟨a, c, rfl, ho.out, hb.out⟩
      · have hsp : splitL S = doneL S ++ [restL S] := by rw [split_rest, if_neg hr]
        have hpos : 0 < (restL S).length := List.length_pos_iff.2 hr
        have hlt2 : (fromN S : Int) < (s.size : Int) := by omega
        have hlt3 : fromN S < s.size := by omega
        obtain ⟨X, hX⟩ : ∃ X, restL S = X := ⟨_, rfl⟩
        have hcut : s.extract (fromN S) s.size = strL X := bytes_is (by
          rw [part_rest s _ (by omega), HS.out, strL_list, ← hX]
          have := rest_is S []
          rw [List.append_nil, List.append_nil] at this
          exact this)
        have R1 := run_slice_from s (fromN S) (fromN S : Int) rfl (by omega)
        rw [hcut] at R1
        rw [hX] at hsp
        have HSP := Lib.hid hsp
        rw [hT] at hdl
        generalize fromN S = fr at R1 hlt2 hlt3 hfr
        clear hX hcut hr hsp hfr hpos
        go_wp2_with (at_builtin; refine wpList_app (by rfl) (.tmp 30) (.tmp 34) rfl rfl w.heap.size rfl rfl (ho.out.alloc _) (own_one wr X) (by have := hb.out.size; rw [World.size_alloc]; omega) (by simp; omega) ?_; intro a2 c2 w2 h2 g2; replace h2 := Lib.hid h2; replace g2 := Lib.hid g2)
        go_ret
        rw [HSP.out]
        exact ⟨a2, c2, by rw [List.length_append]; rfl, h2.out, (hb.out.alloc hb.out.size _).grown g2.out (by have := hb.out.size; rw [World.size_alloc]; omega) (fun k e => (ho.out.lt k e).1)⟩
end Go.Proofs.Ytpoimbhfggkiiaa
