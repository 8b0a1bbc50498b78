/- LinesSplit: the lines of a concatenate to a, each but the last ends with LF and holds no other, and Split distributes over a whole start. -/
import Derived.Test.YtpoimbhfggkiiaaApp
namespace Go.Proofs.Ytpoimbhfggkiiaa
open Go.ChangeShapes Go.WideShapes Go.ChangeAt Go.RowKit
open LinesP

theorem same_yes {v u : Value} {xs ys : List (List UInt8)} {w : World} (h : Own w v xs) (k : Own w u ys) (e : xs = ys) (hx : xs.length ≤ 1000000) :
    Calls Try.prog 10 #[v, u] w fun e w' => e = .returned (.bool true) ∧ Below w.heap.size w w' :=
  (same_any h.has k.has hx).mono fun _ _ hh => ⟨by rw [hh.1, decide_eq_true e], hh.2⟩
set_option maxRecDepth 100000 in
theorem split_long (a b : ByteArray) (hs : 10000 < a.size ∨ 10000 < b.size) (w : World) : Calls Try.prog 6 #[.string a, .string b] w fun e w' => e = .returned (.bool true) ∧ Below w.heap.size w w' := by
  have hS := small_any w
  by_cases h1 : 10000 < a.size
  · go_enter Try.func6, Try.ntmps6
    go_wp2_with (go_at_call 9; refine hS.mono ?_; rintro e w' ⟨rfl, hb⟩)
    go_ret
    exact ⟨rfl, hb⟩
  · have h2 : 10000 < b.size := by omega
    go_enter Try.func6, Try.ntmps6
    go_wp2_with (go_at_call 9; refine hS.mono ?_; rintro e w' ⟨rfl, hb⟩)
    go_ret
    exact ⟨rfl, hb⟩
/-- A line of a good list, letter by letter. -/
theorem good_at {ls : List (List UInt8)} (h : LinesP.Good ls) : ∀ (j : Nat) (x : List UInt8), ls[j]? = some x → x ≠ [] ∧ (∀ t (ht : t < x.length), t + 1 < x.length → x[t] ≠ 10) ∧ (∀ t (ht : t < x.length), t + 1 = x.length → x[t] = 10 ∨ j + 1 = ls.length) := by
  induction h with
  | nil => intro j x h; simp at h
  | @last l hl =>
    intro j x h
    obtain rfl : j = 0 := by
      rcases j with _ | j
      · rfl
      · simp at h
    obtain rfl : l = x := by simpa using h
    exact ⟨hl.1, fun t ht _ e => hl.2 (e ▸ List.getElem_mem ht), fun _ _ _ => .inr rfl⟩
  | @cons l r hl hr ih =>
    intro j x h
    rcases j with _ | j
    · obtain rfl : l = x := by simpa using h
      obtain ⟨m, rfl, hm⟩ := hl
      refine ⟨by simp, fun t ht h1 e => ?_, fun t ht h1 => .inl ?_⟩
      · rw [List.length_append, List.length_singleton] at h1
        rw [List.getElem_append_left (by omega)] at e
        exact hm (e ▸ List.getElem_mem _)
      · rw [List.length_append, List.length_singleton] at h1
        rw [List.getElem_append_right (by omega)]
        simp
    · obtain ⟨h1, h2, h3⟩ := ih j x (by simpa using h)
      exact ⟨h1, h2, fun t ht e => (h3 t ht e).imp id (fun e => by rw [List.length_cons]; omega)⟩
theorem flat_take (L : List (List UInt8)) (j : Nat) (x : List UInt8) (h : L[j]? = some x) : (L.take (j + 1)).flatten = (L.take j).flatten ++ x := by
  rw [List.take_add_one, h]; simp
theorem flat_part (L : List (List UInt8)) (j : Nat) (x : List UInt8) (h : L[j]? = some x) : ∃ r, L.flatten = (L.take j).flatten ++ (x ++ r) := by
  refine ⟨(L.drop (j + 1)).flatten, ?_⟩
  rw [← List.append_assoc, ← flat_take L j x h, ← List.flatten_append, List.take_append_drop]
set_option maxRecDepth 100000 in
set_option maxHeartbeats 8000000 in
theorem split_law (a b : ByteArray) (w : World) : Calls Try.prog 6 #[.string a, .string b] w fun e w' => e = .returned (.bool true) ∧ Below w.heap.size w w' := by
  by_cases hab : 10000 < a.size ∨ 10000 < b.size
  · exact split_long a b hab w
  have hS := small_any w
  obtain ⟨L, hL⟩ : ∃ L, splitL a.data.toList = L := ⟨_, rfl⟩
  obtain ⟨M, hM⟩ : ∃ M, splitL b.data.toList = M := ⟨_, rfl⟩
  obtain ⟨n, hn⟩ : ∃ n, L.length = n := ⟨_, rfl⟩
  obtain ⟨m, hm⟩ : ∃ m, M.length = m := ⟨_, rfl⟩
  have hG := good_at (hL ▸ split_good a.data.toList)
  have hF : L.flatten = a.data.toList := by rw [← hL, split_flat]
  have hnn : n ≤ 10000 := by
    have := split_len a.data.toList
    rw [hL, hn, ← size_list] at this; omega
  have hmm : m ≤ 10000 := by
    have := split_len b.data.toList
    rw [hM, hm, ← size_list] at this; omega
  have hP1 : ∀ w', Calls Try.prog 11 #[.string a] w' fun e w'' => ∃ a c, e = .returned (.slice a n c) ∧ Own w'' (.slice a n c) L ∧ Below w'.heap.size w' w'' := fun w' => (split_is a L (by omega) hL w').mono (by
    rintro e w'' ⟨a, c, rfl, ho, hb⟩
    rw [hn] at ho
    exact ⟨a, c, by rw [hn], ⟨_, by rw [hn]; exact ho⟩, hb⟩)
  have hP2 : ∀ w', Calls Try.prog 11 #[.string b] w' fun e w'' => ∃ a c, e = .returned (.slice a m c) ∧ Own w'' (.slice a m c) M ∧ Below w'.heap.size w' w'' := fun w' => (split_is b M (by omega) hM w').mono (by
    rintro e w'' ⟨a, c, rfl, ho, hb⟩
    rw [hm] at ho
    exact ⟨a, c, by rw [hm], ⟨_, by rw [hm]; exact ho⟩, hb⟩)
  have HA : Hid (a.data.toList.getLast? = some 10 ∨ a.data.toList = [] → splitL (a ++ b).data.toList = L ++ M) := fun h => by
    rw [list_append, split_append _ _ h.symm, hL, hM]
  have HG := Lib.hid hG
  have HF := Lib.hid hF
  have HN := Lib.hid hn
  have HM := Lib.hid hm
  have has : a.size ≤ 10000 := by omega
  have hbs : b.size ≤ 10000 := by omega
  clear hG hF hn hm hL hM hab
  go_enter Try.func6, Try.ntmps6
  go_wp2_with (first
    | (go_at_call 9; refine hS.mono ?_; rintro e w1 ⟨rfl, hb1⟩; clear hS)
    | (go_at_call 11; with_reducible refine (hP1 _).mono ?_; rintro e w3 ⟨a1, c1, rfl, o1, hb3⟩; clear hP1)
    | (go_at_call 11; with_reducible refine (hP2 _).mono ?_; rintro e w4 ⟨a2, c2, rfl, o2, hb4⟩; clear hP2))
  have hst : St w w4 (.slice a1 n c1) L (.slice a2 m c2) M :=
    ⟨(hb1.trans (hb3.mono hb1.size)).trans (hb4.mono (Nat.le_trans hb1.size hb3.size)), o1.step hb4, o2⟩
  have HST := Lib.hid hst
  clear hb1 hb3 hb4 o1 o2 hst
  go_loopw [8, 9] (fun o i wr => ∃ j : Nat, j ≤ n ∧ i = .int .i64 j ∧ o = .int .i64 ((L.take j).flatten.length : Int) ∧ Hid (St w wr (.slice a1 n c1) L (.slice a2 m c2) M)) (fun _ i _ => n - (intOf i).toNat)
  case atStart => exact ⟨0, Nat.zero_le _, rfl, rfl, HST.out⟩
  case round =>
    obtain ⟨j, hj, rfl, rfl, hst⟩ := hrel
    by_cases hlt : j < n
    · obtain ⟨g1, rfl⟩ := hst.out.o1.at (by omega)
      have hjl : j < L.length := by rw [HN.out]; exact hlt
      obtain ⟨x, hx⟩ : ∃ x, L[j]? = some x := ⟨_, List.getElem?_eq_getElem hjl⟩
      obtain ⟨x1, x2, x3⟩ := HG.out j x hx
      obtain ⟨r, hr⟩ := flat_part L j x hx
      rw [HF.out] at hr
      obtain ⟨off, hoff⟩ : ∃ off, (L.take j).flatten.length = off := ⟨_, rfl⟩
      have hsz := congrArg List.length hr
      rw [← size_list, List.length_append, List.length_append, hoff] at hsz
      have HT : Hid ((L.take (j + 1)).flatten.length = off + x.length) := by
        show _ = _
        rw [flat_take L j x hx, List.length_append, hoff]
      rw [hoff]
      obtain ⟨A, hA⟩ : ∃ A, strL x = A := ⟨_, rfl⟩
      have sA : A.size = x.length := by rw [← hA, strL_size]
      obtain ⟨Z, hZ⟩ : ∃ Z, off + A.size = Z := ⟨_, rfl⟩
      have F1 : IntKind.i64.wrap ((off : Int) + (A.size : Int)) = (Z : Int) := by rw [IntKind.wrap_i64]; omega
      have f0 : ¬ A.toList = [] := by
        rw [ByteArray.toList_eq, ← hA, strL_list]; exact x1
      have f0' : A.toList.isEmpty = false := by
        cases hh : A.toList with
        | nil => exact absurd hh f0
        | cons _ _ => rfl
      have f1 : decide ((a.size : Int) < (Z : Int)) = false := by rw [decide_eq_false_iff_not]; omega
      have hcut : a.extract off Z = A := bytes_is (by
        rw [part_of a off Z (by omega) (by omega), strL_list, hr, ← hoff, List.drop_left, ← hA, strL_list, List.take_append_of_le_length (by omega), List.take_of_length_le (by omega)])
      have R1 := run_slice_str a off Z (Z : Int) rfl (by omega) (by omega)
      rw [hcut] at R1
      have HK : Hid (∀ Q, St w Q (.slice (some ⟨g1, 0, none⟩) n c1) L (.slice a2 m c2) M → Hid (St w Q (.slice (some ⟨g1, 0, none⟩) n c1) L (.slice a2 m c2) M) ∧ Q.cell? ⟨g1, j, none⟩ = some (.string A)) := fun Q h => ⟨h, by rw [h.o1.cell j x hx, hA]⟩
      have hX : ∀ t (ht : t < A.size), (t + 1 < A.size → (A[t]'ht).toNat ≠ 10) ∧ (t + 1 = A.size → (A[t]'ht).toNat = 10 ∨ j + 1 = n) := by
        subst hA
        intro t ht
        have ht2 : t < x.length := by rw [strL_size] at ht; exact ht
        have e : (strL x)[t]'ht = x[t]'ht2 := rfl
        rw [e]
        rw [strL_size]
        refine ⟨fun h1 h2 => x2 t ht2 h1 (UInt8.toNat_inj.1 h2), fun h1 => (x3 t ht2 h1).imp (fun e => by rw [e]; rfl) (fun e => by rw [HN.out] at e; exact e)⟩
      have HX := Lib.hid hX
      have hZa : Z ≤ a.size := by omega
      have hAs : A.size ≤ 10000 := by omega
      have hZx : Z = off + x.length := by omega
      have HZX := Lib.hid hZx
      have hst0 := hst.out
      clear hX hA sA hZ hsz hr hoff x1 x2 x3 hx hjl hst hcut hZx
      go_wp2_with fail
      refine wp_region_noPanic ?_
      refine wp_region_held_drew (S := (fun Q => Hid (St w Q (.slice (some ⟨g1, 0, none⟩) n c1) L (.slice a2 m c2) M) ∧ Q.cell? ⟨g1, j, none⟩ = some (.string A))) (by kernel_rfl) (HK.out _ hst0.drew) (fun hH0 => ?_)
      refine held_take (i := 0) (.slice (some ⟨g1, 0, none⟩) n c1) rfl (by kernel_rfl) (by kernel_rfl) (by kernel_rfl) (by rfl) (fun w hSw => by obtain ⟨_, k1⟩ := hSw; go_simp) (by exact hH0) ?_
      simp only [Act.put, List.setIfInBounds_toArray, List.set_cons_zero, List.set_cons_succ]
      refine held_take (i := 1) (.int .i64 (j : Int)) rfl (by kernel_rfl) (by kernel_rfl) (by kernel_rfl) (by rfl) (fun w hSw => by obtain ⟨_, k1⟩ := hSw; go_simp) (by exact hH0) ?_
      simp only [Act.put, List.setIfInBounds_toArray, List.set_cons_zero, List.set_cons_succ]
      refine held_take (i := 2) (.pointer (some ⟨g1, j, none⟩)) rfl (by kernel_rfl) (by kernel_rfl) (by kernel_rfl) (by rfl) (fun w hSw => by obtain ⟨_, k1⟩ := hSw; go_simp) (by exact hH0) ?_
      simp only [Act.put, List.setIfInBounds_toArray, List.set_cons_zero, List.set_cons_succ]
      refine held_take (i := 3) (.string A) rfl (by kernel_rfl) (by kernel_rfl) (by kernel_rfl) (by rfl) (fun w hSw => by obtain ⟨_, k1⟩ := hSw; go_simp) (by exact hH0) ?_
      simp only [Act.put, List.setIfInBounds_toArray, List.set_cons_zero, List.set_cons_succ]
      refine held_take (i := 4) (.bool false) rfl (by kernel_rfl) (by kernel_rfl) (by kernel_rfl) (by rfl) (fun w hSw => by obtain ⟨_, k1⟩ := hSw; go_simp) (by exact hH0) ?_
      simp only [Act.put, List.setIfInBounds_toArray, List.set_cons_zero, List.set_cons_succ]
      refine held_take (i := 5) (.bool false) rfl (by kernel_rfl) (by kernel_rfl) (by kernel_rfl) (by rfl) (fun w hSw => by obtain ⟨_, k1⟩ := hSw; go_simp) (by exact hH0) ?_
      simp only [Act.put, List.setIfInBounds_toArray, List.set_cons_zero, List.set_cons_succ]
      refine held_take (i := 6) (.int .i64 (off : Int)) rfl (by kernel_rfl) (by kernel_rfl) (by kernel_rfl) (by rfl) (fun w hSw => by obtain ⟨_, k1⟩ := hSw; go_simp) (by exact hH0) ?_
      simp only [Act.put, List.setIfInBounds_toArray, List.set_cons_zero, List.set_cons_succ]
      refine held_take (i := 7) (.slice (some ⟨g1, 0, none⟩) n c1) rfl (by kernel_rfl) (by kernel_rfl) (by kernel_rfl) (by rfl) (fun w hSw => by obtain ⟨_, k1⟩ := hSw; go_simp) (by exact hH0) ?_
      simp only [Act.put, List.setIfInBounds_toArray, List.set_cons_zero, List.set_cons_succ]
      refine held_take (i := 8) (.int .i64 (j : Int)) rfl (by kernel_rfl) (by kernel_rfl) (by kernel_rfl) (by rfl) (fun w hSw => by obtain ⟨_, k1⟩ := hSw; go_simp) (by exact hH0) ?_
      simp only [Act.put, List.setIfInBounds_toArray, List.set_cons_zero, List.set_cons_succ]
      refine held_take (i := 9) (.pointer (some ⟨g1, j, none⟩)) rfl (by kernel_rfl) (by kernel_rfl) (by kernel_rfl) (by rfl) (fun w hSw => by obtain ⟨_, k1⟩ := hSw; go_simp) (by exact hH0) ?_
      simp only [Act.put, List.setIfInBounds_toArray, List.set_cons_zero, List.set_cons_succ]
      refine held_take (i := 10) (.string A) rfl (by kernel_rfl) (by kernel_rfl) (by kernel_rfl) (by rfl) (fun w hSw => by obtain ⟨_, k1⟩ := hSw; go_simp) (by exact hH0) ?_
      simp only [Act.put, List.setIfInBounds_toArray, List.set_cons_zero, List.set_cons_succ]
      refine held_take (i := 11) (.int .i64 (A.size : Int)) rfl (by kernel_rfl) (by kernel_rfl) (by kernel_rfl) (by rfl) (fun w hSw => by obtain ⟨_, k1⟩ := hSw; go_simp) (by exact hH0) ?_
      simp only [Act.put, List.setIfInBounds_toArray, List.set_cons_zero, List.set_cons_succ]
      refine held_take (i := 12) (.int .i64 (Z : Int)) rfl (by kernel_rfl) (by kernel_rfl) (by kernel_rfl) (by rfl) (fun w hSw => by obtain ⟨_, k1⟩ := hSw; go_simp) (by exact hH0) ?_
      simp only [Act.put, List.setIfInBounds_toArray, List.set_cons_zero, List.set_cons_succ]
      refine held_take (i := 13) (.string a) rfl (by kernel_rfl) (by kernel_rfl) (by kernel_rfl) (by rfl) (fun w hSw => by obtain ⟨_, k1⟩ := hSw; go_simp) (by exact hH0) ?_
      simp only [Act.put, List.setIfInBounds_toArray, List.set_cons_zero, List.set_cons_succ]
      refine held_take (i := 14) (.int .i64 (a.size : Int)) rfl (by kernel_rfl) (by kernel_rfl) (by kernel_rfl) (by rfl) (fun w hSw => by obtain ⟨_, k1⟩ := hSw; go_simp) (by exact hH0) ?_
      simp only [Act.put, List.setIfInBounds_toArray, List.set_cons_zero, List.set_cons_succ]
      refine held_take (i := 15) (.bool false) rfl (by kernel_rfl) (by kernel_rfl) (by kernel_rfl) (by rfl) (fun w hSw => by obtain ⟨_, k1⟩ := hSw; go_simp) (by exact hH0) ?_
      simp only [Act.put, List.setIfInBounds_toArray, List.set_cons_zero, List.set_cons_succ]
      refine held_take (i := 16) (.bool false) rfl (by kernel_rfl) (by kernel_rfl) (by kernel_rfl) (by rfl) (fun w hSw => by obtain ⟨_, k1⟩ := hSw; go_simp) (by exact hH0) ?_
      simp only [Act.put, List.setIfInBounds_toArray, List.set_cons_zero, List.set_cons_succ]
      refine held_take (i := 17) (.bool false) rfl (by kernel_rfl) (by kernel_rfl) (by kernel_rfl) (by rfl) (fun w hSw => by obtain ⟨_, k1⟩ := hSw; go_simp) (by exact hH0) ?_
      simp only [Act.put, List.setIfInBounds_toArray, List.set_cons_zero, List.set_cons_succ]
      refine held_take (i := 18) (.string a) rfl (by kernel_rfl) (by kernel_rfl) (by kernel_rfl) (by rfl) (fun w hSw => by obtain ⟨_, k1⟩ := hSw; go_simp) (by exact hH0) ?_
      simp only [Act.put, List.setIfInBounds_toArray, List.set_cons_zero, List.set_cons_succ]
      refine held_take (i := 19) (.int .i64 (off : Int)) rfl (by kernel_rfl) (by kernel_rfl) (by kernel_rfl) (by rfl) (fun w hSw => by obtain ⟨_, k1⟩ := hSw; go_simp) (by exact hH0) ?_
      simp only [Act.put, List.setIfInBounds_toArray, List.set_cons_zero, List.set_cons_succ]
      refine held_take (i := 20) (.int .i64 (off : Int)) rfl (by kernel_rfl) (by kernel_rfl) (by kernel_rfl) (by rfl) (fun w hSw => by obtain ⟨_, k1⟩ := hSw; go_simp) (by exact hH0) ?_
      simp only [Act.put, List.setIfInBounds_toArray, List.set_cons_zero, List.set_cons_succ]
      refine held_take (i := 21) (.slice (some ⟨g1, 0, none⟩) n c1) rfl (by kernel_rfl) (by kernel_rfl) (by kernel_rfl) (by rfl) (fun w hSw => by obtain ⟨_, k1⟩ := hSw; go_simp) (by exact hH0) ?_
      simp only [Act.put, List.setIfInBounds_toArray, List.set_cons_zero, List.set_cons_succ]
      refine held_take (i := 22) (.int .i64 (j : Int)) rfl (by kernel_rfl) (by kernel_rfl) (by kernel_rfl) (by rfl) (fun w hSw => by obtain ⟨_, k1⟩ := hSw; go_simp) (by exact hH0) ?_
      simp only [Act.put, List.setIfInBounds_toArray, List.set_cons_zero, List.set_cons_succ]
      refine held_take (i := 23) (.pointer (some ⟨g1, j, none⟩)) rfl (by kernel_rfl) (by kernel_rfl) (by kernel_rfl) (by rfl) (fun w hSw => by obtain ⟨_, k1⟩ := hSw; go_simp) (by exact hH0) ?_
      simp only [Act.put, List.setIfInBounds_toArray, List.set_cons_zero, List.set_cons_succ]
      refine held_take (i := 24) (.string A) rfl (by kernel_rfl) (by kernel_rfl) (by kernel_rfl) (by rfl) (fun w hSw => by obtain ⟨_, k1⟩ := hSw; go_simp) (by exact hH0) ?_
      simp only [Act.put, List.setIfInBounds_toArray, List.set_cons_zero, List.set_cons_succ]
      refine held_take (i := 25) (.int .i64 (A.size : Int)) rfl (by kernel_rfl) (by kernel_rfl) (by kernel_rfl) (by rfl) (fun w hSw => by obtain ⟨_, k1⟩ := hSw; go_simp) (by exact hH0) ?_
      simp only [Act.put, List.setIfInBounds_toArray, List.set_cons_zero, List.set_cons_succ]
      refine held_take (i := 26) (.int .i64 (Z : Int)) rfl (by kernel_rfl) (by kernel_rfl) (by kernel_rfl) (by rfl) (fun w hSw => by obtain ⟨_, k1⟩ := hSw; go_simp) (by exact hH0) ?_
      simp only [Act.put, List.setIfInBounds_toArray, List.set_cons_zero, List.set_cons_succ]
      refine held_take (i := 27) (.string A) rfl (by kernel_rfl) (by kernel_rfl) (by kernel_rfl) (by rfl) (fun w hSw => by obtain ⟨_, k1⟩ := hSw; go_simp) (by exact hH0) ?_
      simp only [Act.put, List.setIfInBounds_toArray, List.set_cons_zero, List.set_cons_succ]
      refine held_take (i := 28) (.slice (some ⟨g1, 0, none⟩) n c1) rfl (by kernel_rfl) (by kernel_rfl) (by kernel_rfl) (by rfl) (fun w hSw => by obtain ⟨_, k1⟩ := hSw; go_simp) (by exact hH0) ?_
      simp only [Act.put, List.setIfInBounds_toArray, List.set_cons_zero, List.set_cons_succ]
      refine held_take (i := 29) (.int .i64 (j : Int)) rfl (by kernel_rfl) (by kernel_rfl) (by kernel_rfl) (by rfl) (fun w hSw => by obtain ⟨_, k1⟩ := hSw; go_simp) (by exact hH0) ?_
      simp only [Act.put, List.setIfInBounds_toArray, List.set_cons_zero, List.set_cons_succ]
      refine held_take (i := 30) (.pointer (some ⟨g1, j, none⟩)) rfl (by kernel_rfl) (by kernel_rfl) (by kernel_rfl) (by rfl) (fun w hSw => by obtain ⟨_, k1⟩ := hSw; go_simp) (by exact hH0) ?_
      simp only [Act.put, List.setIfInBounds_toArray, List.set_cons_zero, List.set_cons_succ]
      refine held_take (i := 31) (.string A) rfl (by kernel_rfl) (by kernel_rfl) (by kernel_rfl) (by rfl) (fun w hSw => by obtain ⟨_, k1⟩ := hSw; go_simp) (by exact hH0) ?_
      simp only [Act.put, List.setIfInBounds_toArray, List.set_cons_zero, List.set_cons_succ]
      refine held_take (i := 32) (.bool false) rfl (by kernel_rfl) (by kernel_rfl) (by kernel_rfl) (by rfl) (fun w hSw => by obtain ⟨_, k1⟩ := hSw; go_simp) (by exact hH0) ?_
      simp only [Act.put, List.setIfInBounds_toArray, List.set_cons_zero, List.set_cons_succ]
      refine held_take (i := 33) (.bool false) rfl (by kernel_rfl) (by kernel_rfl) (by kernel_rfl) (by rfl) (fun w hSw => by obtain ⟨_, k1⟩ := hSw; go_simp) (by exact hH0) ?_
      simp only [Act.put, List.setIfInBounds_toArray, List.set_cons_zero, List.set_cons_succ]
      refine wpAnyH_done (by kernel_rfl) ?_ _
      refine NoPanic.normal ?_
      have hq1 := hH0.1
      go_wp2_with fail
      obtain ⟨WL, hWL⟩ : ∃ WL, wr.drew = WL := ⟨_, rfl⟩
      rw [hWL] at hq1
      first | rw [hWL] | skip
      clear hst0 hWL R1 f0 f0' f1
      go_loopw [10] (fun kk wr => ∃ t : Nat, t ≤ A.size ∧ kk = .int .i64 t ∧ Hid (St w wr (.slice (some ⟨g1, 0, none⟩) n c1) L (.slice a2 m c2) M)) (fun kk _ => A.size - (intOf kk).toNat)
      case atStart => exact ⟨0, Nat.zero_le _, rfl, hq1⟩
      case round =>
        obtain ⟨t, ht, rfl, hs2⟩ := hrel
        have k1 := (HK.out _ hs2.out).2
        by_cases ht2 : t < A.size
        · obtain ⟨cc, hcc⟩ : ∃ cc : Nat, (A[t]'ht2).toNat = cc := ⟨_, rfl⟩
          have RI := run_index_str A t t rfl ht2
          rw [hcc] at RI
          obtain ⟨y1, y2⟩ := HX.out t ht2
          rw [hcc] at y1 y2
          have F2 : IntKind.i64.wrap ((t : Int) + 1) = (t : Int) + 1 := by rw [IntKind.wrap_i64]; omega
          have F3 : IntKind.i64.wrap ((j : Int) + 1) = (j : Int) + 1 := by rw [IntKind.wrap_i64]; omega
          clear hcc
          by_cases h1 : t + 1 < A.size
          · have e1 : ((cc : Int) == 10) = false := by rw [beq_eq_false_iff_ne]; have := y1 h1; omega
            have e3 : ((t : Int) + 1 == (A.size : Int)) = false := by rw [beq_eq_false_iff_ne]; omega
            clear y1 y2
            go_wp2_with fail
            go_roundw
            case rel => exact ⟨t + 1, by omega, by go_num, hs2⟩
            case measure => simp [intOf]; omega
          · have h2 : t + 1 = A.size := by omega
            have e3 : ((t : Int) + 1 == (A.size : Int)) = true := by rw [beq_iff_eq]; omega
            have e4 : decide ((t : Int) + 1 < (A.size : Int)) = false := by rw [decide_eq_false_iff_not]; omega
            by_cases h10 : cc = 10
            · have e1 : ((cc : Int) == 10) = true := by rw [beq_iff_eq]; omega
              have e1' : ((cc : Int) != 10) = false := by rw [bne, e1]; rfl
              clear y1 y2 h10 h1
              go_wp2_with fail
              go_roundw
              case rel => exact ⟨t + 1, by omega, by go_num, hs2⟩
              case measure => simp [intOf]; omega
            · have hjn : j + 1 = n := (y2 h2).resolve_left h10
              have e1 : ((cc : Int) == 10) = false := by rw [beq_eq_false_iff_ne]; omega
              have e1' : ((cc : Int) != 10) = true := by rw [bne, e1]; rfl
              have e5 : decide ((j : Int) + 1 < (n : Int)) = false := by rw [decide_eq_false_iff_not]; omega
              clear y1 y2 h10 h1
              go_wp2_with fail
              go_roundw
              case rel => exact ⟨t + 1, by omega, by go_num, hs2⟩
              case measure => simp [intOf]; omega
        · obtain rfl : t = A.size := by omega
          go_wp2_with fail
          go_roundw
          case rel => exact ⟨j + 1, by omega, by go_num, by rw [HT.out, ← HZX.out], hs2⟩
          case measure => simp [intOf]; omega
    · obtain rfl : j = n := by omega
      have hfin : (L.take j).flatten.length = a.size := by rw [List.take_of_length_le (by rw [HN.out]; exact Nat.le_refl _), HF.out, ← size_list]
      rw [hfin]
      have hb5 := hst.out.bel
      have hcs : (a ++ b).size = a.size + b.size := by rw [ByteArray.size_append]
      by_cases hw : a.data.toList.getLast? = some 10 ∨ a.data.toList = []
      · have hP3 : ∀ w', Calls Try.prog 11 #[.string (a ++ b)] w' fun e w'' => ∃ a c, e = .returned (.slice a (j + m) c) ∧ Own w'' (.slice a (j + m) c) (L ++ M) ∧ Below w'.heap.size w' w'' := fun w' => (split_is (a ++ b) (L ++ M) (by omega) (HA.out hw) w').mono (by
          rintro e w'' ⟨a, c, rfl, ho, hb⟩
          rw [List.length_append, HN.out, HM.out] at ho
          exact ⟨a, c, by rw [List.length_append, HN.out, HM.out], ⟨_, by rw [List.length_append, HN.out, HM.out]; exact ho⟩, hb⟩)
        by_cases h0 : a.data.toList = []
        · obtain rfl : a = ⟨#[]⟩ := bytes_is h0
          go_wp2_with (first
            | (go_at_call 11; with_reducible refine (hP3 _).mono ?_; rintro e w5 ⟨a3, c3, rfl, o3, hb6⟩; have st5 := hst.out.step hb6; obtain ⟨a6, c6, w6, a7, c7, w7, r6, r7, b7, q3, q4⟩ := two_apps st5.o1 st5.o2 o3 HN.out HM.out (by omega); have q7 := same_yes q3 q4 rfl (by rw [List.length_append, HN.out, HM.out]; omega); have B7 := Lib.hid (hb5.trans ((hb6.trans (b7.mono hb6.size)).mono hb5.size)); clear hP3 b7 hb6 q3 q4 st5 o3)
            | (at_builtin; refine wpList_ran (by rfl) (.tmp 150) (.tmp 151) rfl rfl rfl rfl r6 ?_; clear r6)
            | (at_builtin; refine wpList_ran (by rfl) (.tmp 152) (.tmp 153) rfl rfl rfl rfl r7 ?_; clear r7)
            | (go_at_call 10; with_reducible refine q7.mono ?_; rintro e w8 ⟨rfl, hb8⟩))
          go_ret
          exact ⟨rfl, B7.out.trans (hb8.mono B7.out.size)⟩
        · have hl10 := hw.resolve_right h0
          have hp : 0 < a.size := by rw [size_list]; exact List.length_pos_iff.2 h0
          obtain ⟨q, hq⟩ : ∃ q, a.size - 1 = q := ⟨_, rfl⟩
          have hqa : q < a.size := by omega
          have RI := run_index_str a q q rfl hqa
          have e10 : ((a[q]'hqa).toNat : Int) = 10 := by
            rw [List.getLast?_eq_getElem?, ← size_list, hq, List.getElem?_eq_getElem (by rw [← size_list]; exact hqa)] at hl10
            have h1 : a[q]'hqa = 10 := Option.some.inj hl10
            rw [h1]; rfl
          rw [e10] at RI
          have F4 : IntKind.i64.wrap ((a.size : Int) - 1) = (q : Int) := by rw [IntKind.wrap_i64]; omega
          have f0 : ¬ a.toList = [] := by rw [ByteArray.toList_eq]; exact h0
          have f0' : a.toList.isEmpty = false := by
            cases hh : a.toList with
            | nil => exact absurd hh f0
            | cons _ _ => rfl
          clear e10 hl10 hw hq
          go_wp2_with (first
            | (go_at_call 11; with_reducible refine (hP3 _).mono ?_; rintro e w5 ⟨a3, c3, rfl, o3, hb6⟩; have st5 := hst.out.step hb6; obtain ⟨a6, c6, w6, a7, c7, w7, r6, r7, b7, q3, q4⟩ := two_apps st5.o1 st5.o2 o3 HN.out HM.out (by omega); have q7 := same_yes q3 q4 rfl (by rw [List.length_append, HN.out, HM.out]; omega); have B7 := Lib.hid (hb5.trans ((hb6.trans (b7.mono hb6.size)).mono hb5.size)); clear hP3 b7 hb6 q3 q4 st5 o3)
            | (at_builtin; refine wpList_ran (by rfl) (.tmp 150) (.tmp 151) rfl rfl rfl rfl r6 ?_; clear r6)
            | (at_builtin; refine wpList_ran (by rfl) (.tmp 152) (.tmp 153) rfl rfl rfl rfl r7 ?_; clear r7)
            | (go_at_call 10; with_reducible refine q7.mono ?_; rintro e w8 ⟨rfl, hb8⟩))
          go_ret
          exact ⟨rfl, B7.out.trans (hb8.mono B7.out.size)⟩
      · have h0 : ¬ a.data.toList = [] := fun h => hw (.inr h)
        have hl10 : ¬ a.data.toList.getLast? = some 10 := fun h => hw (.inl h)
        have hp : 0 < a.size := by rw [size_list]; exact List.length_pos_iff.2 h0
        obtain ⟨q, hq⟩ : ∃ q, a.size - 1 = q := ⟨_, rfl⟩
        have hqa : q < a.size := by omega
        obtain ⟨cc, hcc⟩ : ∃ cc : Nat, (a[q]'hqa).toNat = cc := ⟨_, rfl⟩
        have RI := run_index_str a q q rfl hqa
        rw [hcc] at RI
        have e10 : ((cc : Int) == 10) = false := by
          rw [beq_eq_false_iff_ne]
          intro e
          apply hl10
          rw [List.getLast?_eq_getElem?, ← size_list, hq, List.getElem?_eq_getElem (by rw [← size_list]; exact hqa)]
          have h1 : a[q]'hqa = 10 := UInt8.toNat_inj.1 (by rw [hcc]; show cc = 10; omega)
          exact congrArg some h1
        have F4 : IntKind.i64.wrap ((a.size : Int) - 1) = (q : Int) := by rw [IntKind.wrap_i64]; omega
        have f0 : ¬ a.toList = [] := by rw [ByteArray.toList_eq]; exact h0
        have f0' : a.toList.isEmpty = false := by
          cases hh : a.toList with
          | nil => exact absurd hh f0
          | cons _ _ => rfl
        clear hl10 hw hq hcc
        go_wp2_with fail
        go_ret
        exact ⟨rfl, hb5⟩
end Go.Proofs.Ytpoimbhfggkiiaa
