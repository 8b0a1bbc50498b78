/- FoldGlob: the parts in their places are the string but for case, one unit for each wildcard that asks for one. -/
import Derived.Test.YtbplbifmohbfdaaDoorRefM
namespace Go.Proofs.YtbplbifmohbfdaaDoor
open Go.ChangeShapes Go.WideShapes Go.ChangeAt Go.RowKit

theorem few_any (a b : ByteArray) (r : Bool) (hr : (decide (a.size ≤ 300) && decide (b.size ≤ 60)) = r) (w : World) :
    Calls Tryd.prog 18 #[.string a, .string b] w fun e w' => e = .returned (.bool r) ∧ w = w' := by
  have hm : ∀ a : ByteArray, decide ((a.size : Int) ≤ 300) = decide (a.size ≤ 300) := fun a => by rw [Bool.eq_iff_iff]; simp; omega
  have hk : ∀ a : ByteArray, decide ((a.size : Int) ≤ 60) = decide (a.size ≤ 60) := fun a => by rw [Bool.eq_iff_iff]; simp; omega
  by_cases h1 : a.size ≤ 300
  · by_cases h2 : b.size ≤ 60
    · rw [decide_eq_true h1, decide_eq_true h2] at hr
      subst hr
      have i1 : (a.size : Int) ≤ 300 := by omega
      have i2 : (b.size : Int) ≤ 60 := by omega
      clear hm hk
      go_enter Tryd.func18, Tryd.ntmps18
      go_wp2_with fail
      go_ret
      refine ⟨?_, rfl⟩
      simp
    · rw [decide_eq_false h2, Bool.and_false] at hr
      subst hr
      have i1 : (a.size : Int) ≤ 300 := by omega
      have i2 : ¬ (b.size : Int) ≤ 60 := by omega
      clear hm hk
      go_enter Tryd.func18, Tryd.ntmps18
      go_wp2_with fail
      go_ret
      refine ⟨?_, rfl⟩
      simp
  · rw [decide_eq_false h1, Bool.false_and] at hr
    subst hr
    have i1 : ¬ (a.size : Int) ≤ 300 := by omega
    clear hm hk
    go_enter Tryd.func18, Tryd.ntmps18
    go_wp2_with fail
    go_ret
    refine ⟨?_, rfl⟩
    simp
theorem wild_le : ∀ M : List Mk, wildN M ≤ M.length
  | [] => Nat.le_refl _
  | .lit u :: M => by have := wild_le M; simp only [wildN, List.length_cons]; omega
  | .one :: M => by have := wild_le M; simp only [wildN, List.length_cons]; omega
  | .star :: M => by have := wild_le M; simp only [wildN, List.length_cons]; omega
theorem flat_len_cons (x : List UInt8) (l : List (List UInt8)) : (x :: l).flatten.length = x.length + l.flatten.length := by rw [List.flatten_cons, List.length_append]
theorem rest_cons {r : List (List UInt8)} {k : Nat} {rr : List (List UInt8)} (h : r.drop k = rr) (hk : k < r.length) : ∃ x, rr = x :: r.drop (k + 1) ∧ r[k]? = some x :=
  ⟨r[k], by rw [← h, List.drop_eq_getElem_cons hk], List.getElem?_eq_getElem hk⟩
theorem part_le (r : List (List UInt8)) (k : Nat) (x : List UInt8) (h : r[k]? = some x) : x.length ≤ r.flatten.length := by
  have hk := (List.getElem?_eq_some_iff.1 h).1
  have hx := (List.getElem?_eq_some_iff.1 h).2
  have := flat_part r k 1
  rw [List.drop_eq_getElem_cons hk, List.take_succ_cons, List.take_zero, hx] at this
  simpa using this
set_option maxHeartbeats 8000000 in
set_option maxRecDepth 1000000 in
theorem glob_law (comp : Int) (pat s : ByteArray) (w : World) (hv : Vars w) :
    Calls Tryd.prog 4 #[.int .i64 comp, .string pat, .string s] w fun e w' => e = .returned (.bool true) ∧ Below w.heap.size w w' := by
  have hst : St w w [] := ⟨hv, Below.refl _ _, fun p hp => by cases hp⟩
  by_cases hf : s.size ≤ 300 ∧ pat.size ≤ 60
  · obtain ⟨h1, h2⟩ := hf
    have kF := fun W => few_any s pat true (by rw [decide_eq_true h1, decide_eq_true h2]; rfl) W
    cases hg : globP comp pat.data.toList s.data.toList with
    | none =>
      have kG := fun (w1 : World) L (h : St w w1 L) => glob_no comp pat s (by omega) (by omega) hg h
      clear hg
      go_enter Tryd.func4, Tryd.ntmps4
      go_wp2_with (first
        | (go_at_call 8; refine (small_st hst).mono ?_; rintro e w1 ⟨rfl, hs1⟩)
        | (go_at_call 18; refine (kF _).mono ?_; rintro e w1 ⟨rfl, rfl⟩)
        | (go_at_call 19; with_reducible refine (kG _ _ (by assumption)).mono ?_; rintro e w1 ⟨a, c, rfl, hs2⟩))
      go_ret
      exact ⟨rfl, hs2.below⟩
    | some r =>
      obtain ⟨hc, hw, ho, hfl, hord, hpl⟩ := glob_told hg
      obtain ⟨RN, hRN⟩ : ∃ n, r.length = n := ⟨_, rfl⟩
      have kG := fun (w1 : World) L (h : St w w1 L) => glob_yes comp pat s r RN (by omega) (by omega) hg hRN h
      have kM := fun W => rmarks_any pat (by omega) W
      have hML60 : (marksU (unitsL pat.data.toList)).length ≤ 60 := by
        have e1 := marks_len (unitsL pat.data.toList)
        have e2 := units_le pat.data.toList
        rw [← size_list] at e2
        omega
      generalize marksU (unitsL pat.data.toList) = M at hML60 hw ho hord hpl kM
      obtain ⟨P, hP⟩ : ∃ P, putB M r = P := ⟨_, rfl⟩
      rw [hP] at hord hpl
      obtain ⟨ML, hML⟩ : ∃ n, M.length = n := ⟨_, rfl⟩
      rw [hML] at kM hML60
      rw [← size_list] at hpl hfl
      have hRN60 : RN ≤ 60 := by
        have := wild_le M
        omega
      have HP := Lib.hid hP
      have HORD := Lib.hid hord
      have HO := Lib.hid ho
      have HW := Lib.hid hw
      clear hg hP hord ho hw hc
      go_enter Tryd.func4, Tryd.ntmps4
      go_wp2_with (first
        | (go_at_call 8; refine (small_st hst).mono ?_; rintro e w1 ⟨rfl, hs1⟩)
        | (go_at_call 18; refine (kF _).mono ?_; rintro e w1 ⟨rfl, rfl⟩)
        | (go_at_call 19; with_reducible refine (kG _ _ (by assumption)).mono ?_; rintro e w1 ⟨a, c, rfl, hs2⟩)
        | (go_at_call 20; with_reducible refine (kM _).mono ?_; rintro e W2 ⟨ma, mc, rfl, hMA, hb2⟩; replace hs2 := hs2.next hb2))
      clear kF kG kM hst hs1 hb2 hv
      go_loopw [12, 13, 14, 15] (fun bv av kv iv wr => ∃ (i k : Nat) (bb aa : ByteArray) (rr : List (List UInt8)), bv = .string bb ∧ av = .string aa ∧ kv = .int .i64 k ∧ iv = .int .i64 i ∧ i ≤ ML ∧ k + rr.length = RN ∧ Hid (r.drop k = rr) ∧ rr.length = wildN (M.drop i) ∧ Hid (oneOk (M.drop i) rr) ∧ Hid (bb.data.toList ++ putB (M.drop i) rr = P) ∧ aa.size + rr.flatten.length = r.flatten.length ∧ bb.size ≤ 300 ∧ Below W2.heap.size W2 wr) (fun _ _ _ i _ => ML - (intOf i).toNat)
      case atStart => exact ⟨0, 0, ⟨#[]⟩, ⟨#[]⟩, r, rfl, rfl, rfl, rfl, Nat.zero_le _, by omega, Lib.hid rfl, by rw [List.drop_zero]; exact HW.out, by rw [List.drop_zero]; exact HO, Lib.hid (by rw [List.drop_zero]; exact HP.out), by show 0 + _ = _; omega, Nat.zero_le _, Below.refl _ _⟩
      case round =>
        obtain ⟨i, k, bb, aa, rr, rfl, rfl, rfl, rfl, hi, hk, HR, hwn, HOO, HB, haa, hbb, hbw⟩ := hrel
        have hsr := hs2.next hbw
        have hzr := hbw.size
        by_cases hlt : i < ML
        · have hiM : i < M.length := by omega
          have hMr := hMA.below hbw
          obtain ⟨mg, rfl, l1, l2⟩ := hMr i M[i] (List.getElem?_eq_getElem hiM)
          have hdrop := List.drop_eq_getElem_cons hiM
          rw [hdrop] at hwn
          have hoo := HOO.out
          have hbo := HB.out
          rw [hdrop] at hoo hbo
          have hble := congrArg List.length hbo
          rw [List.length_append, hpl, ← size_list] at hble
          clear HOO HB hdrop
          cases hm : M[i] with
          | lit u =>
            rw [hm] at l1 l2 hwn hoo hbo hble
            simp only [wildN] at hwn
            simp only [oneOk] at hoo
            simp only [putB] at hbo hble
            change wr.cell? ⟨mg, i * 2, none⟩ = some (.int .i64 0) at l1
            change wr.cell? ⟨mg, i * 2 + 1, none⟩ = some (.string (strL u)) at l2
            rw [List.length_append] at hble
            obtain ⟨z, hz⟩ : ∃ z, bb ++ strL u = z := ⟨_, rfl⟩
            have zz : z.size = bb.size + u.length := by rw [← hz, ByteArray.size_append, strL_size]
            have HZ : Hid (z.data.toList ++ putB (M.drop (i + 1)) rr = P) := Lib.hid (by rw [← hz, list_append, List.append_assoc]; exact hbo)
            replace hoo := Lib.hid hoo
            have zu := strL_size u
            generalize strL u = U at l2 hz zu
            clear hm hbo
            go_wp2_with fail
            go_roundw
            case rel => exact ⟨i + 1, k, z, aa, rr, rfl, rfl, rfl, rfl, by omega, hk, HR, hwn, hoo, HZ, haa, by omega, hbw⟩
            case measure => simp only [intOf]; omega
          | one =>
            rw [hm] at l1 l2 hwn hoo hbo hble
            simp only [wildN] at hwn
            simp only [oneOk] at hoo
            simp only [putB] at hbo hble
            change wr.cell? ⟨mg, i * 2, none⟩ = some (.int .i64 1) at l1
            have hkR : k < r.length := by omega
            obtain ⟨x, hrr, hxk⟩ := rest_cons HR.out hkR
            have hxl := part_le r k x hxk
            rw [hrr] at hk hwn hoo hbo hble haa
            rw [flat_len_cons] at haa
            simp only [List.headD_cons, List.tail_cons] at hoo hbo hble
            rw [List.length_cons] at hk hwn
            rw [List.length_append] at hble
            have hsx : St w wr ((a, r) :: []) := hsr
            obtain ⟨g4, o4, e4, l3⟩ := (hsx.2.2 _ List.mem_cons_self) k x hxk
            simp only at e4
            subst e4
            clear hsx hrr
            obtain ⟨z, hz⟩ : ∃ z, bb ++ strL x = z := ⟨_, rfl⟩
            obtain ⟨y, hy⟩ : ∃ y, aa ++ strL x = y := ⟨_, rfl⟩
            have zz : z.size = bb.size + x.length := by rw [← hz, ByteArray.size_append, strL_size]
            have zy : y.size = aa.size + x.length := by rw [← hy, ByteArray.size_append, strL_size]
            have HZ : Hid (z.data.toList ++ putB (M.drop (i + 1)) (r.drop (k + 1)) = P) := Lib.hid (by rw [← hz, list_append, List.append_assoc]; exact hbo)
            have zu := strL_size x
            have hu1 := hoo.1
            have kU := units_any (strL x) (by omega) wr
            rw [strL_list, hu1] at kU
            generalize unitsL x = UX at kU
            have HOX := Lib.hid hoo.2
            clear hoo hu1
            generalize strL x = X at l3 hz hy zu kU
            clear hm hbo
            have hkI : ¬ (RN : Int) ≤ (k : Int) := by omega
            have hkN : k < RN := by omega
            go_wp2_with (go_at_call 10; with_reducible refine kU.mono ?_; rintro e w7 ⟨g7, rfl, _, _, hb7⟩; replace l3 := cell_below l3 hb7)
            go_roundw
            case rel => exact ⟨i + 1, k + 1, z, y, r.drop (k + 1), rfl, rfl, rfl, rfl, by omega, by omega, Lib.hid rfl, by omega, HOX, HZ, by omega, by omega, hbw.trans (hb7.mono hzr)⟩
            case measure => simp only [intOf]; omega
          | star =>
            rw [hm] at l1 l2 hwn hoo hbo hble
            simp only [wildN] at hwn
            simp only [oneOk] at hoo
            simp only [putB] at hbo hble
            change wr.cell? ⟨mg, i * 2, none⟩ = some (.int .i64 2) at l1
            have hkR : k < r.length := by omega
            obtain ⟨x, hrr, hxk⟩ := rest_cons HR.out hkR
            have hxl := part_le r k x hxk
            rw [hrr] at hk hwn hoo hbo hble haa
            rw [flat_len_cons] at haa
            simp only [List.headD_cons, List.tail_cons] at hoo hbo hble
            rw [List.length_cons] at hk hwn
            rw [List.length_append] at hble
            have hsx : St w wr ((a, r) :: []) := hsr
            obtain ⟨g4, o4, e4, l3⟩ := (hsx.2.2 _ List.mem_cons_self) k x hxk
            simp only at e4
            subst e4
            clear hsx hrr
            obtain ⟨z, hz⟩ : ∃ z, bb ++ strL x = z := ⟨_, rfl⟩
            obtain ⟨y, hy⟩ : ∃ y, aa ++ strL x = y := ⟨_, rfl⟩
            have zz : z.size = bb.size + x.length := by rw [← hz, ByteArray.size_append, strL_size]
            have zy : y.size = aa.size + x.length := by rw [← hy, ByteArray.size_append, strL_size]
            have HZ : Hid (z.data.toList ++ putB (M.drop (i + 1)) (r.drop (k + 1)) = P) := Lib.hid (by rw [← hz, list_append, List.append_assoc]; exact hbo)
            have zu := strL_size x
            have HOX := Lib.hid hoo
            clear hoo
            generalize strL x = X at l3 hz hy zu
            clear hm hbo
            have hkI : ¬ (RN : Int) ≤ (k : Int) := by omega
            have hkN : k < RN := by omega
            go_wp2_with fail
            go_roundw
            case rel => exact ⟨i + 1, k + 1, z, y, r.drop (k + 1), rfl, rfl, rfl, rfl, by omega, by omega, Lib.hid rfl, by omega, HOX, HZ, by omega, by omega, hbw⟩
            case measure => simp only [intOf]; omega
        · obtain rfl : i = ML := by omega
          have hd0 : M.drop i = [] := List.drop_eq_nil_of_le (by omega)
          rw [hd0] at hwn
          have hb := HB.out
          rw [hd0] at hb
          simp only [wildN] at hwn
          simp only [putB, List.append_nil] at hb
          obtain rfl : rr = [] := List.eq_nil_of_length_eq_zero hwn
          simp only [List.length_nil, List.flatten_nil] at hk haa
          have kO := fun (w1 : World) L (h : St w w1 L) => order_is comp bb s (by omega) (by omega) 0 (by rw [hb]; exact HORD.out) h
          have zb : bb.size = s.size := by rw [size_list, hb]; exact hpl
          clear HB hb HOO
          go_wp2_with (go_at_call 16; with_reducible refine (kO _ _ (by assumption)).mono ?_; rintro e w1 ⟨rfl, hs3⟩)
          go_ret
          refine ⟨?_, hs3.below⟩
          have hle : aa.size ≤ s.size := by omega
          show Ending.returned (.bool (decide (aa.size ≤ s.size))) = _
          rw [decide_eq_true hle]
  · have kF := fun W => few_any s pat false (by
      rw [Bool.and_eq_false_iff]
      by_cases h : s.size ≤ 300
      · exact .inr (decide_eq_false (fun h2 => hf ⟨h, h2⟩))
      · exact .inl (decide_eq_false h)) W
    clear hf
    go_enter Tryd.func4, Tryd.ntmps4
    go_wp2_with (first
      | (go_at_call 8; refine (small_any w hv).mono ?_; rintro e w1 ⟨rfl, hb1⟩)
      | (go_at_call 18; refine (kF _).mono ?_; rintro e w1 ⟨rfl, rfl⟩))
    go_ret
    exact ⟨rfl, hb1⟩
end Go.Proofs.YtbplbifmohbfdaaDoor
