/- The reference's Bare and told; few. -/
import Derived.Test.YtpoimbhfggkiiaaRefS
namespace Go.Proofs.Ytpoimbhfggkiiaa
open Go.ChangeShapes Go.WideShapes Go.ChangeAt Go.RowKit
open LinesP

theorem byte_eq (c : UInt8) (n : Nat) (h : c.toNat = n) : ((c.toNat : Int) == 10) = decide (n = 10) := by
  rw [h, Bool.eq_iff_iff, beq_iff_eq, decide_eq_true_iff]; omega
set_option maxRecDepth 100000 in
set_option maxHeartbeats 2000000 in
theorem rbare_any (l : ByteArray) (hs : l.size ≤ 1000000) (w : World) :
    Calls Try.prog 14 #[.string l] w fun e w' => e = .returned (.string (strL (bareL l.data.toList))) ∧ w = w' := by
  have hsz := size_list l
  rcases List.eq_nil_or_concat l.data.toList with h0 | ⟨m, c, hm⟩
  · obtain rfl : l = ⟨#[]⟩ := bytes_is h0
    go_enter Try.func14, Try.ntmps14
    go_wp2_with fail
    go_ret
    exact ⟨rfl, rfl⟩
  · rw [List.concat_eq_append] at hm
    rw [hm, List.length_append, List.length_singleton] at hsz
    obtain ⟨q, hq⟩ : ∃ q, m.length = q := ⟨_, rfl⟩
    have hql : q < l.size := by omega
    have RI := run_index_str l q q rfl hql
    have hc : (l[q]'hql) = c := by
      have h1 : l.data.toList[q]'(by rw [hm]; simp; omega) = c := by
        simp only [hm]
        rw [List.getElem_append_right (by omega)]
        simp [hq]
      exact h1
    rw [hc] at RI
    have F1 : IntKind.i64.wrap ((l.size : Int) - 1) = (q : Int) := by rw [IntKind.wrap_i64]; omega
    have F1' : (l.size : Int) - 1 = (q : Int) := by omega
    have hl0 : ((l.size : Int) == 0) = false := by rw [beq_eq_false_iff_ne]; omega
    obtain ⟨cc, hcc⟩ : ∃ cc : Nat, c.toNat = cc := ⟨_, rfl⟩
    rw [hcc] at RI
    by_cases h10 : c = 10
    · subst h10
      obtain rfl : cc = 10 := hcc.symm
      rw [hm, bare_term]
      rcases List.eq_nil_or_concat m with hm0 | ⟨m2, d, hm2⟩
      · subst hm0
        have R2 := run_slice_to l 0 ((l.size : Int) - 1) (by simp at hq; omega) (by omega)
        have hcut : l.extract 0 0 = strL [] := bytes_is (by rw [part_start l 0 (by omega)]; rfl)
        rw [hcut, F1'] at R2
        rw [if_neg (by simp)]
        have hl1 : ¬ (1 : Int) < (l.size : Int) := by simp at hq; omega
        have hl1' : decide ((1 : Int) < (l.size : Int)) = false := by rw [decide_eq_false_iff_not]; exact hl1
        generalize strL [] = X at R2 ⊢
        clear hcut hc hm hq hsz F1'
        go_enter Try.func14, Try.ntmps14
        go_wp2_with fail
        go_ret
        exact ⟨rfl, rfl⟩
      · rw [List.concat_eq_append] at hm2
        obtain ⟨p, hp⟩ : ∃ p, m2.length = p := ⟨_, rfl⟩
        have hqp : q = p + 1 := by rw [← hq, hm2, List.length_append, hp]; rfl
        have hpl : p < l.size := by omega
        have RJ := run_index_str l p p rfl hpl
        have hd : (l[p]'hpl) = d := by
          have h1 : l.data.toList[p]'(by rw [hm, hm2]; simp; omega) = d := by
            simp only [hm, hm2]
            rw [List.getElem_append_left (by rw [List.length_append, hp]; simp), List.getElem_append_right (by omega)]
            simp [hp]
          exact h1
        rw [hd] at RJ
        have F2 : IntKind.i64.wrap ((l.size : Int) - 2) = (p : Int) := by rw [IntKind.wrap_i64]; omega
        have hl1 : (1 : Int) < (l.size : Int) := by omega
        have hgl : m.getLast? = some d := by rw [hm2]; simp
        by_cases h13 : d = 13
        · subst h13
          rw [if_pos hgl]
          have hcut : l.extract 0 p = strL m.dropLast := bytes_is (by
            rw [part_start l p (by omega), hm, hm2, strL_list, List.dropLast_concat, List.append_assoc, List.take_append_of_le_length (by omega), List.take_of_length_le (by omega)])
          have R2 := run_slice_to l p (p : Int) rfl (by omega)
          rw [hcut] at R2
          have e13 : (((13 : UInt8).toNat : Int) == 13) = true := rfl
          generalize strL m.dropLast = X at R2 ⊢
          clear hcut hc hd hm hm2 hq hqp hsz F1' hp hgl hcc
          go_enter Try.func14, Try.ntmps14
          go_wp2_with fail
          go_ret
          exact ⟨rfl, rfl⟩
        · rw [if_neg (by rw [hgl]; simp [h13])]
          have hcut : l.extract 0 q = strL m := bytes_is (by
            rw [part_start l q (by omega), hm, strL_list, List.take_append_of_le_length (by omega), List.take_of_length_le (by omega)])
          have R2 := run_slice_to l q (q : Int) rfl (by omega)
          rw [hcut] at R2
          have e13 : ((d.toNat : Int) == 13) = false := by
            rw [beq_eq_false_iff_ne]; intro e; exact h13 (UInt8.toNat_inj.1 (by show d.toNat = 13; omega))
          generalize strL m = X at R2 ⊢
          generalize d.toNat = dd at RJ e13
          clear hcut hc hd hm hm2 hq hqp hsz F1' hp hgl hcc
          go_enter Try.func14, Try.ntmps14
          go_wp2_with fail
          go_ret
          exact ⟨rfl, rfl⟩
    · have e10 : ((cc : Int) != 10) = true := by
        rw [bne, Bool.not_eq_true', beq_eq_false_iff_ne]; intro e; exact h10 (UInt8.toNat_inj.1 (by rw [hcc]; show cc = 10; omega))
      have e10' : ((cc : Int) == 10) = false := by
        rw [beq_eq_false_iff_ne]; intro e; exact h10 (UInt8.toNat_inj.1 (by rw [hcc]; show cc = 10; omega))
      have hb : strL (bareL l.data.toList) = l := by
        rw [bare_other (by rw [hm]; simp; exact h10), strL_of]
      rw [hb]
      clear hb hc hm hq hsz F1' hcc
      go_enter Try.func14, Try.ntmps14
      go_wp2_with fail
      go_ret
      exact ⟨rfl, rfl⟩
set_option maxHeartbeats 1000000 in
theorem told_any (l : ByteArray) (n : Nat) (_hs : l.size ≤ 1000000) (_hn : n ≤ 1048576) (w : World) :
    Calls Try.prog 34 #[.string l, .int .i64 n] w fun e w' => e = .returned (.string (strL (l.data.toList.take n))) ∧ w = w' := by
  by_cases h : n < l.size
  · have hcut : l.extract 0 n = strL (l.data.toList.take n) := bytes_is (by rw [part_start l n (by omega)]; rfl)
    have R2 := run_slice_to l n (n : Int) rfl (by omega)
    rw [hcut] at R2
    have h1 : (n : Int) < (l.size : Int) := by omega
    generalize strL (l.data.toList.take n) = X at R2 ⊢
    clear hcut
    go_enter Try.func34, Try.ntmps34
    go_wp2_with fail
    go_ret
    exact ⟨rfl, rfl⟩
  · have hb : strL (l.data.toList.take n) = l := by
      rw [List.take_of_length_le (by rw [← size_list]; omega), strL_of]
    have h1 : ¬ (n : Int) < (l.size : Int) := by omega
    rw [hb]
    clear hb
    go_enter Try.func34, Try.ntmps34
    go_wp2_with fail
    go_ret
    exact ⟨rfl, rfl⟩
end Go.Proofs.Ytpoimbhfggkiiaa
