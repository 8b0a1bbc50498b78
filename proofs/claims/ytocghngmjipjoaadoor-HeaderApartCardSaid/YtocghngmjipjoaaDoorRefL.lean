/- The reference's Lines and Bare. -/
import Derived.Test.YtocghngmjipjoaaDoorByte
import Derived.Test.YtocghngmjipjoaaDoorOwn
import Derived.Test.YtocghngmjipjoaaDoorLinesIdx
namespace Go.Proofs.YtocghngmjipjoaaDoor
open Go.ChangeShapes Go.WideShapes Go.ChangeAt Go.RowKit
open LinesP HdrP

set_option maxRecDepth 100000 in
set_option maxHeartbeats 4000000 in
theorem rlines_any (s : ByteArray) (hs : s.size ≤ 900000) (w : World) :
    Calls Tryd.prog 26 #[.string s] w fun e w' => ∃ a c, e = .returned (.slice a (splitL s.data.toList).length c) ∧ w'.ownsRow w.heap.size 9 1 (.slice a (splitL s.data.toList).length c) (splitL s.data.toList).length ((splitL s.data.toList).map strV) ∧ Below w.heap.size w w' := by
  obtain ⟨S, hS⟩ : ∃ S, s.data.toList = S := ⟨_, rfl⟩
  have HS := Lib.hid hS
  have HZ := Lib.hid (size_list s)
  rw [hS] at HZ ⊢
  clear hS
  go_enter Tryd.func26, Tryd.ntmps26
  go_wp2_with fail
  go_loopw [3, 4, 5] (fun o f i wr => ∃ (k m fr : Nat), k ≤ s.size ∧ m ≤ k ∧ fr ≤ k ∧ i = .int .i64 k ∧ f = .int .i64 fr ∧ Hid (frN S k = fr) ∧ Hid ((outN S k).length = m) ∧ (∃ a c, o = .slice a m c) ∧ Hid (wr.ownsRow w.heap.size 9 1 o (outN S k).length ((outN S k).map strV)) ∧ Hid (Below w.heap.size w wr)) (fun _ _ i _ => s.size - (intOf i).toNat)
  case atStart =>
    obtain ⟨z1, z2⟩ := out_zero S
    exact ⟨0, 0, 0, Nat.zero_le _, Nat.le_refl _, Nat.le_refl _, rfl, rfl, z2, Lib.hid (by rw [z1]; rfl), ⟨none, 0, rfl⟩, Lib.hid (by rw [z1]; exact ⟨rfl, .inl ⟨rfl, rfl⟩⟩), Below.refl _ _⟩
  case round =>
    obtain ⟨k, m, fr, hk, hmk, hfk, rfl, rfl, hfr, hm, ⟨a, c, rfl⟩, ho, hb⟩ := hrel
    have F1 : IntKind.i64.wrap ((k : Int) + 1) = (k : Int) + 1 := by rw [IntKind.wrap_i64]; omega
    by_cases hlt : k < s.size
    · have hlt' : (k : Int) < (s.size : Int) := by omega
      obtain ⟨ch, x, hc, hx, hx2, RI⟩ := run_byte s k hlt
      rw [HS.out] at hc
      have e1 := byte_is ch x hx 10 (by decide)
      rw [show ((10 : Nat) : Int) = 10 from rfl] at e1
      have R1 := run_slice_str s fr (k + 1) ((k : Int) + 1) (by omega) (by omega) (by omega)
      rw [part_of s fr (k + 1) (by omega) (by omega), HS.out] at R1
      have hp := fr_piece S k ch hc
      rw [hfr.out] at hp
      rw [hp] at R1
      obtain ⟨X, hX⟩ : ∃ X, restL (S.take k) ++ [ch] = X := ⟨_, rfl⟩
      rw [hX] at R1
      have hstep := out_step S k ch hc
      have hsame := out_same S k ch hc
      rw [hX] at hstep
      clear hc hx hp hX
      by_cases h1 : ch = UInt8.ofNat 10
      · rw [decide_eq_true h1] at e1
        have HST := Lib.hid (hstep (.inl h1))
        clear hstep hsame h1
        go_wp2_with (at_builtin; refine wpList_app1 (by rfl) (.tmp 23) (.tmp 29) rfl rfl w.heap.size X rfl rfl ho.out hm.out (by exact hb.out.size) (by omega) ?_; intro a2 c2 w2 h2 g2; replace h2 := Lib.hid h2; replace g2 := Lib.hid g2)
        go_roundw
        case rel => exact ⟨k + 1, m + 1, k + 1, by omega, by omega, by omega, by go_num, by go_num, HST.out.2, Lib.hid (by rw [HST.out.1, List.length_append, hm.out]; rfl), ⟨a2, c2, rfl⟩, Lib.hid (by rw [HST.out.1]; exact h2.out), (hb.out.alloc hb.out.size _).grown g2.out (by have := hb.out.size; rw [World.size_alloc]; omega) (fun k e => (ho.out.lt k e).1)⟩
        case measure => simp [intOf]; omega
      · rw [decide_eq_false h1] at e1
        by_cases h2 : k + 1 = s.size
        · have h2' : ((k : Int) + 1 == (s.size : Int)) = true := by rw [beq_iff_eq]; omega
          have HST := Lib.hid (hstep (.inr (by rw [← HZ.out]; exact h2)))
          clear hstep hsame h1
          go_wp2_with (at_builtin; refine wpList_app1 (by rfl) (.tmp 23) (.tmp 29) rfl rfl w.heap.size X rfl rfl ho.out hm.out (by exact hb.out.size) (by omega) ?_; intro a2 c2 w2 h2 g2; replace h2 := Lib.hid h2; replace g2 := Lib.hid g2)
          go_roundw
          case rel => exact ⟨k + 1, m + 1, k + 1, by omega, by omega, by omega, by go_num, by go_num, HST.out.2, Lib.hid (by rw [HST.out.1, List.length_append, hm.out]; rfl), ⟨a2, c2, rfl⟩, Lib.hid (by rw [HST.out.1]; exact h2.out), (hb.out.alloc hb.out.size _).grown g2.out (by have := hb.out.size; rw [World.size_alloc]; omega) (fun k e => (ho.out.lt k e).1)⟩
          case measure => simp [intOf]; omega
        · have h2' : ((k : Int) + 1 == (s.size : Int)) = false := by rw [beq_eq_false_iff_ne]; omega
          have HSA := Lib.hid (hsame (fun e => h1 e) (by rw [← HZ.out]; exact h2))
          clear hstep hsame h1
          go_wp2_with fail
          go_roundw
          case rel => exact ⟨k + 1, m, fr, by omega, by omega, by omega, by go_num, rfl, Lib.hid (by rw [HSA.out.2]; exact hfr.out), Lib.hid (by rw [HSA.out.1]; exact hm.out), ⟨a, c, rfl⟩, Lib.hid (by rw [HSA.out.1]; exact ho.out), hb⟩
          case measure => simp [intOf]; omega
    · obtain rfl : k = s.size := by omega
      have hoe := out_end S
      rw [← HZ.out] at hoe
      have HOE := Lib.hid hoe
      clear hoe
      go_wp2_with fail
      go_ret
      have h1 := ho.out
      have h2 := hm.out
      rw [HOE.out] at h1 h2
      rw [h2] at h1 ⊢
      exact ⟨a, c, rfl, h1, hb.out⟩
set_option maxRecDepth 100000 in
set_option maxHeartbeats 2000000 in
theorem rbare_any (l : ByteArray) (hs : l.size ≤ 1000000) (w : World) :
    Calls Tryd.prog 27 #[.string l] w fun e w' => e = .returned (.string (strL (bareL l.data.toList))) ∧ w = w' := by
  have hsz := size_list l
  rcases List.eq_nil_or_concat l.data.toList with h0 | ⟨m, c, hm⟩
  · obtain rfl : l = ⟨#[]⟩ := bytes_is h0
    go_enter Tryd.func27, Tryd.ntmps27
    go_wp2_with fail
    go_ret
    exact ⟨rfl, rfl⟩
  · rw [List.concat_eq_append] at hm
    rw [hm, List.length_append, List.length_singleton] at hsz
    obtain ⟨q, hq⟩ : ∃ q, m.length = q := ⟨_, rfl⟩
    have hql : q < l.size := by omega
    obtain ⟨ch, x, hc, hx, _, RI⟩ := run_byte l q hql
    have hcc : ch = c := by
      rw [hm, List.getElem?_append_right (by omega), hq, Nat.sub_self] at hc
      simpa using hc.symm
    subst hcc
    have e1 := byte_is ch x hx 10 (by decide)
    rw [show ((10 : Nat) : Int) = 10 from rfl] at e1
    have F1 : IntKind.i64.wrap ((l.size : Int) - 1) = (q : Int) := by rw [IntKind.wrap_i64]; omega
    have hl0 : (0 : Int) < (l.size : Int) := by omega
    by_cases h10 : ch = UInt8.ofNat 10
    · rw [decide_eq_true h10] at e1
      have h10' : ch = 10 := h10
      subst h10'
      rw [hm, bare_term]
      rcases List.eq_nil_or_concat m with hm0 | ⟨m2, d, hm2⟩
      · subst hm0
        obtain rfl : q = 0 := by simp at hq; omega
        rw [show ((0 : Nat) : Int) = 0 from rfl] at RI F1
        have R2 := run_slice_to l 0 0 rfl (by omega)
        rw [show l.extract 0 0 = strL [] from bytes_is (by rw [part_start l 0 (by omega)]; rfl)] at R2
        rw [if_neg (by simp)]
        clear hc hm hq hsz hx h10
        generalize strL [] = X at R2 ⊢
        go_enter Tryd.func27, Tryd.ntmps27
        go_wp2_with fail
        go_ret
        exact ⟨rfl, rfl⟩
      · rw [List.concat_eq_append] at hm2
        obtain ⟨p, hp⟩ : ∃ p, m2.length = p := ⟨_, rfl⟩
        have hqp : q = p + 1 := by rw [← hq, hm2, List.length_append, hp]; rfl
        have hpl : p < l.size := by omega
        obtain ⟨dh, y, hd, hy, _, RJ⟩ := run_byte l p hpl
        have hdd : dh = d := by
          rw [hm, hm2, List.getElem?_append_left (by rw [List.length_append, hp]; simp), List.getElem?_append_right (by omega), hp, Nat.sub_self] at hd
          simpa using hd.symm
        subst hdd
        have e2 := byte_is dh y hy 13 (by decide)
        rw [show ((13 : Nat) : Int) = 13 from rfl] at e2
        have F2 : IntKind.i64.wrap ((q : Int) - 1) = (p : Int) := by rw [IntKind.wrap_i64]; omega
        have hq0 : (0 : Int) < (q : Int) := by omega
        have hgl : m.getLast? = some dh := by rw [hm2]; simp
        by_cases h13 : dh = UInt8.ofNat 13
        · rw [if_pos (show m.getLast? = some 13 from by rw [hgl]; exact congrArg some h13)]
          rw [decide_eq_true h13] at e2
          have R2 := run_slice_to l p (p : Int) rfl (by omega)
          have hcut : l.extract 0 p = strL m.dropLast := bytes_is (by
            rw [part_start l p (by omega), hm, hm2, strL_list, List.dropLast_concat, List.append_assoc, List.take_append_of_le_length (by omega), List.take_of_length_le (by omega)])
          rw [hcut] at R2
          generalize strL m.dropLast = X at R2 ⊢
          clear hcut hc hd hm hm2 hq hqp hsz hp hgl hx hy h13 h10
          go_enter Tryd.func27, Tryd.ntmps27
          go_wp2_with fail
          go_ret
          exact ⟨rfl, rfl⟩
        · rw [if_neg (show ¬ m.getLast? = some 13 from by rw [hgl]; intro e; injection e with e; exact h13 e)]
          rw [decide_eq_false h13] at e2
          have R2 := run_slice_to l q (q : Int) rfl (by omega)
          have hcut : l.extract 0 q = strL m := bytes_is (by
            rw [part_start l q (by omega), hm, strL_list, List.take_append_of_le_length (by omega), List.take_of_length_le (by omega)])
          rw [hcut] at R2
          generalize strL m = X at R2 ⊢
          clear hcut hc hd hm hm2 hq hqp hsz hp hgl hx hy h13 h10
          go_enter Tryd.func27, Tryd.ntmps27
          go_wp2_with fail
          go_ret
          exact ⟨rfl, rfl⟩
    · rw [decide_eq_false h10] at e1
      have hb : strL (bareL l.data.toList) = l := by
        rw [bare_other (by rw [hm]; simp; exact fun e => h10 e), strL_of]
      have R2 := run_slice_to l l.size (l.size : Int) rfl (Nat.le_refl _)
      rw [show l.extract 0 l.size = l from bytes_is (by rw [part_start l _ (Nat.le_refl _), List.take_of_length_le (by rw [← size_list]; exact Nat.le_refl _)])] at R2
      rw [hb]
      clear hb hc hm hq hsz hx h10
      go_enter Tryd.func27, Tryd.ntmps27
      go_wp2_with fail
      go_ret
      exact ⟨rfl, rfl⟩
end Go.Proofs.YtocghngmjipjoaaDoor
