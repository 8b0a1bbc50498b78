/- The law CodecLines: the lines that come out are narrow, and Q's bytes printable. -/
import Derived.Test.YtblbajhjmdcdiaaDoorNarrow
import Derived.Test.YtblbajhjmdcdiaaDoorBack
namespace Go.Proofs.YtblbajhjmdcdiaaDoor
open Go.ChangeShapes Go.WideShapes Go.ChangeAt Go.RowKit

theorem blank_no {c : UInt8} (h : blank c = false) : c.toNat ≠ 32 ∧ c.toNat ≠ 9 := by
  rw [blank_is] at h
  simpa using h
theorem okc_is {c : UInt8} (h : okc c = true) : c.toNat = 9 ∨ (32 ≤ c.toNat ∧ c.toNat ≤ 126) := by
  simpa [okc] using h

set_option maxHeartbeats 8000000 in
set_option maxRecDepth 1000000 in
theorem narrow_any (s : ByteArray) (hs : s.size ≤ 1000000) (hn : narP false 0 false s.data.toList = true) (w : World) :
    Calls Tryd.prog 22 #[.string s] w fun e w' => e = .returned (.bool true) ∧ w = w' := by
  go_enter Tryd.func22, Tryd.ntmps22
  go_wp2
  go_loopw [4, 3] (fun i v wr => ∃ (k n : Nat) (b : Bool), k ≤ s.size ∧ i = .int .i64 k ∧ v = .int .i64 n ∧ n ≤ k ∧ Hid (0 < n → ∃ j, ∃ h : j < s.size, k = j + 1 ∧ blank s[j] = b) ∧ Hid (narP false n b (s.data.toList.drop k) = true) ∧ w = wr)
    (fun i _ _ => s.size - (intOf i).toNat)
  case atStart => exact ⟨0, 0, false, Nat.zero_le _, rfl, rfl, Nat.le_refl _, Lib.hid fun h => absurd h (Nat.lt_irrefl _), Lib.hid (by rw [List.drop_zero]; exact hn), rfl⟩
  case round =>
    obtain ⟨k, n, b, hk, rfl, rfl, hnk, hpre, hnar, rfl⟩ := hrel
    clear hn
    by_cases hlt : k < s.size
    · have hd := drop_cons s k hlt
      have hna := hnar.out
      rw [hd] at hna
      cases hc : crlfAt (s[k] :: s.data.toList.drop (k + 1)) with
      | true =>
        obtain ⟨u, hu⟩ := crlf_inv hc
        obtain ⟨h13, hu2⟩ := List.cons.inj hu
        have hlt2 : k + 1 < s.size := by
          have := congrArg List.length hu2
          rw [List.length_drop, ← size_list, List.length_cons] at this
          omega
        have hd2 := drop_cons s (k + 1) hlt2
        rw [hu2] at hd2
        obtain ⟨h10, hu3⟩ := List.cons.inj hd2
        rw [h13, hu2, narP_end] at hna
        simp only [Bool.and_eq_true, decide_eq_true_eq, Bool.or_eq_true, Bool.not_eq_true'] at hna
        obtain ⟨⟨hn76, hnb⟩, hrest⟩ := hna
        rw [hu3] at hrest
        have HREST := Lib.hid hrest
        have e13 : s[k].toNat = 13 := by rw [h13]; rfl
        have e10 : s[k + 1].toNat = 10 := by rw [← h10]; rfl
        clear hrest hu3 h10 hd2 hu2 h13 hu hc hd hnar
        by_cases hz : n = 0
        · subst hz
          clear hpre hnb
          go_wp2_with fail
          go_roundw
          case rel => exact ⟨k + 2, 0, false, by omega, by go_num, rfl, by omega, Lib.hid fun h => absurd h (Nat.lt_irrefl _), HREST, by first | rfl | trivial⟩
          case measure => simp [intOf]; omega
        · obtain ⟨j, hj, rfl, hjb⟩ := hpre.out (by omega)
          have hbl : blank s[j] = false := by
            rw [hjb]
            rcases hnb with h | h
            · exact absurd h hz
            · exact h
          have hbn := blank_no hbl
          have hri := fun W => run_index_str s (((j + 1 : Nat) : Int) - 1) j (by omega) hj W
          have e32 : ((s[j].toNat : Int) == 32) = false := by rw [beq_eq_false_iff_ne]; omega
          have e9 : ((s[j].toNat : Int) == 9) = false := by rw [beq_eq_false_iff_ne]; omega
          clear hpre hnb hjb hbl
          go_wp2_with fail
          go_roundw
          case rel => exact ⟨j + 1 + 2, 0, false, by omega, by go_num, rfl, by omega, Lib.hid fun h => absurd h (Nat.lt_irrefl _), HREST, by first | rfl | trivial⟩
          case measure => simp [intOf]; omega
      | false =>
        rw [narP_go hc] at hna
        simp only [Bool.and_eq_true] at hna
        obtain ⟨hok, hrest⟩ := hna
        have HREST := Lib.hid hrest
        have hr := okc_is hok
        have e13 : ((s[k].toNat : Int) == 13) = false := by rw [beq_eq_false_iff_ne]; omega
        clear hrest hok hc hd hnar hpre
        rcases hr with hr | hr
        · go_wp2_with fail
          go_roundw
          case rel => exact ⟨k + 1, n + 1, blank s[k], by omega, by go_num, by go_num, by omega, Lib.hid fun _ => ⟨k, hlt, rfl, rfl⟩, HREST, by first | rfl | trivial⟩
          case measure => simp [intOf]; omega
        · obtain ⟨hr1, hr2⟩ := hr
          go_wp2_with fail
          go_roundw
          case rel => exact ⟨k + 1, n + 1, blank s[k], by omega, by go_num, by go_num, by omega, Lib.hid fun _ => ⟨k, hlt, rfl, rfl⟩, HREST, by first | rfl | trivial⟩
          case measure => simp [intOf]; omega
    · have hk2 : k = s.size := by omega
      have hna := hnar.out
      rw [List.drop_eq_nil_of_le (by rw [← size_list]; omega)] at hna
      have hna2 : (decide (n ≤ 76) && (decide (n = 0) || !b)) = true := hna
      simp only [Bool.and_eq_true, decide_eq_true_eq, Bool.or_eq_true, Bool.not_eq_true'] at hna2
      obtain ⟨hn76, hnb⟩ := hna2
      clear hna hnar
      by_cases hz : n = 0
      · subst hz
        clear hpre hnb
        go_wp2_with fail
        go_ret
        exact ⟨rfl, by first | rfl | trivial⟩
      · obtain ⟨j, hj, hkj, hjb⟩ := hpre.out (by omega)
        have hbl : blank s[j] = false := by
          rw [hjb]
          rcases hnb with h | h
          · exact absurd h hz
          · exact h
        have hbn := blank_no hbl
        have hri := fun W => run_index_str s ((s.size : Int) - 1) j (by omega) hj W
        have e32 : ((s[j].toNat : Int) != 32) = true := by rw [bne_iff_ne]; omega
        have e9 : ((s[j].toNat : Int) != 9) = true := by rw [bne_iff_ne]; omega
        have ez : ((n : Int) == 0) = false := by rw [beq_eq_false_iff_ne]; omega
        clear hpre hnb hjb hbl
        go_wp2_with fail
        go_ret
        exact ⟨rfl, by first | rfl | trivial⟩

set_option maxHeartbeats 8000000 in
set_option maxRecDepth 1000000 in
theorem lines_any (s : ByteArray) (w : World) (hv : Vars w) :
    Calls Tryd.prog 5 #[.string s] w fun e w' => e = .returned (.bool true) ∧ Below w.heap.size w w' := by
  have st := Sn.start hv
  by_cases hs : s.size ≤ 10000
  · have hqok := q_ok s.data.toList
    have hql := q_short s hs
    have hq0 : ∀ w' : World, Sn w w' → Calls Tryd.prog 18 #[.string s] w' fun e w'' => e = .returned (.string (strL (qL s.data.toList))) ∧ Sn w w'' := fun _ h => q_go s hs h
    obtain ⟨Q, hQ⟩ : ∃ Q, strL (qL s.data.toList) = Q := ⟨_, rfl⟩
    rw [show qL s.data.toList = Q.data.toList by rw [← hQ]; rfl] at hqok
    rw [hQ] at hql
    simp only [hQ] at hq0
    have hat : ∀ k (h : k < Q.size), 33 ≤ Q[k].toNat ∧ Q[k].toNat ≤ 126 ∧ Q[k].toNat ≠ 63 := fun k h => by
      have := hqok Q[k] (by rw [← at_list Q k h (by rw [← size_list]; exact h)]; exact List.getElem_mem _)
      refine ⟨this.1, this.2.1, fun e => this.2.2 (UInt8.toNat_inj.1 e)⟩
    have hbsh := b64_short s hs
    have hqsh := qp_short s hs
    have hb0 : ∀ w' : World, Sn w w' → Calls Tryd.prog 10 #[.string s] w' fun e w'' => e = .returned (.string (strL (b64L s.data.toList))) ∧ Sn w w'' := fun _ h => b64_go s hs h
    have hp0 : ∀ w' : World, Sn w w' → Calls Tryd.prog 14 #[.string s] w' fun e w'' => e = .returned (.string (strL (qpL s.data.toList))) ∧ Sn w w'' := fun _ h => qp_go s hs h
    have hbn := fun W => narrow_any (strL (b64L s.data.toList)) (by omega) (by rw [strL_list]; exact narrow_b64L _) W
    have hpn := fun W => narrow_any (strL (qpL s.data.toList)) (by omega) (by rw [strL_list]; exact narrow_qpL _) W
    have hlen : ((s.size : Int) + 2) / 3 * 4 ≤ ((strL (b64L s.data.toList)).size : Int) := by
      have := (b64G_length s.data.toList 0).2
      rw [← size_list] at this
      rw [strL_size]
      unfold b64L
      omega
    generalize strL (b64L s.data.toList) = B at hb0 hbn hlen hbsh
    generalize strL (qpL s.data.toList) = P at hp0 hpn hqsh
    have HQ := Lib.hid hq0
    have HB := Lib.hid hb0
    have HP := Lib.hid hp0
    have HBN := Lib.hid hbn
    have HPN := Lib.hid hpn
    have HAT := Lib.hid hat
    clear hq0 hb0 hp0 hbn hpn hat hqok hQ
    go_enter Tryd.func5, Tryd.ntmps5
    go_wp2_with (first
      | (go_at_call 8; refine (small_is st).mono ?_; rintro e w1 ⟨rfl, st⟩)
      | (go_at_call 9; with_reducible refine (few_yes s hs _).mono ?_; rintro e w' ⟨rfl, rfl⟩)
      | (go_at_call 18; refine (HQ.out _ st).mono ?_; rintro e w1 ⟨rfl, st⟩))
    go_loopw [5] (fun i wr => ∃ k : Nat, k ≤ Q.size ∧ i = .int .i64 k ∧ Hid (Sn w wr)) (fun i _ => Q.size - (intOf i).toNat)
    case atStart => exact ⟨0, Nat.zero_le _, rfl, Lib.hid (by assumption)⟩
    case round =>
      clear st
      obtain ⟨k, hk, rfl, st⟩ := hrel
      by_cases hlt : k < Q.size
      · obtain ⟨h1, h2, h3⟩ := HAT.out k hlt
        have e63 : ((Q[k].toNat : Int) == 63) = false := by rw [beq_eq_false_iff_ne]; omega
        go_wp2_with fail
        go_roundw
        case rel => exact ⟨k + 1, by omega, by go_num, st⟩
        case measure => simp [intOf]; omega
      · have st := st.out
        go_wp2_with (first
          | (go_at_call 10; refine (HB.out _ st).mono ?_; rintro e w1 ⟨rfl, st⟩)
          | (go_at_call 14; refine (HP.out _ st).mono ?_; rintro e w1 ⟨rfl, st⟩)
          | (go_at_call 22; with_reducible refine (HBN.out _).mono ?_; rintro e w' ⟨rfl, rfl⟩)
          | (go_at_call 22; with_reducible refine (HPN.out _).mono ?_; rintro e w' ⟨rfl, rfl⟩))
        go_ret
        exact ⟨rfl, st.2⟩
  · go_enter Tryd.func5, Tryd.ntmps5
    go_wp2_with (first
      | (go_at_call 8; refine (small_is st).mono ?_; rintro e w1 ⟨rfl, st⟩)
      | (go_at_call 9; with_reducible refine (few_no s hs _).mono ?_; rintro e w' ⟨rfl, rfl⟩))
    go_ret
    exact ⟨rfl, st.2⟩
end Go.Proofs.YtblbajhjmdcdiaaDoor
