/- The reference: code points, validity and repair of a string. -/
import Derived.Test.YtdinachiiimngaaGreatDoorKCsRefF
namespace Go.Proofs.YtdinachiiimngaaGreatDoor.Cs
open Go.ChangeShapes Go.WideShapes Go.ChangeAt Go.RowKit

theorem firstO_step {l : List UInt8} (hne : l ≠ []) {N K : Nat} {B : Bool} (h : firstO l = (N, K, B)) :
    runesL l = N :: runesL (l.drop K) ∧ 1 ≤ K ∧ K ≤ l.length ∧ validL l = (B && validL (l.drop K)) ∧ cpB N = true := by
  unfold firstO at h
  cases hf : firstS l with
  | none =>
    rw [hf] at h
    simp only [Prod.mk.injEq] at h
    obtain ⟨rfl, rfl, rfl⟩ := h
    cases l with
    | nil => exact absurd rfl hne
    | cons b t => exact ⟨runes_none hf, Nat.le_refl _, by simp, valid_none hf, cp_bad⟩
  | some n =>
    rw [hf] at h
    simp only [Prod.mk.injEq] at h
    obtain ⟨rfl, rfl, rfl⟩ := h
    obtain ⟨hc, t, rfl⟩ := first_some' hf
    have := enc_len n
    refine ⟨by rw [runes_enc hc, List.drop_left], this.1, by rw [List.length_append]; omega, by rw [valid_enc hc, List.drop_left, Bool.true_and], hc⟩
theorem own_base {w : World} {base : Nat} {e : TypeId} {size : Nat} {v : Value} {n : Nat} {xs : List Value} (h : w.ownsRow base e size v n xs) (j : Nat) (hj : v.ownBlock = some j) : base ≤ j := (h.lt j hj).1
theorem below_own {w w' : World} {base : Nat} {e : TypeId} {size : Nat} {v : Value} {n : Nat} {xs : List Value} (h : w.ownsRow base e size v n xs) (hb : Below w.heap.size w w') : w'.ownsRow base e size v n xs := by
  refine ⟨h.1, ?_⟩
  rcases h.2 with h1 | ⟨g, cap, cur, rfl, hbg, hg, rest⟩
  · exact .inl h1
  · refine .inr ⟨g, cap, cur, rfl, hbg, ?_, rest⟩
    rw [hb.block g (Array.getElem?_eq_some_iff.1 hg).1]
    exact hg
/-- The rest of a string. -/
theorem rest_of (s : ByteArray) (pos : Nat) : ∃ t, s.extract pos s.size = t ∧ t.data.toList = s.data.toList.drop pos ∧ t.size = s.size - pos := by
  refine ⟨_, rfl, ?_, ?_⟩
  · rw [ByteArray.data_extract, Array.toList_extract]
    have e : s.size = s.data.toList.length := rfl
    rw [e]
    simp only [List.extract_eq_take_drop]
    rw [List.take_of_length_le (by rw [List.length_drop]; exact Nat.le_refl _)]
  · rw [ByteArray.size_extract]; omega
theorem first_is (t : ByteArray) (h0 : 0 < t.size) (hs : t.size ≤ 4000000) (l : List UInt8) (hl : t.data.toList = l) (N K : Nat) (B : Bool) (hO : firstO l = (N, K, B)) (w : World) :
    Calls Tryz.prog 212 #[.string t] w fun e w' => e = .returned (.tuple #[.int .i64 N, .int .i64 K, .bool B]) ∧ Below w.heap.size w w' := by
  subst hl
  exact first_any t h0 hs N K B hO w

set_option maxHeartbeats 4000000 in
set_option maxRecDepth 1000000 in
theorem runesR_any (s : ByteArray) (hs : s.size ≤ 4000000) (R : List Nat) (hR : runesL s.data.toList = R) (M : Nat) (hM : R.length = M) (w : World) :
    Calls Tryz.prog 188 #[.string s] w fun e w' => ∃ v, e = .returned v ∧ ((v = .slice none 0 0 ∧ M = 0) ∨ ∃ g cap, v = .slice (some ⟨g, 0, none⟩) M cap ∧ RowAt w' g R) ∧ Below w.heap.size w w' := by
  obtain ⟨i0, hi, hz0, hz1, hz2⟩ := info_parts info3
  have hlen : R.length ≤ s.size := by rw [← hR]; exact (runes_len s.data.toList).1
  have HR := Lib.hid hR
  have HM := Lib.hid hM
  clear hR hM
  go_enter Tryz.func188, Tryz.ntmps188
  go_wp2_with fail
  go_loopw [3, 4] (fun v at_ wr => ∃ pos k : Nat, pos ≤ s.size ∧ at_ = .int .i64 pos ∧ k ≤ R.length ∧ Hid (runesL (s.data.toList.drop pos) = R.drop k) ∧ wr.ownsRow w.heap.size 3 1 v k (intsOf (R.take k)) ∧ Below w.heap.size w wr) (fun _ at_ _ => s.size - (intOf at_).toNat)
  case atStart => exact ⟨0, 0, Nat.zero_le _, rfl, Nat.zero_le _, Lib.hid (by rw [List.drop_zero, List.drop_zero]; exact HR.out), World.ownsRow_nil _ _ _ _, Below.refl _ _⟩
  case round =>
    obtain ⟨pos, k, hp, rfl, hk, HV, hown, hbw⟩ := hrel
    have hszr : w.heap.size ≤ wr.heap.size := hbw.size
    by_cases hlt : pos < s.size
    · obtain ⟨t, hex, hlist, htz⟩ := rest_of s pos
      obtain ⟨⟨N, K, B⟩, hO⟩ : ∃ r, firstO (s.data.toList.drop pos) = r := ⟨_, rfl⟩
      have hne : s.data.toList.drop pos ≠ [] := by
        intro e
        have := congrArg List.length e
        rw [← hlist] at this
        have h2 : t.size = 0 := this
        omega
      have hst := firstO_step hne hO
      have hKl : pos + K ≤ s.size := by
        have := hst.2.2.1
        rw [← hlist] at this
        have h2 : K ≤ t.size := this
        omega
      have hK1 := hst.2.1
      have HX := Lib.hid (fun w => first_is t (by omega) (by omega) _ hlist N K B hO w)
      have hRk : R.drop k = N :: runesL (s.data.toList.drop (pos + K)) := by rw [← HV.out, hst.1, List.drop_drop]
      have hkR : k < R.length := by
        have := congrArg List.length hRk
        rw [List.length_drop, List.length_cons] at this
        omega
      rw [List.drop_eq_getElem_cons hkR] at hRk
      injection hRk with e1 e2
      have HN := Lib.hid e1
      have HV2 := Lib.hid e2
      clear hst hO hlist hne e1 e2
      go_wp2_with (first
        | (go_at_call 212; refine (HX.out _).mono ?_; rintro e w2 ⟨rfl, hb2⟩; have hown2 := below_own hown hb2)
        | (at_builtin; refine wpList_append_own _ rfl (.tmp 20) (.tmp 22) 41 rfl w.heap.size 3 i0 (.int .i64 0) 1 8 Tryz.underlying41 hi hz0 hz1 hz2 rfl (by decide) _ k (intsOf (R.take k)) rfl (hown2.alloc _) ⟨_, 0, none⟩ 1 1 (intsOf [N]) rfl rfl (ints_new _ [N]) (ints_one _) (by unfold maxLen; omega) (by omega) (by simp; have := hb2.size; omega) ?_; intro v4 w4 hown4 hgrow4 hnil4))
      have hb3 := hbw.trans (hb2.mono hszr)
      refine ⟨⟨pos + K, k + 1, hKl, by go_num, by omega, Lib.hid HV2.out.symm, ?_, (hb3.alloc hb3.size _).grown hgrow4 (by have := hb3.size; simp; omega) (fun j hj => own_base hown j hj)⟩, by simp [intOf]; omega⟩
      rw [List.take_succ_eq_append_getElem hkR, HN.out]
      unfold intsOf at hown4 ⊢
      rw [List.map_append]
      exact hown4
    · have hkM : k = R.length := by
        have h1 := congrArg List.length HV.out
        rw [runes_over s pos hlt, List.length_drop, List.length_nil] at h1
        omega
      subst hkM
      go_wp2_with fail
      go_ret
      refine ⟨_, rfl, ?_, hbw⟩
      rw [List.take_length] at hown
      rw [HM.out] at hown
      rcases hown.2 with ⟨rfl, h⟩ | ⟨g, cap, cur, rfl, _⟩
      · exact .inl ⟨rfl, h⟩
      · exact .inr ⟨g, cap, rfl, row_of_own HM.out.symm hown⟩

theorem cells_len (l : List UInt8) (k : Nat) (h : l.length = k) : (cellsOf l).length = k * 1 := by
  unfold cellsOf
  rw [List.length_map, h, Nat.mul_one]
theorem flat_take (R : List Nat) (k : Nat) (h : k < R.length) : (R.take (k + 1)).flatMap encL = (R.take k).flatMap encL ++ encL (R.getD k 0) := by
  rw [List.take_succ_eq_append_getElem h, List.flatMap_append, List.flatMap_singleton, List.getD_eq_getElem?_getD, List.getElem?_eq_getElem h]
  rfl
theorem flat_len (R : List Nat) : (R.flatMap encL).length ≤ 4 * R.length := by
  induction R with
  | nil => simp
  | cons n R ih =>
    have := enc_len n
    rw [List.flatMap_cons, List.length_append, List.length_cons]; omega
set_option maxHeartbeats 4000000 in
set_option maxRecDepth 1000000 in
theorem repairR_any (s : ByteArray) (hs : s.size ≤ 4000000) (t : ByteArray) (ht : t.data.toList = repairL s.data.toList) (w : World) :
    Calls Tryz.prog 159 #[.string s] w fun e w' => e = .returned (.string t) ∧ Below w.heap.size w w' := by
  obtain ⟨i0, hi, hz0, hz1, hz2⟩ := info_parts info5
  obtain ⟨R, hR⟩ : ∃ R, runesL s.data.toList = R := ⟨_, rfl⟩
  obtain ⟨M, hM⟩ : ∃ M, R.length = M := ⟨_, rfl⟩
  have hlen : M ≤ s.size := by rw [← hM, ← hR]; exact (runes_len s.data.toList).1
  have htl : t.data.toList = R.flatMap encL := by rw [ht, ← hR]; rfl
  have HT := Lib.hid (show (⟨(R.flatMap encL).toArray⟩ : ByteArray) = t from bytes_is (by rw [htl]))
  have HC := Lib.hid (show ∀ n ∈ R, cpB n = true by rw [← hR]; exact runes_cp _)
  have KR := Lib.hid (runesR_any s hs R hR M hM w)
  have HM := Lib.hid hM
  clear ht htl hR hM
  go_enter Tryz.func159, Tryz.ntmps159
  go_wp2_with fail
  refine KR.out.mono ?_
  rintro e W1 ⟨v, rfl, hv, hb1⟩
  rcases hv with ⟨rfl, hM0⟩ | ⟨g, cap, rfl, r1⟩
  · have hR0 : R = [] := List.eq_nil_of_length_eq_zero (by rw [HM.out]; exact hM0)
    have ht0 : t = ⟨#[]⟩ := by rw [← HT.out, hR0]; rfl
    subst ht0
    go_wp2_with fail
    go_loopw [3, 5] (fun o i wr => i = .int .i64 0 ∧ o = .slice none 0 0 ∧ Below w.heap.size w wr) (fun _ _ _ => 0)
    case atStart => exact ⟨rfl, rfl, hb1⟩
    case round =>
      obtain ⟨rfl, rfl, hbw⟩ := hrel
      have hcv : (convert 59 9 (.slice none 0 0)).run Tryz.prog wr = .ok (.string ⟨#[]⟩) wr := conv_any (base := 0) (l := []) rfl (World.ownsRow_nil _ _ _ _)
      go_wp2_with fail
      go_ret
      exact ⟨rfl, hbw⟩
  · go_wp2_with fail
    go_loopw [3, 5] (fun o i wr => ∃ k n : Nat, k ≤ M ∧ i = .int .i64 k ∧ Hid (((R.take k).flatMap encL).length = n) ∧ n ≤ 4 * k ∧ wr.ownsRow W1.heap.size 5 1 o n (cellsOf ((R.take k).flatMap encL)) ∧ Below W1.heap.size W1 wr) (fun _ i _ => M - (intOf i).toNat)
    case atStart => exact ⟨0, 0, Nat.zero_le _, rfl, Lib.hid rfl, Nat.zero_le _, World.ownsRow_nil _ _ _ _, Below.refl _ _⟩
    case round =>
      obtain ⟨k, n, hk, rfl, HN, hn, hown, hbw⟩ := hrel
      have hszr : W1.heap.size ≤ wr.heap.size := hbw.size
      by_cases hlt : k < M
      · have hkR : k < R.length := by rw [HM.out]; exact hlt
        have c1 := (r1.below hbw).2 k hkR
        have hx : cpB (R.getD k 0) = true := HC.out _ (by rw [List.getD_eq_getElem?_getD, List.getElem?_eq_getElem hkR]; exact List.getElem_mem hkR)
        have HFT := Lib.hid (flat_take R k hkR)
        obtain ⟨z, hz⟩ := list_of (encL (R.getD k 0))
        obtain ⟨kk, hkk⟩ : ∃ kk, (encL (R.getD k 0)).length = kk := ⟨_, rfl⟩
        have hkk4 : 1 ≤ kk ∧ kk ≤ 4 := by rw [← hkk]; exact enc_len _
        have KL := Lib.hid (fun w => laid_is (R.getD k 0) hx z hz kk hkk w)
        have HKK := Lib.hid hkk
        clear hz hkk
        generalize R.getD k 0 = x at c1 hx HFT KL HKK
        go_wp2_with (first
          | (go_at_call 189; refine (KL.out _).mono ?_; rintro e w2 ⟨g2, rfl, _, hcells, _, _, hb2⟩; have hown2 := below_own hown hb2; have hsz2 := hb2.size)
          | (at_builtin; refine wpList_append_own _ rfl (.tmp 14) (.tmp 19) 59 rfl W1.heap.size 5 i0 (.int .u8 0) 1 1 Tryz.underlying59 hi hz0 hz1 hz2 rfl (by decide) _ n (cellsOf ((R.take k).flatMap encL)) rfl hown2 ⟨g2, 0, none⟩ kk kk (cellsOf (encL x)) rfl (cells_len _ _ HKK.out) hcells (cellsOf_one _) (by unfold maxLen; omega) (by omega) (by omega) ?_; intro v4 w4 hown4 hgrow4 hnil4))
        go_roundw
        case rel => exact ⟨k + 1, n + kk, by omega, by go_num, Lib.hid (by rw [HFT.out, List.length_append, HN.out, HKK.out]), by omega, by rw [HFT.out]; unfold cellsOf at hown4 ⊢; rw [List.map_append]; exact hown4, (hbw.trans (hb2.mono hszr)).grown hgrow4 (by omega) (fun j hj => own_base hown j hj)⟩
        case measure => simp [intOf]; omega
      · have hkM : k = M := by omega
        subst hkM
        have hcv := conv_any (l := R.flatMap encL) (n := n) (by rw [← HN.out, List.take_of_length_le (by rw [HM.out]; exact Nat.le_refl _)]) (by rw [List.take_of_length_le (by rw [HM.out]; exact Nat.le_refl _)] at hown; exact hown)
        rw [HT.out] at hcv
        go_wp2_with fail
        go_ret
        exact ⟨rfl, hb1.trans (hbw.mono hb1.size)⟩
end Go.Proofs.YtdinachiiimngaaGreatDoor.Cs
