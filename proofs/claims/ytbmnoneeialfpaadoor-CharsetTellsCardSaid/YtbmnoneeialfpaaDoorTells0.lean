/- The reference's encoding of an integer; CharsetTells of the empty string. -/
import Derived.Test.YtbmnoneeialfpaaDoorRefE
namespace Go.Proofs.YtbmnoneeialfpaaDoor
open Go.ChangeShapes Go.WideShapes Go.ChangeAt Go.RowKit

theorem runeR_any (n : Int) (r : ByteArray) (hr : r.data.toList = runeL n) (w : World) :
    Calls Tryd.prog 17 #[.int .i64 n] w fun e w' => e = .returned (.string r) ∧ Below w.heap.size w w' := by
  cases hs : sgn n with
  | false =>
    have e : runeL n = encL 65533 := by
      unfold runeL
      rw [if_neg]
      intro h
      rw [(sgn_iff n).2 h] at hs
      cases hs
    rw [e] at hr
    have KS := Lib.hid (sign_any n false hs w)
    have KL := Lib.hid (laid_is 65533 cp_bad r hr 3 enc_bad_len w)
    clear hs hr e
    go_enter Tryd.func17, Tryd.ntmps17
    go_wp2_with (first
      | (go_at_call 29; refine KS.out.mono ?_; rintro e w1 ⟨rfl, rfl⟩)
      | (go_at_call 25; refine KL.out.mono ?_; rintro e w2 ⟨g, rfl, hcv, _, _, _, hb2⟩))
    go_ret
    exact ⟨rfl, hb2⟩
  | true =>
    have h1 := (sgn_iff n).1 hs
    obtain ⟨x, rfl⟩ : ∃ x : Nat, n = x := ⟨n.toNat, by omega⟩
    rw [Int.toNat_natCast] at h1
    have e : runeL (x : Int) = encL x := by
      unfold runeL
      rw [Int.toNat_natCast, if_pos h1]
    rw [e] at hr
    obtain ⟨k, hk⟩ : ∃ k, (encL x).length = k := ⟨_, rfl⟩
    have KS := Lib.hid (sign_any x true hs w)
    have KL := Lib.hid (laid_is x h1.2 r hr k hk w)
    clear hs hr e hk
    go_enter Tryd.func17, Tryd.ntmps17
    go_wp2_with (first
      | (go_at_call 29; refine KS.out.mono ?_; rintro e w1 ⟨rfl, rfl⟩)
      | (go_at_call 25; refine KL.out.mono ?_; rintro e w2 ⟨g, rfl, hcv, _, _, _, hb2⟩))
    go_ret
    exact ⟨rfl, hb2⟩

theorem runesR_nil (s : ByteArray) (hs : s.size = 0) (w : World) :
    Calls Tryd.prog 13 #[.string s] w fun e w' => e = .returned (.slice none 0 0) ∧ Below w.heap.size w w' := by
  go_enter Tryd.func13, Tryd.ntmps13
  go_wp2_with fail
  go_loopw [3, 4] (fun v at_ wr => v = .slice none 0 0 ∧ at_ = .int .i64 0 ∧ w = wr) (fun _ _ _ => 0)
  case atStart => exact ⟨rfl, rfl, rfl⟩
  case round =>
    obtain ⟨rfl, rfl, rfl⟩ := hrel
    go_wp2_with fail
    go_ret
    exact ⟨rfl, Below.refl _ _⟩

set_option maxHeartbeats 8000000 in
set_option maxRecDepth 1000000 in
theorem tells_nil (s : ByteArray) (n : Int) (name : ByteArray) (ms : s.size ≤ 9223372036854775807) (mname : name.size ≤ 9223372036854775807) (hs : s.size ≤ 500) (hn : name.size ≤ 500) (h0 : s.size = 0) (w : World) (hst : St w w) :
    Calls Tryd.prog 3 #[.string s, .int .i64 n, .string name] w fun e w' => e = .returned (.bool true) ∧ Below w.heap.size w w' := by
  obtain ⟨t, ht⟩ := list_of (decL (kindL name.data.toList) s.data.toList)
  obtain ⟨o, ho⟩ : ∃ o, decide (kindL name.data.toList ≠ 0) = o := ⟨_, rfl⟩
  obtain ⟨R, hR⟩ : ∃ R, runesL s.data.toList = R := ⟨_, rfl⟩
  obtain ⟨M, hM⟩ : ∃ M, R.length = M := ⟨_, rfl⟩
  obtain ⟨b, hb⟩ : ∃ b, validL s.data.toList = b := ⟨_, rfl⟩
  obtain ⟨q, hq⟩ := list_of (repairL s.data.toList)
  obtain ⟨r, hr⟩ := list_of (runeL n)
  have hre : (⟨(runeL n).toArray⟩ : ByteArray) = r := bytes_is (by rw [hr])
  have hMs : M ≤ 500 := by rw [← hM, ← hR]; exact Nat.le_trans (runes_len s.data.toList).1 hs
  have hM0 : M = 0 := by have := (runes_len s.data.toList).1; rw [hR, hM] at this; have h2 : M ≤ s.size := this; omega
  subst hM0
  have KF := Lib.hid (few_any s ms true (decide_eq_true hs))
  have KF2 := Lib.hid (few_any name mname true (decide_eq_true hn))
  have KD := Lib.hid (fun (w1 : World) (h : St w w1) => decode_is name s t o ht ho (by omega) (by omega) h)
  have KDR := Lib.hid (fun (w1 : World) (h : St w w1) => (decR_any name s t o (by omega) (by omega) ht ho w1).mono fun e w' h1 => And.intro h1.1 (h.next h1.2))
  have KR := Lib.hid (fun (w1 : World) (h : St w w1) => runes_is s R hR 0 hM (by omega) h)
  have KRR := Lib.hid (fun (w1 : World) (h : St w w1) => (runesR_nil s h0 w1).mono fun e w' h1 => And.intro h1.1 (And.intro h1.2 (h.next h1.2)))
  have KV := Lib.hid (fun (w1 : World) (h : St w w1) => valid_is s b hb (by omega) h)
  have KVR := Lib.hid (fun (w1 : World) (h : St w w1) => (validR_any s (by omega) b hb w1).mono fun e w' h1 => And.intro h1.1 (h.next h1.2))
  have KN := Lib.hid (fun (w1 : World) => rune_known n r hre w1)
  have KNR := Lib.hid (fun (w1 : World) (h : St w w1) => (runeR_any n r hr w1).mono fun e w' h1 => And.intro h1.1 (h.next h1.2))
  have KQ := Lib.hid (fun (w1 : World) (h : St w w1) => repair_is s q hq (by omega) h)
  have KQR := Lib.hid (fun (w1 : World) (h : St w w1) => (repairR_any s (by omega) q hq w1).mono fun e w' h1 => And.intro h1.1 (h.next h1.2))
  have KK := Lib.hid (fun (w1 : World) (h : St w w1) => known_known name o (by omega) ho h)
  have KKR := Lib.hid (fun (w1 : World) (h : St w w1) => (knownR_any name (by omega) o ho w1).mono fun e w' h1 => And.intro h1.1 (h.next h1.2))
  have HM := Lib.hid hM
  clear ht ho hR hM hb hq hr hre
  go_enter Tryd.func3, Tryd.ntmps3
  go_wp2_with (first
    | (go_at_call 8; refine (small_is hst).mono ?_; rintro e w1 ⟨rfl, hs1⟩)
    | (go_at_call 9; first | ((with_reducible refine (KF.out _).mono ?_); rintro e w1 ⟨rfl, rfl⟩) | ((with_reducible refine (KF2.out _).mono ?_); rintro e w1 ⟨rfl, rfl⟩))
    | (go_at_call 10; with_reducible refine (KD.out _ (by assumption)).mono ?_; rintro e w1 ⟨rfl, hs1⟩)
    | (go_at_call 11; with_reducible refine (KDR.out _ (by assumption)).mono ?_; rintro e w1 ⟨rfl, hs1⟩)
    | (go_at_call 12; with_reducible refine (KR.out _ (by assumption)).mono ?_; rintro e w2 ⟨g1, rfl, r1, b2, hs2⟩)
    | (go_at_call 13; with_reducible refine (KRR.out _ (by assumption)).mono ?_; rintro e w3 ⟨rfl, b3, hs3⟩; replace r1 := r1.below b3))
  clear KF KF2 KD KDR KR KRR hst hs1 hs2
  go_loopw [14] (fun i wr => i = .int .i64 0 ∧ Hid (St w wr)) (fun _ _ => 0)
  case atStart => exact ⟨rfl, Lib.hid hs3⟩
  case round =>
    clear r1 hs3
    obtain ⟨rfl, hs3⟩ := hrel
    have hs5 := hs3.out
    go_wp2_with (first
      | (go_at_call 14; with_reducible refine (KV.out _ (by assumption)).mono ?_; rintro e w4 ⟨rfl, hs4⟩)
      | (go_at_call 15; with_reducible refine (KVR.out _ (by assumption)).mono ?_; rintro e w4 ⟨rfl, hs4⟩)
      | (go_at_call 16; with_reducible refine (KN.out _).mono ?_; rintro e w4 ⟨rfl, rfl⟩)
      | (go_at_call 17; with_reducible refine (KNR.out _ (by assumption)).mono ?_; rintro e w4 ⟨rfl, hs4⟩)
      | (go_at_call 18; with_reducible refine (KQ.out _ (by assumption)).mono ?_; rintro e w4 ⟨rfl, hs4⟩)
      | (go_at_call 19; with_reducible refine (KQR.out _ (by assumption)).mono ?_; rintro e w4 ⟨rfl, hs4⟩)
      | (go_at_call 20; with_reducible refine (KK.out _ (by assumption)).mono ?_; rintro e w4 ⟨rfl, hs4⟩)
      | (go_at_call 21; with_reducible refine (KKR.out _ (by assumption)).mono ?_; rintro e w4 ⟨rfl, hs4⟩))
    go_ret
    exact ⟨rfl, (show St w _ from by assumption).2⟩
end Go.Proofs.YtbmnoneeialfpaaDoor
