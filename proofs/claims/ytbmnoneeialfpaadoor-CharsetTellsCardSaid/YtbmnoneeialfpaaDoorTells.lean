/- CharsetTells: every function of the package answers as the reference. -/
import Derived.Test.YtbmnoneeialfpaaDoorTells0
import Derived.Deep.QuietTactic
import Derived.BigQuiet
namespace Go.Proofs.YtbmnoneeialfpaaDoor
open Go.ChangeShapes Go.WideShapes Go.ChangeAt Go.RowKit

theorem runesR_some (s : ByteArray) (hs : s.size ≤ 1000000) (R : List Nat) (hR : runesL s.data.toList = R) (M : Nat) (hM : R.length = M) (h0 : ¬ M = 0) {w0 w : World} (h : St w0 w) :
    Calls Tryd.prog 13 #[.string s] w fun e w' => ∃ g cap, e = .returned (.slice (some ⟨g, 0, none⟩) M cap) ∧ RowAt w' g R ∧ Below w.heap.size w w' ∧ St w0 w' := by
  refine (runesR_any s hs R hR M hM w).mono fun e w' ⟨v, h1, h2, h3⟩ => ?_
  rcases h2 with ⟨_, h4⟩ | ⟨g, cap, h4, h5⟩
  · exact absurd h4 h0
  · exact ⟨g, cap, by rw [h1, h4], h5, h3, h.next h3⟩

set_option maxHeartbeats 8000000 in
set_option maxRecDepth 1000000 in
theorem tells_some (s : ByteArray) (n : Int) (name : ByteArray) (ms : s.size ≤ 9223372036854775807) (mname : name.size ≤ 9223372036854775807) (hs : s.size ≤ 500) (hn : name.size ≤ 500) (h0 : 0 < s.size) (w : World) (hst : St w w) :
    Calls Tryd.prog 3 #[.string s, .int .i64 n, .string name] w fun e w' => e = .returned (.bool true) ∧ Below w.heap.size w w' := by
  obtain ⟨t, ht⟩ := list_of (decL (kindL name.data.toList) s.data.toList)
  obtain ⟨o, ho⟩ : ∃ o, decide (kindL name.data.toList ≠ 0) = o := ⟨_, rfl⟩
  obtain ⟨R, hR⟩ : ∃ R, runesL s.data.toList = R := ⟨_, rfl⟩
  obtain ⟨M, hM⟩ : ∃ M, R.length = M := ⟨_, rfl⟩
  obtain ⟨b, hb⟩ : ∃ b, validL s.data.toList = b := ⟨_, rfl⟩
  obtain ⟨q, hq⟩ := list_of (repairL s.data.toList)
  obtain ⟨r, hr⟩ := list_of (runeL n)
  have hre : (⟨(runeL n).toArray⟩ : ByteArray) = r := bytes_is (by rw [hr])
  have hMs : M ≤ 500 := by rw [← hM, ← hR]; exact Nat.le_trans (runes_len s.data.toList).1 hs
  have hM0 : ¬ M = 0 := by have := (runes_len s.data.toList).2; rw [hR, hM] at this; have h2 : s.size ≤ 4 * M := this; omega
  have KF := Lib.hid (few_any s ms true (decide_eq_true hs))
  have KF2 := Lib.hid (few_any name mname true (decide_eq_true hn))
  have KD := Lib.hid (fun (w1 : World) (h : St w w1) => decode_is name s t o ht ho (by omega) (by omega) h)
  have KDR := Lib.hid (fun (w1 : World) (h : St w w1) => (decR_any name s t o (by omega) (by omega) ht ho w1).mono fun e w' h1 => And.intro h1.1 (h.next h1.2))
  have KR := Lib.hid (fun (w1 : World) (h : St w w1) => runes_is s R hR M hM (by omega) h)
  have KRR := Lib.hid (fun (w1 : World) (h : St w w1) => runesR_some s (by omega) R hR M hM hM0 h)
  have KV := Lib.hid (fun (w1 : World) (h : St w w1) => valid_is s b hb (by omega) h)
  have KVR := Lib.hid (fun (w1 : World) (h : St w w1) => (validR_any s (by omega) b hb w1).mono fun e w' h1 => And.intro h1.1 (h.next h1.2))
  have KN := Lib.hid (fun (w1 : World) => rune_known n r hre w1)
  have KNR := Lib.hid (fun (w1 : World) (h : St w w1) => (runeR_any n r hr w1).mono fun e w' h1 => And.intro h1.1 (h.next h1.2))
  have KQ := Lib.hid (fun (w1 : World) (h : St w w1) => repair_is s q hq (by omega) h)
  have KQR := Lib.hid (fun (w1 : World) (h : St w w1) => (repairR_any s (by omega) q hq w1).mono fun e w' h1 => And.intro h1.1 (h.next h1.2))
  have KK := Lib.hid (fun (w1 : World) (h : St w w1) => known_known name o (by omega) ho h)
  have KKR := Lib.hid (fun (w1 : World) (h : St w w1) => (knownR_any name (by omega) o ho w1).mono fun e w' h1 => And.intro h1.1 (h.next h1.2))
  have HM := Lib.hid hM
  clear ht ho hR hM hb hq hr hre
  go_enter Tryd.func3, Tryd.ntmps3
  go_wp2_with (first
    | (go_at_call 8; refine (small_is hst).mono ?_; rintro e w1 ⟨rfl, hs1⟩)
    | (go_at_call 9; first | ((with_reducible refine (KF.out _).mono ?_); rintro e w1 ⟨rfl, rfl⟩) | ((with_reducible refine (KF2.out _).mono ?_); rintro e w1 ⟨rfl, rfl⟩))
    | (go_at_call 10; with_reducible refine (KD.out _ (by assumption)).mono ?_; rintro e w1 ⟨rfl, hs1⟩)
    | (go_at_call 11; with_reducible refine (KDR.out _ (by assumption)).mono ?_; rintro e w1 ⟨rfl, hs1⟩)
    | (go_at_call 12; with_reducible refine (KR.out _ (by assumption)).mono ?_; rintro e w2 ⟨g1, rfl, r1, b2, hs2⟩)
    | (go_at_call 13; with_reducible refine (KRR.out _ (by assumption)).mono ?_; rintro e w3 ⟨g2, cap, rfl, r2, b3, hs3⟩; replace r1 := r1.below b3))
  clear KF KF2 KD KDR KR KRR hst hs1 hs2
  go_loopw [14] (fun i wr => ∃ k : Nat, k ≤ M ∧ i = .int .i64 k ∧ Hid (St w wr) ∧ Hid (RowAt wr g1 R) ∧ Hid (RowAt wr g2 R)) (fun i _ => M - (intOf i).toNat)
  case atStart => exact ⟨0, Nat.zero_le _, rfl, Lib.hid hs3, Lib.hid r1, Lib.hid r2⟩
  case round =>
    clear r1 r2 hs3
    obtain ⟨k, hk, rfl, hs3, r1, r2⟩ := hrel
    by_cases hlt : k < M
    · have c1 := r1.out.2 k (by rw [HM.out]; exact hlt)
      have c2 := r2.out.2 k (by rw [HM.out]; exact hlt)
      generalize R.getD k 0 = x at c1 c2
      go_wp2_with fail
      go_quiet (fail)
      go_wp2_with fail
      exact ⟨⟨k + 1, by omega, by go_num, Lib.hid (hs3.out.drewN _), Lib.hid (r1.out.drewN _), Lib.hid (r2.out.drewN _)⟩, by simp [intOf]; omega⟩
    · have hkM : k = M := by omega
      subst hkM
      have hs5 := hs3.out
      go_wp2_with (first
        | (go_at_call 14; with_reducible refine (KV.out _ (by assumption)).mono ?_; rintro e w4 ⟨rfl, hs4⟩)
        | (go_at_call 15; with_reducible refine (KVR.out _ (by assumption)).mono ?_; rintro e w4 ⟨rfl, hs4⟩)
        | (go_at_call 16; with_reducible refine (KN.out _).mono ?_; rintro e w4 ⟨rfl, rfl⟩)
        | (go_at_call 17; with_reducible refine (KNR.out _ (by assumption)).mono ?_; rintro e w4 ⟨rfl, hs4⟩)
        | (go_at_call 18; with_reducible refine (KQ.out _ (by assumption)).mono ?_; rintro e w4 ⟨rfl, hs4⟩)
        | (go_at_call 19; with_reducible refine (KQR.out _ (by assumption)).mono ?_; rintro e w4 ⟨rfl, hs4⟩)
        | (go_at_call 20; with_reducible refine (KK.out _ (by assumption)).mono ?_; rintro e w4 ⟨rfl, hs4⟩)
        | (go_at_call 21; with_reducible refine (KKR.out _ (by assumption)).mono ?_; rintro e w4 ⟨rfl, hs4⟩))
      go_ret
      exact ⟨rfl, (show St w _ from by assumption).2⟩

theorem tells_any (s : ByteArray) (n : Int) (name : ByteArray) (ms : s.size ≤ 9223372036854775807) (_mn : (Lit.int .i64 n).wf = true) (mname : name.size ≤ 9223372036854775807) (w : World) (hv : Vars w) :
    Calls Tryd.prog 3 #[.string s, .int .i64 n, .string name] w fun e w' => e = .returned (.bool true) ∧ Below w.heap.size w w' := by
  have hst : St w w := ⟨hv, Below.refl _ _⟩
  by_cases hs : s.size ≤ 500
  · by_cases hn : name.size ≤ 500
    · by_cases h0 : s.size = 0
      · exact tells_nil s n name ms mname hs hn h0 w hst
      · exact tells_some s n name ms mname hs hn (by omega) w hst
    · have KF := Lib.hid (few_any s ms true (decide_eq_true hs))
      have KF2 := Lib.hid (few_any name mname false (decide_eq_false hn))
      go_enter Tryd.func3, Tryd.ntmps3
      go_wp2_with (first
        | (go_at_call 8; refine (small_is hst).mono ?_; rintro e w1 ⟨rfl, hs1⟩)
        | (go_at_call 9; first | ((with_reducible refine (KF.out _).mono ?_); rintro e w1 ⟨rfl, rfl⟩) | ((with_reducible refine (KF2.out _).mono ?_); rintro e w1 ⟨rfl, rfl⟩)))
      go_ret
      exact ⟨rfl, (show St w _ from by assumption).2⟩
  · have KF := Lib.hid (few_any s ms false (decide_eq_false hs))
    go_enter Tryd.func3, Tryd.ntmps3
    go_wp2_with (first
      | (go_at_call 8; refine (small_is hst).mono ?_; rintro e w1 ⟨rfl, hs1⟩)
      | (go_at_call 9; with_reducible refine (KF.out _).mono ?_; rintro e w1 ⟨rfl, rfl⟩))
    go_ret
    exact ⟨rfl, (show St w _ from by assumption).2⟩
end Go.Proofs.YtbmnoneeialfpaaDoor
