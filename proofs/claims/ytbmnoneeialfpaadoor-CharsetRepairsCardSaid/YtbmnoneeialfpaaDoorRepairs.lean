/- CharsetRepairs: a repaired string is valid, a fixed point, and has the code points of the string. -/
import Derived.Test.YtbmnoneeialfpaaDoorFew
import Derived.Deep.QuietTactic
import Derived.BigQuiet
namespace Go.Proofs.YtbmnoneeialfpaaDoor
open Go.ChangeShapes Go.WideShapes Go.ChangeAt Go.RowKit

set_option maxHeartbeats 4000000 in
set_option maxRecDepth 1000000 in
theorem repairs_any (s : ByteArray) (ms : s.size ≤ 9223372036854775807) (w : World) (hv : Vars w) :
    Calls Tryd.prog 4 #[.string s] w fun e w' => e = .returned (.bool true) ∧ Below w.heap.size w w' := by
  have hst : St w w := ⟨hv, Below.refl _ _⟩
  by_cases h5 : s.size ≤ 500
  · obtain ⟨R, hR⟩ : ∃ R, runesL s.data.toList = R := ⟨_, rfl⟩
    obtain ⟨t, ht⟩ := list_of (repairL s.data.toList)
    obtain ⟨M, hM⟩ : ∃ M, R.length = M := ⟨_, rfl⟩
    have hRM : M ≤ s.size := by rw [← hM, ← hR]; exact (runes_len s.data.toList).1
    have hts : t.size ≤ 3 * s.size := by rw [size_list, ht]; exact repair_len _
    have hR2 : runesL t.data.toList = R := by rw [ht, runes_repair', hR]
    have hv1 : validL t.data.toList = true := by rw [ht]; exact valid_repair' _
    have hfx : t.data.toList = repairL t.data.toList := by rw [ht, repair_fixed]
    have htl : t.data.toList = R.flatMap encL := by rw [ht, ← hR]; rfl
    have hsame : (t == s) = validL s.data.toList := by
      rw [bytes_eqb, Bool.eq_iff_iff, decide_eq_true_eq, ← repair_same]
      constructor
      · intro e; rw [← ht, e]
      · intro e; exact bytes_is (by rw [ht, e])
    have hcp : ∀ n ∈ R, cpB n = true := by rw [← hR]; exact runes_cp _
    obtain ⟨b, hb⟩ : ∃ b, validL s.data.toList = b := ⟨_, rfl⟩
    rw [hb] at hsame
    have KF := Lib.hid (few_any s ms true (decide_eq_true h5))
    have KR := Lib.hid (fun (w1 : World) (h : St w w1) => repair_is s t ht (by omega) h)
    have KR2 := Lib.hid (fun (w1 : World) (h : St w w1) => repair_is t t hfx (by omega) h)
    have KL := Lib.hid (fun (w1 : World) (h : St w w1) => runes_is s R hR M hM (by omega) h)
    have KM := Lib.hid (fun (w1 : World) (h : St w w1) => runes_is t R hR2 M hM (by omega) h)
    have KV := Lib.hid (fun (w1 : World) (h : St w w1) => valid_is t true hv1 (by omega) h)
    have KV2 := Lib.hid (fun (w1 : World) (h : St w w1) => valid_is s b hb (by omega) h)
    have HM := Lib.hid hM
    have HC := Lib.hid hcp
    have HT := Lib.hid htl
    clear hR ht hM hR2 hv1 hfx htl hcp hb hv
    go_enter Tryd.func4, Tryd.ntmps4
    go_wp2_with (first
      | (go_at_call 8; refine (small_is hst).mono ?_; rintro e w1 ⟨rfl, hs1⟩)
      | (go_at_call 9; with_reducible refine (KF.out _).mono ?_; rintro e w1 ⟨rfl, rfl⟩)
      | (go_at_call 18; with_reducible refine (KR.out _ (by assumption)).mono ?_; rintro e w2 ⟨rfl, hs2⟩)
      | (go_at_call 12; with_reducible refine (KL.out _ (by assumption)).mono ?_; rintro e w3 ⟨g1, rfl, r1, b3, hs3⟩)
      | (go_at_call 12; with_reducible refine (KM.out _ (by assumption)).mono ?_; rintro e w4 ⟨g2, rfl, r2, b4, hs4⟩; replace r1 := r1.below b4))
    clear KR KL KM KF hst hs1 hs2 hs3
    go_loopw [7, 8] (fun u i wr => ∃ (k : Nat) (uu : ByteArray), k ≤ M ∧ i = .int .i64 k ∧ u = .string uu ∧ Hid (uu.data.toList = (R.take k).flatMap encL) ∧ uu.size ≤ 4 * k ∧ Hid (St w wr) ∧ Hid (RowAt wr g1 R) ∧ Hid (RowAt wr g2 R))
      (fun _ i _ => M - (intOf i).toNat)
    case atStart => exact ⟨0, ⟨#[]⟩, Nat.zero_le _, rfl, rfl, Lib.hid rfl, Nat.zero_le _, Lib.hid hs4, Lib.hid r1, Lib.hid r2⟩
    case round =>
      clear r1 r2 hs4
      obtain ⟨k, uu, hk, rfl, rfl, HU, hul, hs4, r1, r2⟩ := hrel
      by_cases hlt : k < M
      · have hkR : k < R.length := by rw [HM.out]; exact hlt
        have c1 := r1.out.2 k hkR
        have c2 := r2.out.2 k hkR
        have hx : cpB (R.getD k 0) = true := HC.out _ (by rw [List.getD_eq_getElem?_getD, List.getElem?_eq_getElem hkR]; exact List.getElem_mem hkR)
        obtain ⟨r, hr⟩ := list_of (encL (R.getD k 0))
        have hrs : r.size ≤ 4 := by rw [size_list, hr]; exact (enc_len _).2
        have hul2 : (uu ++ r).size ≤ 4 * (k + 1) := by rw [ByteArray.size_append]; omega
        have hul3 : (uu ++ r).size = uu.size + r.size := ByteArray.size_append
        have HU2 : Hid ((uu ++ r).data.toList = (R.take (k + 1)).flatMap encL) := Lib.hid (by
          rw [list_append, HU.out, List.take_succ_eq_append_getElem hkR, List.flatMap_append, List.flatMap_singleton, hr, List.getD_eq_getElem?_getD, List.getElem?_eq_getElem hkR]; rfl)
        have hcz := (cp_iff _).1 hx
        have KN := Lib.hid (fun w => rune_is (R.getD k 0) hx r hr w)
        clear hr
        generalize R.getD k 0 = x at c1 c2 hx hcz KN
        have n0 : ¬ ((x : Int) < 0) := by omega
        have n1 : ¬ ((x : Int) > 1114111) := by omega
        by_cases hhi : (55296 : Int) ≤ (x : Int)
        · have n2 : ¬ ((x : Int) ≤ 57343) := by omega
          go_wp2_with (go_at_call 16; refine (KN.out _).mono ?_; rintro e w5 ⟨rfl, rfl⟩)
          go_quiet (fail)
          go_wp2_with fail
          exact ⟨⟨k + 1, uu ++ r, by omega, by go_num, rfl, HU2, hul2, Lib.hid (hs4.out.drewN _), Lib.hid (r1.out.drewN _), Lib.hid (r2.out.drewN _)⟩, by simp [intOf]; omega⟩
        · have hd : decide ((55296 : Int) ≤ (x : Int)) = false := decide_eq_false hhi
          go_wp2_with (go_at_call 16; refine (KN.out _).mono ?_; rintro e w5 ⟨rfl, rfl⟩)
          go_quiet (fail)
          go_wp2_with fail
          exact ⟨⟨k + 1, uu ++ r, by omega, by go_num, rfl, HU2, hul2, Lib.hid (hs4.out.drewN _), Lib.hid (r1.out.drewN _), Lib.hid (r2.out.drewN _)⟩, by simp [intOf]; omega⟩
      · have hkM : k = M := by omega
        subst hkM
        have hut : uu = t := bytes_is (by rw [HU.out, List.take_of_length_le (by rw [HM.out]; exact Nat.le_refl _), HT.out])
        subst hut
        have hs5 := hs4.out
        clear HU HT HM HC r1 r2 hul hk
        go_wp2_with (first
          | (go_at_call 14; with_reducible refine (KV.out _ (by assumption)).mono ?_; rintro e w6 ⟨rfl, hs6⟩)
          | (go_at_call 14; with_reducible refine (KV2.out _ (by assumption)).mono ?_; rintro e w6 ⟨rfl, hs6⟩)
          | (go_at_call 18; with_reducible refine (KR2.out _ (by assumption)).mono ?_; rintro e w6 ⟨rfl, hs6⟩))
        go_ret
        rw [eq_lists, hsame, beq_self_eq_true]
        exact ⟨rfl, (show St w _ from by assumption).2⟩
  · have KF := Lib.hid (few_any s ms false (decide_eq_false h5))
    go_enter Tryd.func4, Tryd.ntmps4
    go_wp2_with (first
      | (go_at_call 8; refine (small_is hst).mono ?_; rintro e w1 ⟨rfl, hs1⟩)
      | (go_at_call 9; with_reducible refine (KF.out _).mono ?_; rintro e w1 ⟨rfl, rfl⟩))
    go_ret
    exact ⟨rfl, (show St w _ from by assumption).2⟩
end Go.Proofs.YtbmnoneeialfpaaDoor
