/- CharsetBounds: how many code points a string has, how long its repair is; each prefix of whole code points of a valid string is valid. -/
import Derived.Test.YtbmnoneeialfpaaDoorFew
import Derived.Deep.QuietTactic
import Derived.BigQuiet
namespace Go.Proofs.YtbmnoneeialfpaaDoor
open Go.ChangeShapes Go.WideShapes Go.ChangeAt Go.RowKit

theorem valid_next (s : ByteArray) (b : Bool) (hb : validL s.data.toList = b) (hs : s.size ≤ 1000000) {w0 w : World} (h : St w0 w) :
    Calls Tryd.prog 14 #[.string s] w fun e w' => e = .returned (.bool b) ∧ Below w.heap.size w w' ∧ St w0 w' := by
  subst hb
  exact (valid_any s hs w h.1).mono fun e w' h1 => ⟨h1.1, h1.2, h.next h1.2⟩
theorem repair_next (s t : ByteArray) (ht : t.data.toList = repairL s.data.toList) (hs : s.size ≤ 1000000) {w0 w : World} (h : St w0 w) :
    Calls Tryd.prog 18 #[.string s] w fun e w' => e = .returned (.string t) ∧ Below w.heap.size w w' ∧ St w0 w' := by
  have e : (⟨(repairL s.data.toList).toArray⟩ : ByteArray) = t := bytes_is (by rw [ht])
  have := repair_any s hs w
  rw [e] at this
  exact this.mono fun _ _ h1 => ⟨h1.1, h1.2, h.next h1.2⟩
theorem extract_prefix {s u : ByteArray} (h : u.data.toList <+: s.data.toList) : s.extract 0 u.size = u := by
  refine bytes_is ?_
  rw [ByteArray.data_extract, Array.toList_extract]
  have := List.prefix_iff_eq_take.1 h
  rw [size_list]
  simpa using this.symm
set_option maxHeartbeats 4000000 in
set_option maxRecDepth 1000000 in
theorem bounds_any (s : ByteArray) (ms : s.size ≤ 9223372036854775807) (w : World) (hv : Vars w) :
    Calls Tryd.prog 7 #[.string s] w fun e w' => e = .returned (.bool true) ∧ Below w.heap.size w w' := by
  have hst : St w w := ⟨hv, Below.refl _ _⟩
  by_cases h5 : s.size ≤ 500
  · obtain ⟨R, hR⟩ : ∃ R, runesL s.data.toList = R := ⟨_, rfl⟩
    obtain ⟨t, ht⟩ := list_of (repairL s.data.toList)
    obtain ⟨M, hM⟩ : ∃ M, R.length = M := ⟨_, rfl⟩
    have hl1 : M ≤ s.size := by rw [← hM, ← hR]; exact (runes_len s.data.toList).1
    have hl2 : s.size ≤ 4 * M := by rw [← hM, ← hR]; exact (runes_len s.data.toList).2
    have hts : t.size ≤ 3 * s.size := by rw [size_list, ht]; exact repair_len _
    have hcp : ∀ n ∈ R, cpB n = true := by rw [← hR]; exact runes_cp _
    obtain ⟨b, hb⟩ : ∃ b, validL s.data.toList = b := ⟨_, rfl⟩
    have hpre : b = true → ∀ k, (R.take k).flatMap encL <+: s.data.toList ∧ validL ((R.take k).flatMap encL) = true := by
      intro e k
      rw [← hR]
      exact valid_prefix s.data.toList (by rw [hb, e]) k
    have KF := Lib.hid (few_any s ms true (decide_eq_true h5))
    have KR := Lib.hid (fun (w1 : World) (h : St w w1) => repair_next s t ht (by omega) h)
    have KL := Lib.hid (fun (w1 : World) (h : St w w1) => runes_is s R hR M hM (by omega) h)
    have KV := Lib.hid (fun (w1 : World) (h : St w w1) => valid_next s b hb (by omega) h)
    have HM := Lib.hid hM
    have HC := Lib.hid hcp
    have HP := Lib.hid hpre
    clear hR ht hM hcp hb hv hpre
    have i1 : ¬ ((M : Int) > (s.size : Int)) := by omega
    have i2 : ¬ (4 * (M : Int) < (s.size : Int)) := by omega
    have i3 : ¬ ((t.size : Int) > 3 * (s.size : Int)) := by omega
    have j1 : decide (s.size < M) = false := decide_eq_false (by omega)
    have j2 : decide (4 * (M : Int) < (s.size : Int)) = false := decide_eq_false i2
    have j3 : decide (3 * (s.size : Int) < (t.size : Int)) = false := decide_eq_false i3
    go_enter Tryd.func7, Tryd.ntmps7
    go_wp2_with (first
      | (go_at_call 8; refine (small_is hst).mono ?_; rintro e w1 ⟨rfl, hs1⟩)
      | (go_at_call 9; with_reducible refine (KF.out _).mono ?_; rintro e w1 ⟨rfl, rfl⟩)
      | (go_at_call 18; with_reducible refine (KR.out _ (by assumption)).mono ?_; rintro e w3 ⟨rfl, b3, hs3⟩; replace r1 := r1.below b3)
      | (go_at_call 12; with_reducible refine (KL.out _ (by assumption)).mono ?_; rintro e w2 ⟨g1, rfl, r1, b2, hs2⟩))
    clear KF KR KL hst hs1 hs2 b2 b3 i1 i2 i3
    go_loopw [5, 6] (fun u i wr => ∃ (k : Nat) (uu : ByteArray), k ≤ M ∧ i = .int .i64 k ∧ u = .string uu ∧ Hid (uu.data.toList = (R.take k).flatMap encL) ∧ uu.size ≤ 4 * k ∧ Hid (St w wr) ∧ Hid (RowAt wr g1 R))
      (fun _ i _ => M - (intOf i).toNat)
    case atStart => exact ⟨0, ⟨#[]⟩, Nat.zero_le _, rfl, rfl, Lib.hid rfl, Nat.zero_le _, Lib.hid hs3, Lib.hid r1⟩
    case round =>
      clear r1 hs3
      obtain ⟨k, uu, hk, rfl, rfl, HU, hul, hs3, r1⟩ := hrel
      by_cases hlt : k < M
      · have hkR : k < R.length := by rw [HM.out]; exact hlt
        have c1 := r1.out.2 k hkR
        have hx : cpB (R.getD k 0) = true := HC.out _ (by rw [List.getD_eq_getElem?_getD, List.getElem?_eq_getElem hkR]; exact List.getElem_mem hkR)
        obtain ⟨r, hr⟩ := list_of (encL (R.getD k 0))
        have hrs : r.size ≤ 4 := by rw [size_list, hr]; exact (enc_len _).2
        obtain ⟨z, hz⟩ : ∃ z, uu ++ r = z := ⟨_, rfl⟩
        have hzs : z.size = uu.size + r.size := by rw [← hz]; exact ByteArray.size_append
        have HZ : Hid (z.data.toList = (R.take (k + 1)).flatMap encL) := Lib.hid (by
          rw [← hz, list_append, HU.out, List.take_succ_eq_append_getElem hkR, List.flatMap_append, List.flatMap_singleton, hr, List.getD_eq_getElem?_getD, List.getElem?_eq_getElem hkR]; rfl)
        have hzl : z.size ≤ 4 * (k + 1) := by omega
        have hz4 : ¬ ((z.size : Int) > 4 * ((k : Int) + 1)) := by omega
        have KN := Lib.hid (fun w => rune_is (R.getD k 0) hx r hr w)
        clear hr hzs
        generalize R.getD k 0 = x at c1 hx KN
        have hs4 := hs3.out
        have r4 := r1.out
        cases b with
        | false =>
          go_wp2_with (first
            | (go_at_call 16; refine (KN.out _).mono ?_; rintro e w5 ⟨rfl, rfl⟩)
            | (go_at_call 14; with_reducible refine (KV.out _ (by assumption)).mono ?_; rintro e w6 ⟨rfl, b6, hs6⟩; have r6 := r4.below b6))
          go_roundw
          case rel => exact ⟨k + 1, z, by omega, by go_num, rfl, HZ, hzl, Lib.hid hs6, Lib.hid r6⟩
          case measure => simp [intOf]; omega
        | true =>
          have hp := HP.out rfl (k + 1)
          rw [← HZ.out] at hp
          have hzz : z.size ≤ s.size := hp.1.length_le
          have hzz2 : ¬ ((z.size : Int) > (s.size : Int)) := by omega
          have hex := extract_prefix hp.1
          have KZ := Lib.hid (fun (w1 : World) (h : St w w1) => valid_next z true hp.2 (by omega) h)
          clear hp
          go_wp2_with (first
            | (go_at_call 16; refine (KN.out _).mono ?_; rintro e w5 ⟨rfl, rfl⟩)
            | (go_at_call 14; with_reducible refine (KV.out _ (by assumption)).mono ?_; rintro e w6 ⟨rfl, b6, hs6⟩; have r6 := r4.below b6)
            | (go_at_call 14; with_reducible refine (KZ.out _ (by assumption)).mono ?_; rintro e w7 ⟨rfl, b7, hs7⟩; have r7 := r6.below b7))
          go_roundw
          case rel => exact ⟨k + 1, z, by omega, by go_num, rfl, HZ, hzl, Lib.hid hs7, Lib.hid r7⟩
          case measure => simp [intOf]; omega
      · have hkM : k = M := by omega
        subst hkM
        go_wp2_with fail
        go_ret
        exact ⟨rfl, hs3.out.2⟩
  · have KF := Lib.hid (few_any s ms false (decide_eq_false h5))
    go_enter Tryd.func7, Tryd.ntmps7
    go_wp2_with (first
      | (go_at_call 8; refine (small_is hst).mono ?_; rintro e w1 ⟨rfl, hs1⟩)
      | (go_at_call 9; with_reducible refine (KF.out _).mono ?_; rintro e w1 ⟨rfl, rfl⟩))
    go_ret
    exact ⟨rfl, (show St w _ from by assumption).2⟩
end Go.Proofs.YtbmnoneeialfpaaDoor
