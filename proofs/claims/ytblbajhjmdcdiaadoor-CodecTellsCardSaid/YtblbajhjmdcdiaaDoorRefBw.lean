/- The reference's B64, walked. -/
import Derived.Test.YtblbajhjmdcdiaaDoorRefB
namespace Go.Proofs.YtblbajhjmdcdiaaDoor
open Go.ChangeShapes Go.WideShapes Go.ChangeAt Go.RowKit

set_option maxHeartbeats 40000000 in
set_option maxRecDepth 1000000 in
theorem b64R_any (s : ByteArray) (hs : s.size ≤ 1000000) (w : World) :
    Calls Tryd.prog 11 #[.string s] w fun e w' => e = .returned (.string (strL (b64L s.data.toList))) ∧ Below w.heap.size w w' := by
  obtain ⟨SIG, hSIG⟩ : ∃ SIG, signs s.data.toList = SIG := ⟨_, rfl⟩
  have hANS : b64L s.data.toList = brk 0 SIG := by rw [← hSIG]; exact (brk_signs s.data.toList.length s.data.toList 0 (Nat.le_refl _)).symm
  have hSL : SIG.length ≤ 4 * s.size := by rw [← hSIG, size_list]; exact signs_length _ _ (Nat.le_refl _)
  rw [hANS]
  clear hANS
  go_enter Tryd.func11, Tryd.ntmps11
  go_wp2
  go_loopw [4, 3] (fun i v wr => ∃ (k : Nat) (out : List UInt8), k ≤ s.size + 2 ∧ i = .int .i64 k ∧ Hid (Ow wr w.heap.size v out) ∧ Below w.heap.size w wr ∧ Hid (out ++ signs (s.data.toList.drop k) = SIG) ∧ out.length ≤ 4 * k)
    (fun i _ _ => s.size + 2 - (intOf i).toNat)
  case atStart => exact ⟨0, [], Nat.zero_le _, rfl, Lib.hid (ow_nil _ _), Below.refl _ _, Lib.hid hSIG, Nat.le_refl _⟩
  case round =>
    clear hSIG
    obtain ⟨k, out, hk, rfl, hown, hb, hacc, hol⟩ := hrel
    have hsz := hb.size
    by_cases hlt : k < s.size
    · have hd := drop_cons s k hlt
      have hst := signs_step (s.data.toList.drop k) (by rw [hd]; simp)
      rw [List.drop_drop] at hst
      rw [hst] at hacc
      have hx := s[k].toNat_lt
      rcases (show k + 1 = s.size ∨ k + 2 = s.size ∨ k + 2 < s.size by omega) with hl | hl | hl
      · have htk : (s.data.toList.drop k).take 3 = [s[k]] := by rw [hd, show s.data.toList.drop (k + 1) = [] from List.drop_eq_nil_of_le (by rw [← size_list]; omega)]; rfl
        rw [htk] at hacc
        have HR : Hid (out ++ [d64 (s[k].toNat / 4), d64 (s[k].toNat % 4 * 16), 61, 61] ++ signs (s.data.toList.drop (k + 3)) = SIG) := Lib.hid (by rw [← hacc.out]; simp [quad])
        obtain ⟨V, hV⟩ : ∃ V : Int, (s[k].toNat : Int) * 65536 = V := ⟨_, rfl⟩
        have E1 : V / 262144 = ((s[k].toNat / 4 : Nat) : Int) := by rw [← hV]; omega
        have E2 : V / 4096 % 64 = ((s[k].toNat % 4 * 16 : Nat) : Int) := by rw [← hV]; omega
        have C1 := fun W => digitR_any (s[k].toNat / 4) (by omega) W
        have C2 := fun W => digitR_any (s[k].toNat % 4 * 16) (by omega) W
        obtain ⟨m1, hm1⟩ : ∃ m, s[k].toNat / 4 = m := ⟨_, rfl⟩
        obtain ⟨m2, hm2⟩ : ∃ m, s[k].toNat % 4 * 16 = m := ⟨_, rfl⟩
        rw [hm1] at E1 C1
        rw [hm2] at E2 C2
        rw [hm1, hm2] at HR
        have K1 := Lib.hid C1
        have K2 := Lib.hid C2
        clear C1 hm1 C2 hm2 hacc htk hst hd
        go_wp2_with (first
            | (go_at_call 28; with_reducible refine (K1.out _).mono ?_; rintro e w' ⟨rfl, rfl⟩)
            | (go_at_call 28; with_reducible refine (K2.out _).mono ?_; rintro e w' ⟨rfl, rfl⟩)
            | (at_builtin; refine app_law rfl _ _ rfl w.heap.size out [d64 m1, d64 m2] 2 hown.out rfl rfl rfl (by omega) hsz ?_; intro v1 w1 hown1 hb1)
            | (at_builtin; refine app_law rfl _ _ rfl w.heap.size (out ++ [d64 m1, d64 m2]) [61] 1 hown1 rfl rfl rfl (by simp only [List.length_append, List.length_cons, List.length_nil]; omega) (Nat.le_trans hsz hb1.size) ?_; intro v2 w2 hown2 hb2)
            | (at_builtin; refine app_law rfl _ _ rfl w.heap.size (out ++ [d64 m1, d64 m2] ++ [61]) [61] 1 hown2 rfl rfl rfl (by simp only [List.length_append, List.length_cons, List.length_nil]; omega) (Nat.le_trans (Nat.le_trans hsz hb1.size) hb2.size) ?_; intro v3 w3 hown3 hb3))
        go_roundw
        case rel => exact ⟨k + 3, _, by omega, by go_num, Lib.hid hown3, ((hb.trans hb1).trans hb2).trans hb3, Lib.hid (by rw [← HR.out]; simp), by simp only [List.length_append, List.length_cons, List.length_nil]; omega⟩
        case measure => simp [intOf]; omega
      · have hd1 := drop_cons s (k + 1) (by omega)
        have hy := s[k + 1].toNat_lt
        have htk : (s.data.toList.drop k).take 3 = [s[k], s[k + 1]] := by rw [hd, hd1, show s.data.toList.drop (k + 1 + 1) = [] from List.drop_eq_nil_of_le (by rw [← size_list]; omega)]; rfl
        rw [htk] at hacc
        have HR : Hid (out ++ [d64 (s[k].toNat / 4), d64 (s[k].toNat % 4 * 16 + s[k + 1].toNat / 16), d64 (s[k + 1].toNat % 16 * 4), 61] ++ signs (s.data.toList.drop (k + 3)) = SIG) := Lib.hid (by rw [← hacc.out]; simp [quad])
        obtain ⟨V, hV⟩ : ∃ V : Int, (s[k].toNat : Int) * 65536 + (s[k + 1].toNat : Int) * 256 = V := ⟨_, rfl⟩
        have E1 : V / 262144 = ((s[k].toNat / 4 : Nat) : Int) := by rw [← hV]; omega
        have E2 : V / 4096 % 64 = ((s[k].toNat % 4 * 16 + s[k + 1].toNat / 16 : Nat) : Int) := by rw [← hV]; omega
        have E3 : V / 64 % 64 = ((s[k + 1].toNat % 16 * 4 : Nat) : Int) := by rw [← hV]; omega
        have C1 := fun W => digitR_any (s[k].toNat / 4) (by omega) W
        have C2 := fun W => digitR_any (s[k].toNat % 4 * 16 + s[k + 1].toNat / 16) (by omega) W
        have C3 := fun W => digitR_any (s[k + 1].toNat % 16 * 4) (by omega) W
        obtain ⟨m1, hm1⟩ : ∃ m, s[k].toNat / 4 = m := ⟨_, rfl⟩
        obtain ⟨m2, hm2⟩ : ∃ m, s[k].toNat % 4 * 16 + s[k + 1].toNat / 16 = m := ⟨_, rfl⟩
        obtain ⟨m3, hm3⟩ : ∃ m, s[k + 1].toNat % 16 * 4 = m := ⟨_, rfl⟩
        rw [hm1] at E1 C1
        rw [hm2] at E2 C2
        rw [hm3] at E3 C3
        rw [hm1, hm2, hm3] at HR
        have K1 := Lib.hid C1
        have K2 := Lib.hid C2
        have K3 := Lib.hid C3
        clear C1 hm1 C2 hm2 C3 hm3 hacc htk hst hd hd1
        go_wp2_with (first
            | (go_at_call 28; with_reducible refine (K1.out _).mono ?_; rintro e w' ⟨rfl, rfl⟩)
            | (go_at_call 28; with_reducible refine (K2.out _).mono ?_; rintro e w' ⟨rfl, rfl⟩)
            | (go_at_call 28; with_reducible refine (K3.out _).mono ?_; rintro e w' ⟨rfl, rfl⟩)
            | (at_builtin; refine app_law rfl _ _ rfl w.heap.size out [d64 m1, d64 m2] 2 hown.out rfl rfl rfl (by omega) hsz ?_; intro v1 w1 hown1 hb1)
            | (at_builtin; refine app_law rfl _ _ rfl w.heap.size (out ++ [d64 m1, d64 m2]) [d64 m3] 1 hown1 rfl rfl rfl (by simp only [List.length_append, List.length_cons, List.length_nil]; omega) (Nat.le_trans hsz hb1.size) ?_; intro v2 w2 hown2 hb2)
            | (at_builtin; refine app_law rfl _ _ rfl w.heap.size (out ++ [d64 m1, d64 m2] ++ [d64 m3]) [61] 1 hown2 rfl rfl rfl (by simp only [List.length_append, List.length_cons, List.length_nil]; omega) (Nat.le_trans (Nat.le_trans hsz hb1.size) hb2.size) ?_; intro v3 w3 hown3 hb3))
        go_roundw
        case rel => exact ⟨k + 3, _, by omega, by go_num, Lib.hid hown3, ((hb.trans hb1).trans hb2).trans hb3, Lib.hid (by rw [← HR.out]; simp), by simp only [List.length_append, List.length_cons, List.length_nil]; omega⟩
        case measure => simp [intOf]; omega
      · have hd1 := drop_cons s (k + 1) (by omega)
        have hd2 := drop_cons s (k + 1 + 1) (by omega)
        have hy := s[k + 1].toNat_lt
        have hz := s[k + 2].toNat_lt
        have htk : (s.data.toList.drop k).take 3 = [s[k], s[k + 1], s[k + 2]] := by rw [hd, hd1, hd2]; rfl
        rw [htk] at hacc
        have HR : Hid (out ++ [d64 (s[k].toNat / 4), d64 (s[k].toNat % 4 * 16 + s[k + 1].toNat / 16), d64 (s[k + 1].toNat % 16 * 4 + s[k + 2].toNat / 64), d64 (s[k + 2].toNat % 64)] ++ signs (s.data.toList.drop (k + 3)) = SIG) := Lib.hid (by rw [← hacc.out]; simp [quad])
        obtain ⟨V, hV⟩ : ∃ V : Int, (s[k].toNat : Int) * 65536 + (s[k + 1].toNat : Int) * 256 + (s[k + 2].toNat : Int) = V := ⟨_, rfl⟩
        have E1 : V / 262144 = ((s[k].toNat / 4 : Nat) : Int) := by rw [← hV]; omega
        have E2 : V / 4096 % 64 = ((s[k].toNat % 4 * 16 + s[k + 1].toNat / 16 : Nat) : Int) := by rw [← hV]; omega
        have E3 : V / 64 % 64 = ((s[k + 1].toNat % 16 * 4 + s[k + 2].toNat / 64 : Nat) : Int) := by rw [← hV]; omega
        have E4 : V % 64 = ((s[k + 2].toNat % 64 : Nat) : Int) := by rw [← hV]; omega
        have C1 := fun W => digitR_any (s[k].toNat / 4) (by omega) W
        have C2 := fun W => digitR_any (s[k].toNat % 4 * 16 + s[k + 1].toNat / 16) (by omega) W
        have C3 := fun W => digitR_any (s[k + 1].toNat % 16 * 4 + s[k + 2].toNat / 64) (by omega) W
        have C4 := fun W => digitR_any (s[k + 2].toNat % 64) (by omega) W
        obtain ⟨m1, hm1⟩ : ∃ m, s[k].toNat / 4 = m := ⟨_, rfl⟩
        obtain ⟨m2, hm2⟩ : ∃ m, s[k].toNat % 4 * 16 + s[k + 1].toNat / 16 = m := ⟨_, rfl⟩
        obtain ⟨m3, hm3⟩ : ∃ m, s[k + 1].toNat % 16 * 4 + s[k + 2].toNat / 64 = m := ⟨_, rfl⟩
        obtain ⟨m4, hm4⟩ : ∃ m, s[k + 2].toNat % 64 = m := ⟨_, rfl⟩
        rw [hm1] at E1 C1
        rw [hm2] at E2 C2
        rw [hm3] at E3 C3
        rw [hm4] at E4 C4
        rw [hm1, hm2, hm3, hm4] at HR
        have K1 := Lib.hid C1
        have K2 := Lib.hid C2
        have K3 := Lib.hid C3
        have K4 := Lib.hid C4
        clear C1 hm1 C2 hm2 C3 hm3 C4 hm4 hacc htk hst hd hd1 hd2
        go_wp2_with (first
            | (go_at_call 28; with_reducible refine (K1.out _).mono ?_; rintro e w' ⟨rfl, rfl⟩)
            | (go_at_call 28; with_reducible refine (K2.out _).mono ?_; rintro e w' ⟨rfl, rfl⟩)
            | (go_at_call 28; with_reducible refine (K3.out _).mono ?_; rintro e w' ⟨rfl, rfl⟩)
            | (go_at_call 28; with_reducible refine (K4.out _).mono ?_; rintro e w' ⟨rfl, rfl⟩)
            | (at_builtin; refine app_law rfl _ _ rfl w.heap.size out [d64 m1, d64 m2] 2 hown.out rfl rfl rfl (by omega) hsz ?_; intro v1 w1 hown1 hb1)
            | (at_builtin; refine app_law rfl _ _ rfl w.heap.size (out ++ [d64 m1, d64 m2]) [d64 m3] 1 hown1 rfl rfl rfl (by simp only [List.length_append, List.length_cons, List.length_nil]; omega) (Nat.le_trans hsz hb1.size) ?_; intro v2 w2 hown2 hb2)
            | (at_builtin; refine app_law rfl _ _ rfl w.heap.size (out ++ [d64 m1, d64 m2] ++ [d64 m3]) [d64 m4] 1 hown2 rfl rfl rfl (by simp only [List.length_append, List.length_cons, List.length_nil]; omega) (Nat.le_trans (Nat.le_trans hsz hb1.size) hb2.size) ?_; intro v3 w3 hown3 hb3))
        go_roundw
        case rel => exact ⟨k + 3, _, by omega, by go_num, Lib.hid hown3, ((hb.trans hb1).trans hb2).trans hb3, Lib.hid (by rw [← HR.out]; simp), by simp only [List.length_append, List.length_cons, List.length_nil]; omega⟩
        case measure => simp [intOf]; omega
    · have hend : out = SIG := by
        rw [← hacc.out, List.drop_eq_nil_of_le (by rw [← size_list]; omega)]
        simp [signs]
      subst hend
      clear hacc
      obtain ⟨WL, rfl⟩ : ∃ WL, WL = wr := ⟨_, rfl⟩
      obtain ⟨a, c, rfl, hcell⟩ := hown.out.shape
      have HCELL := Lib.hid hcell
      clear hcell hown
      go_wp2_with fail
      go_loopw [8, 7] (fun i v wq => ∃ (j : Nat) (o2 : List UInt8), j ≤ out.length ∧ i = .int .i64 j ∧ Hid (Ow wq WL.heap.size v o2) ∧ Below WL.heap.size WL wq ∧ Hid (o2 ++ brk j (out.drop j) = brk 0 out) ∧ o2.length ≤ 3 * j)
        (fun i _ _ => out.length - (intOf i).toNat)
      case atStart => exact ⟨0, [], Nat.zero_le _, rfl, Lib.hid (ow_nil _ _), Below.refl _ _, Lib.hid rfl, Nat.le_refl _⟩
      case round =>
        obtain ⟨j, o2, hj, rfl, hown, hb2, hacc, ho2⟩ := hrel
        have hsz2 := hb2.size
        by_cases hjl : j < out.length
        · obtain ⟨g, rfl, hg, hc0⟩ := HCELL.out j hjl
          have hc1 : wr.cell? ⟨g, j, none⟩ = some (.int .u8 (out[j].toNat : Int)) := by rw [hb2.cell (p := ⟨g, j, none⟩) hg]; exact hc0
          have hdr := List.drop_eq_getElem_cons hjl
          rw [hdr, brk_cons] at hacc
          clear hc0 hdr
          by_cases h75 : j % 76 = 75
          · have e75 : ((j : Int) % 76 == 75) = true := by rw [beq_iff_eq]; omega
            rw [if_pos (Or.inl h75)] at hacc
            have HR : Hid (o2 ++ [out[j]] ++ [13, 10] ++ brk (j + 1) (out.drop (j + 1)) = brk 0 out) := Lib.hid (by rw [← hacc.out]; simp)
            clear hacc h75
            go_wp2_with (first
              | (at_builtin; refine app_law rfl _ _ rfl WL.heap.size o2 [out[j]] 1 hown.out rfl rfl rfl (by omega) hsz2 ?_; intro v' w2 hown2 hb3)
              | (at_builtin; refine app_law rfl _ _ rfl WL.heap.size (o2 ++ [out[j]]) [13, 10] 2 hown2 rfl rfl rfl (by simp only [List.length_append, List.length_cons, List.length_nil]; omega) (Nat.le_trans hsz2 hb3.size) ?_; intro v2 w3 hown3 hb4))
            go_roundw
            case rel => exact ⟨j + 1, _, by omega, by go_num, Lib.hid hown3, (hb2.trans hb3).trans hb4, HR, by simp only [List.length_append, List.length_cons, List.length_nil]; omega⟩
            case measure => simp [intOf]; omega
          · have e75 : ((j : Int) % 76 == 75) = false := by rw [beq_eq_false_iff_ne]; omega
            by_cases hl : j + 1 = out.length
            · have el : ((j : Int) + 1 == (out.length : Int)) = true := by rw [beq_iff_eq]; omega
              rw [if_pos (Or.inr (List.drop_eq_nil_of_le (by omega)))] at hacc
              have HR : Hid (o2 ++ [out[j]] ++ [13, 10] ++ brk (j + 1) (out.drop (j + 1)) = brk 0 out) := Lib.hid (by rw [← hacc.out]; simp)
              clear hacc h75 hl
              go_wp2_with (first
                | (at_builtin; refine app_law rfl _ _ rfl WL.heap.size o2 [out[j]] 1 hown.out rfl rfl rfl (by omega) hsz2 ?_; intro v' w2 hown2 hb3)
                | (at_builtin; refine app_law rfl _ _ rfl WL.heap.size (o2 ++ [out[j]]) [13, 10] 2 hown2 rfl rfl rfl (by simp only [List.length_append, List.length_cons, List.length_nil]; omega) (Nat.le_trans hsz2 hb3.size) ?_; intro v2 w3 hown3 hb4))
              go_roundw
              case rel => exact ⟨j + 1, _, by omega, by go_num, Lib.hid hown3, (hb2.trans hb3).trans hb4, HR, by simp only [List.length_append, List.length_cons, List.length_nil]; omega⟩
              case measure => simp [intOf]; omega
            · have el : ((j : Int) + 1 == (out.length : Int)) = false := by rw [beq_eq_false_iff_ne]; omega
              rw [if_neg (fun h => h.elim h75 (fun e => by
                have := congrArg List.length e
                rw [List.length_drop, List.length_nil] at this
                omega))] at hacc
              have HR : Hid (o2 ++ [out[j]] ++ brk (j + 1) (out.drop (j + 1)) = brk 0 out) := Lib.hid (by rw [← hacc.out]; simp)
              clear hacc h75 hl
              go_wp2_with (at_builtin; refine app_law rfl _ _ rfl WL.heap.size o2 [out[j]] 1 hown.out rfl rfl rfl (by omega) hsz2 ?_; intro v' w2 hown2 hb3)
              go_roundw
              case rel => exact ⟨j + 1, _, by omega, by go_num, Lib.hid hown2, hb2.trans hb3, HR, by simp only [List.length_append, List.length_cons, List.length_nil]; omega⟩
              case measure => simp [intOf]; omega
        · have hend2 : o2 = brk 0 out := by
            rw [← hacc.out, List.drop_eq_nil_of_le (by omega)]
            simp [brk]
          have hcv := hown.out.conv
          rw [hend2] at hcv
          clear hacc
          go_wp2_with fail
          go_ret
          exact ⟨rfl, hb.trans (hb2.mono hsz)⟩
end Go.Proofs.YtblbajhjmdcdiaaDoor
