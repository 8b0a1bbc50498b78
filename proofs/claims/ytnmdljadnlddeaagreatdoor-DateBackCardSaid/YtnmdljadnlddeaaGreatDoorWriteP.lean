/- Padded numbers, the zone's text, the closure that writes a component. -/
import Derived.Test.YtnmdljadnlddeaaGreatDoorPad
import Derived.Test.YtnmdljadnlddeaaGreatDoorTime
namespace Go.Proofs.YtnmdljadnlddeaaGreatDoor
open Go.ChangeShapes Go.WideShapes Go.ChangeAt Go.RowKit
open DateP (two d1 zoneL Right writeL dayNames monNames)

theorem dec_step (n : Nat) (h : 10 ≤ n) : Lib.decDigits n = Lib.decDigits (n / 10) ++ [UInt8.ofNat (48 + n % 10)] := by
  rw [Lib.decDigits]
  rw [dif_neg (by omega)]
theorem dec_one (n : Nat) (h : n < 10) : Lib.decDigits n = [UInt8.ofNat (48 + n)] := by
  rw [Lib.decDigits]
  rw [dif_pos h]
theorem itoa_nat (n : Nat) : Lib.itoa (n : Int) = Lib.decDigits n := rfl
theorem d1_small (n : Nat) (h : n < 10) : UInt8.ofNat (48 + n) = d1 n := by unfold d1; rw [Nat.mod_eq_of_lt h]
theorem pad2 (n : Nat) (h : n < 100) : padS (n : Int) 2 = two n := by
  unfold padS
  rw [if_neg (by omega)]
  unfold padL two
  rw [itoa_nat]
  by_cases h1 : n < 10
  · rw [dec_one n h1, d1_small n h1]
    have : d1 (n / 10) = 48 := by unfold d1; rw [show n / 10 = 0 by omega]; rfl
    rw [this]; rfl
  · rw [dec_step n (by omega), dec_one (n / 10) (by omega), d1_small _ (by omega)]
    rfl
theorem pad4 (n : Nat) (h : n < 10000) : padS (n : Int) 4 = two (n / 100) ++ two (n % 100) := by
  have z : ∀ k, k = 0 → d1 k = 48 := fun k hk => by subst hk; rfl
  have e1 : d1 (n % 100 / 10) = d1 (n / 10) := by unfold d1; congr 2; omega
  have e2 : d1 (n % 100) = d1 n := by unfold d1; congr 2; omega
  unfold padS
  rw [if_neg (by omega)]
  unfold padL two
  rw [itoa_nat, e1, e2]
  by_cases h1 : n < 10
  · rw [dec_one n h1, d1_small n h1, z (n / 100 / 10) (by omega), z (n / 100) (by omega), z (n / 10) (by omega)]; rfl
  · by_cases h2 : n < 100
    · rw [dec_step n (by omega), dec_one (n / 10) (by omega), d1_small _ (by omega), z (n / 100 / 10) (by omega), z (n / 100) (by omega)]; rfl
    · by_cases h3 : n < 1000
      · rw [dec_step n (by omega), dec_step (n / 10) (by omega), dec_one (n / 10 / 10) (by omega), d1_small _ (by omega), z (n / 100 / 10) (by omega), show n / 10 / 10 = n / 100 by omega]; rfl
      · rw [dec_step n (by omega), dec_step (n / 10) (by omega), dec_step (n / 10 / 10) (by omega), dec_one (n / 10 / 10 / 10) (by omega), d1_small _ (by omega), show n / 10 / 10 / 10 = n / 100 / 10 by omega, show n / 10 / 10 = n / 100 by omega]; rfl
theorem pad_is (n : Int) (k : Int) (h0 : -9223372036854775808 ≤ n) (h1 : n ≤ 9223372036854775807) (l : List UInt8) (hl : padS n k = l) (w : World) (hv : Vars w) :
    Calls Tryz.prog 16 #[.int .i64 n, .int .i64 k] w fun e w' => e = .returned (.string (strL l)) ∧ Below w.heap.size w w' := by
  subst hl
  exact pad_any n k h0 h1 w hv
theorem add_str (a b : ByteArray) (h : a.size + b.size ≤ 1000) (W : World) : (Op.stringOp .add a b).run Tryz.prog W = .ok (.string (a ++ b)) W := run_string_add_sum W _ _ (by omega)
theorem strL_lit (l : List UInt8) (b : ByteArray) (h : b.data.toList = l) : b = strL l := bytes_is h
theorem two_len (n : Nat) : (two n).length = 2 := rfl
theorem zoneL_len (z : Int) : (zoneL z).length = 5 := rfl

theorem zone_text (z : Int) (h1 : -1439 ≤ z) (h2 : z ≤ 1439) (w : World) (hv : Vars w) :
    Calls Tryz.prog 17 #[.int .i64 z] w fun e w' => e = .returned (.string (strL (zoneL z))) ∧ Below w.heap.size w w' := by
  obtain ⟨m, hm⟩ : ∃ m, z.natAbs = m := ⟨_, rfl⟩
  have P1 := Lib.hid (pad_is ((m / 60 : Nat) : Int) 2 (by omega) (by omega) _ (pad2 (m / 60) (by omega)))
  have P2 := Lib.hid (pad_is ((m % 60 : Nat) : Int) 2 (by omega) (by omega) _ (pad2 (m % 60) (by omega)))
  rw [show ((m / 60 : Nat) : Int) = (m : Int) / 60 by omega] at P1
  rw [show ((m % 60 : Nat) : Int) = (m : Int) % 60 by omega] at P2
  have HV := Lib.hid hv
  obtain ⟨A, hA⟩ : ∃ A, two (m / 60) = A := ⟨_, rfl⟩
  obtain ⟨B, hB⟩ : ∃ B, two (m % 60) = B := ⟨_, rfl⟩
  have hAl : A.length = 2 := by rw [← hA]; rfl
  have hBl : B.length = 2 := by rw [← hB]; rfl
  have hz : zoneL z = (if z < 0 then 45 else 43) :: (A ++ B) := by
    unfold zoneL; rw [hm, hA, hB]
  rw [hA] at P1
  rw [hB] at P2
  rw [hz]
  by_cases hn : z < 0
  · rw [if_pos hn]
    obtain rfl : z = -(m : Int) := by omega
    have a1 : ∀ W, (Op.stringOp .add ⟨#[45]⟩ (strL A)).run Tryz.prog W = .ok (.string (strL (45 :: A))) W := fun W => by
      rw [add_str _ _ (by rw [strL_size, hAl]; decide) W]
      congr 2
    have a2 : ∀ W, (Op.stringOp .add (strL (45 :: A)) (strL B)).run Tryz.prog W = .ok (.string (strL (45 :: (A ++ B)))) W := fun W => by
      rw [add_str _ _ (by rw [strL_size, strL_size, List.length_cons, hAl, hBl]; decide) W]
      congr 2
    have hm0 : 0 < m := by omega
    clear hz hm hA hB
    go_enter Tryz.func17, Tryz.ntmps17
    go_wp2_with (first
      | (go_at_call 16; with_reducible refine (P1.out _ HV.out).mono ?_; rintro e w1 ⟨rfl, hb⟩)
      | (go_at_call 16; with_reducible refine (P2.out _ (HV.out.below hb)).mono ?_; rintro e w2 ⟨rfl, hb2⟩))
    go_ret
    exact ⟨rfl, Qtrans hb hb2⟩
  · rw [if_neg hn]
    obtain rfl : z = (m : Int) := by omega
    have a1 : ∀ W, (Op.stringOp .add ⟨#[43]⟩ (strL A)).run Tryz.prog W = .ok (.string (strL (43 :: A))) W := fun W => by
      rw [add_str _ _ (by rw [strL_size, hAl]; decide) W]
      congr 2
    have a2 : ∀ W, (Op.stringOp .add (strL (43 :: A)) (strL B)).run Tryz.prog W = .ok (.string (strL (43 :: (A ++ B)))) W := fun W => by
      rw [add_str _ _ (by rw [strL_size, strL_size, List.length_cons, hAl, hBl]; decide) W]
      congr 2
    clear hz hm hA hB
    go_enter Tryz.func17, Tryz.ntmps17
    go_wp2_with (first
      | (go_at_call 16; with_reducible refine (P1.out _ HV.out).mono ?_; rintro e w1 ⟨rfl, hb⟩)
      | (go_at_call 16; with_reducible refine (P2.out _ (HV.out.below hb)).mono ?_; rintro e w2 ⟨rfl, hb2⟩))
    go_ret
    exact ⟨rfl, Qtrans hb hb2⟩
theorem part_any (u z : Int) (k : Nat) (hk : k ≤ 9) (kk : Int) (hkk : kk = k) (v : Int) (hv : partV u z k = v) (w : World) :
    Calls Tryz.prog 11 #[timeV u z, .int .i64 kk] w fun e w' => e = .returned (.int .i64 v) ∧ Below w.heap.size w w' := by
  subst hv hkk
  by_cases h : Right u z
  · exact part_yes u z k hk h w
  · have : partV u z k = 0 := by unfold partV; rw [if_neg h]
    rw [this]
    exact part_no u z k h w
theorem clos_any (u z : Int) (N : Nat) (k : Nat) (hk : k ≤ 9) (kk : Int) (hkk : kk = k) (v : Int) (hp : partV u z k = v) (wd : Int) (h0 : -9223372036854775808 ≤ v) (h1 : v ≤ 9223372036854775807) (l : List UInt8) (hl : padS v wd = l) (w : World) (hv : Vars w) (ht : Tm w N u z) :
    Calls Tryz.prog 15 #[.int .i64 kk, .int .i64 wd, .pointer (some ⟨N, 0, none⟩)] w fun e w' => e = .returned (.string (strL l)) ∧ Below w.heap.size w w' := by
  have HP := Lib.hid (part_any u z k hk kk hkk v hp)
  have HD := Lib.hid (pad_is v wd h0 h1 l hl)
  have HV := Lib.hid hv
  have c0 := ht.c0
  have c1 := ht.c1
  unfold timeV at HP
  clear hv hl hp hkk
  go_enter Tryz.func15, Tryz.ntmps15
  go_wp2_with (first
    | (go_at_call 11; refine (HP.out _).mono ?_; rintro e w1 ⟨rfl, hb⟩)
    | (go_at_call 16; refine (HD.out _ (HV.out.below hb)).mono ?_; rintro e w2 ⟨rfl, hb2⟩))
  go_ret
  exact ⟨rfl, Qtrans hb hb2⟩
end Go.Proofs.YtnmdljadnlddeaaGreatDoor
