/- Digits with leading zeros: number. -/
import Derived.Test.YtnmdljadnlddeaaGreatDoorPlain2
import Derived.Lib.MinMax
import Derived.Deep.RegionWith
namespace Go.Proofs.YtnmdljadnlddeaaGreatDoor
open Go.ChangeShapes Go.WideShapes Go.ChangeAt Go.RowKit

/-- The digits without their leading zeros. -/
def numS (l : List UInt8) : List UInt8 := Lib.trimLeftB (l.take (l.length - 1)) 48 ++ l.drop (l.length - 1)
/-- The number that digits spell, at most high. -/
def numberV (l : List UInt8) (high : Nat) : Option Int := if l ≠ [] ∧ l.all isDig = true ∧ val 0 l ≤ high then some ((val 0 l : Nat) : Int) else none
theorem val_zeros (l r : List UInt8) : val 0 (Lib.trimLeftB l 48 ++ r) = val 0 (l ++ r) := by
  unfold Lib.trimLeftB
  induction l with
  | nil => rfl
  | cons c l ih =>
    rw [List.dropWhile_cons]
    split
    · rename_i h
      obtain rfl : c = 48 := by simpa using h
      rw [ih, List.cons_append]
      rfl
    · rfl
theorem numS_val (l : List UInt8) : val 0 (numS l) = val 0 l := by
  unfold numS
  rw [val_zeros, List.take_append_drop]
theorem trim_all (l : List UInt8) : (Lib.trimLeftB l 48).all isDig = l.all isDig := by
  unfold Lib.trimLeftB
  induction l with
  | nil => rfl
  | cons c l ih =>
    rw [List.dropWhile_cons]
    split
    · rename_i h
      obtain rfl : c = 48 := by simpa using h
      rw [ih, List.all_cons]
      rfl
    · rfl
theorem numS_all (l : List UInt8) : (numS l).all isDig = l.all isDig := by
  unfold numS
  rw [List.all_append, trim_all, ← List.all_append, List.take_append_drop]
theorem numS_ne {l : List UInt8} (h : l ≠ []) : numS l ≠ [] := by
  unfold numS
  intro e
  have h1 := congrArg List.length (List.append_eq_nil_iff.1 e).2
  have h2 : 0 < l.length := List.length_pos_iff.2 h
  simp only [List.length_drop, List.length_nil] at h1
  omega
theorem numS_nil : numS [] = [] := rfl
theorem trim_head (l : List UInt8) : Lib.trimLeftB l 48 = [] ∨ ∃ c r, Lib.trimLeftB l 48 = c :: r ∧ c ≠ 48 := by
  unfold Lib.trimLeftB
  induction l with
  | nil => exact .inl rfl
  | cons c l ih =>
    rw [List.dropWhile_cons]
    split
    · exact ih
    · rename_i h
      exact .inr ⟨c, l, rfl, by simpa using h⟩
theorem digit_nat {c : UInt8} (h : isDig c = true) : 48 ≤ c.toNat ∧ c.toNat ≤ 57 := by simpa [isDig] using h
theorem numS_dec {l : List UInt8} (h : l ≠ []) (ha : l.all isDig = true) : numS l = Lib.decDigits (val 0 l) := by
  have hv := numS_val l
  have hd := numS_all l
  rw [ha] at hd
  have hd2 : ∀ x ∈ numS l, 48 ≤ x.toNat ∧ x.toNat ≤ 57 := fun x hx => digit_nat (List.all_eq_true.1 hd x hx)
  rw [← hv]
  rcases trim_head (l.take (l.length - 1)) with e | ⟨c, r, e, hc⟩
  · have e2 : ∃ c, numS l = [c] := by
      unfold numS
      rw [e, List.nil_append]
      have h2 : 0 < l.length := List.length_pos_iff.2 h
      have h3 : (l.drop (l.length - 1)).length = 1 := by rw [List.length_drop]; omega
      exact List.length_eq_one_iff.1 h3
    obtain ⟨c, e3⟩ := e2
    rw [e3] at hd2 ⊢
    have hc := hd2 c (List.mem_singleton.2 rfl)
    have hv : val 0 [c] = c.toNat - 48 := by show 0 * 10 + (c.toNat - 48) = _; omega
    rw [hv, Lib.decDigits, dif_pos (by omega)]
    congr 1
    refine UInt8.toNat_inj.1 ?_
    rw [digit_toNat _ (by omega)]
    omega
  · have e2 : numS l = c :: (r ++ l.drop (l.length - 1)) := by
      unfold numS
      rw [e, List.cons_append]
    rw [e2] at hd2 ⊢
    have h1 := hd2 c List.mem_cons_self
    have h48 : c.toNat ≠ 48 := fun e => hc (UInt8.toNat_inj.1 e)
    exact (numeral c _ (by omega) (fun x hx => hd2 x (List.mem_cons_of_mem _ hx))).symm
theorem parseIn_number (l : List UInt8) (high : Nat) (hh : high ≤ 9999) : parseIn (numS l) 0 high = numberV l high := by
  unfold numberV
  cases hp : parseV (numS l) with
  | none =>
    rw [parseIn_none hp, if_neg]
    rintro ⟨h1, h2, h3⟩
    rw [numS_dec h1 h2, parseV_pos _ (by omega)] at hp
    cases hp
  | some v =>
    obtain ⟨e1, e2, e3⟩ := itoa_parseV _ v hp
    by_cases h0 : 0 ≤ v
    · obtain ⟨m, rfl⟩ : ∃ m : Nat, v = m := ⟨v.toNat, by omega⟩
      have e4 : Lib.itoa (m : Int) = Lib.decDigits m := rfl
      rw [e4] at e1
      have hne : l ≠ [] := by
        rintro rfl
        rw [numS_nil] at e1
        exact decDigits_ne m e1
      have hall : l.all isDig = true := by
        rw [← numS_all, ← e1, List.all_eq_true]
        intro x hx
        have := decDigits_dig m x hx
        simpa [isDig] using this
      have hval : val 0 l = m := by rw [← numS_val, ← e1, decDigits_val]
      rw [hval]
      by_cases hm : m ≤ high
      · rw [if_pos ⟨hne, hall, hm⟩]
        exact parseIn_some hp (by omega) (by omega)
      · rw [if_neg (fun h => hm h.2.2)]
        exact parseIn_out hp (.inr (by omega))
    · rw [parseIn_out hp (.inl (by omega)), if_neg]
      rintro ⟨h1, h2, _⟩
      rw [numS_dec h1 h2] at e1
      have e4 : Lib.itoa v = 45 :: Lib.decDigits v.natAbs := by
        unfold Lib.itoa
        rw [if_pos (by omega)]
      rw [e4] at e1
      have := decDigits_dig (val 0 l) 45 (by rw [← e1]; exact List.mem_cons_self)
      have h45 : (45 : UInt8).toNat = 45 := rfl
      omega
theorem numberV_short (l : List UInt8) (high : Nat) : ∀ v, numberV l high = some v → 0 ≤ v ∧ v ≤ high := by
  intro v h
  unfold numberV at h
  split at h
  · rename_i h2
    cases h
    omega
  · cases h

theorem max_zero (n : Nat) : max (0 : Int) ((n : Int) - 1) = ((n - 1 : Nat) : Int) := by omega
set_option maxHeartbeats 1000000 in
theorem number_any (s : ByteArray) (high : Nat) (hh : high ≤ 9999) (hs : s.size ≤ 500) (w : World) (hv : Vars w) :
    Calls Tryz.prog 33 #[.string s, .int .i64 high] w fun e w' => Ans (numberV s.data.toList high) e ∧ Below w.heap.size w w' := by
  obtain ⟨L, hL⟩ : ∃ L, s.size - 1 = L := ⟨_, rfl⟩
  have hmx := max_zero s.size
  rw [hL] at hmx
  have hLs : L ≤ s.size := by omega
  have hT := fun W => Tryz.strings_TrimLeft_one (s.extract 0 L) 48 (by decide) W
  obtain ⟨t, ht⟩ : ∃ t : ByteArray, t = ⟨(Lib.trimLeftB (s.extract 0 L).data.toList 48).toArray⟩ := ⟨_, rfl⟩
  rw [← ht] at hT
  have hjoin : (t ++ s.extract L s.size).data.toList = numS s.data.toList := by
    rw [list_append, ht, part_rest s L hLs, part_start s L hLs]
    unfold numS
    rw [← size_list, hL]
  have hsz : (t ++ s.extract L s.size).size ≤ 1000 := by
    rw [size_list, hjoin]
    unfold numS
    rw [List.length_append]
    have h1 : (Lib.trimLeftB (s.data.toList.take (s.data.toList.length - 1)) 48).length ≤ (s.data.toList.take (s.data.toList.length - 1)).length := List.Sublist.length_le (List.dropWhile_sublist _)
    have h2 := List.length_take_le (s.data.toList.length - 1) s.data.toList
    have h3 := size_list s
    rw [List.length_drop]
    omega
  have hP := fun W hW => parse_any (t ++ s.extract L s.size) 0 high hsz W hW
  rw [hjoin, parseIn_number _ _ hh] at hP
  unfold Ans at hP ⊢
  have htz : t.size ≤ 1000 := by rw [ByteArray.size_append] at hsz; omega
  have HT := Lib.hid hT
  have HP := Lib.hid hP
  have HV := Lib.hid hv
  obtain ⟨o, ho⟩ : ∃ o, numberV s.data.toList high = o := ⟨_, rfl⟩
  rw [ho] at HP ⊢
  have rto := fun W => run_slice_to s L hLs W
  have rfrom := fun W => run_slice_from s L hLs W
  have radd : ∀ W, (Op.stringOp .add t (s.extract L s.size)).run Tryz.prog W = .ok (.string (t ++ s.extract L s.size)) W := fun W => run_string_add_sum W _ _ (by rw [← ByteArray.size_append]; omega)
  clear hT hP hv ho hjoin ht hsz
  go_enter Tryz.func33, Tryz.ntmps33
  go_wp2_with fail
  go_region_with (first
    | (go_at_call 56; refine (HT.out _).mono ?_; rintro e w1 ⟨rfl, rfl⟩)
    | (go_at_call 55; refine (HP.out _ HV.out.drew).mono ?_; rintro e w2 ⟨rfl, hb⟩))
  all_goals go_wp2_with fail
  all_goals go_ret2
  all_goals exact ⟨rfl, Qtrans (Below.refl _ _).drew hb⟩
end Go.Proofs.YtnmdljadnlddeaaGreatDoor
