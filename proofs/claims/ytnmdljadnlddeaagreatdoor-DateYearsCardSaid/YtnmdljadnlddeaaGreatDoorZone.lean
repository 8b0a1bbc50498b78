/- Zones: isNoLetter, zoneHours, readZone. -/
import Derived.Test.YtnmdljadnlddeaaGreatDoorNames
import Derived.Test.YtnmdljadnlddeaaGreatDoorWords
namespace Go.Proofs.YtnmdljadnlddeaaGreatDoor
open Go.ChangeShapes Go.WideShapes Go.ChangeAt Go.RowKit
open DateP (low letter zoneNames zoneW zoneP dg dg2)

/-- Is a code point no letter? -/
def noLet (x : Nat) : Bool := !((decide (65 ≤ x) && decide (x ≤ 90)) || (decide (97 ≤ x) && decide (x ≤ 122)))
theorem noLet_any (x : Nat) (hx : x ≤ 1114111) (w : World) :
    Calls Tryz.prog 39 #[.int .i32 x] w fun e w' => e = .returned (.bool (noLet x)) ∧ w = w' := by
  rcases (show x < 65 ∨ (65 ≤ x ∧ x ≤ 90) ∨ (90 < x ∧ x < 97) ∨ (97 ≤ x ∧ x ≤ 122) ∨ 122 < x by omega) with h | ⟨h, h2⟩ | ⟨h, h2⟩ | ⟨h, h2⟩ | h
  · have e : noLet x = true := by unfold noLet; simp; omega
    rw [e]
    go_enter Tryz.func39, Tryz.ntmps39
    go_wp2
    all_goals go_ret
    all_goals refine ⟨congrArg (fun b => Ending.returned (.bool b)) ?_, rfl⟩
    all_goals first | rfl | (simp; omega)
  · have e : noLet x = false := by unfold noLet; simp; omega
    rw [e]
    go_enter Tryz.func39, Tryz.ntmps39
    go_wp2
    all_goals go_ret
    all_goals refine ⟨congrArg (fun b => Ending.returned (.bool b)) ?_, rfl⟩
    all_goals first | rfl | (simp; omega)
  · have e : noLet x = true := by unfold noLet; simp; omega
    rw [e]
    go_enter Tryz.func39, Tryz.ntmps39
    go_wp2
    all_goals go_ret
    all_goals refine ⟨congrArg (fun b => Ending.returned (.bool b)) ?_, rfl⟩
    all_goals first | rfl | (simp; omega)
  · have e : noLet x = false := by unfold noLet; simp; omega
    rw [e]
    go_enter Tryz.func39, Tryz.ntmps39
    go_wp2
    all_goals go_ret
    all_goals refine ⟨congrArg (fun b => Ending.returned (.bool b)) ?_, rfl⟩
    all_goals first | rfl | (simp; omega)
  · have e : noLet x = true := by unfold noLet; simp; omega
    rw [e]
    go_enter Tryz.func39, Tryz.ntmps39
    go_wp2
    all_goals go_ret
    all_goals refine ⟨congrArg (fun b => Ending.returned (.bool b)) ?_, rfl⟩
    all_goals first | rfl | (simp; omega)

theorem letter_nat (c : UInt8) : letter c = !noLet c.toNat := by
  unfold letter noLet
  rw [Bool.not_not]
  have e : ∀ a b : UInt8, (decide (a ≤ b)) = decide (a.toNat ≤ b.toNat) := fun a b => decide_eq_decide.2 UInt8.le_iff_toNat_le
  rw [e, e, e, e]
  rfl
theorem idx_from (s : ByteArray) : ∀ (f pos : Nat), s.size ≤ pos + f → (decide (0 ≤ Lib.idxFuncFrom noLet true s f pos) = !(s.data.toList.drop pos).all letter)
  | 0, pos, h => by
    rw [List.drop_eq_nil_of_le (by rw [← size_list]; omega)]
    rfl
  | f + 1, pos, h => by
    unfold Lib.idxFuncFrom
    by_cases hp : pos < s.size
    · rw [if_pos hp, drop_cons s pos hp, List.all_cons, letter_nat]
      rcases Nat.lt_or_ge (s[pos]'hp).toNat 128 with ha | ha
      · rw [decode_ascii s pos hp ha]
        simp only
        cases hn : noLet (s[pos]'hp).toNat with
        | true =>
          rw [if_pos rfl]
          simp
        | false =>
          rw [if_neg (by decide), idx_from s f (pos + 1) (by omega)]
          simp
      · have hd := decode_big s pos hp (by omega)
        have h1 : noLet (Utf8.decode s pos).1 = true := by unfold noLet; simp; omega
        have h2 : noLet (s[pos]'hp).toNat = true := by unfold noLet; simp; omega
        rw [h1, h2, if_pos rfl]
        simp
    · rw [if_neg hp, List.drop_eq_nil_of_le (by rw [← size_list]; omega)]
      rfl
theorem contains_any (s : ByteArray) (w : World) :
    Calls Tryz.prog 38 #[.string s, .func (.func 39) #[] #[]] w fun e w' => e = .returned (.bool (!s.data.toList.all letter)) ∧ Below w.heap.size w w' := by
  refine (Tryz.strings_ContainsFunc_runes 39 #[] (fun args w => by go_simp) noLet s w (fun W x hx _ => ?_)).mono fun e w' ⟨he, hb⟩ => ⟨?_, hb⟩
  · refine (noLet_any x hx W).mono fun e w' ⟨he, hw⟩ => ⟨he, 0, hw.symm⟩
  · rw [he]
    unfold Lib.idxFunc
    rw [idx_from s s.size 0 (by omega)]
    rfl

/-- The hours that a name in capital letters stands for. -/
def zoneHL (u : List UInt8) : Int :=
  if u = [69, 68, 84] then -4 else if u = [69, 83, 84] ∨ u = [67, 68, 84] then -5 else if u = [67, 83, 84] ∨ u = [77, 68, 84] then -6 else if u = [77, 83, 84] ∨ u = [80, 68, 84] then -7 else if u = [80, 83, 84] then -8 else 0
theorem ne_lists {u : ByteArray} {l : List UInt8} (h : ¬ u.data.toList = l) : (u.toList == l) = false := by
  rw [ByteArray.toList_eq]
  exact beq_eq_false_iff_ne.2 h
set_option maxHeartbeats 1000000 in
theorem hours_any (s : ByteArray) (hs : s.size ≤ 500) (ha : ∀ (j : Nat) (b : UInt8), s.data.toList[j]? = some b → b.toNat < 128) (w : World) :
    Calls Tryz.prog 40 #[.string s] w fun e w' => e = .returned (.int .i64 (zoneHL (Lib.toUpperA s.data.toList))) ∧ Below w.heap.size w w' := by
  have hT := Tryz.strings_ToUpper_ascii s w (by omega) ha
  obtain ⟨u, hu⟩ : ∃ u : ByteArray, ⟨(Lib.toUpperA s.data.toList).toArray⟩ = u := ⟨_, rfl⟩
  have hul : Lib.toUpperA s.data.toList = u.data.toList := by rw [← hu]
  rw [hu] at hT
  rw [hul]
  have HT := Lib.hid hT
  clear hT hu hul
  by_cases h0 : u.data.toList = [69, 68, 84]
  · obtain rfl : u = ⟨#[69, 68, 84]⟩ := bytes_is h0
    go_enter Tryz.func40, Tryz.ntmps40
    go_wp2_with (go_at_call 59; refine HT.out.mono ?_; rintro e w1 ⟨rfl, hb⟩)
    go_ret
    exact ⟨rfl, hb⟩
  by_cases h1 : u.data.toList = [69, 83, 84]
  · obtain rfl : u = ⟨#[69, 83, 84]⟩ := bytes_is h1
    go_enter Tryz.func40, Tryz.ntmps40
    go_wp2_with (go_at_call 59; refine HT.out.mono ?_; rintro e w1 ⟨rfl, hb⟩)
    go_ret
    exact ⟨rfl, hb⟩
  by_cases h2 : u.data.toList = [67, 68, 84]
  · obtain rfl : u = ⟨#[67, 68, 84]⟩ := bytes_is h2
    go_enter Tryz.func40, Tryz.ntmps40
    go_wp2_with (go_at_call 59; refine HT.out.mono ?_; rintro e w1 ⟨rfl, hb⟩)
    go_ret
    exact ⟨rfl, hb⟩
  by_cases h3 : u.data.toList = [67, 83, 84]
  · obtain rfl : u = ⟨#[67, 83, 84]⟩ := bytes_is h3
    go_enter Tryz.func40, Tryz.ntmps40
    go_wp2_with (go_at_call 59; refine HT.out.mono ?_; rintro e w1 ⟨rfl, hb⟩)
    go_ret
    exact ⟨rfl, hb⟩
  by_cases h4 : u.data.toList = [77, 68, 84]
  · obtain rfl : u = ⟨#[77, 68, 84]⟩ := bytes_is h4
    go_enter Tryz.func40, Tryz.ntmps40
    go_wp2_with (go_at_call 59; refine HT.out.mono ?_; rintro e w1 ⟨rfl, hb⟩)
    go_ret
    exact ⟨rfl, hb⟩
  by_cases h5 : u.data.toList = [77, 83, 84]
  · obtain rfl : u = ⟨#[77, 83, 84]⟩ := bytes_is h5
    go_enter Tryz.func40, Tryz.ntmps40
    go_wp2_with (go_at_call 59; refine HT.out.mono ?_; rintro e w1 ⟨rfl, hb⟩)
    go_ret
    exact ⟨rfl, hb⟩
  by_cases h6 : u.data.toList = [80, 68, 84]
  · obtain rfl : u = ⟨#[80, 68, 84]⟩ := bytes_is h6
    go_enter Tryz.func40, Tryz.ntmps40
    go_wp2_with (go_at_call 59; refine HT.out.mono ?_; rintro e w1 ⟨rfl, hb⟩)
    go_ret
    exact ⟨rfl, hb⟩
  by_cases h7 : u.data.toList = [80, 83, 84]
  · obtain rfl : u = ⟨#[80, 83, 84]⟩ := bytes_is h7
    go_enter Tryz.func40, Tryz.ntmps40
    go_wp2_with (go_at_call 59; refine HT.out.mono ?_; rintro e w1 ⟨rfl, hb⟩)
    go_ret
    exact ⟨rfl, hb⟩
  have hz : zoneHL u.data.toList = 0 := by
    unfold zoneHL
    rw [if_neg h0, if_neg (by simp only [h1, h2, or_self, not_false_eq_true]), if_neg (by simp only [h3, h4, or_self, not_false_eq_true]), if_neg (by simp only [h5, h6, or_self, not_false_eq_true]), if_neg h7]
  rw [hz]
  have n0 := ne_lists h0
  have n1 := ne_lists h1
  have n2 := ne_lists h2
  have n3 := ne_lists h3
  have n4 := ne_lists h4
  have n5 := ne_lists h5
  have n6 := ne_lists h6
  have n7 := ne_lists h7
  clear hz h0 h1 h2 h3 h4 h5 h6 h7
  go_enter Tryz.func40, Tryz.ntmps40
  go_wp2_with (go_at_call 59; refine HT.out.mono ?_; rintro e w1 ⟨rfl, hb⟩)
  go_ret
  exact ⟨rfl, hb⟩
end Go.Proofs.YtnmdljadnlddeaaGreatDoor
