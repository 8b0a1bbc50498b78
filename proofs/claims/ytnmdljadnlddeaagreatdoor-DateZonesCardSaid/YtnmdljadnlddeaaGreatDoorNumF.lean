/- Digits of a word, as the words' meaning has them. -/
import Derived.Test.YtnmdljadnlddeaaGreatDoorNumber
namespace Go.Proofs.YtnmdljadnlddeaaGreatDoor
open DateP (dg dg2 yearP timeP clockP)

theorem isDig_dg (c : UInt8) : isDig c = (dg c).isSome := by
  unfold isDig dg
  by_cases h : 48 ≤ c.toNat ∧ c.toNat ≤ 57
  · rw [decide_eq_true h, if_pos h]; rfl
  · rw [decide_eq_false h, if_neg h]; rfl
theorem dg_some {c : UInt8} {n : Nat} (h : dg c = some n) : c.toNat - 48 = n ∧ n ≤ 9 := by
  unfold dg at h
  split at h
  · cases h; omega
  · cases h
/-- At most so much. -/
def upTo (o : Option Nat) (high : Nat) : Option Int := o.bind fun n => if n ≤ high then some (n : Int) else none
theorem upTo_some {n high : Nat} (h : n ≤ high) : upTo (some n) high = some (n : Int) := by unfold upTo; simp [h]
theorem number1 (a : UInt8) (high : Nat) : numberV [a] high = upTo (dg a) high := by
  unfold numberV upTo
  cases ha : dg a with
  | none =>
    rw [if_neg]
    · rfl
    · rintro ⟨_, h, _⟩
      simp [isDig_dg, ha] at h
  | some x =>
    obtain ⟨e, _⟩ := dg_some ha
    have hv : val 0 [a] = x := by show 0 * 10 + (a.toNat - 48) = x; omega
    have hall : [a].all isDig = true := by simp [isDig_dg, ha]
    rw [hv]
    simp only [Option.bind_some]
    by_cases h : x ≤ high
    · rw [if_pos ⟨by simp, hall, h⟩, if_pos h]
    · rw [if_neg (fun k => h k.2.2), if_neg h]
theorem number2 (a b : UInt8) (high : Nat) : numberV [a, b] high = upTo (dg2 a b) high := by
  unfold numberV upTo dg2
  cases ha : dg a with
  | none =>
    rw [if_neg]
    · rfl
    · rintro ⟨_, h, _⟩
      simp [isDig_dg, ha] at h
  | some x =>
    cases hb : dg b with
    | none =>
      rw [if_neg]
      · rfl
      · rintro ⟨_, h, _⟩
        simp [isDig_dg, hb] at h
    | some y =>
      obtain ⟨e, _⟩ := dg_some ha
      obtain ⟨e', _⟩ := dg_some hb
      have hv : val 0 [a, b] = 10 * x + y := by show (0 * 10 + (a.toNat - 48)) * 10 + (b.toNat - 48) = _; omega
      have hall : [a, b].all isDig = true := by simp [isDig_dg, ha, hb]
      rw [hv]
      simp only [Option.bind_some]
      by_cases h : 10 * x + y ≤ high
      · rw [if_pos ⟨by simp, hall, h⟩, if_pos h]
      · rw [if_neg (fun k => h k.2.2), if_neg h]
/-- What yearNumber answers. -/
def yearV (l : List UInt8) : Int := match yearP l with | some y => (y : Int) | none => 0
def yearC (n : Nat) (o : Option Int) : Int := match o with
  | none => 0
  | some v => if n = 2 then (if v < 50 then 2000 + v else 1900 + v) else if n = 3 then 1900 + v else if n = 4 then v else 0
theorem year_is (l : List UInt8) : yearV l = yearC l.length (numberV l 9999) := by
  match l with
  | [] => rfl
  | [a] =>
    show (0 : Int) = _
    unfold yearC
    split
    · rfl
    · rfl
  | [a, b] =>
    rw [number2]
    unfold yearV yearP
    simp only []
    cases h : dg2 a b with
    | none => rfl
    | some n =>
      have hn : n ≤ 99 := by
        unfold dg2 at h
        cases ha : dg a with
        | none => rw [ha] at h; cases h
        | some x =>
          cases hb : dg b with
          | none => rw [ha, hb] at h; cases h
          | some y =>
            rw [ha, hb] at h
            obtain ⟨_, e⟩ := dg_some ha
            obtain ⟨_, e'⟩ := dg_some hb
            simp only [Option.bind_some, Option.some.injEq] at h
            omega
      rw [upTo_some (by omega)]
      simp only [Option.bind_some, yearC, List.length_cons, List.length_nil]
      by_cases h50 : n ≤ 49
      · rw [if_pos h50, if_pos (by decide), if_pos (by omega)]; omega
      · rw [if_neg h50, if_pos (by decide), if_neg (by omega)]; omega
  | [a, b, c] =>
    unfold yearV yearP dg2 numberV
    simp only []
    cases ha : dg a with
    | none => rw [if_neg (by rintro ⟨_, h, _⟩; simp [isDig_dg, ha] at h)]; rfl
    | some x =>
      cases hb : dg b with
      | none => rw [if_neg (by rintro ⟨_, h, _⟩; simp [isDig_dg, hb] at h)]; rfl
      | some y =>
        cases hc : dg c with
        | none => rw [if_neg (by rintro ⟨_, h, _⟩; simp [isDig_dg, hc] at h)]; rfl
        | some z =>
          obtain ⟨e, _⟩ := dg_some ha
          obtain ⟨e', _⟩ := dg_some hb
          obtain ⟨e'', _⟩ := dg_some hc
          have hv : val 0 [a, b, c] = 100 * x + 10 * y + z := by show ((0 * 10 + (a.toNat - 48)) * 10 + (b.toNat - 48)) * 10 + (c.toNat - 48) = _; omega
          rw [hv, if_pos ⟨by simp, by simp [isDig_dg, ha, hb, hc], by omega⟩]
          simp only [Option.bind_some, yearC, List.length_cons, List.length_nil]
          rw [if_neg (by decide), if_pos (by decide)]
          omega
  | [a, b, c, d] =>
    unfold yearV yearP dg2 numberV
    simp only []
    cases ha : dg a with
    | none => rw [if_neg (by rintro ⟨_, h, _⟩; simp [isDig_dg, ha] at h)]; rfl
    | some x =>
      cases hb : dg b with
      | none => rw [if_neg (by rintro ⟨_, h, _⟩; simp [isDig_dg, hb] at h)]; rfl
      | some y =>
        cases hc : dg c with
        | none => rw [if_neg (by rintro ⟨_, h, _⟩; simp [isDig_dg, hc] at h)]; rfl
        | some z =>
          cases hd : dg d with
          | none => rw [if_neg (by rintro ⟨_, h, _⟩; simp [isDig_dg, hd] at h)]; rfl
          | some u =>
            obtain ⟨e, _⟩ := dg_some ha
            obtain ⟨e', _⟩ := dg_some hb
            obtain ⟨e'', _⟩ := dg_some hc
            obtain ⟨e3, _⟩ := dg_some hd
            have hv : val 0 [a, b, c, d] = 1000 * x + 100 * y + 10 * z + u := by
              show (((0 * 10 + (a.toNat - 48)) * 10 + (b.toNat - 48)) * 10 + (c.toNat - 48)) * 10 + (d.toNat - 48) = _; omega
            rw [hv, if_pos ⟨by simp, by simp [isDig_dg, ha, hb, hc, hd], by omega⟩]
            simp only [Option.bind_some, yearC, List.length_cons, List.length_nil]
            rw [if_neg (by decide), if_neg (by decide), if_pos (by decide)]
            omega
  | a :: b :: c :: d :: e :: r =>
    show (0 : Int) = _
    unfold yearC
    split
    · rfl
    · rw [if_neg (by simp), if_neg (by simp), if_neg (by simp)]

/-- The second of the day, out of three numbers. -/
def clockC (h m s : Option Int) : Option Int := h.bind fun a => m.bind fun b => s.bind fun c => some (3600 * a + 60 * b + min c 59)
theorem upTo_none {high : Nat} : upTo none high = none := rfl
theorem clock_is (h m s : Option Nat) : (h.bind fun h => m.bind fun m => s.bind fun s => clockP h m s).map (fun n : Nat => (n : Int)) = clockC (upTo h 23) (upTo m 59) (upTo s 60) := by
  cases h with
  | none => rfl
  | some h =>
    cases m with
    | none => unfold upTo clockC; simp only [Option.bind_some, Option.bind_none, Option.map_none]; split <;> rfl
    | some m =>
      cases s with
      | none => unfold upTo clockC; simp only [Option.bind_some, Option.bind_none, Option.map_none]; split <;> (try split) <;> rfl
      | some s =>
        unfold upTo clockC clockP
        simp only [Option.bind_some]
        by_cases h1 : h ≤ 23
        · by_cases h2 : m ≤ 59
          · by_cases h3 : s ≤ 60
            · rw [if_pos (by omega), if_pos h1, if_pos h2, if_pos h3]
              simp only [Option.bind_some, Option.map_some, Option.some.injEq]
              split <;> omega
            · rw [if_neg (by omega), if_pos h1, if_pos h2, if_neg h3]; rfl
          · rw [if_neg (by omega), if_pos h1, if_neg h2]; rfl
        · rw [if_neg (by omega), if_neg h1]; rfl
theorem dg2_zero : dg2 48 48 = some 0 := by decide
theorem time_is (a b k c d k2 e f : UInt8) : (timeP [a, b, k, c, d, k2, e, f]).map (fun n : Nat => (n : Int)) = if k = 58 ∧ k2 = 58 then clockC (numberV [a, b] 23) (numberV [c, d] 59) (numberV [e, f] 60) else none := by
  unfold timeP
  simp only []
  by_cases h : k = 58 ∧ k2 = 58
  · rw [if_pos h, if_pos h, clock_is, number2, number2, number2]
  · rw [if_neg h, if_neg h]; rfl
theorem time_five (a b k c d : UInt8) : timeP [a, b, k, c, d] = timeP [a, b, k, c, d, 58, 48, 48] := by
  unfold timeP
  simp only [dg2_zero, Option.bind_some]
  by_cases h : k = 58
  · simp [h]
  · simp [h]
end Go.Proofs.YtnmdljadnlddeaaGreatDoor
