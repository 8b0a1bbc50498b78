/- The calendar, of no program: days before a year, before a month; each day number has one date. -/
namespace Go.Proofs.YtnmdljadnlddeaaGreatDoor.DateP
def leap (y : Nat) : Prop := (y % 4 = 0 ∧ y % 100 ≠ 0) ∨ y % 400 = 0
instance (y : Nat) : Decidable (leap y) := by unfold leap; infer_instance
/-- Days from 1 January of the year 1 to 1 January of year y. -/
def ys (y : Nat) : Nat := 365 * (y - 1) + (y - 1) / 4 - (y - 1) / 100 + (y - 1) / 400
def ylen (y : Nat) : Nat := if leap y then 366 else 365
def mlen (y m : Nat) : Nat := if m = 2 then (if leap y then 29 else 28) else if m = 4 ∨ m = 6 ∨ m = 9 ∨ m = 11 then 30 else 31
/-- Days from the year's first day to the first day of month m. -/
def ms (y : Nat) : Nat → Nat
  | 0 => 0
  | 1 => 0
  | m + 2 => ms y (m + 1) + mlen y (m + 1)
/-- The date exists. -/
def Is (y m d : Nat) : Prop := 1 ≤ y ∧ y ≤ 9999 ∧ 1 ≤ m ∧ m ≤ 12 ∧ 1 ≤ d ∧ d ≤ mlen y m
/-- Its number. -/
def num (y m d : Nat) : Int := ((ys y + ms y m + (d - 1) : Nat) : Int) - 719162
theorem ys_next (y : Nat) (h : 1 ≤ y) : ys (y + 1) = ys y + ylen y := by
  unfold ys ylen
  obtain ⟨k, rfl⟩ : ∃ k, y = k + 1 := ⟨y - 1, by omega⟩
  simp only [Nat.add_sub_cancel]
  have h4 : ((k + 1) % 4 = 0 ∧ (k + 1) / 4 = k / 4 + 1) ∨ ((k + 1) % 4 ≠ 0 ∧ (k + 1) / 4 = k / 4) := by omega
  have h100 : ((k + 1) % 100 = 0 ∧ (k + 1) / 100 = k / 100 + 1) ∨ ((k + 1) % 100 ≠ 0 ∧ (k + 1) / 100 = k / 100) := by omega
  have h400 : ((k + 1) % 400 = 0 ∧ (k + 1) / 400 = k / 400 + 1) ∨ ((k + 1) % 400 ≠ 0 ∧ (k + 1) / 400 = k / 400) := by omega
  have hq : k / 100 ≤ 365 * k := by omega
  rcases h4 with ⟨m4, d4⟩ | ⟨m4, d4⟩ <;> rcases h100 with ⟨m1, d1⟩ | ⟨m1, d1⟩ <;> rcases h400 with ⟨m0, d0⟩ | ⟨m0, d0⟩ <;> rw [d4, d1, d0] <;>
    first
    | (rw [if_pos (show leap (k + 1) from .inr m0)]; clear d4 d1 d0; omega)
    | (rw [if_pos (show leap (k + 1) from .inl ⟨m4, m1⟩)]; clear d4 d1 d0; omega)
    | (rw [if_neg (show ¬ leap (k + 1) from fun h => h.elim (fun h => m4 h.1) m0)]; clear d4 d1 d0; omega)
    | (rw [if_neg (show ¬ leap (k + 1) from fun h => h.elim (fun h => h.2 m1) m0)]; clear d4 d1 d0; omega)
    | (exfalso; clear d4 d1 d0; omega)
theorem ys_grow (a : Nat) (h : 1 ≤ a) : ∀ k, ys a ≤ ys (a + k)
  | 0 => Nat.le_refl _
  | k + 1 => by
    have := ys_grow a h k
    rw [show a + (k + 1) = a + k + 1 from rfl, ys_next (a + k) (by omega)]; omega
theorem ys_mono {a b : Nat} (ha : 1 ≤ a) (h : a < b) : ys a + ylen a ≤ ys b := by
  rw [← ys_next a ha]
  obtain ⟨k, rfl⟩ : ∃ k, b = a + 1 + k := ⟨b - a - 1, by omega⟩
  exact ys_grow _ (by omega) k
theorem ms_all (y : Nat) : ms y 13 = ylen y := by
  simp only [ms, mlen, ylen]
  by_cases h : leap y
  · simp [h]
  · simp [h]
theorem mlen_pos (y m : Nat) : 28 ≤ mlen y m ∧ mlen y m ≤ 31 := by
  unfold mlen; split
  · split <;> omega
  · split <;> omega
theorem ms_next (y m : Nat) (h : 1 ≤ m) : ms y (m + 1) = ms y m + mlen y m := by
  obtain ⟨k, rfl⟩ : ∃ k, m = k + 1 := ⟨m - 1, by omega⟩
  rfl
theorem ms_mono (y : Nat) {a b : Nat} (ha : 1 ≤ a) (h : a < b) : ms y a + mlen y a ≤ ms y b := by
  induction b with
  | zero => omega
  | succ b ih =>
    by_cases hb : a = b
    · subst hb; rw [ms_next y a ha]; omega
    · have := ih (by omega)
      rw [ms_next y b (by omega)]; omega
theorem ms_le (y m : Nat) (h1 : 1 ≤ m) (h2 : m ≤ 12) : ms y m + mlen y m ≤ ylen y := by
  rw [← ms_all]; exact ms_mono y h1 (by omega)
theorem ylen_is (y : Nat) : ylen y = 365 ∨ ylen y = 366 := by unfold ylen; split <;> simp
/-- A number has one date at most. -/
theorem one {y m d y' m' d' : Nat} (h : Is y m d) (h' : Is y' m' d') (e : num y m d = num y' m' d') : y = y' ∧ m = m' ∧ d = d' := by
  obtain ⟨a1, a2, a3, a4, a5, a6⟩ := h
  obtain ⟨b1, b2, b3, b4, b5, b6⟩ := h'
  unfold num at e
  have e1 : ys y + ms y m + (d - 1) = ys y' + ms y' m' + (d' - 1) := by omega
  have l1 := ms_le y m a3 a4
  have l2 := ms_le y' m' b3 b4
  have hy : y = y' := by
    rcases Nat.lt_trichotomy y y' with h | h | h
    · have := ys_mono a1 h; omega
    · exact h
    · have := ys_mono b1 h; omega
  subst hy
  have hm : m = m' := by
    rcases Nat.lt_trichotomy m m' with h | h | h
    · have := ms_mono y a3 h; omega
    · exact h
    · have := ms_mono y b3 h; omega
  subst hm
  exact ⟨rfl, rfl, by omega⟩
theorem find_year (n : Nat) : ∀ Y, 1 ≤ Y → n < ys (Y + 1) → ∃ y, 1 ≤ y ∧ y ≤ Y ∧ ys y ≤ n ∧ n < ys y + ylen y
  | 0, h, _ => by omega
  | Y + 1, _, h => by
    by_cases hn : ys (Y + 1) ≤ n
    · exact ⟨Y + 1, by omega, Nat.le_refl _, hn, by rw [← ys_next (Y + 1) (by omega)]; exact h⟩
    · by_cases hY : Y = 0
      · subst hY
        have : ys (0 + 1) = 0 := by decide
        omega
      · obtain ⟨y, h1, h2, h3, h4⟩ := find_year n Y (by omega) (by omega)
        exact ⟨y, h1, by omega, h3, h4⟩
theorem find_month (y n : Nat) : ∀ M, 1 ≤ M → n < ms y (M + 1) → ∃ m, 1 ≤ m ∧ m ≤ M ∧ ms y m ≤ n ∧ n < ms y m + mlen y m
  | 0, h, _ => by omega
  | M + 1, _, h => by
    by_cases hn : ms y (M + 1) ≤ n
    · exact ⟨M + 1, by omega, Nat.le_refl _, hn, by rw [← ms_next y (M + 1) (by omega)]; exact h⟩
    · by_cases hM : M = 0
      · subst hM
        have : ms y (0 + 1) = 0 := rfl
        omega
      · obtain ⟨m, h1, h2, h3, h4⟩ := find_month y n M (by omega) (by omega)
        exact ⟨m, h1, by omega, h3, h4⟩
/-- A number within the calendar has a date. -/
theorem some_date (n : Int) (h1 : -719162 ≤ n) (h2 : n ≤ 2932896) : ∃ y m d, Is y m d ∧ num y m d = n := by
  obtain ⟨k, rfl⟩ : ∃ k : Nat, n = (k : Int) - 719162 := ⟨(n + 719162).toNat, by omega⟩
  obtain ⟨y, y1, y2, y3, y4⟩ := find_year k 9999 (by omega) (by have : ys (9999 + 1) = 3652059 := by decide
                                                                omega)
  obtain ⟨m, m1, m2, m3, m4⟩ := find_month y (k - ys y) 12 (by omega) (by rw [ms_all]; omega)
  exact ⟨y, m, k - ys y - ms y m + 1, ⟨y1, y2, m1, m2, by omega, by omega⟩, by unfold num; omega⟩
theorem num_range {y m d : Nat} (h : Is y m d) : -719162 ≤ num y m d ∧ num y m d ≤ 2932896 := by
  obtain ⟨a1, a2, a3, a4, a5, a6⟩ := h
  have l := ms_le y m a3 a4
  have : ys y + ylen y ≤ 3652059 := by
    have := ys_mono a1 (show y < 10000 by omega)
    rwa [show ys 10000 = 3652059 by decide] at this
  unfold num; omega
/-- The day after. -/
theorem after {y m d a b c : Nat} (h : Is y m d) (h' : Is a b c) (e : num a b c = num y m d + 1) :
    (a = y ∧ b = m ∧ c = d + 1) ∨ ((a = y ∧ b = m + 1 ∧ c = 1 ∨ a = y + 1 ∧ m = 12 ∧ b = 1 ∧ c = 1) ∧ d = mlen y m) := by
  have h0 := h
  obtain ⟨a1, a2, a3, a4, a5, a6⟩ := h
  by_cases hd : d + 1 ≤ mlen y m
  · have := one h' (⟨a1, a2, a3, a4, by omega, hd⟩ : Is y m (d + 1)) (by rw [e]; unfold num; omega)
    exact .inl this
  · have hd' : d = mlen y m := by omega
    refine .inr ⟨?_, hd'⟩
    by_cases hm : m = 12
    · subst hm
      by_cases hy : y = 9999
      · subst hy
        have := num_range h'
        rw [e] at this
        unfold num at this
        have e1 : ys 9999 + ms 9999 12 + mlen 9999 12 = 3652059 := by decide
        omega
      · have hk : ms y 12 + mlen y 12 = ylen y := by rw [← ms_all, ms_next y 12 (by omega)]
        have hp := mlen_pos (y + 1) 1
        have := one h' (⟨by omega, by omega, by omega, by omega, by omega, by omega⟩ : Is (y + 1) 1 1) (by
          rw [e]; unfold num
          rw [ys_next y a1, show ms (y + 1) 1 = 0 from rfl]; omega)
        exact .inr ⟨this.1, rfl, this.2⟩
    · have hp := mlen_pos y (m + 1)
      have := one h' (⟨a1, a2, by omega, by omega, by omega, by omega⟩ : Is y (m + 1) 1) (by
        rw [e]; unfold num
        rw [ms_next y m a3]; omega)
      exact .inl this
/-- Four hundred years later the weekday is the same. -/
theorem ys_400 (y : Nat) (h : 1 ≤ y) : ys (y + 400) = ys y + 146097 := by unfold ys; omega
theorem leap_400 (y : Nat) : leap (y + 400) ↔ leap y := by unfold leap; omega
theorem mlen_400 (y m : Nat) : mlen (y + 400) m = mlen y m := by unfold mlen; simp only [leap_400]
theorem ms_400 (y : Nat) : ∀ m, ms (y + 400) m = ms y m
  | 0 => rfl
  | 1 => rfl
  | m + 2 => by
    show ms (y + 400) (m + 1) + mlen (y + 400) (m + 1) = ms y (m + 1) + mlen y (m + 1)
    rw [ms_400 y (m + 1), mlen_400]
theorem num_400 (y m d : Nat) (h : 1 ≤ y) : num (y + 400) m d = num y m d + 7 * 20871 := by
  unfold num; rw [ys_400 y h, ms_400]; omega

/- The words of a date string, and what they mean. -/
def white (c : UInt8) : Bool := c == 9 || c == 10 || c == 13 || c == 32 || c == 44
def flush (cur : List UInt8) (ws : List (List UInt8)) : List (List UInt8) := if cur = [] then ws else cur :: ws
/-- The words of the rest, within a number of open comments, behind the bytes of a word begun. -/
def wd : Nat → List UInt8 → List UInt8 → List (List UInt8)
  | 0, cur, [] => flush cur []
  | 0, cur, c :: t => if white c then flush cur (wd 0 [] t) else if c = 40 then flush cur (wd 1 [] t) else wd 0 (cur ++ [c]) t
  | _ + 1, _, [] => []
  | k + 1, _, [c] => if c = 41 then wd k [] [] else []
  | k + 1, _, c :: x :: t => if c = 92 then wd (k + 1) [] t else if c = 40 then wd (k + 2) [] (x :: t) else if c = 41 then wd k [] (x :: t) else wd (k + 1) [] (x :: t)
def low (c : UInt8) : UInt8 := if 65 ≤ c ∧ c ≤ 90 then c + 32 else c
def dayNames : List (List UInt8) := [[83, 117, 110], [77, 111, 110], [84, 117, 101], [87, 101, 100], [84, 104, 117], [70, 114, 105], [83, 97, 116]]
def monNames : List (List UInt8) := [[74, 97, 110], [70, 101, 98], [77, 97, 114], [65, 112, 114], [77, 97, 121], [74, 117, 110], [74, 117, 108], [65, 117, 103], [83, 101, 112], [79, 99, 116], [78, 111, 118], [68, 101, 99]]
/-- Where a word stands in a table of names, whatever its case. -/
def nameP (tab : List (List UInt8)) (w : List UInt8) : Option Nat := tab.findIdx? fun n => n.map low == w.map low
def dg (c : UInt8) : Option Nat := if 48 ≤ c.toNat ∧ c.toNat ≤ 57 then some (c.toNat - 48) else none
def dg2 (a b : UInt8) : Option Nat := (dg a).bind fun x => (dg b).bind fun y => some (10 * x + y)
def dayP : List UInt8 → Option Nat
  | [a] => dg a
  | [a, b] => dg2 a b
  | _ => none
def yearP : List UInt8 → Option Nat
  | [a, b] => (dg2 a b).bind fun n => some (if n ≤ 49 then 2000 + n else 1900 + n)
  | [a, b, c] => (dg a).bind fun x => (dg2 b c).bind fun n => some (1900 + 100 * x + n)
  | [a, b, c, d] => (dg2 a b).bind fun x => (dg2 c d).bind fun n => some (100 * x + n)
  | _ => none
/-- The second of the day: 60 reads as 59. -/
def clockP (h m s : Nat) : Option Nat := if h < 24 ∧ m < 60 ∧ s < 61 then some (3600 * h + 60 * m + (if s = 60 then 59 else s)) else none
def timeP : List UInt8 → Option Nat
  | [a, b, k, c, d] => if k = 58 then (dg2 a b).bind fun h => (dg2 c d).bind fun m => clockP h m 0 else none
  | [a, b, k, c, d, k2, e, f] => if k = 58 ∧ k2 = 58 then (dg2 a b).bind fun h => (dg2 c d).bind fun m => (dg2 e f).bind fun s => clockP h m s else none
  | _ => none
def letter (c : UInt8) : Bool := (65 ≤ c && c ≤ 90) || (97 ≤ c && c ≤ 122)
def zoneNames : List (List UInt8 × Int) := [([117, 116], 0), ([103, 109, 116], 0), ([122], 0), ([101, 115, 116], -300), ([101, 100, 116], -240), ([99, 115, 116], -360), ([99, 100, 116], -300), ([109, 115, 116], -420), ([109, 100, 116], -360), ([112, 115, 116], -480), ([112, 100, 116], -420)]
def zoneW (w : List UInt8) : Option Int :=
  match zoneNames.lookup (w.map low) with
  | some z => some z
  | none => if 1 ≤ w.length ∧ w.length ≤ 5 ∧ w.all letter then some 0 else none
def zoneP : List UInt8 → Option Int
  | [s, a, b, c, d] => if s = 43 ∨ s = 45 then (dg2 a b).bind fun h => (dg2 c d).bind fun m => if h < 24 ∧ m < 60 then some (if s = 43 then ((60 * h + m : Nat) : Int) else -((60 * h + m : Nat) : Int)) else none
      else zoneW [s, a, b, c, d]
  | w => zoneW w
/-- A time is valid. -/
def Right (u z : Int) : Prop := -62135596800 ≤ u ∧ u ≤ 253402300799 ∧ -1439 ≤ z ∧ z ≤ 1439
instance (u z : Int) : Decidable (Right u z) := by unfold Right; infer_instance
instance (y m d : Nat) : Decidable (Is y m d) := by unfold Is; infer_instance
def zone? : List (List UInt8) → Option Int
  | [] => some 0
  | [w] => zoneP w
  | _ => none
def restP : List (List UInt8) → Option (Int × Int)
  | d :: m :: y :: h :: z => (dayP d).bind fun dd => (nameP monNames m).bind fun mm => (yearP y).bind fun yy => (timeP h).bind fun s => (zone? z).bind fun zz =>
      if Is yy (mm + 1) dd ∧ Right (86400 * num yy (mm + 1) dd + s - 60 * zz) zz then some (86400 * num yy (mm + 1) dd + s - 60 * zz, zz) else none
  | _ => none
/-- What the words mean. -/
def readP : List (List UInt8) → Option (Int × Int)
  | [] => none
  | w :: t => if (nameP dayNames w).isSome then restP t else restP (w :: t)

theorem clockP_lt {h m s k : Nat} (e : clockP h m s = some k) : k < 86400 := by
  unfold clockP at e
  split at e
  · cases e; split <;> omega
  · cases e
theorem timeP_lt {w : List UInt8} {k : Nat} (e : timeP w = some k) : k < 86400 := by
  unfold timeP at e
  split at e
  · split at e
    · obtain ⟨h, _, e⟩ := Option.bind_eq_some_iff.1 e
      obtain ⟨m, _, e⟩ := Option.bind_eq_some_iff.1 e
      exact clockP_lt e
    · cases e
  · split at e
    · obtain ⟨h, _, e⟩ := Option.bind_eq_some_iff.1 e
      obtain ⟨m, _, e⟩ := Option.bind_eq_some_iff.1 e
      obtain ⟨s, _, e⟩ := Option.bind_eq_some_iff.1 e
      exact clockP_lt e
    · cases e
  · cases e
/-- A time read is valid, and its local time falls on a date. -/
theorem rest_right {ws : List (List UInt8)} {u z : Int} (e : restP ws = some (u, z)) : Right u z ∧ ∃ y m d s, Is y m d ∧ s < 86400 ∧ u + 60 * z = 86400 * num y m d + (s : Nat) := by
  unfold restP at e
  split at e
  · obtain ⟨dd, _, e⟩ := Option.bind_eq_some_iff.1 e
    obtain ⟨mm, _, e⟩ := Option.bind_eq_some_iff.1 e
    obtain ⟨yy, _, e⟩ := Option.bind_eq_some_iff.1 e
    obtain ⟨s, hs, e⟩ := Option.bind_eq_some_iff.1 e
    obtain ⟨zz, _, e⟩ := Option.bind_eq_some_iff.1 e
    split at e
    · rename_i h
      cases e
      exact ⟨h.2, yy, mm + 1, dd, s, h.1, timeP_lt hs, by omega⟩
    · cases e
  · cases e
theorem read_right {ws : List (List UInt8)} {u z : Int} (e : readP ws = some (u, z)) : Right u z ∧ ∃ y m d s, Is y m d ∧ s < 86400 ∧ u + 60 * z = 86400 * num y m d + (s : Nat) := by
  unfold readP at e
  split at e
  · cases e
  · split at e
    · exact rest_right e
    · exact rest_right e

/- What is written. -/
def d1 (n : Nat) : UInt8 := UInt8.ofNat (48 + n % 10)
def two (n : Nat) : List UInt8 := [d1 (n / 10), d1 n]
def zoneL (z : Int) : List UInt8 := (if z < 0 then 45 else 43) :: (two (z.natAbs / 60) ++ two (z.natAbs % 60))
def writeL (w d m y s : Nat) (z : Int) : List UInt8 :=
  dayNames.getD w [] ++ 44 :: 32 :: (two d ++ 32 :: (monNames.getD (m - 1) [] ++ 32 :: (two (y / 100) ++ two (y % 100) ++ 32 :: (two (s / 3600) ++ 58 :: (two (s / 60 % 60) ++ 58 :: two (s % 60)) ++ 32 :: zoneL z))))
theorem d1_nat (n : Nat) : (d1 n).toNat = 48 + n % 10 := by
  unfold d1; rw [UInt8.toNat_ofNat']; omega
theorem dg_d1 (n : Nat) : dg (d1 n) = some (n % 10) := by
  unfold dg; rw [d1_nat, if_pos (by omega)]; congr 1; omega
theorem dg2_two (n : Nat) (h : n < 100) : dg2 (d1 (n / 10)) (d1 n) = some n := by
  unfold dg2; rw [dg_d1, dg_d1]; simp only [Option.bind_some]; congr 1; omega
/-- A byte that belongs to a word. -/
def plain (c : UInt8) : Prop := white c = false ∧ c ≠ 40
theorem plain_d1 (n : Nat) : plain (d1 n) := by
  have h := d1_nat n
  have hne : ∀ k : UInt8, (k.toNat < 48 ∨ 57 < k.toNat) → (d1 n == k) = false := fun k hk => by
    apply beq_false_of_ne; intro e; rw [e] at h; omega
  refine ⟨?_, fun e => by rw [e] at h; have : (40 : UInt8).toNat = 40 := rfl; omega⟩
  unfold white
  rw [hne 9 (.inl (by decide)), hne 10 (.inl (by decide)), hne 13 (.inl (by decide)), hne 32 (.inl (by decide)), hne 44 (.inl (by decide))]; rfl
theorem wd_plain {l : List UInt8} : ∀ {cur t : List UInt8}, (∀ c ∈ l, plain c) → wd 0 cur (l ++ t) = wd 0 (cur ++ l) t := by
  induction l with
  | nil => intro cur t _; simp
  | cons c l ih =>
    intro cur t h
    have hc := h c (List.mem_cons_self)
    rw [List.cons_append, wd, hc.1, if_neg (by simp), if_neg hc.2, ih (fun c hc => h c (List.mem_cons_of_mem _ hc))]
    simp
theorem wd_word {l t : List UInt8} {c : UInt8} (h : ∀ c ∈ l, plain c) (hl : l ≠ []) (hc : white c = true) : wd 0 [] (l ++ c :: t) = l :: wd 0 [] t := by
  rw [wd_plain h, wd, hc, if_pos rfl, List.nil_append]
  unfold flush; rw [if_neg hl]
theorem wd_last {l : List UInt8} (h : ∀ c ∈ l, plain c) (hl : l ≠ []) : wd 0 [] l = [l] := by
  have := wd_plain (cur := []) (t := []) h
  rw [List.append_nil] at this
  rw [this, wd, List.nil_append]
  unfold flush; rw [if_neg hl]
theorem wd_blank {t : List UInt8} {c : UInt8} (hc : white c = true) : wd 0 [] (c :: t) = wd 0 [] t := by
  rw [wd, hc, if_pos rfl]; rfl
theorem plain_two (n : Nat) : ∀ c ∈ two n, plain c := by
  intro c hc
  simp only [two, List.mem_cons, List.not_mem_nil, or_false] at hc
  rcases hc with rfl | rfl <;> exact plain_d1 _
instance (c : UInt8) : Decidable (plain c) := by unfold plain; infer_instance
theorem plain_day : ∀ w < 7, ∀ c ∈ dayNames.getD w [], plain c := by decide
theorem plain_mon : ∀ m < 12, ∀ c ∈ monNames.getD m [], plain c := by decide
theorem name_day : ∀ w < 7, (nameP dayNames (dayNames.getD w [])).isSome = true ∧ dayNames.getD w [] ≠ [] := by decide
theorem name_mon : ∀ m < 12, nameP monNames (monNames.getD m []) = some m ∧ monNames.getD m [] ≠ [] := by decide
theorem zone_two (z : Int) (h1 : -1439 ≤ z) (h2 : z ≤ 1439) : zoneP (zoneL z) = some z := by
  unfold zoneL two
  show zoneP [_, _, _, _, _] = _
  unfold zoneP
  simp only []
  rw [dg2_two _ (by omega), dg2_two _ (by omega)]
  simp only [Option.bind_some]
  by_cases hz : z < 0
  · simp only [hz, if_true, if_pos (show z.natAbs / 60 < 24 ∧ z.natAbs % 60 < 60 by omega)]
    rw [if_pos (.inr trivial), if_neg (by decide)]
    congr 1; omega
  · simp only [hz, if_false, if_pos (show z.natAbs / 60 < 24 ∧ z.natAbs % 60 < 60 by omega)]
    rw [if_pos (.inl trivial), if_pos trivial]
    congr 1; omega
theorem plain_zone (z : Int) : ∀ c ∈ zoneL z, plain c := by
  intro c hc
  unfold zoneL at hc
  rcases List.mem_cons.1 hc with h | h
  · rw [h]; split <;> decide
  · rcases List.mem_append.1 h with h | h <;> exact plain_two _ c h
theorem write_words (w d m y s : Nat) (z : Int) (hw : w < 7) (hm1 : 1 ≤ m) (hm : m ≤ 12) :
    wd 0 [] (writeL w d m y s z) = [dayNames.getD w [], two d, monNames.getD (m - 1) [], two (y / 100) ++ two (y % 100), two (s / 3600) ++ 58 :: (two (s / 60 % 60) ++ 58 :: two (s % 60)), zoneL z] := by
  unfold writeL
  rw [wd_word (plain_day w hw) (name_day w hw).2 rfl, wd_blank rfl, wd_word (plain_two d) (by simp [two]) rfl, wd_word (plain_mon (m - 1) (by omega)) (name_mon (m - 1) (by omega)).2 rfl,
    wd_word (l := two (y / 100) ++ two (y % 100)) (fun c hc => (List.mem_append.1 hc).elim (plain_two _ c) (plain_two _ c)) (by simp [two]) rfl,
    wd_word (l := two (s / 3600) ++ 58 :: (two (s / 60 % 60) ++ 58 :: two (s % 60))) (fun c hc => by
      rcases List.mem_append.1 hc with h | h
      · exact plain_two _ c h
      · rcases List.mem_cons.1 h with h | h
        · rw [h]; decide
        · rcases List.mem_append.1 h with h | h
          · exact plain_two _ c h
          · rcases List.mem_cons.1 h with h | h
            · rw [h]; decide
            · exact plain_two _ c h) (by simp [two]) rfl, wd_last (plain_zone z) (by simp [zoneL])]
/-- What is written is read. -/
theorem write_read (w d m y s : Nat) (u z : Int) (hw : w < 7) (hd : Is y m d) (hs : s < 86400) (hr : Right u z) (hu : u + 60 * z = 86400 * num y m d + s) :
    readP (wd 0 [] (writeL w d m y s z)) = some (u, z) := by
  have hd0 := hd
  obtain ⟨y1, y2, m1, m2, d1', d2⟩ := hd
  have h31 := (mlen_pos y m).2
  rw [write_words w d m y s z hw m1 m2]
  unfold readP
  simp only [(name_day w hw).1, if_true]
  unfold restP
  have hD : dayP (two d) = some d := dg2_two d (by omega)
  have hY : yearP (two (y / 100) ++ two (y % 100)) = some y := by
    show yearP [_, _, _, _] = _
    unfold yearP
    simp only []
    rw [dg2_two _ (by omega), dg2_two _ (by omega)]
    simp only [Option.bind_some]
    congr 1; omega
  have hT : timeP (two (s / 3600) ++ 58 :: (two (s / 60 % 60) ++ 58 :: two (s % 60))) = some s := by
    show timeP [_, _, _, _, _, _, _, _] = _
    unfold timeP
    simp only []
    rw [if_pos ⟨trivial, trivial⟩, dg2_two _ (by omega), dg2_two _ (by omega), dg2_two _ (by omega)]
    simp only [Option.bind_some]
    unfold clockP
    rw [if_pos (by omega), if_neg (by omega)]
    congr 1; omega
  have hZ : zone? [zoneL z] = some z := zone_two z hr.2.2.1 hr.2.2.2
  simp only [hD, (name_mon (m - 1) (by omega)).1, hY, hT, hZ, Option.bind_some]
  rw [show m - 1 + 1 = m by omega, show 86400 * num y m d + (s : Int) - 60 * z = u by omega, if_pos ⟨hd0, hr⟩]
end Go.Proofs.YtnmdljadnlddeaaGreatDoor.DateP
