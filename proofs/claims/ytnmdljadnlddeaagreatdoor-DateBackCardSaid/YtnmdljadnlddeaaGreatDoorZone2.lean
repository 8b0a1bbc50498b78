/- readZone answers what the words' meaning says. -/
import Derived.Test.YtnmdljadnlddeaaGreatDoorZone
namespace Go.Proofs.YtnmdljadnlddeaaGreatDoor
open Go.ChangeShapes Go.WideShapes Go.ChangeAt Go.RowKit
open DateP (low letter zoneNames zoneW zoneP dg dg2)

/-- What a zone's word means; no word is a zone, too. -/
def zoneAll (l : List UInt8) : Option Int := if l = [] then some 0 else zoneP l
def zoneC (l : List UInt8) : Option Int :=
  if l.head? = some 43 ∨ l.head? = some 45 then offV l else if l.length ≤ 5 ∧ l.all letter = true then some (60 * zoneHL (Lib.toUpperA l)) else none
theorem letter_iff (c : UInt8) : letter c = true ↔ (65 ≤ c.toNat ∧ c.toNat ≤ 90) ∨ (97 ≤ c.toNat ∧ c.toNat ≤ 122) := by
  rw [letter_nat]
  unfold noLet
  simp
theorem upper_nat (c : UInt8) : (Lib.upperB c).toNat = if 97 ≤ c.toNat ∧ c.toNat ≤ 122 then c.toNat - 32 else c.toNat := by
  unfold Lib.upperB Lib.isLowerB
  have e : ∀ a b : UInt8, (decide (a ≤ b)) = decide (a.toNat ≤ b.toNat) := fun a b => decide_eq_decide.2 UInt8.le_iff_toNat_le
  rw [e, e]
  show (if (decide (97 ≤ c.toNat) && decide (c.toNat ≤ 122)) = true then c - 32 else c).toNat = _
  by_cases h : 97 ≤ c.toNat ∧ c.toNat ≤ 122
  · rw [if_pos h, if_pos (by simp [h]), UInt8.toNat_sub]
    show (256 - 32 + c.toNat) % 256 = _
    omega
  · rw [if_neg h, if_neg (by simpa using h)]
theorem up_low {c : UInt8} (h : letter c = true) : Lib.upperB (low c) = Lib.upperB c := by
  have h2 := (letter_iff c).1 h
  refine UInt8.toNat_inj.1 ?_
  rw [upper_nat, upper_nat, low_nat]
  split <;> split <;> (try split) <;> omega
theorem low_up {c : UInt8} (h : letter c = true) : low (Lib.upperB c) = low c := by
  have h2 := (letter_iff c).1 h
  refine UInt8.toNat_inj.1 ?_
  rw [low_nat, low_nat, upper_nat]
  split <;> split <;> (try split) <;> omega
theorem upper_low {l : List UInt8} (h : l.all letter = true) : Lib.toUpperA (l.map low) = Lib.toUpperA l := by
  unfold Lib.toUpperA
  rw [List.map_map]
  refine List.map_congr_left fun c hc => up_low (List.all_eq_true.1 h c hc)
theorem low_upper {l : List UInt8} (h : l.all letter = true) : (Lib.toUpperA l).map low = l.map low := by
  unfold Lib.toUpperA
  rw [List.map_map]
  refine List.map_congr_left fun c hc => low_up (List.all_eq_true.1 h c hc)
theorem letter_low {c : UInt8} (h : letter (low c) = true) : letter c = true := by
  rw [letter_iff] at h ⊢
  rw [low_nat] at h
  split at h <;> omega
theorem look_mem {v : List UInt8} {z : Int} : ∀ {t : List (List UInt8 × Int)}, t.lookup v = some z → (v, z) ∈ t
  | [], h => by cases h
  | (k, y) :: t, h => by
    rw [List.lookup_cons] at h
    split at h
    · rename_i e
      obtain rfl := beq_iff_eq.1 e
      cases h
      exact List.mem_cons_self
    · exact List.mem_cons_of_mem _ (look_mem h)
theorem look_some : ∀ v z, zoneNames.lookup v = some z → v.all letter = true ∧ v.length ≤ 5 ∧ 60 * zoneHL (Lib.toUpperA v) = z := by
  intro v z h
  have hm : (v, z) ∈ zoneNames := look_mem h
  have hall : ∀ p ∈ zoneNames, p.1.all letter = true ∧ p.1.length ≤ 5 ∧ 60 * zoneHL (Lib.toUpperA p.1) = p.2 := by decide
  exact hall _ hm
theorem look_none {l : List UInt8} (h : l.all letter = true) (hn : zoneNames.lookup (l.map low) = none) : zoneHL (Lib.toUpperA l) = 0 := by
  have key : ∀ u : List UInt8, zoneNames.lookup (u.map low) ≠ none → ¬ Lib.toUpperA l = u := fun u hu e => by
    rw [← low_upper h, e] at hn
    exact hu hn
  unfold zoneHL
  rw [if_neg (key _ (by decide)), if_neg (fun k => k.elim (key _ (by decide)) (key _ (by decide))), if_neg (fun k => k.elim (key _ (by decide)) (key _ (by decide))), if_neg (fun k => k.elim (key _ (by decide)) (key _ (by decide))), if_neg (key _ (by decide))]
theorem zoneW_is (l : List UInt8) (hne : l ≠ []) : zoneW l = if l.length ≤ 5 ∧ l.all letter = true then some (60 * zoneHL (Lib.toUpperA l)) else none := by
  unfold zoneW
  have hlen : 1 ≤ l.length := List.length_pos_iff.2 hne
  cases hk : zoneNames.lookup (l.map low) with
  | some z =>
    obtain ⟨h1, h2, h3⟩ := look_some _ _ hk
    have hall : l.all letter = true := by
      rw [List.all_eq_true]
      intro c hc
      exact letter_low (List.all_eq_true.1 h1 _ (List.mem_map_of_mem hc))
    rw [upper_low hall] at h3
    rw [List.length_map] at h2
    simp only []
    rw [if_pos ⟨h2, hall⟩, h3]
  | none =>
    simp only []
    by_cases hc : l.length ≤ 5 ∧ l.all letter = true
    · rw [if_pos ⟨hlen, hc.1, hc.2⟩, if_pos hc, look_none hc.2 hk]
      rfl
    · rw [if_neg (fun k => hc ⟨k.2.1, k.2.2⟩), if_neg hc]
theorem off_two (a b c d : UInt8) (f : Nat → Int) (F : Int → Int) (hF : ∀ h m : Nat, F (60 * (h : Int) + m) = f (60 * h + m)) :
    ((numberV [a, b] 23).bind fun h => (numberV [c, d] 59).bind fun m => some (F (60 * h + m))) = (dg2 a b).bind fun h => (dg2 c d).bind fun m => if h < 24 ∧ m < 60 then some (f (60 * h + m)) else none := by
  rw [number2, number2]
  cases h1 : dg2 a b with
  | none => rfl
  | some h =>
    cases h2 : dg2 c d with
    | none =>
      unfold upTo
      simp only [Option.bind_some, Option.bind_none]
      split <;> rfl
    | some m =>
      unfold upTo
      simp only [Option.bind_some]
      by_cases k1 : h ≤ 23
      · by_cases k2 : m ≤ 59
        · rw [if_pos k1, if_pos k2, if_pos (by omega)]
          simp only [Option.bind_some]
          rw [hF]
        · rw [if_pos k1, if_neg k2, if_neg (by omega)]; rfl
      · rw [if_neg k1, if_neg (show ¬ (h < 24 ∧ m < 60) by omega)]; rfl
theorem off_five (s a b c d : UInt8) (hs : s = 43 ∨ s = 45) : offV [s, a, b, c, d] = zoneP [s, a, b, c, d] := by
  rcases hs with rfl | rfl
  · have e1 : offV [43, a, b, c, d] = (numberV [a, b] 23).bind fun h => (numberV [c, d] 59).bind fun m => some (60 * h + m) := rfl
    have e2 : zoneP [43, a, b, c, d] = (dg2 a b).bind fun h => (dg2 c d).bind fun m => if h < 24 ∧ m < 60 then some (((60 * h + m : Nat) : Int)) else none := rfl
    rw [e1, e2]
    exact off_two a b c d (fun n => (n : Int)) (fun x => x) (fun h m => by omega)
  · have e1 : offV [45, a, b, c, d] = (numberV [a, b] 23).bind fun h => (numberV [c, d] 59).bind fun m => some (-(60 * h + m)) := rfl
    have e2 : zoneP [45, a, b, c, d] = (dg2 a b).bind fun h => (dg2 c d).bind fun m => if h < 24 ∧ m < 60 then some (-((60 * h + m : Nat) : Int)) else none := rfl
    rw [e1, e2]
    exact off_two a b c d (fun n => -(n : Int)) (fun x => -x) (fun h m => by omega)
theorem zone_is (l : List UInt8) : zoneC l = zoneAll l := by
  unfold zoneC zoneAll
  match l with
  | [] => decide
  | [s] => 
    rw [if_neg (List.cons_ne_nil _ _)]
    exact zone_other [s] (by simp) (by simp)
  | [s, a] => 
    rw [if_neg (List.cons_ne_nil _ _)]
    exact zone_other [s, a] (by simp) (by simp)
  | [s, a, b] => 
    rw [if_neg (List.cons_ne_nil _ _)]
    exact zone_other [s, a, b] (by simp) (by simp)
  | [s, a, b, c] => 
    rw [if_neg (List.cons_ne_nil _ _)]
    exact zone_other [s, a, b, c] (by simp) (by simp)
  | [s, a, b, c, d] =>
    rw [if_neg (List.cons_ne_nil _ _)]
    by_cases hs : s = 43 ∨ s = 45
    · rw [if_pos (by simpa using hs), off_five s a b c d hs]
    · rw [if_neg (by simpa using hs)]
      unfold zoneP
      simp only []
      rw [if_neg hs, zoneW_is _ (List.cons_ne_nil _ _)]
  | s :: a :: b :: c :: d :: e :: r =>
    rw [if_neg (List.cons_ne_nil _ _)]
    exact zone_other _ (by simp) (by simp)
where
  zone_other (l : List UInt8) (hne : l ≠ []) (h5 : l.length ≠ 5) : (if l.head? = some 43 ∨ l.head? = some 45 then offV l else if l.length ≤ 5 ∧ l.all letter = true then some (60 * zoneHL (Lib.toUpperA l)) else none) = zoneP l := by
    have hz : zoneP l = zoneW l := by
      unfold zoneP
      split
      · simp at h5
      · rfl
    rw [hz, zoneW_is l hne]
    by_cases hs : l.head? = some 43 ∨ l.head? = some 45
    · rw [if_pos hs]
      unfold offV
      rw [if_neg h5, if_neg]
      rintro ⟨_, hall⟩
      obtain ⟨c, r, rfl⟩ := List.exists_cons_of_ne_nil hne
      simp only [List.head?_cons, Option.some.injEq] at hs
      have := List.all_eq_true.1 hall c List.mem_cons_self
      rcases hs with rfl | rfl <;> exact absurd this (by decide)
    · rw [if_neg hs]

theorem prefix_one (l : List UInt8) (c : UInt8) : Lib.hasPrefix l [c] = decide (l.head? = some c) := by
  unfold Lib.hasPrefix
  cases l with
  | nil => simp
  | cons a r =>
    simp only [List.isPrefixOf, Bool.and_true, List.head?_cons, Option.some.injEq]
    rw [Bool.eq_iff_iff, beq_iff_eq, decide_eq_true_eq]
    exact ⟨fun h => h.symm, fun h => h.symm⟩
theorem zoneHL_range (u : List UInt8) : -8 ≤ zoneHL u ∧ zoneHL u ≤ 0 := by
  unfold zoneHL
  (repeat' split) <;> omega
set_option maxHeartbeats 1000000 in
theorem zone_any (s : ByteArray) (hs : s.size ≤ 500) (w : World) (hv : Vars w) :
    Calls Tryz.prog 22 #[.string s] w fun e w' => e = .returned (.tuple #[.int .i64 ((zoneAll s.data.toList).getD 0), .bool (zoneAll s.data.toList).isSome]) ∧ Below w.heap.size w w' := by
  rw [← zone_is]
  unfold zoneC
  have hP := fun W => Tryz.strings_HasPrefix s ⟨#[43]⟩ W
  have hM := fun W => Tryz.strings_HasPrefix s ⟨#[45]⟩ W
  rw [show ((⟨#[43]⟩ : ByteArray).data.toList) = [43] from rfl, prefix_one] at hP
  rw [show ((⟨#[45]⟩ : ByteArray).data.toList) = [45] from rfl, prefix_one] at hM
  have HO := Lib.hid (offset_any s hs)
  have HV := Lib.hid hv
  clear hv
  by_cases h1 : s.data.toList.head? = some 43
  · rw [if_pos (.inl h1)]
    rw [decide_eq_true h1] at hP
    have HP := Lib.hid hP
    clear hP hM h1
    go_enter Tryz.func22, Tryz.ntmps22
    go_wp2_with (first
      | (go_at_call 36; with_reducible refine (HP.out _).mono ?_; rintro e w1 ⟨rfl, rfl⟩)
      | (go_at_call 37; refine (HO.out _ HV.out).mono ?_; rintro e w2 ⟨rfl, hb⟩))
    go_ret2
    exact ⟨rfl, hb⟩
  · by_cases h2 : s.data.toList.head? = some 45
    · rw [if_pos (.inr h2)]
      rw [decide_eq_false h1] at hP
      rw [decide_eq_true h2] at hM
      have HP := Lib.hid hP
      have HM := Lib.hid hM
      clear hP hM h1 h2
      go_enter Tryz.func22, Tryz.ntmps22
      go_wp2_with (first
        | (go_at_call 36; with_reducible refine (HP.out _).mono ?_; rintro e w1 ⟨rfl, rfl⟩)
        | (go_at_call 36; with_reducible refine (HM.out _).mono ?_; rintro e w1 ⟨rfl, rfl⟩)
        | (go_at_call 37; refine (HO.out _ HV.out).mono ?_; rintro e w2 ⟨rfl, hb⟩))
      go_ret2
      exact ⟨rfl, hb⟩
    · rw [if_neg (by simp only [h1, h2, or_self, not_false_eq_true])]
      rw [decide_eq_false h1] at hP
      rw [decide_eq_false h2] at hM
      have HP := Lib.hid hP
      have HM := Lib.hid hM
      have HC := Lib.hid (contains_any s)
      clear hP hM h1 h2
      by_cases h5 : s.size ≤ 5
      · have e5 : ¬ (5 : Int) < (s.size : Int) := by omega
        by_cases hall : s.data.toList.all letter = true
        · have hasc : ∀ (j : Nat) (b : UInt8), s.data.toList[j]? = some b → b.toNat < 128 := fun j b hb => by
            have := (letter_iff b).1 (List.all_eq_true.1 hall b (List.mem_of_getElem? hb))
            omega
          have HH := Lib.hid (hours_any s hs hasc)
          rw [if_pos ⟨by rw [← size_list]; exact h5, hall⟩]
          rw [hall] at HC
          have hr := zoneHL_range (Lib.toUpperA s.data.toList)
          obtain ⟨h, hh⟩ : ∃ h, zoneHL (Lib.toUpperA s.data.toList) = h := ⟨_, rfl⟩
          rw [hh] at HH hr ⊢
          clear hh hasc hall
          go_enter Tryz.func22, Tryz.ntmps22
          go_wp2_with (first
            | (go_at_call 36; with_reducible refine (HP.out _).mono ?_; rintro e w1 ⟨rfl, rfl⟩)
            | (go_at_call 36; with_reducible refine (HM.out _).mono ?_; rintro e w1 ⟨rfl, rfl⟩)
            | (go_at_call 38; refine (HC.out _).mono ?_; rintro e w2 ⟨rfl, hb⟩)
            | (go_at_call 40; refine (HH.out _).mono ?_; rintro e w3 ⟨rfl, hb2⟩))
          go_ret2
          exact ⟨rfl, Qtrans hb hb2⟩
        · rw [if_neg (fun k => hall k.2)]
          rw [Bool.eq_false_iff.2 hall] at HC
          clear hall
          go_enter Tryz.func22, Tryz.ntmps22
          go_wp2_with (first
            | (go_at_call 36; with_reducible refine (HP.out _).mono ?_; rintro e w1 ⟨rfl, rfl⟩)
            | (go_at_call 36; with_reducible refine (HM.out _).mono ?_; rintro e w1 ⟨rfl, rfl⟩)
            | (go_at_call 38; refine (HC.out _).mono ?_; rintro e w2 ⟨rfl, hb⟩))
          go_ret2
          exact ⟨rfl, hb⟩
      · have e5 : (5 : Int) < (s.size : Int) := by omega
        rw [if_neg (fun k => h5 (by rw [size_list]; exact k.1))]
        go_enter Tryz.func22, Tryz.ntmps22
        go_wp2_with (first
          | (go_at_call 36; with_reducible refine (HP.out _).mono ?_; rintro e w1 ⟨rfl, rfl⟩)
          | (go_at_call 36; with_reducible refine (HM.out _).mono ?_; rintro e w1 ⟨rfl, rfl⟩))
        go_ret2
        exact ⟨rfl, Below.refl _ _⟩
end Go.Proofs.YtnmdljadnlddeaaGreatDoor
