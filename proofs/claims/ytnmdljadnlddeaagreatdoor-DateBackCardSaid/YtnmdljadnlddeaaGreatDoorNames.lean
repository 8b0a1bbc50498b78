/- Names of months and weekdays: isName, isWeekday, monthNumber. -/
import Derived.Test.YtnmdljadnlddeaaGreatDoorEqHigh
namespace Go.Proofs.YtnmdljadnlddeaaGreatDoor
open Go.ChangeShapes Go.WideShapes Go.ChangeAt Go.RowKit
open DateP (low dayNames monNames nameP)

/-- Is l that name, in any case? -/
def isN (n l : List UInt8) : Bool := n.map low == l.map low
theorem low_nat (c : UInt8) : (low c).toNat = if 65 ≤ c.toNat ∧ c.toNat ≤ 90 then c.toNat + 32 else c.toNat := by
  unfold low
  have e : (65 ≤ c ∧ c ≤ 90) ↔ (65 ≤ c.toNat ∧ c.toNat ≤ 90) := by
    rw [UInt8.le_iff_toNat_le, UInt8.le_iff_toNat_le]; rfl
  by_cases h : 65 ≤ c.toNat ∧ c.toNat ≤ 90
  · rw [if_pos (e.2 h), if_pos h, UInt8.toNat_add]
    show (c.toNat + 32) % 256 = _
    omega
  · rw [if_neg (fun k => h (e.1 k)), if_neg h]
theorem low_eq (x y : UInt8) : low x = low y ↔ Lib.foldEq x y = true := by
  rw [← UInt8.toNat_inj, low_nat, low_nat]
  unfold Lib.foldEq
  rw [decide_eq_true_eq]
  have hx := x.toNat_lt
  have hy := y.toNat_lt
  split <;> split <;> omega
theorem fold_low : ∀ (l n : List UInt8), Lib.equalFold l n = isN n l
  | [], [] => rfl
  | [], _ :: _ => rfl
  | _ :: _, [] => rfl
  | x :: l, y :: n => by
    have ih := fold_low l n
    have e := low_eq y x
    have e2 : Lib.foldEq x y = Lib.foldEq y x := by
      unfold Lib.foldEq
      exact decide_eq_decide.2 (by omega)
    unfold isN at ih ⊢
    rw [List.map_cons, List.map_cons, List.cons_beq_cons, ← ih]
    cases h : Lib.foldEq x y with
    | true =>
      rw [Lib.equalFold_yes _ _ _ _ h, e.2 (by rw [← e2]; exact h)]
      simp
    | false =>
      rw [Lib.equalFold_no _ _ _ _ h]
      have : ¬ low y = low x := fun k => by
        have := e.1 k
        rw [← e2, h] at this; cases this
      simp [this]
theorem isN_len {n l : List UInt8} (h : isN n l = true) : n.length = l.length := by
  have := congrArg List.length (beq_iff_eq.1 h)
  simpa using this
/-- A name: three letters, none of them k, K or s. -/
def NameL (n : List UInt8) : Prop := n.length = 3 ∧ ∀ c ∈ n, NameB c.toNat
instance (c : Nat) : Decidable (NameB c) := by unfold NameB; infer_instance
instance (n : List UInt8) : Decidable (NameL n) := by unfold NameL; infer_instance
theorem day_names : ∀ n ∈ dayNames, NameL n := by decide
theorem mon_names : ∀ n ∈ monNames, NameL n := by decide
theorem isN_high {n l : List UInt8} (hn : NameL n) (h : ∃ c ∈ l, 128 ≤ c.toNat) : isN n l = false := by
  rw [Bool.eq_false_iff]
  intro e
  obtain ⟨c, hc, h128⟩ := h
  have hm := beq_iff_eq.1 e
  have : low c ∈ n.map low := by rw [hm]; exact List.mem_map_of_mem hc
  obtain ⟨d, hd, he⟩ := List.mem_map.1 this
  have h1 := (hn.2 d hd).1
  have h2 := congrArg UInt8.toNat he
  rw [low_nat, low_nat] at h2
  split at h2 <;> split at h2 <;> omega

theorem index_row (T : TypeId) (cs : Array Value) (n k : Nat) (v : Value) (hT : Tryz.prog.underlying T = some (.array n 9)) (hk : k < n) (hv : cs[k]? = some v) (W : World) :
    (Instr.index T (.agg cs) (.int .i64 k)).run Tryz.prog W = .ok v W := by
  have hn : (0 : Int) ≤ (k : Int) ∧ (k : Int) < (n : Int) := by omega
  simp [Instr.index, run_underlying hT, asIntOf, hk, go_sem, hv]

/-- The first byte beyond ASCII. -/
theorem first_high (s : ByteArray) (h : ∃ c ∈ s.data.toList, 128 ≤ c.toNat) : ∃ p, ∃ hp : p < s.size, 128 ≤ s[p].toNat ∧ ∀ j (h : j < s.size), j < p → s[j].toNat < 128 := by
  obtain ⟨c, hc, h128⟩ := h
  obtain ⟨k, hk, rfl⟩ := List.getElem_of_mem hc
  have hks : k < s.size := by rw [size_list]; exact hk
  have : ∃ p, p < s.size ∧ ∃ hp : p < s.size, 128 ≤ s[p].toNat := ⟨k, hks, hks, h128⟩
  clear h128 hc
  let P : Nat → Prop := fun p => ∃ hp : p < s.size, 128 ≤ s[p].toNat
  obtain ⟨p, _, hp⟩ := this
  have key : ∀ n, P n → ∃ p, P p ∧ ∀ j, j < p → ¬ P j := by
    intro n
    induction n using Nat.strongRecOn with
    | _ n ih =>
      intro hn
      by_cases h : ∃ j, j < n ∧ P j
      · obtain ⟨j, hj, hP⟩ := h
        exact ih j hj hP
      · exact ⟨n, hn, fun j hj hP => h ⟨j, hj, hP⟩⟩
  obtain ⟨q, ⟨hq, hq2⟩, hmin⟩ := key p hp
  refine ⟨q, hq, hq2, fun j hj hjq => ?_⟩
  rcases Nat.lt_or_ge s[j].toNat 128 with h | h
  · exact h
  · exact absurd ⟨hj, h⟩ (hmin j hjq)
theorem equal_any (s : ByteArray) (n : List UInt8) (hn : NameL n) (hs : s.size = 3) (w : World) (hv : Vars w) :
    Calls Tryz.prog 54 #[.string s, strV n] w fun e w' => e = .returned (.bool (isN n s.data.toList)) ∧ Below w.heap.size w w' := by
  have hat : ∀ (j : Nat) b, (strL n).data.toList[j]? = some b → b.toNat < 128 := fun j b h => by
    have := (hn.2 b (List.mem_of_getElem? h)).1
    omega
  by_cases h : ∃ c ∈ s.data.toList, 128 ≤ c.toNat
  · rw [isN_high hn h]
    obtain ⟨p, hp, h1, h2⟩ := first_high s h
    have hz : (strL n).size = 3 := by rw [strL_size]; exact hn.1
    exact equal_high s (strL n) hs hz (fun j hj => hn.2 _ (List.getElem_mem (l := n) (by rw [strL_size] at hj; exact hj))) p (by omega) h2 h1 w hv
  · have has : ∀ (j : Nat) b, s.data.toList[j]? = some b → b.toNat < 128 := fun j b hb => by
      rcases Nat.lt_or_ge b.toNat 128 with h' | h'
      · exact h'
      · exact absurd ⟨b, List.mem_of_getElem? hb, h'⟩ h
    refine (Tryz.strings_EqualFold s (strL n) w (by omega) has hat).mono fun e w' ⟨he, hw⟩ => ⟨?_, ?_⟩
    · rw [he, strL_list, fold_low]
    · rw [hw]; exact Below.refl _ _
theorem name_any (s : ByteArray) (n : List UInt8) (hn : NameL n) (w : World) (hv : Vars w) :
    Calls Tryz.prog 32 #[.string s, strV n] w fun e w' => e = .returned (.bool (isN n s.data.toList)) ∧ Below w.heap.size w w' := by
  have hz : (strL n).size = 3 := by rw [strL_size]; exact hn.1
  by_cases hs : s.size = 3
  · have HE := Lib.hid (equal_any s n hn hs w hv)
    have e1 : ((s.size : Int) == ((strL n).size : Int)) = true := beq_iff_eq.2 (by omega)
    unfold strV at HE ⊢
    go_enter Tryz.func32, Tryz.ntmps32
    go_wp2_with (go_at_call 54; refine HE.out.mono ?_; rintro e w1 ⟨rfl, hb⟩)
    go_ret
    exact ⟨rfl, hb⟩
  · have e1 : ((s.size : Int) == ((strL n).size : Int)) = false := beq_eq_false_iff_ne.2 (by omega)
    have hf : isN n s.data.toList = false := by
      rw [Bool.eq_false_iff]
      intro h
      have := isN_len h
      rw [← size_list, hn.1] at this
      omega
    rw [hf]
    unfold strV
    go_enter Tryz.func32, Tryz.ntmps32
    go_wp2_with fail
    go_ret
    exact ⟨rfl, Below.refl _ _⟩

theorem nameP_some {tab : List (List UInt8)} {l : List UInt8} {k : Nat} (hk : k < tab.length) (h1 : isN (tab.getD k []) l = true) (h2 : ∀ j, j < k → isN (tab.getD j []) l = false) : nameP tab l = some k := by
  unfold nameP
  rw [List.findIdx?_eq_some_iff_getElem]
  refine ⟨hk, ?_, fun j hj => ?_⟩
  · rw [List.getD_eq_getElem?_getD, List.getElem?_eq_getElem hk] at h1
    exact h1
  · have := h2 j hj
    rw [List.getD_eq_getElem?_getD, List.getElem?_eq_getElem (by omega)] at this
    simp only [Option.getD_some] at this
    unfold isN at this
    rw [this]
    decide
theorem nameP_none {tab : List (List UInt8)} {l : List UInt8} (h : ∀ j, j < tab.length → isN (tab.getD j []) l = false) : nameP tab l = none := by
  unfold nameP
  rw [List.findIdx?_eq_none_iff]
  intro n hn
  obtain ⟨j, hj, rfl⟩ := List.getElem_of_mem hn
  have := h j hj
  rw [List.getD_eq_getElem?_getD, List.getElem?_eq_getElem hj] at this
  exact this
theorem vs_at (tab : List (List UInt8)) (k : Nat) (h : k < tab.length) : (tab.map strV).toArray[k]? = some (strV (tab.getD k [])) := by
  rw [List.getElem?_toArray, List.getElem?_map, List.getD_eq_getElem?_getD, List.getElem?_eq_getElem h]
  rfl
theorem getD_mem (tab : List (List UInt8)) (k : Nat) (h : k < tab.length) : tab.getD k [] ∈ tab := by
  rw [List.getD_eq_getElem?_getD, List.getElem?_eq_getElem h]
  exact List.getElem_mem h
set_option maxHeartbeats 1000000 in
theorem weekday_any (s : ByteArray) (w : World) (hv : Vars w) :
    Calls Tryz.prog 19 #[.string s] w fun e w' => e = .returned (.bool (nameP dayNames s.data.toList).isSome) ∧ Below w.heap.size w w' := by
  obtain ⟨T, fr, hd⟩ := hv.days
  have HV := Lib.hid hv
  obtain ⟨D, hD⟩ : ∃ D, dayVs = D := ⟨_, rfl⟩
  have hDz : D.size = 7 := by rw [← hD]; rfl
  have hat : ∀ k, k < 7 → D[k]? = some (strV (dayNames.getD k [])) := fun k hk => by rw [← hD]; exact vs_at dayNames k hk
  rw [hD] at hd
  have HA := Lib.hid hat
  have HZ := Lib.hid hDz
  obtain ⟨r, hr⟩ : ∃ r, (nameP dayNames s.data.toList).isSome = r := ⟨_, rfl⟩
  have hyes : Hid (∀ k, k < 7 → isN (dayNames.getD k []) s.data.toList = true → (∀ j, j < k → isN (dayNames.getD j []) s.data.toList = false) → r = true) := fun k hk h1 h2 => by
    rw [← hr, nameP_some (tab := dayNames) hk h1 h2]; rfl
  have hno : Hid ((∀ j, j < 7 → isN (dayNames.getD j []) s.data.toList = false) → r = false) := fun h => by
    rw [← hr, nameP_none (tab := dayNames) h]; rfl
  rw [hr]
  clear hv hat hDz hr hD
  go_enter Tryz.func19, Tryz.ntmps19
  go_wp2_with (refine wpList_load_row rfl 38 _ rfl 0 rfl T _ fr _ hd Tryz.underlying38 rfl (by rw [HZ.out]; kernel_rfl) ?_)
  go_loopw [6] (fun v wr => ∃ k : Nat, k ≤ 7 ∧ v = .int .i64 k ∧ Hid (∀ j, j < k → isN (dayNames.getD j []) s.data.toList = false) ∧ Below w.heap.size w wr) (fun v _ => 7 - (intOf v).toNat)
  case atStart => exact ⟨0, by omega, rfl, fun j hj => absurd hj (Nat.not_lt_zero _), Below.refl _ _⟩
  case round =>
    obtain ⟨k, hk, rfl, hall, hb⟩ := hrel
    by_cases hlt : k < 7
    · have hix := index_row 38 D 7 k _ Tryz.underlying38 hlt (HA.out k hlt)
      have HN := Lib.hid (name_any s (dayNames.getD k []) (day_names _ (getD_mem dayNames k hlt)))
      obtain ⟨n, hn⟩ : ∃ n, dayNames.getD k [] = n := ⟨_, rfl⟩
      have HY := Lib.hid (hyes.out k hlt)
      rw [hn] at hix HN HY
      have HVr := Lib.hid (HV.out.below hb)
      obtain ⟨b, hbq⟩ : ∃ b, isN n s.data.toList = b := ⟨_, rfl⟩
      rw [hbq] at HN HY
      have HX := Lib.hid (show b = false → ∀ j, j < k + 1 → isN (dayNames.getD j []) s.data.toList = false from fun hf j hj => by
        by_cases he : j = k
        · subst he; rw [hn, hbq]; exact hf
        · exact hall.out j (by omega))
      clear hn hbq
      unfold strV at hix HN
      cases b with
      | true =>
        go_wp2_with (go_at_call 32; refine (HN.out _ HVr.out).mono ?_; rintro e w1 ⟨rfl, hb1⟩)
        go_ret
        exact ⟨by rw [HY.out trivial hall.out]; rfl, Qtrans hb hb1⟩
      | false =>
        go_wp2_with (go_at_call 32; refine (HN.out _ HVr.out).mono ?_; rintro e w1 ⟨rfl, hb1⟩)
        go_roundw
        case rel => exact ⟨k + 1, by omega, by go_num, HX.out trivial, Qtrans hb hb1⟩
        case measure => simp [intOf]; omega
    · obtain rfl : k = 7 := by omega
      go_wp2_with fail
      go_ret
      exact ⟨by rw [hno.out hall.out]; rfl, hb⟩
/-- What monthNumber answers. -/
def monthV (l : List UInt8) : Int := match nameP monNames l with | some i => (i : Int) + 1 | none => 0
set_option maxHeartbeats 1000000 in
theorem monthN_any (s : ByteArray) (w : World) (hv : Vars w) :
    Calls Tryz.prog 34 #[.string s] w fun e w' => e = .returned (.int .i64 (monthV s.data.toList)) ∧ Below w.heap.size w w' := by
  obtain ⟨T, fr, hd⟩ := hv.mons
  have HV := Lib.hid hv
  obtain ⟨D, hD⟩ : ∃ D, monVs = D := ⟨_, rfl⟩
  have hDz : D.size = 12 := by rw [← hD]; rfl
  have hat : ∀ k, k < 12 → D[k]? = some (strV (monNames.getD k [])) := fun k hk => by rw [← hD]; exact vs_at monNames k hk
  rw [hD] at hd
  have HA := Lib.hid hat
  have HZ := Lib.hid hDz
  obtain ⟨r, hr⟩ : ∃ r, monthV s.data.toList = r := ⟨_, rfl⟩
  have hyes : Hid (∀ k, k < 12 → isN (monNames.getD k []) s.data.toList = true → (∀ j, j < k → isN (monNames.getD j []) s.data.toList = false) → r = (k : Int) + 1) := fun k hk h1 h2 => by
    rw [← hr]; unfold monthV; rw [nameP_some (tab := monNames) hk h1 h2]
  have hno : Hid ((∀ j, j < 12 → isN (monNames.getD j []) s.data.toList = false) → r = 0) := fun h => by
    rw [← hr]; unfold monthV; rw [nameP_none (tab := monNames) h]
  rw [hr]
  clear hv hat hDz hr hD
  go_enter Tryz.func34, Tryz.ntmps34
  go_wp2_with (refine wpList_load_row rfl 39 _ rfl 1 rfl T _ fr _ hd Tryz.underlying39 rfl (by rw [HZ.out]; kernel_rfl) ?_)
  go_loopw [6] (fun v wr => ∃ k : Nat, k ≤ 12 ∧ v = .int .i64 k ∧ Hid (∀ j, j < k → isN (monNames.getD j []) s.data.toList = false) ∧ Below w.heap.size w wr) (fun v _ => 12 - (intOf v).toNat)
  case atStart => exact ⟨0, by omega, rfl, fun j hj => absurd hj (Nat.not_lt_zero _), Below.refl _ _⟩
  case round =>
    obtain ⟨k, hk, rfl, hall, hb⟩ := hrel
    by_cases hlt : k < 12
    · have hix := index_row 39 D 12 k _ Tryz.underlying39 hlt (HA.out k hlt)
      have HN := Lib.hid (name_any s (monNames.getD k []) (mon_names _ (getD_mem monNames k hlt)))
      obtain ⟨n, hn⟩ : ∃ n, monNames.getD k [] = n := ⟨_, rfl⟩
      have HY := Lib.hid (hyes.out k hlt)
      rw [hn] at hix HN HY
      have HVr := Lib.hid (HV.out.below hb)
      obtain ⟨b, hbq⟩ : ∃ b, isN n s.data.toList = b := ⟨_, rfl⟩
      rw [hbq] at HN HY
      have HX := Lib.hid (show b = false → ∀ j, j < k + 1 → isN (monNames.getD j []) s.data.toList = false from fun hf j hj => by
        by_cases he : j = k
        · subst he; rw [hn, hbq]; exact hf
        · exact hall.out j (by omega))
      clear hn hbq
      unfold strV at hix HN
      cases b with
      | true =>
        go_wp2_with (go_at_call 32; refine (HN.out _ HVr.out).mono ?_; rintro e w1 ⟨rfl, hb1⟩)
        go_ret
        exact ⟨by rw [HY.out trivial hall.out]; rfl, Qtrans hb hb1⟩
      | false =>
        go_wp2_with (go_at_call 32; refine (HN.out _ HVr.out).mono ?_; rintro e w1 ⟨rfl, hb1⟩)
        go_roundw
        case rel => exact ⟨k + 1, by omega, by go_num, HX.out trivial, Qtrans hb hb1⟩
        case measure => simp [intOf]; omega
    · obtain rfl : k = 12 := by omega
      go_wp2_with fail
      go_ret
      exact ⟨by rw [hno.out hall.out]; rfl, hb⟩
end Go.Proofs.YtnmdljadnlddeaaGreatDoor
