/- fold.fits, place, appendAny: where a piece of a pattern stands. -/
import Derived.Test.YtbplbifmohbfdaaDoorOrd
import Derived.Maps.AppendAt
import Derived.Maps.Range
import Derived.Deep.AppendLies
namespace Go.Proofs.YtbplbifmohbfdaaDoor
open Go.ChangeShapes Go.WideShapes Go.ChangeAt Go.RowKit

theorem Strs.get {w : World} {a : Option Addr} {xs : List (List UInt8)} (h : Strs w a xs) {k : Nat} (hk : k < xs.length) : ∃ g o, a = some ⟨g, o, none⟩ ∧ w.cell? ⟨g, o + k, none⟩ = some (.string (strL xs[k])) :=
  h k xs[k] (List.getElem?_eq_getElem hk)
theorem Strs.drop {w : World} {g o : Nat} {xs : List (List UInt8)} (h : Strs w (some ⟨g, o, none⟩) xs) (k : Nat) : Strs w (some ⟨g, o + k, none⟩) (xs.drop k) := by
  intro i u hu
  rw [List.getElem?_drop] at hu
  obtain ⟨g', o', e, hc⟩ := h (k + i) u hu
  cases e
  exact ⟨g, o + k, rfl, by rw [Nat.add_assoc]; exact hc⟩
theorem Strs.take {w : World} {a : Option Addr} {xs : List (List UInt8)} (h : Strs w a xs) (k : Nat) : Strs w a (xs.take k) := by
  intro i u hu
  rw [List.getElem?_take] at hu
  split at hu
  · exact h i u hu
  · cases hu
theorem strL_eq (u v : List UInt8) (b : Bool) (h : (u == v) = b) : ((strL u).toList == (strL v).toList) = b := by
  rw [eq_lists, bytes_eqb, ← h, Bool.eq_iff_iff, decide_eq_true_eq, beq_iff_eq]
  exact strL_inj
theorem fit_step {P K : List (List UInt8)} {k : Nat} (h1 : k < P.length) (h2 : k < K.length) : fitB (P.drop k) (K.drop k) = ((P[k] == [] || P[k] == K[k]) && fitB (P.drop (k + 1)) (K.drop (k + 1))) := by
  rw [List.drop_eq_getElem_cons h1, List.drop_eq_getElem_cons h2]
  rfl
theorem fits_any (P K : List (List UInt8)) (hle : P.length ≤ K.length) (hK : K.length ≤ 2000000) (a1 a2 : Option Addr) (n1 n2 c1 c2 : Nat) (hn1 : P.length = n1) (hn2 : K.length = n2) (w : World) (s1 : Strs w a1 P) (s2 : Strs w a2 K) :
    Calls Tryd.prog 48 #[.slice a1 n1 c1, .slice a2 n2 c2] w fun e w' => e = .returned (.bool (fitB P K)) ∧ w = w' := by
  obtain ⟨R, hR⟩ : ∃ R, fitB P K = R := ⟨_, rfl⟩
  rw [hR]
  go_enter Tryd.func48, Tryd.ntmps48
  go_wp2_with fail
  go_loopw [9] (fun v wr => wr = w ∧ ∃ k : Nat, v = .int .i64 k ∧ k ≤ n1 ∧ Hid (fitB (P.drop k) (K.drop k) = R)) (fun v _ => n1 - (intOf v).toNat)
  case atStart => exact ⟨rfl, 0, rfl, Nat.zero_le _, Lib.hid (by rw [List.drop_zero, List.drop_zero]; exact hR)⟩
  case round =>
    obtain ⟨rfl, k, rfl, hk, HK⟩ := hrel
    replace hR := Lib.hid hR
    by_cases hlt : k < n1
    · have hk1 : k < P.length := by omega
      have hk2 : k < K.length := by omega
      have hkn2 : k < n2 := by omega
      obtain ⟨g1, o1, rfl, l1⟩ := s1.get hk1
      obtain ⟨g2, o2, rfl, l2⟩ := s2.get hk2
      have hst := HK.out
      rw [fit_step hk1 hk2] at hst
      obtain ⟨u, hu⟩ : ∃ u, P[k] = u := ⟨_, rfl⟩
      obtain ⟨v, hv⟩ : ∃ v, K[k] = v := ⟨_, rfl⟩
      rw [hu] at l1
      rw [hv] at l2
      rw [hu, hv] at hst
      clear hu hv
      by_cases e1 : u = []
      · have j1 := strL_empty u true (by rw [e1]; rfl)
        rw [e1] at hst
        replace hst := Lib.hid hst
        clear e1
        go_wp2_with fail
        go_roundw
        case rel => exact ⟨trivial, k + 1, rfl, by omega, Lib.hid (by have := hst.out; simpa using this)⟩
        case measure => simp only [intOf, Int.toNat_natCast]; omega
      · have j1 := strL_empty u false (by rw [decide_eq_false e1])
        by_cases e2 : u = v
        · have j2 := strL_eq u v true (by rw [e2]; exact beq_self_eq_true v)
          rw [e2] at hst
          replace hst := Lib.hid hst
          clear e1 e2
          go_wp2_with fail
          go_roundw
          case rel => exact ⟨trivial, k + 1, rfl, by omega, Lib.hid (by have := hst.out; simpa using this)⟩
          case measure => simp only [intOf, Int.toNat_natCast]; omega
        · have j2 := strL_eq u v false (by rw [beq_eq_false_iff_ne]; exact e2)
          have hf : R = false := by rw [← hst]; simp [e1, e2]
          subst hf
          clear hst e1 e2
          go_wp2_with fail
          go_ret
          exact ⟨rfl, rfl⟩
    · obtain rfl : k = n1 := by omega
      have hf : R = true := by
        have := HK.out
        rw [List.drop_eq_nil_of_le (by omega)] at this
        rw [← this]; rfl
      subst hf
      go_wp2_with fail
      go_ret
      exact ⟨rfl, rfl⟩
set_option maxHeartbeats 1000000 in
set_option maxRecDepth 1000000 in
theorem place_any (P K : List (List UInt8)) (hK : K.length ≤ 2000000) (a1 : Option Addr) (g o n1 n2 c1 c2 : Nat) (hn1 : P.length = n1) (hn2 : K.length = n2) (hc2 : n2 ≤ c2) (hcm : c2 ≤ 9000000) (lo : Nat) (hi : Int) (hhi : hi + P.length ≤ K.length) (_hlo : -9000000 ≤ hi) (_hll : lo ≤ 2000000) (w : World) (s1 : Strs w a1 P) (s2 : Strs w (some ⟨g, o, none⟩) K) :
    Calls Tryd.prog 37 #[.slice a1 n1 c1, .slice (some ⟨g, o, none⟩) n2 c2, .int .i64 lo, .int .i64 hi] w fun e w' => e = .returned (.tuple #[.int .i64 ((placeN P K lo (hi + 1 - lo).toNat).getD 0 : Nat), .bool (placeN P K lo (hi + 1 - lo).toNat).isSome]) ∧ w = w' := by
  obtain ⟨R, hR⟩ : ∃ R, placeN P K lo (hi + 1 - lo).toNat = R := ⟨_, rfl⟩
  rw [hR]
  go_enter Tryd.func37, Tryd.ntmps37
  go_wp2_with fail
  go_loopw [10] (fun v wr => wr = w ∧ ∃ k : Nat, v = .int .i64 k ∧ lo ≤ k ∧ ((k : Int) ≤ hi + 1 ∨ k = lo) ∧ Hid (placeN P K k (hi + 1 - k).toNat = R)) (fun v _ => (hi + 1 - intOf v).toNat)
  case atStart => exact ⟨rfl, lo, rfl, Nat.le_refl _, .inr rfl, Lib.hid hR⟩
  case round =>
    obtain ⟨rfl, k, rfl, hk, hk2, HK⟩ := hrel
    replace hR := Lib.hid hR
    by_cases hlt : (k : Int) ≤ hi
    · have hkK : k ≤ K.length := by omega
      have hkn : k ≤ n2 := by omega
      have hst := HK.out
      rw [show (hi + 1 - (k : Int)).toNat = (hi + 1 - ((k + 1 : Nat) : Int)).toNat + 1 by omega] at hst
      simp only [placeN] at hst
      have cF := fun a3 c3 s3 => fits_any P (K.drop k) (by rw [List.length_drop]; omega) (by rw [List.length_drop]; omega) a1 a3 n1 (n2 - k) c1 c3 hn1 (by rw [List.length_drop]; omega) wr s1 s3
      have s3 := s2.drop k
      have s4 : c2 - k = 0 → Strs wr (some ⟨g, o, none⟩) (K.drop k) := fun h => by
        rw [List.drop_eq_nil_of_le (by omega)]
        exact strs_nil _ _
      by_cases hf : fitB P (K.drop k) = true
      · rw [if_pos hf] at hst
        rw [hf] at cF
        subst hst
        by_cases hz : c2 - k = 0
        · have cF0 := cF _ 0 (s4 hz)
          clear s3 s4 cF
          go_wp2_with (go_at_call 48; with_reducible refine cF0.mono ?_; rintro e w1 ⟨rfl, rfl⟩)
          go_ret2
          exact ⟨rfl, rfl⟩
        · have cF0 := cF _ (c2 - k) s3
          clear s3 s4 cF
          go_wp2_with (go_at_call 48; with_reducible refine cF0.mono ?_; rintro e w1 ⟨rfl, rfl⟩)
          go_ret2
          exact ⟨rfl, rfl⟩
      · rw [if_neg hf] at hst
        rw [Bool.not_eq_true] at hf
        rw [hf] at cF
        replace hst := Lib.hid hst
        by_cases hz : c2 - k = 0
        · have cF0 := cF _ 0 (s4 hz)
          clear s3 s4 cF
          go_wp2_with (go_at_call 48; with_reducible refine cF0.mono ?_; rintro e w1 ⟨rfl, rfl⟩)
          go_roundw
          case rel => exact ⟨trivial, k + 1, rfl, by omega, .inl (by omega), hst⟩
          case measure => simp only [intOf]; omega
        · have cF0 := cF _ (c2 - k) s3
          clear s3 s4 cF
          go_wp2_with (go_at_call 48; with_reducible refine cF0.mono ?_; rintro e w1 ⟨rfl, rfl⟩)
          go_roundw
          case rel => exact ⟨trivial, k + 1, rfl, by omega, .inl (by omega), hst⟩
          case measure => simp only [intOf]; omega
    · have hst := HK.out
      rw [show (hi + 1 - (k : Int)).toNat = 0 by omega] at hst
      simp only [placeN] at hst
      subst hst
      go_wp2_with fail
      go_ret2
      exact ⟨rfl, rfl⟩
theorem Strs.grown {w w' : World} {a : Option Addr} {xs : List (List UInt8)} {row : Option Nat} (h : Strs w a xs) (hg : w.grownBy w' row) (hap : ∀ g o, a = some ⟨g, o, none⟩ → row ≠ some g) : Strs w' a xs := by
  intro i u hu
  obtain ⟨g, o, e, hc⟩ := h i u hu
  refine ⟨g, o, e, ?_⟩
  rw [hg.cell_far ⟨g, o + i, none⟩ (cell_lt hc) (fun h => hap g o e h.symm)]
  exact hc
theorem anys_step {P V : List (List UInt8)} {k : Nat} (h1 : k < P.length) (h2 : k < V.length) : anysU (P.drop k) (V.drop k) = (if P[k] = [] then [V[k]] else []) ++ anysU (P.drop (k + 1)) (V.drop (k + 1)) := by
  rw [List.drop_eq_getElem_cons h1, List.drop_eq_getElem_cons h2]
  simp only [anysU]
  split <;> rfl
theorem anys_le (P V : List (List UInt8)) : (anysU P V).length ≤ P.length := by
  induction P generalizing V with
  | nil => simp [anysU]
  | cons u P ih =>
    cases V with
    | nil => simp [anysU]
    | cons v V =>
      have := ih V
      simp only [anysU]
      split <;> simp <;> omega
set_option maxHeartbeats 1000000 in
set_option maxRecDepth 1000000 in
theorem anys_any (base : Nat) (acc P V : List (List UInt8)) (hPV : P.length ≤ V.length) (hP : P.length ≤ 1000000) (hacc : acc.length ≤ 1000000) (v0 : Value) (n0 : Nat) (hn0 : acc.length = n0) (a1 a2 : Option Addr) (n1 n2 c1 c2 : Nat) (hn1 : P.length = n1) (hn2 : V.length = n2) (w : World) (hbase : base ≤ w.heap.size)
    (s1 : Strs w a1 P) (s2 : Strs w a2 V) (hown : w.ownsRow base 9 1 v0 n0 (strsOf acc)) (hap1 : ∀ g o, a1 = some ⟨g, o, none⟩ → v0.ownBlock ≠ some g) (hap2 : ∀ g o, a2 = some ⟨g, o, none⟩ → v0.ownBlock ≠ some g) (n : Nat) (hn : n0 + (anysU P V).length = n) :
    Calls Tryd.prog 39 #[v0, .slice a1 n1 c1, .slice a2 n2 c2] w fun e w' => ∃ v', e = .returned v' ∧ w'.ownsRow base 9 1 v' n (strsOf (acc ++ anysU P V)) ∧ w.grownBy w' v0.ownBlock := by
  obtain ⟨i0, hi, hz0, hz1, hz2⟩ := info_parts info9
  obtain ⟨R, hR⟩ : ∃ R, acc ++ anysU P V = R := ⟨_, rfl⟩
  have hRn : R.length = n := by rw [← hR, List.length_append, hn0, hn]
  have hRle : R.length ≤ 2000000 := by have := anys_le P V; rw [← hR, List.length_append]; omega
  rw [hR]
  have HR := Lib.hid hR
  clear hR hn
  go_enter Tryd.func39, Tryd.ntmps39
  go_wp2_with fail
  go_loopw [0, 11] (fun v i wr => ∃ (k m : Nat) (d : List (List UInt8)), i = .int .i64 k ∧ k ≤ n1 ∧ wr.ownsRow base 9 1 v m (strsOf d) ∧ d.length = m ∧ w.grownBy wr v0.ownBlock ∧ (v.ownBlock = v0.ownBlock ∨ ∃ j, v.ownBlock = some j ∧ w.heap.size ≤ j) ∧ Hid (d ++ anysU (P.drop k) (V.drop k) = R)) (fun _ i _ => n1 - (intOf i).toNat)
  case atStart => exact ⟨0, n0, acc, rfl, Nat.zero_le _, hown, hn0, World.grownBy.refl _ _, .inl rfl, Lib.hid (by rw [List.drop_zero, List.drop_zero]; exact HR.out)⟩
  case round =>
    obtain ⟨k, m, d, rfl, hk, hown, hdm, hgr, hblk, HK⟩ := hrel
    have t1 := s1.grown hgr (fun g o e h => hap1 g o e h)
    have t2 := s2.grown hgr (fun g o e h => hap2 g o e h)
    have hszr := hgr.size
    have hst := HK.out
    by_cases hlt : k < n1
    · have hk1 : k < P.length := by omega
      have hk2 : k < V.length := by omega
      have hkn2 : k < n2 := by omega
      rw [anys_step hk1 hk2] at hst
      obtain ⟨g1, o1, rfl, l1⟩ := t1.get hk1
      obtain ⟨g2, o2, rfl, l2⟩ := t2.get hk2
      obtain ⟨u, hu⟩ : ∃ u, P[k] = u := ⟨_, rfl⟩
      obtain ⟨x, hx⟩ : ∃ x, V[k] = x := ⟨_, rfl⟩
      rw [hu] at l1
      rw [hx] at l2
      rw [hu, hx] at hst
      clear hu hx t1 t2
      by_cases e1 : u = []
      · have j1 := strL_empty u true (by rw [e1]; rfl)
        rw [if_pos e1, ← List.append_assoc] at hst
        have hdle : d.length ≤ 2000000 := by
          have := congrArg List.length hst
          rw [List.length_append, List.length_append] at this
          omega
        replace hst := Lib.hid hst
        clear e1
        go_wp2_with (at_builtin; refine wpList_append_own_at _ rfl (.tmp 18) (.tmp 23) 24 rfl base 9 i0 (.string ⟨#[]⟩) 1 16 Tryd.underlying24 hi hz0 hz1 hz2 rfl (by decide) u0 m (strsOf d) rfl (hown.alloc _) ⟨_, 0, none⟩ 1 1 (strsOf [x]) rfl rfl (strs_new _ [x]) (strs_one _) (by unfold maxLen; omega) (by omega) (by simp; omega) ?_; intro v2 w2 hown2 hgrow2 hnil2 hblk2)
        go_roundw
        case rel =>
          refine ⟨k + 1, m + 1, d ++ [x], rfl, by omega, ?_, by rw [List.length_append, hdm]; rfl, (hgr.andThen (World.grownBy_alloc _ _ none) (fun j hj => by cases hj)).andThen hgrow2 ?_, ?_, hst⟩
          · unfold strsOf at hown2 ⊢
            rw [List.map_append]
            exact hown2
          · intro j hj
            rcases hblk with h | ⟨i, h, hi⟩
            · exact .inr (by rw [← h]; exact hj)
            · rw [h] at hj
              injection hj with hj
              exact .inl (by omega)
          · rcases hblk2 with h | h
            · rw [h]; exact hblk
            · exact .inr ⟨_, h, by simp; omega⟩
        case measure => simp only [intOf, Int.toNat_natCast]; omega
      · have j1 := strL_empty u false (by rw [decide_eq_false e1])
        rw [if_neg e1, List.nil_append] at hst
        replace hst := Lib.hid hst
        clear e1
        go_wp2_with fail
        go_roundw
        case rel => exact ⟨k + 1, m, d, rfl, by omega, hown, hdm, hgr, hblk, hst⟩
        case measure => simp only [intOf, Int.toNat_natCast]; omega
    · obtain rfl : k = n1 := by omega
      rw [List.drop_eq_nil_of_le (by omega)] at hst
      simp only [anysU, List.append_nil] at hst
      subst hst
      go_wp2_with fail
      go_ret
      refine ⟨u0, rfl, ?_, hgr⟩
      rw [← hRn, hdm]
      exact hown
end Go.Proofs.YtbplbifmohbfdaaDoor
