/- FoldStays: units join to the string, Fold keeps each unit's length and is idempotent, Equal is equality of what Fold gives. -/
import Derived.Test.YtbplbifmohbfdaaDoorPieces
import Derived.Deep.RegionHeld3
namespace Go.Proofs.YtbplbifmohbfdaaDoor
open Go.ChangeShapes Go.WideShapes Go.ChangeAt Go.RowKit

theorem St.drew {w0 w : World} {L : List (Option Addr × List (List UInt8))} (h : St w0 w L) : St w0 w.drew L := h.next ⟨rfl, rfl, rfl, Nat.le_refl _, fun _ _ => rfl⟩
theorem St.at_ {w0 w : World} {L : List (Option Addr × List (List UInt8))} {g : Nat} {xs : List (List UInt8)} (h : St w0 w L) (hm : (some ⟨g, 0, none⟩, xs) ∈ L) (i : Nat) (hi : i < xs.length) : w.cell? ⟨g, i, none⟩ = some (.string (strL xs[i])) := by
  obtain ⟨g', o', e, hc⟩ := h.2.2 _ hm i xs[i] (List.getElem?_eq_getElem hi)
  cases e
  rw [Nat.zero_add] at hc
  exact hc
theorem take_flat (us : List (List UInt8)) (k : Nat) (h : k < us.length) : (us.take (k + 1)).flatten = (us.take k).flatten ++ us[k] := by
  rw [List.take_succ_eq_append_getElem h, List.flatten_append]
  simp
theorem take_flat_le (us : List (List UInt8)) (k : Nat) : (us.take k).flatten.length ≤ us.flatten.length := by
  have := flat_part us 0 k
  rw [List.drop_zero] at this
  exact this
set_option maxHeartbeats 8000000 in
set_option maxRecDepth 1000000 in
theorem stays_law (a b : ByteArray) (w : World) (hv : Vars w) :
    Calls Tryd.prog 5 #[.string a, .string b] w fun e w' => e = .returned (.bool true) ∧ Below w.heap.size w w' := by
  have hst : St w w [] := ⟨hv, Below.refl _ _, fun p hp => by cases hp⟩
  by_cases h1 : a.size ≤ 1000
  · by_cases h2 : b.size ≤ 1000
    · have i1 : ¬ (1000 : Int) < a.size := by omega
      have i2 : ¬ (1000 : Int) < b.size := by omega
      obtain ⟨us, hus⟩ : ∃ us, unitsL a.data.toList = us := ⟨_, rfl⟩
      obtain ⟨F, hF⟩ : ∃ F, strL (foldL a.data.toList) = F := ⟨_, rfl⟩
      obtain ⟨G, hG⟩ : ∃ G, strL (foldL b.data.toList) = G := ⟨_, rfl⟩
      have hFl : F.data.toList = foldL a.data.toList := by rw [← hF]; rfl
      have zF : F.size = a.size := by rw [size_list, hFl, fold_len, ← size_list]
      have hvs : unitsL F.data.toList = us.map foldU := by rw [hFl, units_fold, hus]
      obtain ⟨n, hn⟩ : ∃ n, us.length = n := ⟨_, rfl⟩
      have hfu : ∀ u ∈ us, foldL u = foldU u ∧ (foldU u).length = u.length := by rw [← hus]; exact fold_unit _
      have hul : ∀ u ∈ us, 1 ≤ u.length ∧ u.length ≤ 4 := by rw [← hus]; exact units_len _
      have hfl : us.flatten = a.data.toList := by rw [← hus]; exact units_flat _
      obtain ⟨same, hsame⟩ : ∃ same, decide (foldL a.data.toList = foldL b.data.toList) = same := ⟨_, rfl⟩
      have hFG : (F.toList == G.toList) = same := by
        rw [← hF, ← hG, eq_lists, bytes_eqb, ← hsame, Bool.eq_iff_iff, decide_eq_true_eq, decide_eq_true_eq]
        exact strL_inj
      have hlen : same = true → a.size = b.size := by
        intro e
        rw [e] at hsame
        have := congrArg List.length (of_decide_eq_true hsame)
        rw [fold_len, fold_len, ← size_list, ← size_list] at this
        exact this
      have kFa := fun (w1 : World) L (h : St w w1 L) => fold_is a F (by omega) hF h
      have kFb := fun (w1 : World) L (h : St w w1 L) => fold_is b G (by omega) hG h
      have kFF := fun (w1 : World) L (h : St w w1 L) => fold_is F F (by omega) (by rw [hFl, fold_fold]; exact hF) h
      have kU := fun (w1 : World) L (h : St w w1 L) => units_is a (by omega) us n hus hn h
      have kV := fun (w1 : World) L (h : St w w1 L) => units_is F (by omega) (us.map foldU) n hvs (by rw [List.length_map, hn]) h
      have kE := fun (w1 : World) L (h : St w w1 L) => equal_is a b (by omega) (by omega) same hsame h
      have kEF := fun (w1 : World) L (h : St w w1 L) => equal_is a F (by omega) (by omega) true (by rw [hFl, fold_fold]; simp) h
      replace hFG := Lib.hid hFG
      replace hlen := Lib.hid hlen
      have HUL := Lib.hid hul
      have HFU := Lib.hid hfu
      have hn1000 : n ≤ a.size := by rw [← hn, ← hus, size_list]; exact units_le _
      clear hus hF hG hFl hvs hsame hul hfu hv
      go_enter Tryd.func5, Tryd.ntmps5
      go_wp2_with (first
        | (go_at_call 8; refine (small_st hst).mono ?_; rintro e w1 ⟨rfl, hs1⟩)
        | (go_at_call 12; with_reducible refine (kFa _ _ (by assumption)).mono ?_; rintro e w1 ⟨rfl, hs1⟩)
        | (go_at_call 10; with_reducible refine (kU _ _ (by assumption)).mono ?_; rintro e w1 ⟨gu, rfl, hs1⟩)
        | (go_at_call 10; with_reducible refine (kV _ _ (by assumption)).mono ?_; rintro e w1 ⟨gv, rfl, hs1⟩))
      clear kU kV
      obtain ⟨LL, hLL⟩ : ∃ LL, [((some ⟨gv, 0, none⟩ : Option Addr), us.map foldU), (some ⟨gu, 0, none⟩, us)] = LL := ⟨_, rfl⟩
      rw [hLL] at hs1
      have hcu : ∀ w1, St w w1 LL → ∀ k (hk : k < us.length), w1.cell? ⟨gu, k, none⟩ = some (.string (strL us[k])) ∧ w1.cell? ⟨gv, k, none⟩ = some (.string (strL (foldU us[k]))) := by
        intro w1 h k hk
        rw [← hLL] at h
        refine ⟨h.at_ (List.mem_cons_of_mem _ List.mem_cons_self) k hk, ?_⟩
        have := h.at_ List.mem_cons_self k (by rw [List.length_map]; exact hk)
        rw [List.getElem_map] at this
        exact this
      replace hcu := Lib.hid hcu
      clear hLL
      go_loopw [9, 10] (fun al i wr => ∃ (k : Nat) (ab : ByteArray), al = .string ab ∧ i = .int .i64 k ∧ k ≤ n ∧ Hid (ab.data.toList = (us.take k).flatten) ∧ ab.size ≤ 1000 ∧ St w wr LL) (fun _ i _ => n - (intOf i).toNat)
      case atStart => exact ⟨0, ⟨#[]⟩, rfl, rfl, Nat.zero_le _, Lib.hid rfl, Nat.zero_le _, hs1⟩
      case round =>
        clear hs1
        obtain ⟨k, ab, rfl, rfl, hk, HA, zab, hst⟩ := hrel
        by_cases hlt : k < n
        · have hku : k < us.length := by omega
          obtain ⟨u, hu⟩ : ∃ u, us[k] = u := ⟨_, rfl⟩
          have hum : u ∈ us := by rw [← hu]; exact List.getElem_mem hku
          have hu1 := (HUL.out u hum).1
          have hu2 := (HUL.out u hum).2
          have hf1 := (HFU.out u hum).1
          have hf2 := (HFU.out u hum).2
          have zU := strL_size u
          have zV := strL_size (foldU u)
          have kf := fun (w1 : World) (h : Hid (St w w1 LL)) => fold_is (strL u) (strL (foldU u)) (by omega) (by rw [strL_list, hf1]) h.out
          have hkeep : ∀ w1, St w w1 LL → Hid (St w w1 LL) ∧ w1.cell? ⟨gu, k, none⟩ = some (.string (strL u)) ∧ w1.cell? ⟨gv, k, none⟩ = some (.string (strL (foldU u))) := by
            intro w1 h
            have := hcu.out w1 h k hku
            rw [hu] at this
            exact ⟨Lib.hid h, this.1, this.2⟩
          obtain ⟨z, hz⟩ : ∃ z, ab ++ strL u = z := ⟨_, rfl⟩
          have zz : z.size = ab.size + u.length := by rw [← hz, ByteArray.size_append, zU]
          have HZ : Hid (z.data.toList = (us.take (k + 1)).flatten) := Lib.hid (by rw [← hz, list_append, HA.out, take_flat us k hku, hu, strL_list])
          have zz2 : z.size ≤ 1000 := by
            rw [size_list, HZ.out]
            have := take_flat_le us (k + 1)
            rw [hfl, ← size_list] at this
            omega
          rw [hf2] at zV
          generalize strL u = U at zU kf hkeep hz
          generalize strL (foldU u) = V at zV kf hkeep
          have HK := Lib.hid hkeep
          obtain ⟨_, l1, l2⟩ := hkeep _ hst
          obtain ⟨m, hm⟩ : ∃ m, u.length = m := ⟨_, rfl⟩
          rw [hm] at hu1 hu2 zU zV zz
          have hd1 : decide ((m : Int) < 1) = false := decide_eq_false (by omega)
          have hd2 : decide ((4 : Int) < (m : Int)) = false := decide_eq_false (by omega)
          clear hm
          have j0 : (0 : Int) ≤ (k : Int) := by omega
          have j1 : (k : Int) < (n : Int) := by omega
          clear hkeep hum hf1 hf2 hu
          go_wp2_with fail
          go_region_held3 (fun w' => Hid (St w w' LL) ∧ w'.cell? ⟨gu, k, none⟩ = some (.string U) ∧ w'.cell? ⟨gv, k, none⟩ = some (.string V))
            (first | exact HK.out _ hst | exact HK.out _ hst.drew | exact HK.out _ (by assumption) | exact HK.out _ (St.drew (by assumption)))
            (first | (go_at_call 12; refine (kf _ (HK.out _ hst.drew).1).mono ?_; rintro e w5 ⟨rfl, hs5⟩; obtain ⟨_, l5, l6⟩ := HK.out _ hs5))
          go_wp2_with fail
          go_roundw
          case rel => exact ⟨k + 1, z, rfl, rfl, by omega, HZ, zz2, hs5⟩
          case measure => simp only [intOf]; omega
        · obtain rfl : k = n := by omega
          obtain rfl : ab = a := bytes_is (by rw [HA.out, List.take_of_length_le (by omega), hfl])
          have hFG := hFG.out
          clear HA hcu HUL HFU
          cases same
          · go_wp2_with (first
              | (go_at_call 14; with_reducible refine (kE _ _ (by assumption)).mono ?_; rintro e w1 ⟨rfl, hs1⟩)
              | (go_at_call 14; with_reducible refine (kEF _ _ (by assumption)).mono ?_; rintro e w1 ⟨rfl, hs1⟩)
              | (go_at_call 12; with_reducible refine (kFF _ _ (by assumption)).mono ?_; rintro e w1 ⟨rfl, hs1⟩)
              | (go_at_call 12; with_reducible refine (kFa _ _ (by assumption)).mono ?_; rintro e w1 ⟨rfl, hs1⟩)
              | (go_at_call 12; with_reducible refine (kFb _ _ (by assumption)).mono ?_; rintro e w1 ⟨rfl, hs1⟩))
            go_ret
            exact ⟨rfl, (show St w _ LL from by assumption).below⟩
          · have hl := hlen.out rfl
            go_wp2_with (first
              | (go_at_call 14; with_reducible refine (kE _ _ (by assumption)).mono ?_; rintro e w1 ⟨rfl, hs1⟩)
              | (go_at_call 14; with_reducible refine (kEF _ _ (by assumption)).mono ?_; rintro e w1 ⟨rfl, hs1⟩)
              | (go_at_call 12; with_reducible refine (kFF _ _ (by assumption)).mono ?_; rintro e w1 ⟨rfl, hs1⟩)
              | (go_at_call 12; with_reducible refine (kFa _ _ (by assumption)).mono ?_; rintro e w1 ⟨rfl, hs1⟩)
              | (go_at_call 12; with_reducible refine (kFb _ _ (by assumption)).mono ?_; rintro e w1 ⟨rfl, hs1⟩))
            go_ret
            exact ⟨rfl, (show St w _ LL from by assumption).below⟩
    · have i3 : (1000 : Int) < b.size := by omega
      go_enter Tryd.func5, Tryd.ntmps5
      go_wp2_with (go_at_call 8; refine (small_any w hv).mono ?_; rintro e w1 ⟨rfl, hb1⟩)
      go_ret
      exact ⟨rfl, hb1⟩
  · have i3 : (1000 : Int) < a.size := by omega
    go_enter Tryd.func5, Tryd.ntmps5
    go_wp2_with (go_at_call 8; refine (small_any w hv).mono ?_; rintro e w1 ⟨rfl, hb1⟩)
    go_ret
    exact ⟨rfl, hb1⟩
end Go.Proofs.YtbplbifmohbfdaaDoor
