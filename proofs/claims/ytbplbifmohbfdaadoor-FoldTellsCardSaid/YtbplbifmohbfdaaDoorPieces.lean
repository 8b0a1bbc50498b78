/- FoldPieces: a string contains a key without wildcards exactly if it matches the key between two stars; the first star is what stands before the first occurrence. -/
import Derived.Test.YtbplbifmohbfdaaDoorSmall
import Derived.Test.YtbplbifmohbfdaaDoorPiecesP
namespace Go.Proofs.YtbplbifmohbfdaaDoor
open Go.ChangeShapes Go.WideShapes Go.ChangeAt Go.RowKit

theorem run_index_str (s : ByteArray) (x : Int) (n : Nat) (hx : x = n) (h : n < s.size) (W : World) :
    (Instr.index 9 (.string s) (.int .i64 x)).run Tryd.prog W = .ok (.int .u8 (s[n].toNat : Int)) W := by
  subst hx
  go_simp
theorem byte_at (s : ByteArray) (i : Nat) (h : i < s.size) : s.data.toList[i]'(by rw [← size_list]; exact h) = s[i] := rfl
theorem small_st {w0 w : World} {L : List (Option Addr × List (List UInt8))} (h : St w0 w L) : Calls Tryd.prog 8 #[] w fun e w' => e = .returned (.bool true) ∧ St w0 w' L :=
  (small_any w h.1).mono fun _e _w' h1 => ⟨h1.1, h.next h1.2⟩
theorem St.below {w0 w : World} {L : List (Option Addr × List (List UInt8))} (h : St w0 w L) : Below w0.heap.size w0 w := h.2.1
theorem St.drop {w0 w : World} {L : List (Option Addr × List (List UInt8))} (h : St w0 w L) : St w0 w [] := ⟨h.1, h.2.1, fun p hp => by cases hp⟩
theorem St.drewN {w0 w : World} {L : List (Option Addr × List (List UInt8))} (h : St w0 w L) (n : Nat) : St w0 (w.drewN n) L := h.next (below_drewN (Below.refl _ _) n)
theorem St.cell {w0 w : World} {L : List (Option Addr × List (List UInt8))} {g o : Nat} {xs : List (List UInt8)} (h : St w0 w ((some ⟨g, o, none⟩, xs) :: L)) (i : Nat) (u : List UInt8) (hu : xs[i]? = some u) : w.cell? ⟨g, o + i, none⟩ = some (.string (strL u)) := by
  obtain ⟨g', o', e, hc⟩ := h.2.2 _ List.mem_cons_self i u hu
  cases e
  exact hc
theorem St.addr {w0 w : World} {L : List (Option Addr × List (List UInt8))} {a : Option Addr} {xs : List (List UInt8)} (h : St w0 w ((a, xs) :: L)) (u : List UInt8) (hu : xs[0]? = some u) : ∃ g o, a = some ⟨g, o, none⟩ := by
  obtain ⟨g', o', e, hc⟩ := h.2.2 _ List.mem_cons_self 0 u hu
  exact ⟨g', o', e⟩
theorem isEmpty_key (s : ByteArray) (b : Bool) (h : decide (s.data.toList = []) = b) : s.toList.isEmpty = b := by
  rw [ByteArray.toList_eq, ← h]
  cases s.data.toList <;> simp
theorem keys_next {key : List UInt8} {k : Nat} (hk : k < key.length) (h : ∀ j (hj : j < key.length), j < k → plainB key[j]) (hb : plainB key[k]) : ∀ j (hj : j < key.length), j < k + 1 → plainB key[j] := by
  intro j hj h1
  rcases (show j < k ∨ j = k by omega) with h2 | rfl
  · exact h j hj h2
  · exact hb
set_option maxHeartbeats 8000000 in
set_option maxRecDepth 1000000 in
theorem pieces_law (s key : ByteArray) (w : World) (hv : Vars w) :
    Calls Tryd.prog 7 #[.string s, .string key] w fun e w' => e = .returned (.bool true) ∧ Below w.heap.size w w' := by
  have hst : St w w [] := ⟨hv, Below.refl _ _, fun p hp => by cases hp⟩
  by_cases h1 : s.size ≤ 300
  · by_cases h2 : key.size ≤ 20
    · have i1 : ¬ (300 : Int) < s.size := by omega
      have i2 : ¬ (20 : Int) < key.size := by omega
      go_enter Tryd.func7, Tryd.ntmps7
      go_wp2_with (go_at_call 8; refine (small_st hst).mono ?_; rintro e w1 ⟨rfl, hs1⟩)
      clear hst hv
      go_loopw [6] (fun i wr => wr = w1 ∧ ∃ k : Nat, i = .int .i64 k ∧ k ≤ key.size ∧ Hid (∀ j (hj : j < key.data.toList.length), j < k → plainB key.data.toList[j])) (fun i _ => key.size - (intOf i).toNat)
      case atStart => exact ⟨rfl, 0, rfl, Nat.zero_le _, Lib.hid (fun j _ h => by omega)⟩
      case round =>
        obtain ⟨rfl, k, rfl, hk, HK⟩ := hrel
        by_cases hlt : k < key.size
        · have hkl : k < key.data.toList.length := by rw [← size_list]; exact hlt
          have hq : ∀ W, (Instr.index 9 (.string key) (.int .i64 k)).run Tryd.prog W = .ok (.int .u8 (key[k].toNat : Int)) W := fun W => run_index_str key k k rfl hlt W
          have HB : Hid (key.data.toList[k]'hkl = key[k]) := Lib.hid (byte_at key k hlt)
          obtain ⟨b, hb⟩ : ∃ b, key[k] = b := ⟨_, rfl⟩
          rw [hb] at hq HB
          clear hb
          obtain ⟨x, hx⟩ : ∃ x, b.toNat = x := ⟨_, rfl⟩
          rw [hx] at hq
          have HX := Lib.hid hx
          clear hx
          by_cases c1 : (128 : Int) ≤ (x : Int)
          · go_wp2_with fail
            go_ret
            exact ⟨rfl, hs1.below⟩
          · by_cases c2 : (x : Int) = 42
            · go_wp2_with fail
              go_ret
              exact ⟨rfl, hs1.below⟩
            · by_cases c3 : (x : Int) = 63
              · go_wp2_with fail
                go_ret
                exact ⟨rfl, hs1.below⟩
              · by_cases c4 : (x : Int) = 92
                · go_wp2_with fail
                  go_ret
                  exact ⟨rfl, hs1.below⟩
                · have d2 : ((x : Int) == 42) = false := beq_eq_false_iff_ne.2 c2
                  have d3 : ((x : Int) == 63) = false := beq_eq_false_iff_ne.2 c3
                  have d4 : ((x : Int) == 92) = false := beq_eq_false_iff_ne.2 c4
                  go_wp2_with fail
                  go_roundw
                  case rel =>
                    refine ⟨trivial, k + 1, rfl, by omega, Lib.hid (keys_next hkl HK.out ?_)⟩
                    rw [HB.out]
                    have hx := HX.out
                    refine ⟨by omega, ?_, ?_, ?_⟩ <;> (rintro rfl; simp at hx; omega)
                  case measure => simp only [intOf]; omega
        · obtain rfl : k = key.size := by omega
          have hpl : ∀ b ∈ key.data.toList, plainB b := by
            intro b hb
            obtain ⟨j, hj, rfl⟩ := List.getElem_of_mem hb
            exact HK.out j hj (by rw [size_list]; exact hj)
          clear HK
          obtain ⟨P1, hP1⟩ : ∃ P1, (⟨#[42]⟩ : ByteArray) ++ key = P1 := ⟨_, rfl⟩
          obtain ⟨P2, hP2⟩ : ∃ P2, P1 ++ (⟨#[42]⟩ : ByteArray) = P2 := ⟨_, rfl⟩
          obtain ⟨A, hA⟩ : ∃ A, s ++ key = A := ⟨_, rfl⟩
          have hP2l : P2.data.toList = [42] ++ key.data.toList ++ [42] := by rw [← hP2, list_append, ← hP1, list_append]
          have hAl : A.data.toList = s.data.toList ++ key.data.toList := by rw [← hA, list_append]
          have zP1 : P1.size = key.size + 1 := by rw [← hP1, ByteArray.size_append]; show 1 + key.size = _; omega
          have zP2 : P2.size = key.size + 2 := by rw [← hP2, ByteArray.size_append, zP1]; rfl
          have zA : A.size = s.size + key.size := by rw [← hA, ByteArray.size_append]
          have hpl := Lib.hid hpl
          have hP2l := Lib.hid hP2l
          have hAl := Lib.hid hAl
          go_wp2_with fail
          go_loopw [7] (fun i wr => ∃ c : Nat, i = .int .i64 c ∧ 1 ≤ c ∧ c ≤ 3 ∧ St w wr []) (fun i _ => 3 - (intOf i).toNat)
          case atStart => exact ⟨1, rfl, by omega, by omega, hs1⟩
          case round =>
            clear hs1
            obtain ⟨c, rfl, hc1, hc2, hst⟩ := hrel
            by_cases hlt2 : c ≤ 2
            · have hc3 : (c : Int) ≠ 3 := by omega
              obtain ⟨hg1, hg2⟩ := glob_key c hc3 s.data.toList key.data.toList hpl.out
              have hah := ahead_key c s.data.toList key.data.toList hpl.out
              have ka := fun (w1 : World) L (h : St w w1 L) => has_is c A key (by omega) (by omega) true (by unfold hasC; rw [if_neg hc3, hAl.out]; exact hah) h
              obtain ⟨b, hb⟩ : ∃ b, Lib.contains (keyL c s.data.toList) (keyL c key.data.toList) = b := ⟨_, rfl⟩
              rw [hb] at hg1
              have kh := fun (w1 : World) L (h : St w w1 L) => has_is c s key (by omega) (by omega) b (by unfold hasC; rw [if_neg hc3]; exact hb) h
              cases b
              · have hgn : globP c P2.data.toList s.data.toList = none := by
                  rw [hP2l.out]
                  exact Option.isSome_eq_false_iff.1 hg1 |> Option.isNone_iff_eq_none.1
                have kg := fun (w1 : World) L (h : St w w1 L) => glob_no c P2 s (by omega) (by omega) hgn h
                clear hgn hg1 hg2 hah hb
                go_wp2_with (first
                  | (go_at_call 19; with_reducible refine (kg _ _ (by assumption)).mono ?_; rintro e w4 ⟨a4, c4, rfl, hst⟩)
                  | (go_at_call 21; with_reducible refine (kh _ _ (by assumption)).mono ?_; rintro e w4 ⟨rfl, hst⟩)
                  | (go_at_call 21; with_reducible refine (ka _ _ (by assumption)).mono ?_; rintro e w4 ⟨rfl, hst⟩))
                go_quiet (fail)
                go_wp2_with fail
                go_roundw
                case rel => exact ⟨c + 1, rfl, by omega, by omega, hst.drewN _⟩
                case measure => simp only [intOf]; omega
              · obtain ⟨r, hr⟩ := Option.isSome_iff_exists.1 hg1
                obtain ⟨X, Y, rfl, hxy, hnk⟩ := hg2 r hr
                rw [← hP2l.out] at hr
                rw [← size_list, ← size_list] at hxy
                have kg := fun (w1 : World) L (h : St w w1 L) => glob_yes c P2 s _ 2 (by omega) (by omega) hr rfl h
                have zX := strL_size X
                have zY := strL_size Y
                have hcx : Lib.contains (keyL c X) (keyL c key.data.toList) = decide (key.data.toList = []) := by
                  by_cases he : key.data.toList = []
                  · rw [decide_eq_true he, he, contains_infix]
                    have : keyL c [] = [] := by
                      unfold keyL
                      split <;> rfl
                    rw [this]
                    exact ⟨[], keyL c X, rfl⟩
                  · rw [decide_eq_false he]
                    exact hnk he
                obtain ⟨m, hm⟩ : ∃ m, decide (key.data.toList = []) = m := ⟨_, rfl⟩
                have hem := isEmpty_key key m hm
                rw [hm] at hcx
                have kx := fun (w1 : World) L (h : St w w1 L) => has_is c (strL X) key (by omega) (by omega) m (by unfold hasC; rw [if_neg hc3]; exact hcx) h
                have hcell0 := fun (w1 : World) g o (h : St w w1 [(some ⟨g, o, none⟩, [X, Y])]) => h.cell 0 X rfl
                have hcell1 := fun (w1 : World) g o (h : St w w1 [(some ⟨g, o, none⟩, [X, Y])]) => h.cell 1 Y rfl
                have haddr := fun (w1 : World) a (h : St w w1 [(a, [X, Y])]) => h.addr X rfl
                generalize strL X = X' at zX kx hcell0
                generalize strL Y = Y' at zY hcell1
                have hne : ¬ (X'.size : Int) + key.size + Y'.size ≠ s.size := by omega
                have hne2 : (((X'.size : Int) + key.size + Y'.size) != s.size) = false := by rw [bne_eq_false_iff_eq]; omega
                clear hg1 hg2 hah hb hr hcx hnk hm
                cases m
                all_goals
                  go_wp2_with (first
                    | (go_at_call 19; with_reducible refine (kg _ _ (by assumption)).mono ?_; rintro e w4 ⟨a4, c4, rfl, hst⟩; obtain ⟨g4, o4, rfl⟩ := haddr _ _ hst)
                    | (go_at_call 21; with_reducible refine (kh _ _ (by assumption)).mono ?_; rintro e w4 ⟨rfl, hst⟩)
                    | (go_at_call 21; with_reducible refine (ka _ _ (by assumption)).mono ?_; rintro e w4 ⟨rfl, hst⟩; have l0 := hcell0 _ _ _ hst; have l1 := hcell1 _ _ _ hst; rw [Nat.add_zero] at l0))
                  go_quiet (fail)
                  go_wp2_with (go_at_call 21; with_reducible refine (kx _ _ (hst.drewN _)).mono ?_; rintro e w5 ⟨rfl, hst2⟩)
                  go_roundw
                  case rel => exact ⟨c + 1, rfl, by omega, by omega, hst2.drop⟩
                  case measure => simp only [intOf]; omega
            · obtain rfl : c = 3 := by omega
              go_wp2_with fail
              go_ret
              exact ⟨rfl, hst.below⟩
    · have i3 : (20 : Int) < key.size := by omega
      go_enter Tryd.func7, Tryd.ntmps7
      go_wp2_with (go_at_call 8; refine (small_any w hv).mono ?_; rintro e w1 ⟨rfl, hb1⟩)
      go_ret
      exact ⟨rfl, hb1⟩
  · have i3 : (300 : Int) < s.size := by omega
    go_enter Tryd.func7, Tryd.ntmps7
    go_wp2_with (go_at_call 8; refine (small_any w hv).mono ?_; rintro e w1 ⟨rfl, hb1⟩)
    go_ret
    exact ⟨rfl, hb1⟩
end Go.Proofs.YtbplbifmohbfdaaDoor
