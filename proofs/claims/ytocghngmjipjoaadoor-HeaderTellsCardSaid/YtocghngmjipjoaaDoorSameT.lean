/- The reference's comparisons of lists. -/
import Derived.Test.YtocghngmjipjoaaDoorOwn
import Derived.BigQuiet
import Derived.Lib.Hide
namespace Go.Proofs.YtocghngmjipjoaaDoor
open Go.ChangeShapes Go.WideShapes Go.ChangeAt Go.RowKit

theorem strV_ne {a b : List UInt8} : ((⟨a.toArray⟩ : ByteArray).toList != (⟨b.toArray⟩ : ByteArray).toList) = decide (a ≠ b) := by
  rw [ByteArray.toList_eq, ByteArray.toList_eq]
  show (a != b) = _
  rw [Bool.eq_iff_iff]; simp
theorem grown_drewN {w w1 : World} {row : Option Nat} (h : w.grownBy w1 row) (n : Nat) : w.grownBy (w1.drewN n) row := ⟨h.os, h.tape, h.output, h.size, h.block⟩

set_option maxRecDepth 100000 in
theorem sameT_any {v u : Value} {xs ys : List (List UInt8)} {w : World} (h : Has strV w v xs) (k : Has strV w u ys) (hx : xs.length ≤ 140737488355328) :
    Calls Tryd.prog 19 #[v, u] w fun e w' => e = .returned (.bool (decide (xs = ys))) ∧ w.grownBy w' none := by
  by_cases hl : xs.length = ys.length
  · rcases h with ⟨rfl, rfl⟩ | ⟨a, c, rfl, h2⟩
    · obtain rfl : ys = [] := List.eq_nil_of_length_eq_zero hl.symm
      rcases k with ⟨rfl, _⟩ | ⟨a', c', rfl, k2⟩
      all_goals
        go_enter Tryd.func19, Tryd.ntmps19
        go_wp2_with fail
        go_loop [5] (fun i => i = .int .i64 0) (fun _ => 0)
        case atStart => rfl
        case round =>
          subst hrel
          go_wp2_with fail
          go_ret
          exact ⟨rfl, World.grownBy.refl _ _⟩
    · rcases k with ⟨rfl, rfl⟩ | ⟨a', c', rfl, k2⟩
      · obtain rfl : xs = [] := List.eq_nil_of_length_eq_zero hl
        clear h2
        go_enter Tryd.func19, Tryd.ntmps19
        go_wp2_with fail
        go_loop [5] (fun i => i = .int .i64 0) (fun _ => 0)
        case atStart => rfl
        case round =>
          subst hrel
          go_wp2_with fail
          go_ret
          exact ⟨rfl, World.grownBy.refl _ _⟩
      · obtain ⟨n, hn⟩ : ∃ n, xs.length = n := ⟨_, rfl⟩
        have hyn : ys.length = n := by omega
        rw [hn, hyn]
        rw [hn] at hx
        have H2 := Lib.hid h2
        have K2 := Lib.hid k2
        have HN := Lib.hid hn
        have HY := Lib.hid hyn
        clear h2 k2 hn hyn hl
        go_enter Tryd.func19, Tryd.ntmps19
        go_wp2_with fail
        go_loopw [5] (fun i wr => ∃ j : Nat, j ≤ n ∧ i = .int .i64 j ∧ Hid (w.grownBy wr none) ∧ Hid (∀ i (h : i < j) (h1 : i < xs.length) (h2 : i < ys.length), xs[i] = ys[i])) (fun i _ => n - (intOf i).toNat)
        case atStart => exact ⟨0, Nat.zero_le _, rfl, World.grownBy.refl _ _, by intro i h; omega⟩
        case round =>
          obtain ⟨j, hj, rfl, hgr, heq⟩ := hrel
          by_cases hlt : j < n
          · have hjx : j < xs.length := by have := HN.out; omega
            have hjy : j < ys.length := by have := HY.out; omega
            have c1 := hgr.out.cell (H2.out j hjx) (fun h => by cases h)
            have c2 := hgr.out.cell (K2.out j hjy) (fun h => by cases h)
            obtain ⟨p, hp⟩ : ∃ p : ByteArray, strV xs[j] = Value.string p := ⟨(⟨xs[j].toArray⟩ : ByteArray), rfl⟩
            obtain ⟨q, hq⟩ : ∃ q : ByteArray, strV ys[j] = Value.string q := ⟨(⟨ys[j].toArray⟩ : ByteArray), rfl⟩
            rw [hp] at c1
            rw [hq] at c2
            by_cases he : xs[j] = ys[j]
            · have hpq : p = q := by
                rw [he, hq] at hp
                injection hp with hp
                exact hp.symm
              have HE : Hid (∀ i (h : i < j + 1) (h1 : i < xs.length) (h2 : i < ys.length), xs[i] = ys[i]) := by
                intro i h h1 h2
                rcases (show i < j ∨ i = j by omega) with h' | rfl
                · exact heq.out i h' h1 h2
                · exact he
              clear hp hq he
              subst hpq
              go_wp2_with fail
              go_quiet (fail)
              go_wp2_with fail
              go_roundw
              case rel => exact ⟨j + 1, by omega, by go_num, grown_drewN hgr.out _, HE.out⟩
              case measure => simp [intOf]; omega
            · have hpq : (p.toList == q.toList) = false := by
                rw [beq_eq_false_iff_ne]
                intro e
                apply he
                rw [ByteArray.toList_eq, ByteArray.toList_eq] at e
                injection hp with hp
                injection hq with hq
                rw [← hp, ← hq] at e
                exact e
              have HE : Hid (decide (xs = ys) = false) := by
                show _ = _
                rw [decide_eq_false_iff_not]
                rintro rfl
                exact he rfl
              clear hp hq he
              have hpq' : (p.toList != q.toList) = true := by rw [bne, hpq]; rfl
              go_wp2_with fail
              go_quiet (fail)
              go_wp2_with fail
              go_ret
              rw [HE.out]
              exact ⟨rfl, grown_drewN hgr.out _⟩
          · obtain rfl : j = n := by omega
            have HE : Hid (decide (xs = ys) = true) := by
              show _ = _
              rw [decide_eq_true_iff]
              have h1 := HN.out
              have h2 := HY.out
              exact List.ext_getElem (by omega) fun i hi1 hi2 => heq.out i (by omega) hi1 hi2
            go_wp2_with fail
            go_ret
            rw [HE.out]
            exact ⟨rfl, hgr.out⟩
  · have HE : Hid (decide (xs = ys) = false) := by
      show _ = _
      rw [decide_eq_false_iff_not]
      rintro rfl
      exact hl rfl
    obtain ⟨n, hn⟩ : ∃ n, xs.length = n := ⟨_, rfl⟩
    obtain ⟨m, hm⟩ : ∃ m, ys.length = m := ⟨_, rfl⟩
    have hnm : ((n : Int) == (m : Int)) = false := beq_eq_false_iff_ne.2 (by omega)
    have hnm' : ((n : Int) != (m : Int)) = true := by rw [bne, hnm]; rfl
    have hv : ∃ a c, v = .slice a n c := by
      rcases h with ⟨rfl, rfl⟩ | ⟨a, c, rfl, _⟩
      · exact ⟨none, 0, by rw [← hn]; rfl⟩
      · exact ⟨some a, c, by rw [hn]⟩
    have hu : ∃ a c, u = .slice a m c := by
      rcases k with ⟨rfl, rfl⟩ | ⟨a, c, rfl, _⟩
      · exact ⟨none, 0, by rw [← hm]; rfl⟩
      · exact ⟨some a, c, by rw [hm]⟩
    obtain ⟨a, c, rfl⟩ := hv
    obtain ⟨a', c', rfl⟩ := hu
    clear h k hl hn hm
    go_enter Tryd.func19, Tryd.ntmps19
    go_wp2_with fail
    go_ret
    rw [HE.out]
    exact ⟨rfl, World.grownBy.refl _ _⟩

theorem same_any {v u : Value} {xs ys : List (List UInt8)} {w : World} (h : Has strV w v xs) (k : Has strV w u ys) (hx : xs.length ≤ 1000000) :
    Calls Tryd.prog 19 #[v, u] w fun e w' => e = .returned (.bool (decide (xs = ys))) ∧ Below w.heap.size w w' :=
  (sameT_any h k (by omega)).mono fun _ _ hh => ⟨hh.1, (Below.refl _ _).grown hh.2 (Nat.le_refl _) (fun k e => by cases e)⟩
end Go.Proofs.YtocghngmjipjoaaDoor
