/- same: two lists of tokens are compared; few: the bound on lengths. -/
import Derived.Test.YtmpgclimgbjeoaaDoorBare
import Derived.BigQuiet
namespace Go.Proofs.YtmpgclimgbjeoaaDoor
open Go.ChangeShapes Go.WideShapes Go.ChangeAt Go.RowKit
open TokP

theorem drew_below (w : World) (n : Nat) : Below w.heap.size w (w.drewN n) := ⟨rfl, rfl, rfl, Nat.le_refl _, fun _ _ => rfl⟩
theorem HasF.form {w : World} {v : Value} {l : List Tok} (h : HasF w v l) : ∃ a c, v = .slice a l.length c := by
  rcases h with ⟨rfl, rfl⟩ | ⟨g, o, c, rfl, _⟩
  · exact ⟨none, 0, rfl⟩
  · exact ⟨_, _, rfl⟩
theorem HasF.at {w : World} {a : Option Addr} {n c : Nat} {l : List Tok} (h : HasF w (.slice a n c) l) (hn : 0 < n) : ∃ g o, a = some ⟨g, o, none⟩ ∧ FAt w g o l := by
  rcases h with ⟨e, _⟩ | ⟨g, o, c', e, h⟩
  · injection e with _ e _; omega
  · injection e with e _ _; exact ⟨g, o, e, h⟩
set_option maxRecDepth 100000 in
set_option maxHeartbeats 2000000 in
theorem sameF_any {v u : Value} {xs ys : List Tok} {w : World} (h : HasF w v xs) (k : HasF w u ys) (hx : xs.length ≤ 1000000) :
    Calls Tryd.prog 11 #[v, u] w fun e w' => e = .returned (.bool (decide (xs = ys))) ∧ Below w.heap.size w w' := by
  obtain ⟨a1, c1, rfl⟩ := h.form
  obtain ⟨a2, c2, rfl⟩ := k.form
  obtain ⟨n, hn⟩ : ∃ n, xs.length = n := ⟨_, rfl⟩
  obtain ⟨m, hm⟩ : ∃ m, ys.length = m := ⟨_, rfl⟩
  rw [hn] at h hx
  rw [hm] at k
  rw [hn, hm]
  have HN := Lib.hid hn
  have HM := Lib.hid hm
  have H := Lib.hid h
  have K := Lib.hid k
  clear hn hm h k
  by_cases hl : n = m
  · subst hl
    have hne : ((n : Int) != (n : Int)) = false := by simp
    go_enter Tryd.func11, Tryd.ntmps11
    go_wp2_with fail
    go_loopw [5] (fun i wr => ∃ j : Nat, j ≤ n ∧ i = .int .i64 j ∧ Hid (Below w.heap.size w wr) ∧ Hid (∀ i (_ : i < j) (f g : Tok), xs[i]? = some f → ys[i]? = some g → f = g)) (fun i _ => n - (intOf i).toNat)
    case atStart => exact ⟨0, Nat.zero_le _, rfl, Below.refl _ _, by intro i h; omega⟩
    case round =>
      obtain ⟨j, hj, rfl, hgr, heq⟩ := hrel
      have F1 : IntKind.i64.wrap ((j : Int) + 1) = (j : Int) + 1 := by rw [IntKind.wrap_i64]; omega
      by_cases hlt : j < n
      · have hlt' : (j : Int) < (n : Int) := by omega
        obtain ⟨g1, o1, rfl, f1⟩ := H.out.at (by omega)
        obtain ⟨g2, o2, rfl, f2⟩ := K.out.at (by omega)
        obtain ⟨f, hf⟩ : ∃ f, xs[j]? = some f := ⟨_, List.getElem?_eq_getElem (by rw [HN.out]; exact hlt)⟩
        obtain ⟨g, hg⟩ : ∃ g, ys[j]? = some g := ⟨_, List.getElem?_eq_getElem (by rw [HM.out]; exact hlt)⟩
        obtain ⟨p0, p1⟩ := f1.step hgr.out j f hf
        obtain ⟨q0, q1⟩ := f2.step hgr.out j g hg
        have hEq := run_equal_tok f g
        by_cases he : f = g
        · rw [decide_eq_true he] at hEq
          have HE : Hid (∀ i (_ : i < j + 1) (f g : Tok), xs[i]? = some f → ys[i]? = some g → f = g) := by
            intro i h f' g' h1 h2
            rcases (show i < j ∨ i = j by omega) with h' | rfl
            · exact heq.out i h' f' g' h1 h2
            · rw [hf] at h1; rw [hg] at h2
              cases h1; cases h2; exact he
          generalize ((f.kind : Nat) : Int) = x1 at p0 hEq
          generalize strL f.text = x2 at p1 hEq
          generalize ((g.kind : Nat) : Int) = y1 at q0 hEq
          generalize strL g.text = y2 at q1 hEq
          clear hf hg he f1 f2
          go_wp2_with fail
          go_quiet (fail)
          go_wp2_with fail
          go_roundw
          case rel => exact ⟨j + 1, by omega, by go_num, hgr.out.trans (drew_below _ _ |>.mono hgr.out.size), HE⟩
          case measure => simp [intOf]; omega
        · rw [decide_eq_false he] at hEq
          have HE : Hid (decide (xs = ys) = false) := by
            show _ = _
            rw [decide_eq_false_iff_not]
            rintro rfl
            rw [hf] at hg; cases hg; exact he rfl
          generalize ((f.kind : Nat) : Int) = x1 at p0 hEq
          generalize strL f.text = x2 at p1 hEq
          generalize ((g.kind : Nat) : Int) = y1 at q0 hEq
          generalize strL g.text = y2 at q1 hEq
          clear hf hg he f1 f2
          go_wp2_with fail
          go_quiet (fail)
          go_wp2_with fail
          go_ret
          rw [HE.out]
          exact ⟨rfl, hgr.out.trans (drew_below _ _ |>.mono hgr.out.size)⟩
      · obtain rfl : j = n := by omega
        have hlt' : ¬ (j : Int) < (j : Int) := by omega
        have HE : Hid (decide (xs = ys) = true) := by
          show _ = _
          rw [decide_eq_true_iff]
          have h1 := HN.out
          have h2 := HM.out
          exact List.ext_getElem (by omega) fun i hi1 hi2 => heq.out i (by omega) _ _ (List.getElem?_eq_getElem hi1) (List.getElem?_eq_getElem hi2)
        go_wp2_with fail
        go_ret
        rw [HE.out]
        exact ⟨rfl, hgr.out⟩
  · have HE : Hid (decide (xs = ys) = false) := by
      show _ = _
      rw [decide_eq_false_iff_not]
      rintro rfl
      exact hl (HN.out.symm.trans HM.out)
    have hne : ((n : Int) == (m : Int)) = false := beq_eq_false_iff_ne.2 (by omega)
    have hne' : ((n : Int) != (m : Int)) = true := by rw [bne, hne]; rfl
    clear hl
    go_enter Tryd.func11, Tryd.ntmps11
    go_wp2_with fail
    go_ret
    rw [HE.out]
    exact ⟨rfl, Below.refl _ _⟩
theorem few_any (s : ByteArray) (w : World) : Calls Tryd.prog 8 #[.string s] w fun e w' => e = .returned (.bool (decide (s.size ≤ 400))) ∧ w = w' := by
  by_cases h : s.size ≤ 400
  · have h' : (s.size : Int) ≤ 400 := by omega
    rw [decide_eq_true h]
    clear h
    go_enter Tryd.func8, Tryd.ntmps8
    go_wp2_with fail
    go_ret
    exact ⟨by simp, rfl⟩
  · have h' : ¬ (s.size : Int) ≤ 400 := by omega
    rw [decide_eq_false h]
    clear h
    go_enter Tryd.func8, Tryd.ntmps8
    go_wp2_with fail
    go_ret
    exact ⟨by simp, rfl⟩
end Go.Proofs.YtmpgclimgbjeoaaDoor
