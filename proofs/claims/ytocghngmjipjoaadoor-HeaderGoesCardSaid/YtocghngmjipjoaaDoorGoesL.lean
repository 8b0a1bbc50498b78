/- HeaderGoes: a line that begins with a blank becomes part of the field before it, and what follows is read as if it stood alone. -/
import Derived.Test.YtocghngmjipjoaaDoorPutLaw
namespace Go.Proofs.YtocghngmjipjoaaDoor
open Go.ChangeShapes Go.WideShapes Go.ChangeAt Go.RowKit
open LinesP HdrP

theorem OwnF.cap {w : World} {a : Option Addr} {n c : Nat} {xs : List Fld} (h : OwnF w (.slice a n c) xs) : n ≤ c := by
  obtain ⟨b, ho⟩ := h
  rcases ho.2 with ⟨e, _⟩ | ⟨g, cap, cur, e, _, _, hc, _⟩
  · injection e with _ e2 e3; omega
  · injection e with _ e2 e3; omega
/-- What lies behind the first field. -/
theorem tail_has {w : World} {g n : Nat} {f : Fld} {r : List Fld} (h : FAt w g 0 (f :: r)) (hn : r.length = n) (c : Nat) : HasF w (.slice (some ⟨g, 4, none⟩) n c) r := by
  subst hn
  exact .inr ⟨g, 4, c, rfl, h.drop⟩
theorem none_has' {w : World} {g c n : Nat} {r : List Fld} (hn : r.length = n) (h0 : n = 0) : HasF w (.slice (some ⟨g, 0, none⟩) n c) r := by
  subst h0
  obtain rfl : r = [] := List.eq_nil_of_length_eq_zero hn
  exact .inr ⟨g, 0, c, rfl, by intro i f hf; simp at hf⟩
set_option maxRecDepth 1000000 in
set_option maxHeartbeats 1000000 in
theorem goes_long (nm val more bh : ByteArray) (h : ¬ (nm.size ≤ 100 ∧ val.size ≤ 1000 ∧ more.size ≤ 1000 ∧ bh.size ≤ 1000 ∧ rightL nm.data.toList = true)) (w : World) (hv : Vars w) : Calls Tryd.prog 7 #[.string nm, .string val, .string more, .string bh] w fun e w' => e = .returned (.bool true) ∧ Below w.heap.size w w' := by
  have hS := small_any w hv
  by_cases h1 : nm.size ≤ 100
  · have g1 : ¬ (100 : Int) < (nm.size : Int) := by omega
    by_cases h2 : val.size ≤ 1000
    · have g2 : ¬ (1000 : Int) < (val.size : Int) := by omega
      by_cases h3 : more.size ≤ 1000
      · have g3 : ¬ (1000 : Int) < (more.size : Int) := by omega
        by_cases h4 : bh.size ≤ 1000
        · have g4 : ¬ (1000 : Int) < (bh.size : Int) := by omega
          have h5 : rightL nm.data.toList = false := by
            rw [Bool.eq_false_iff]; exact fun e => h ⟨h1, h2, h3, h4, e⟩
          have f3 := fun w => right_any nm w
          rw [h5] at f3
          clear h h1 h2 h3 h4 h5
          go_enter Tryd.func7, Tryd.ntmps7
          go_wp2_with (first
            | (go_at_call 8; (refine hS.mono ?_); rintro e w' ⟨rfl, hb⟩; clear hS)
            | (go_at_call 24; (with_reducible refine (f3 _).mono ?_); rintro e w3 ⟨rfl, hb3⟩; clear f3))
          go_ret
          exact ⟨rfl, hb.trans (hb3.mono hb.size)⟩
        · have g4 : (1000 : Int) < (bh.size : Int) := by omega
          clear h h1 h2 h3 h4
          go_enter Tryd.func7, Tryd.ntmps7
          go_wp2_with (go_at_call 8; (refine hS.mono ?_); rintro e w' ⟨rfl, hb⟩; clear hS)
          go_ret
          exact ⟨rfl, hb⟩
      · have g3 : (1000 : Int) < (more.size : Int) := by omega
        clear h h1 h2 h3
        go_enter Tryd.func7, Tryd.ntmps7
        go_wp2_with (go_at_call 8; (refine hS.mono ?_); rintro e w' ⟨rfl, hb⟩; clear hS)
        go_ret
        exact ⟨rfl, hb⟩
    · have g2 : (1000 : Int) < (val.size : Int) := by omega
      clear h h1 h2
      go_enter Tryd.func7, Tryd.ntmps7
      go_wp2_with (go_at_call 8; (refine hS.mono ?_); rintro e w' ⟨rfl, hb⟩; clear hS)
      go_ret
      exact ⟨rfl, hb⟩
  · have g1 : (100 : Int) < (nm.size : Int) := by omega
    clear h h1
    go_enter Tryd.func7, Tryd.ntmps7
    go_wp2_with (go_at_call 8; (refine hS.mono ?_); rintro e w' ⟨rfl, hb⟩; clear hS)
    go_ret
    exact ⟨rfl, hb⟩
end Go.Proofs.YtocghngmjipjoaaDoor
