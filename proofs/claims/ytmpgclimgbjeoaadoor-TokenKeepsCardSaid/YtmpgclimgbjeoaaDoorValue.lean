/- Value: what a token says. -/
import Derived.Test.YtmpgclimgbjeoaaDoorUnesc
namespace Go.Proofs.YtmpgclimgbjeoaaDoor
open Go.ChangeShapes Go.WideShapes Go.ChangeAt Go.RowKit
open TokP

/-- The value of a token of any kind. -/
def valueI (K : Int) (l : List UInt8) : List UInt8 := if (K = 2 ∨ K = 3) ∧ 2 ≤ l.length then unescS false (l.drop 1).dropLast else l
theorem value_tok (t : Tok) : valueI (t.kind : Nat) t.text = valueL t := by
  unfold valueI valueL
  have : (((t.kind : Nat) : Int) = 2 ∨ ((t.kind : Nat) : Int) = 3) ↔ (t.kind = 2 ∨ t.kind = 3) := by omega
  simp only [this]
theorem inner_is (T : ByteArray) (h : 2 ≤ T.size) : T.extract 1 (T.size - 1) = strL (T.data.toList.drop 1).dropLast := by
  rw [part_of T 1 (T.size - 1) (by omega) (by omega), List.dropLast_eq_take, List.length_drop, ← size_list]
theorem value_yes (K : Int) (l : List UInt8) (h : K = 2 ∨ K = 3) (h2 : 2 ≤ l.length) : valueI K l = unescS false (l.drop 1).dropLast := by
  unfold valueI; rw [if_pos ⟨h, h2⟩]
theorem value_no (K : Int) (l : List UInt8) (h : ¬ ((K = 2 ∨ K = 3) ∧ 2 ≤ l.length)) : valueI K l = l := by
  unfold valueI; rw [if_neg h]
theorem below_new (w w' : World) (o : Obj) (h : Below (w.alloc o).heap.size (w.alloc o) w') : Below w.heap.size w w' := ((Below.refl _ w).alloc (Nat.le_refl _) o).trans (h.mono (by rw [World.size_alloc]; omega))
set_option maxRecDepth 100000 in
set_option maxHeartbeats 2000000 in
theorem value_any (K : Int) (T : ByteArray) (hT : T.size ≤ 1000000) (w : World) :
    Calls Tryd.prog 18 #[.agg #[.int .i64 K, .string T]] w fun e w' => e = .returned (.string (strL (valueI K T.data.toList))) ∧ Below w.heap.size w w' := by
  have cC := fun W => clone_any T W hT
  have hsz := size_list T
  have HB := Lib.hid (below_new w)
  by_cases h2 : 2 ≤ T.size
  · have h2' : ¬ (T.size : Int) < 2 := by omega
    have F1 : IntKind.i64.wrap ((T.size : Int) - 1) = (T.size : Int) - 1 := by rw [IntKind.wrap_i64]; omega
    have R1 : ∀ W : World, (Instr.slice 9 (.string T) (some (.int .i64 1)) (some (.int .i64 ((T.size : Int) - 1))) none).run Tryd.prog W = .ok (.string (T.extract 1 (T.size - 1))) W := run_slice_str T 1 (T.size - 1) ((T.size : Int) - 1) (by omega) (by omega) (by omega)
    rw [inner_is T h2] at R1
    have cU := fun W => unesc_any (strL (T.data.toList.drop 1).dropLast) (by rw [strL_size, List.length_dropLast, List.length_drop, ← hsz]; omega) W
    rw [strL_list] at cU
    by_cases hk2 : K = 2
    · rw [value_yes K _ (.inl hk2) (by rw [← hsz]; exact h2)]
      generalize unescS false (T.data.toList.drop 1).dropLast = V at cU ⊢
      generalize strL (T.data.toList.drop 1).dropLast = U at R1 cU
      subst hk2
      clear hsz cC h2
      go_enter Tryd.func18, Tryd.ntmps18
      go_wp2_with (go_at_call 28; (with_reducible refine (cU _).mono ?_); rintro e w2 ⟨rfl, hb2⟩)
      go_ret
      exact ⟨rfl, HB.out _ _ hb2⟩
    · by_cases hk3 : K = 3
      · rw [value_yes K _ (.inr hk3) (by rw [← hsz]; exact h2)]
        generalize unescS false (T.data.toList.drop 1).dropLast = V at cU ⊢
        generalize strL (T.data.toList.drop 1).dropLast = U at R1 cU
        subst hk3
        clear hsz cC h2 hk2
        go_enter Tryd.func18, Tryd.ntmps18
        go_wp2_with (go_at_call 28; (with_reducible refine (cU _).mono ?_); rintro e w2 ⟨rfl, hb2⟩)
        go_ret
        exact ⟨rfl, HB.out _ _ hb2⟩
      · rw [value_no K _ (fun e => e.1.elim hk2 hk3), strL_of]
        have g2 : (K == 2) = false := beq_eq_false_iff_ne.2 hk2
        have g3 : (K == 3) = false := beq_eq_false_iff_ne.2 hk3
        clear hsz cU R1 h2 hk2 hk3
        go_enter Tryd.func18, Tryd.ntmps18
        go_wp2_with (go_at_call 20; (with_reducible refine (cC _).mono ?_); rintro e w2 ⟨rfl, hb2⟩)
        go_ret
        exact ⟨rfl, HB.out _ _ hb2⟩
  · have h2' : (T.size : Int) < 2 := by omega
    rw [value_no K _ (fun e => h2 (by rw [hsz]; exact e.2)), strL_of]
    clear hsz h2
    by_cases hk2 : K = 2
    · subst hk2
      go_enter Tryd.func18, Tryd.ntmps18
      go_wp2_with (go_at_call 20; (with_reducible refine (cC _).mono ?_); rintro e w2 ⟨rfl, hb2⟩)
      go_ret
      exact ⟨rfl, HB.out _ _ hb2⟩
    · have g2 : (K == 2) = false := beq_eq_false_iff_ne.2 hk2
      by_cases hk3 : K = 3
      · subst hk3
        clear g2 hk2
        go_enter Tryd.func18, Tryd.ntmps18
        go_wp2_with (go_at_call 20; (with_reducible refine (cC _).mono ?_); rintro e w2 ⟨rfl, hb2⟩)
        go_ret
        exact ⟨rfl, HB.out _ _ hb2⟩
      · have g3 : (K == 3) = false := beq_eq_false_iff_ne.2 hk3
        clear hk2 hk3
        go_enter Tryd.func18, Tryd.ntmps18
        go_wp2_with (go_at_call 20; (with_reducible refine (cC _).mono ?_); rintro e w2 ⟨rfl, hb2⟩)
        go_ret
        exact ⟨rfl, HB.out _ _ hb2⟩
end Go.Proofs.YtmpgclimgbjeoaaDoor
