/- fold.Holds: the match types. -/
import Derived.Test.YtbplbifmohbfdaaDoorGlob
namespace Go.Proofs.YtbplbifmohbfdaaDoor
open Go.ChangeShapes Go.WideShapes Go.ChangeAt Go.RowKit

theorem holds_is (comp : Int) (s k : ByteArray) (hs : s.size ≤ 1000000) (hk : k.size ≤ 1000000) (b : Bool) (hb : decide (ordL comp s.data.toList k.data.toList = 0) = b) (w : World) (hv : Vars w) :
    Calls Tryd.prog 21 #[.int .i64 comp, .int .i64 1, .string s, .string k] w fun e w' => e = .returned (.bool b) ∧ Below w.heap.size w w' := by
  have cO := order_any comp s k hs hk w hv
  generalize ordL comp s.data.toList k.data.toList = O at cO hb
  subst hb
  go_enter Tryd.func21, Tryd.ntmps21
  go_wp2_with (go_at_call 16; refine cO.mono ?_; rintro e w1 ⟨rfl, hb1⟩)
  go_ret
  exact ⟨rfl, hb1⟩
theorem holds_above (comp : Int) (s k : ByteArray) (hs : s.size ≤ 1000000) (hk : k.size ≤ 1000000) (b : Bool) (hb : decide (0 < ordL comp s.data.toList k.data.toList) = b) (w : World) (hv : Vars w) :
    Calls Tryd.prog 21 #[.int .i64 comp, .int .i64 4, .string s, .string k] w fun e w' => e = .returned (.bool b) ∧ Below w.heap.size w w' := by
  have cO := order_any comp s k hs hk w hv
  generalize ordL comp s.data.toList k.data.toList = O at cO hb
  subst hb
  go_enter Tryd.func21, Tryd.ntmps21
  go_wp2_with (go_at_call 16; refine cO.mono ?_; rintro e w1 ⟨rfl, hb1⟩)
  go_ret
  exact ⟨by simp, hb1⟩
theorem holds_below (comp : Int) (s k : ByteArray) (hs : s.size ≤ 1000000) (hk : k.size ≤ 1000000) (b : Bool) (hb : decide (ordL comp s.data.toList k.data.toList < 0) = b) (w : World) (hv : Vars w) :
    Calls Tryd.prog 21 #[.int .i64 comp, .int .i64 5, .string s, .string k] w fun e w' => e = .returned (.bool b) ∧ Below w.heap.size w w' := by
  have cO := order_any comp s k hs hk w hv
  generalize ordL comp s.data.toList k.data.toList = O at cO hb
  subst hb
  go_enter Tryd.func21, Tryd.ntmps21
  go_wp2_with (go_at_call 16; refine cO.mono ?_; rintro e w1 ⟨rfl, hb1⟩)
  go_ret
  exact ⟨by simp, hb1⟩
theorem holds_none (comp : Int) (s k : ByteArray) (w : World) :
    Calls Tryd.prog 21 #[.int .i64 comp, .int .i64 0, .string s, .string k] w fun e w' => e = .returned (.bool false) ∧ Below w.heap.size w w' := by
  go_enter Tryd.func21, Tryd.ntmps21
  go_wp2_with fail
  go_ret
  exact ⟨rfl, Below.refl _ _⟩
theorem holds_matches (comp : Int) (s k : ByteArray) (hs : s.size ≤ 100000) (hk : k.size ≤ 100000) (b : Bool) (hb : (globP comp k.data.toList s.data.toList).isSome = b) (w : World) (hv : Vars w) :
    Calls Tryd.prog 21 #[.int .i64 comp, .int .i64 3, .string s, .string k] w fun e w' => e = .returned (.bool b) ∧ Below w.heap.size w w' := by
  have cG := glob_any comp k s hk hs w hv _ rfl
  rw [hb] at cG
  go_enter Tryd.func21, Tryd.ntmps21
  go_wp2_with (go_at_call 19; refine cG.mono ?_; rintro e w1 ⟨a, n, c, rfl, _, _, hb1⟩)
  go_ret
  exact ⟨rfl, hb1⟩
def hasC (comp : Int) (s k : List UInt8) : Bool := if comp = 3 then false else Lib.contains (keyL comp s) (keyL comp k)
theorem contains_any (A B : List UInt8) (hA : A.length ≤ 1000000) (b : Bool) (hb : Lib.contains A B = b) (w : World) (hv : Vars w) :
    Calls Tryd.prog 40 #[.string (strL A), .string (strL B)] w fun e w' => e = .returned (.bool b) ∧ w' = w := by
  obtain ⟨m, hm⟩ := hv.max
  subst hb
  exact Tryd.strings_Contains (strL A) (strL B) m w (by rw [strL_size]; omega) hm
theorem holds_contains (comp : Int) (s k : ByteArray) (hs : s.size ≤ 1000000) (hk : k.size ≤ 1000000) (b : Bool) (hb : hasC comp s.data.toList k.data.toList = b) (w : World) (hv : Vars w) :
    Calls Tryd.prog 21 #[.int .i64 comp, .int .i64 2, .string s, .string k] w fun e w' => e = .returned (.bool b) ∧ Below w.heap.size w w' := by
  unfold hasC at hb
  by_cases h3 : comp = 3
  · subst h3
    rw [if_pos rfl] at hb
    subst hb
    go_enter Tryd.func21, Tryd.ntmps21
    go_wp2_with fail
    go_ret
    exact ⟨rfl, Below.refl _ _⟩
  · rw [if_neg h3] at hb
    have c1 := key_any comp s hs w hv
    have c2 := fun w' (h : Below w.heap.size w w') => key_any comp k hk w' (hv.below h)
    have c3 := fun w' (h : Below w.heap.size w w') => contains_any (keyL comp s.data.toList) (keyL comp k.data.toList) (by rw [key_len, ← size_list]; exact hs) b hb w' (hv.below h)
    clear hb
    generalize strL (keyL comp s.data.toList) = A at c1 c3
    generalize strL (keyL comp k.data.toList) = B at c2 c3
    go_enter Tryd.func21, Tryd.ntmps21
    go_wp2_with (first
      | (go_at_call 32; with_reducible refine c1.mono ?_; rintro e w1 ⟨rfl, hb1⟩; have hs1 := hb1.size; have C2 := c2 w1 hb1)
      | (go_at_call 32; with_reducible refine C2.mono ?_; rintro e w2 ⟨rfl, hb2⟩; have hb12 := hb1.trans (hb2.mono hs1); have C3 := c3 w2 hb12)
      | (go_at_call 40; with_reducible refine C3.mono ?_; rintro e w3 ⟨rfl, rfl⟩))
    have h3b : (comp != 3) = true := by rw [bne_iff_ne]; exact h3
    go_ret
    refine ⟨?_, hb12⟩
    show Ending.returned (.bool (comp != 3 && b)) = _
    rw [h3b, Bool.true_and]
end Go.Proofs.YtbplbifmohbfdaaDoor
