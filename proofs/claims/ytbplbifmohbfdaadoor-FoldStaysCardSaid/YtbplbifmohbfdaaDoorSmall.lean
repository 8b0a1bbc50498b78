/- The sanity examples that every law evaluates first: they come out true. -/
import Derived.Test.YtbplbifmohbfdaaDoorHolds
import Derived.Test.YtbplbifmohbfdaaDoorSame
namespace Go.Proofs.YtbplbifmohbfdaaDoor
open Go.ChangeShapes Go.WideShapes Go.ChangeAt Go.RowKit

/-- The variables stand, all older memory, and these slices of strings. -/
def St (w0 w : World) (L : List (Option Addr × List (List UInt8))) : Prop := Vars w ∧ Below w0.heap.size w0 w ∧ ∀ p ∈ L, Strs w p.1 p.2
theorem St.next {w0 w w' : World} {L : List (Option Addr × List (List UInt8))} (h : St w0 w L) (hb : Below w.heap.size w w') : St w0 w' L := ⟨h.1.below hb, h.2.1.trans (hb.mono h.2.1.size), fun p hp => (h.2.2 p hp).below hb⟩
theorem St.more {w0 w : World} {L : List (Option Addr × List (List UInt8))} (h : St w0 w L) {a : Option Addr} {xs : List (List UInt8)} (hS : Strs w a xs) : St w0 w ((a, xs) :: L) := ⟨h.1, h.2.1, fun p hp => by
  rcases List.mem_cons.1 hp with rfl | hp
  · exact hS
  · exact h.2.2 p hp⟩
section
variable {w0 w : World} {L : List (Option Addr × List (List UInt8))}
theorem glob_yes (comp : Int) (p s : ByteArray) (xs : List (List UInt8)) (n : Nat) (hp : p.size ≤ 100000) (hs : s.size ≤ 100000) (hx : globP comp p.data.toList s.data.toList = some xs) (hn : xs.length = n) (h : St w0 w L) :
    Calls Tryd.prog 19 #[.int .i64 comp, .string p, .string s] w fun e w' => ∃ a c, e = .returned (.tuple #[.slice a n c, .bool true]) ∧ St w0 w' ((a, xs) :: L) :=
  (glob_any comp p s hp hs w h.1 _ hx).mono fun e w' ⟨a, m, c, h1, h2, h3, h4⟩ => ⟨a, c, by rw [h1, h2, ← hn]; rfl, (h.next h4).more h3⟩
theorem glob_no (comp : Int) (p s : ByteArray) (hp : p.size ≤ 100000) (hs : s.size ≤ 100000) (hx : globP comp p.data.toList s.data.toList = none) (h : St w0 w L) :
    Calls Tryd.prog 19 #[.int .i64 comp, .string p, .string s] w fun e w' => ∃ a c, e = .returned (.tuple #[.slice a 0 c, .bool false]) ∧ St w0 w' L :=
  (glob_any comp p s hp hs w h.1 _ hx).mono fun e w' ⟨a, m, c, h1, h2, h3, h4⟩ => ⟨a, c, by rw [h1, h2]; rfl, h.next h4⟩
theorem fold_is (s r : ByteArray) (hs : s.size ≤ 1000000) (hr : strL (foldL s.data.toList) = r) (h : St w0 w L) :
    Calls Tryd.prog 12 #[.string s] w fun e w' => e = .returned (.string r) ∧ St w0 w' L := by
  subst hr
  exact (fold_strL s hs w h.1).mono fun e w' h1 => ⟨h1.1, h.next h1.2⟩
theorem equal_is (a b : ByteArray) (ha : a.size ≤ 1000000) (hb : b.size ≤ 1000000) (r : Bool) (hr : decide (foldL a.data.toList = foldL b.data.toList) = r) (h : St w0 w L) :
    Calls Tryd.prog 14 #[.string a, .string b] w fun e w' => e = .returned (.bool r) ∧ St w0 w' L :=
  (equal_any a b ha hb r hr w h.1).mono fun _e _w' h1 => ⟨h1.1, h.next h1.2⟩
theorem order_is (comp : Int) (a b : ByteArray) (ha : a.size ≤ 1000000) (hb : b.size ≤ 1000000) (r : Int) (hr : ordL comp a.data.toList b.data.toList = r) (h : St w0 w L) :
    Calls Tryd.prog 16 #[.int .i64 comp, .string a, .string b] w fun e w' => e = .returned (.int .i64 r) ∧ St w0 w' L := by
  subst hr
  exact (order_any comp a b ha hb w h.1).mono fun e w' h1 => ⟨h1.1, h.next h1.2⟩
theorem has_is (comp : Int) (s k : ByteArray) (hs : s.size ≤ 1000000) (hk : k.size ≤ 1000000) (b : Bool) (hb : hasC comp s.data.toList k.data.toList = b) (h : St w0 w L) :
    Calls Tryd.prog 21 #[.int .i64 comp, .int .i64 2, .string s, .string k] w fun e w' => e = .returned (.bool b) ∧ St w0 w' L :=
  (holds_contains comp s k hs hk b hb w h.1).mono fun _e _w' h1 => ⟨h1.1, h.next h1.2⟩
theorem below_is (comp : Int) (s k : ByteArray) (hs : s.size ≤ 1000000) (hk : k.size ≤ 1000000) (b : Bool) (hb : decide (ordL comp s.data.toList k.data.toList < 0) = b) (h : St w0 w L) :
    Calls Tryd.prog 21 #[.int .i64 comp, .int .i64 5, .string s, .string k] w fun e w' => e = .returned (.bool b) ∧ St w0 w' L :=
  (holds_below comp s k hs hk b hb w h.1).mono fun _e _w' h1 => ⟨h1.1, h.next h1.2⟩
theorem above_is (comp : Int) (s k : ByteArray) (hs : s.size ≤ 1000000) (hk : k.size ≤ 1000000) (b : Bool) (hb : decide (0 < ordL comp s.data.toList k.data.toList) = b) (h : St w0 w L) :
    Calls Tryd.prog 21 #[.int .i64 comp, .int .i64 4, .string s, .string k] w fun e w' => e = .returned (.bool b) ∧ St w0 w' L :=
  (holds_above comp s k hs hk b hb w h.1).mono fun _e _w' h1 => ⟨h1.1, h.next h1.2⟩
theorem is_is (comp : Int) (s k : ByteArray) (hs : s.size ≤ 1000000) (hk : k.size ≤ 1000000) (b : Bool) (hb : decide (ordL comp s.data.toList k.data.toList = 0) = b) (h : St w0 w L) :
    Calls Tryd.prog 21 #[.int .i64 comp, .int .i64 1, .string s, .string k] w fun e w' => e = .returned (.bool b) ∧ St w0 w' L :=
  (holds_is comp s k hs hk b hb w h.1).mono fun _e _w' h1 => ⟨h1.1, h.next h1.2⟩
theorem match_is (comp : Int) (s k : ByteArray) (hs : s.size ≤ 100000) (hk : k.size ≤ 100000) (b : Bool) (hb : (globP comp k.data.toList s.data.toList).isSome = b) (h : St w0 w L) :
    Calls Tryd.prog 21 #[.int .i64 comp, .int .i64 3, .string s, .string k] w fun e w' => e = .returned (.bool b) ∧ St w0 w' L :=
  (holds_matches comp s k hs hk b hb w h.1).mono fun _e _w' h1 => ⟨h1.1, h.next h1.2⟩
theorem none_is (comp : Int) (s k : ByteArray) (h : St w0 w L) :
    Calls Tryd.prog 21 #[.int .i64 comp, .int .i64 0, .string s, .string k] w fun e w' => e = .returned (.bool false) ∧ St w0 w' L :=
  (holds_none comp s k w).mono fun _e _w' h1 => ⟨h1.1, h.next h1.2⟩
theorem units_is (s : ByteArray) (hs : s.size ≤ 1000000) (xs : List (List UInt8)) (n : Nat) (hx : unitsL s.data.toList = xs) (hn : xs.length = n) (h : St w0 w L) :
    Calls Tryd.prog 10 #[.string s] w fun e w' => ∃ g, e = .returned (.slice (some ⟨g, 0, none⟩) n n) ∧ St w0 w' ((some ⟨g, 0, none⟩, xs) :: L) := by
  subst hx hn
  exact (units_any s hs w).mono fun e w' ⟨g, h1, h2, _, h3⟩ => ⟨g, h1, (h.next h3).more h2⟩
theorem same_is (a : Option Addr) (xs : List (List UInt8)) (n m c : Nat) (hm : (a, xs) ∈ L) (hn : xs.length = n) (hnm : n = m) (hx : n ≤ 1000000) (h : St w0 w L) :
    Calls Tryd.prog 9 #[.slice a n c, .slice (some ⟨w.heap.size, 0, none⟩) m m] (w.alloc (.cells (strsOf xs).toArray 9)) fun e w' => e = .returned (.bool true) ∧ St w0 w' L := by
  have h1 := h.next ((Below.refl w.heap.size w).alloc (Nat.le_refl _) (.cells (strsOf xs).toArray 9))
  refine (same_any xs xs a (some ⟨w.heap.size, 0, none⟩) n m c m hn (by omega) hx _ (h1.2.2 _ hm) ?_ true (by simp)).mono fun e w' h2 => ⟨h2.1, h1.next h2.2⟩
  intro j u hu
  refine ⟨_, _, rfl, ?_⟩
  have := strs_new w xs j (.string (strL u)) (by unfold strsOf; rw [List.getElem?_map, hu]; rfl)
  rw [add_none] at this
  exact this
end
theorem ansG0 {w0 w : World} {L : List (Option Addr × List (List UInt8))} (h : St w0 w L) : Calls Tryd.prog 19 #[.int .i64 1, .string ⟨#[42, 66, 63]⟩, .string ⟨#[97, 98, 99, 98, 100]⟩] w fun e w' => ∃ a c, e = .returned (.tuple #[.slice a 2 c, .bool true]) ∧ St w0 w' ((a, [[97, 98, 99], [100]]) :: L) :=
  glob_yes 1 ⟨#[42, 66, 63]⟩ ⟨#[97, 98, 99, 98, 100]⟩ [[97, 98, 99], [100]] 2 (by decide) (by decide) (by decide +kernel) rfl h
theorem ansG1 {w0 w : World} {L : List (Option Addr × List (List UInt8))} (h : St w0 w L) : Calls Tryd.prog 19 #[.int .i64 2, .string ⟨#[42, 66, 63]⟩, .string ⟨#[97, 98, 99, 98, 100]⟩] w fun e w' => ∃ a c, e = .returned (.tuple #[.slice a 0 c, .bool false]) ∧ St w0 w' L :=
  glob_no 2 ⟨#[42, 66, 63]⟩ ⟨#[97, 98, 99, 98, 100]⟩ (by decide) (by decide) (by decide +kernel) h
theorem ansG2 {w0 w : World} {L : List (Option Addr × List (List UInt8))} (h : St w0 w L) : Calls Tryd.prog 19 #[.int .i64 2, .string ⟨#[97, 92, 42, 63, 42]⟩, .string ⟨#[97, 42, 120, 121, 122]⟩] w fun e w' => ∃ a c, e = .returned (.tuple #[.slice a 2 c, .bool true]) ∧ St w0 w' ((a, [[120], [121, 122]]) :: L) :=
  glob_yes 2 ⟨#[97, 92, 42, 63, 42]⟩ ⟨#[97, 42, 120, 121, 122]⟩ [[120], [121, 122]] 2 (by decide) (by decide) (by decide +kernel) rfl h
theorem ans0 {w0 w : World} {L : List (Option Addr × List (List UInt8))} (h : St w0 w L) : Calls Tryd.prog 12 #[.string ⟨#[195, 132, 195, 159, 197, 184, 206, 134, 208, 150, 90, 255, 226, 130, 172]⟩] w fun e w' => e = .returned (.string ⟨#[195, 164, 195, 159, 195, 191, 206, 172, 208, 182, 122, 255, 226, 130, 172]⟩) ∧ St w0 w' L :=
  fold_is ⟨#[195, 132, 195, 159, 197, 184, 206, 134, 208, 150, 90, 255, 226, 130, 172]⟩ ⟨#[195, 164, 195, 159, 195, 191, 206, 172, 208, 182, 122, 255, 226, 130, 172]⟩ (by decide) (by decide +kernel) h
theorem ans1 {w0 w : World} {L : List (Option Addr × List (List UInt8))} (h : St w0 w L) : Calls Tryd.prog 14 #[.string ⟨#[196, 128]⟩, .string ⟨#[196, 129]⟩] w fun e w' => e = .returned (.bool true) ∧ St w0 w' L :=
  equal_is ⟨#[196, 128]⟩ ⟨#[196, 129]⟩ (by decide) (by decide) true (by decide +kernel) h
theorem ans2 {w0 w : World} {L : List (Option Addr × List (List UInt8))} (h : St w0 w L) : Calls Tryd.prog 14 #[.string ⟨#[195, 151]⟩, .string ⟨#[195, 183]⟩] w fun e w' => e = .returned (.bool false) ∧ St w0 w' L :=
  equal_is ⟨#[195, 151]⟩ ⟨#[195, 183]⟩ (by decide) (by decide) false (by decide +kernel) h
theorem ans3 {w0 w : World} {L : List (Option Addr × List (List UInt8))} (h : St w0 w L) : Calls Tryd.prog 16 #[.int .i64 3, .string ⟨#[48, 55]⟩, .string ⟨#[51, 120]⟩] w fun e w' => e = .returned (.int .i64 1) ∧ St w0 w' L :=
  order_is 3 ⟨#[48, 55]⟩ ⟨#[51, 120]⟩ (by decide) (by decide) 1 (by decide +kernel) h
theorem ans4 {w0 w : World} {L : List (Option Addr × List (List UInt8))} (h : St w0 w L) : Calls Tryd.prog 16 #[.int .i64 3, .string ⟨#[120]⟩, .string ⟨#[57]⟩] w fun e w' => e = .returned (.int .i64 1) ∧ St w0 w' L :=
  order_is 3 ⟨#[120]⟩ ⟨#[57]⟩ (by decide) (by decide) 1 (by decide +kernel) h
theorem ans5 {w0 w : World} {L : List (Option Addr × List (List UInt8))} (h : St w0 w L) : Calls Tryd.prog 16 #[.int .i64 3, .string ⟨#[120]⟩, .string ⟨#[]⟩] w fun e w' => e = .returned (.int .i64 0) ∧ St w0 w' L :=
  order_is 3 ⟨#[120]⟩ ⟨#[]⟩ (by decide) (by decide) 0 (by decide +kernel) h
theorem ans6 {w0 w : World} {L : List (Option Addr × List (List UInt8))} (h : St w0 w L) : Calls Tryd.prog 16 #[.int .i64 1, .string ⟨#[97]⟩, .string ⟨#[66]⟩] w fun e w' => e = .returned (.int .i64 (-1)) ∧ St w0 w' L :=
  order_is 1 ⟨#[97]⟩ ⟨#[66]⟩ (by decide) (by decide) (-1) (by decide +kernel) h
theorem ans7 {w0 w : World} {L : List (Option Addr × List (List UInt8))} (h : St w0 w L) : Calls Tryd.prog 16 #[.int .i64 2, .string ⟨#[97]⟩, .string ⟨#[66]⟩] w fun e w' => e = .returned (.int .i64 1) ∧ St w0 w' L :=
  order_is 2 ⟨#[97]⟩ ⟨#[66]⟩ (by decide) (by decide) 1 (by decide +kernel) h
theorem ans8 {w0 w : World} {L : List (Option Addr × List (List UInt8))} (h : St w0 w L) : Calls Tryd.prog 21 #[.int .i64 1, .int .i64 2, .string ⟨#[97, 98, 67]⟩, .string ⟨#[66, 99]⟩] w fun e w' => e = .returned (.bool true) ∧ St w0 w' L :=
  has_is 1 ⟨#[97, 98, 67]⟩ ⟨#[66, 99]⟩ (by decide) (by decide) true (by decide +kernel) h
theorem ans9 {w0 w : World} {L : List (Option Addr × List (List UInt8))} (h : St w0 w L) : Calls Tryd.prog 21 #[.int .i64 2, .int .i64 2, .string ⟨#[97, 98, 67]⟩, .string ⟨#[66, 99]⟩] w fun e w' => e = .returned (.bool false) ∧ St w0 w' L :=
  has_is 2 ⟨#[97, 98, 67]⟩ ⟨#[66, 99]⟩ (by decide) (by decide) false (by decide +kernel) h
theorem ans10 {w0 w : World} {L : List (Option Addr × List (List UInt8))} (h : St w0 w L) : Calls Tryd.prog 21 #[.int .i64 3, .int .i64 5, .string ⟨#[57]⟩, .string ⟨#[49, 48]⟩] w fun e w' => e = .returned (.bool true) ∧ St w0 w' L :=
  below_is 3 ⟨#[57]⟩ ⟨#[49, 48]⟩ (by decide) (by decide) true (by decide +kernel) h
theorem ans11 {w0 w : World} {L : List (Option Addr × List (List UInt8))} (h : St w0 w L) : Calls Tryd.prog 21 #[.int .i64 3, .int .i64 2, .string ⟨#[57]⟩, .string ⟨#[57]⟩] w fun e w' => e = .returned (.bool false) ∧ St w0 w' L :=
  has_is 3 ⟨#[57]⟩ ⟨#[57]⟩ (by decide) (by decide) false (by decide +kernel) h
theorem ans12 {w0 w : World} {L : List (Option Addr × List (List UInt8))} (h : St w0 w L) : Calls Tryd.prog 21 #[.int .i64 1, .int .i64 3, .string ⟨#[97, 98, 99]⟩, .string ⟨#[65, 42]⟩] w fun e w' => e = .returned (.bool true) ∧ St w0 w' L :=
  match_is 1 ⟨#[97, 98, 99]⟩ ⟨#[65, 42]⟩ (by decide) (by decide) true (by decide +kernel) h
theorem ans13 {w0 w : World} {L : List (Option Addr × List (List UInt8))} (h : St w0 w L) : Calls Tryd.prog 21 #[.int .i64 1, .int .i64 0, .string ⟨#[97]⟩, .string ⟨#[97]⟩] w fun e w' => e = .returned (.bool false) ∧ St w0 w' L :=
  none_is 1 ⟨#[97]⟩ ⟨#[97]⟩ h
theorem ansU {w0 w : World} {L : List (Option Addr × List (List UInt8))} (h : St w0 w L) : Calls Tryd.prog 10 #[.string ⟨#[97, 195, 132, 195]⟩] w fun e w' => ∃ g, e = .returned (.slice (some ⟨g, 0, none⟩) 3 3) ∧ St w0 w' ((some ⟨g, 0, none⟩, [[97], [195, 132], [195]]) :: L) :=
  units_is ⟨#[97, 195, 132, 195]⟩ (by decide) [[97], [195, 132], [195]] 3 (by decide +kernel) rfl h
theorem ansS0 {w0 w : World} {L : List (Option Addr × List (List UInt8))} {a : Option Addr} {c : Nat} (h : St w0 w L) (hm : (a, [[97, 98, 99], [100]]) ∈ L) : Calls Tryd.prog 9 #[.slice a 2 c, .slice (some ⟨w.heap.size, 0, none⟩) 2 2] (w.alloc (.cells #[.string ⟨#[97, 98, 99]⟩, .string ⟨#[100]⟩] 9)) fun e w' => e = .returned (.bool true) ∧ St w0 w' L :=
  same_is a [[97, 98, 99], [100]] 2 2 c hm rfl rfl (by decide) h
theorem ansS1 {w0 w : World} {L : List (Option Addr × List (List UInt8))} {a : Option Addr} {c : Nat} (h : St w0 w L) (hm : (a, [[120], [121, 122]]) ∈ L) : Calls Tryd.prog 9 #[.slice a 2 c, .slice (some ⟨w.heap.size, 0, none⟩) 2 2] (w.alloc (.cells #[.string ⟨#[120]⟩, .string ⟨#[121, 122]⟩] 9)) fun e w' => e = .returned (.bool true) ∧ St w0 w' L :=
  same_is a [[120], [121, 122]] 2 2 c hm rfl rfl (by decide) h
theorem ansS2 {w0 w : World} {L : List (Option Addr × List (List UInt8))} {a : Option Addr} {c : Nat} (h : St w0 w L) (hm : (a, [[97], [195, 132], [195]]) ∈ L) : Calls Tryd.prog 9 #[.slice a 3 c, .slice (some ⟨w.heap.size, 0, none⟩) 3 3] (w.alloc (.cells #[.string ⟨#[97]⟩, .string ⟨#[195, 132]⟩, .string ⟨#[195]⟩] 9)) fun e w' => e = .returned (.bool true) ∧ St w0 w' L :=
  same_is a [[97], [195, 132], [195]] 3 3 c hm rfl rfl (by decide) h

set_option maxHeartbeats 4000000 in
set_option maxRecDepth 1000000 in
theorem small_any (w : World) (hv : Vars w) :
    Calls Tryd.prog 8 #[] w fun e w' => e = .returned (.bool true) ∧ Below w.heap.size w w' := by
  have hst : St w w [] := ⟨hv, Below.refl _ _, fun p hp => by cases hp⟩
  go_enter Tryd.func8, Tryd.ntmps8
  go_wp2_with (first
    | (go_at_call 19; with_reducible refine (ansG0 (by assumption)).mono ?_; rintro e w1 ⟨a1, c1, rfl, hst⟩)
    | (go_at_call 19; with_reducible refine (ansG1 (by assumption)).mono ?_; rintro e w1 ⟨a2, c2, rfl, hst⟩)
    | (go_at_call 19; with_reducible refine (ansG2 (by assumption)).mono ?_; rintro e w1 ⟨a3, c3, rfl, hst⟩)
    | (go_at_call 12; with_reducible refine (ans0 (by assumption)).mono ?_; rintro e w1 ⟨rfl, hst⟩)
    | (go_at_call 14; with_reducible refine (ans1 (by assumption)).mono ?_; rintro e w1 ⟨rfl, hst⟩)
    | (go_at_call 14; with_reducible refine (ans2 (by assumption)).mono ?_; rintro e w1 ⟨rfl, hst⟩)
    | (go_at_call 16; with_reducible refine (ans3 (by assumption)).mono ?_; rintro e w1 ⟨rfl, hst⟩)
    | (go_at_call 16; with_reducible refine (ans4 (by assumption)).mono ?_; rintro e w1 ⟨rfl, hst⟩)
    | (go_at_call 16; with_reducible refine (ans5 (by assumption)).mono ?_; rintro e w1 ⟨rfl, hst⟩)
    | (go_at_call 16; with_reducible refine (ans6 (by assumption)).mono ?_; rintro e w1 ⟨rfl, hst⟩)
    | (go_at_call 16; with_reducible refine (ans7 (by assumption)).mono ?_; rintro e w1 ⟨rfl, hst⟩)
    | (go_at_call 21; with_reducible refine (ans8 (by assumption)).mono ?_; rintro e w1 ⟨rfl, hst⟩)
    | (go_at_call 21; with_reducible refine (ans9 (by assumption)).mono ?_; rintro e w1 ⟨rfl, hst⟩)
    | (go_at_call 21; with_reducible refine (ans10 (by assumption)).mono ?_; rintro e w1 ⟨rfl, hst⟩)
    | (go_at_call 21; with_reducible refine (ans11 (by assumption)).mono ?_; rintro e w1 ⟨rfl, hst⟩)
    | (go_at_call 21; with_reducible refine (ans12 (by assumption)).mono ?_; rintro e w1 ⟨rfl, hst⟩)
    | (go_at_call 21; with_reducible refine (ans13 (by assumption)).mono ?_; rintro e w1 ⟨rfl, hst⟩)
    | (go_at_call 10; with_reducible refine (ansU (by assumption)).mono ?_; rintro e w1 ⟨g4, rfl, hst⟩)
    | (go_at_call 9; with_reducible refine (ansS0 (by assumption) (List.mem_cons_of_mem _ List.mem_cons_self)).mono ?_; rintro e w1 ⟨rfl, hst⟩)
    | (go_at_call 9; with_reducible refine (ansS1 (by assumption) List.mem_cons_self).mono ?_; rintro e w1 ⟨rfl, hst⟩)
    | (go_at_call 9; with_reducible refine (ansS2 (by assumption) List.mem_cons_self).mono ?_; rintro e w1 ⟨rfl, hst⟩))
  go_ret
  refine ⟨?_, (show St w _ _ from by assumption).2.1⟩
  rfl
end Go.Proofs.YtbplbifmohbfdaaDoor
