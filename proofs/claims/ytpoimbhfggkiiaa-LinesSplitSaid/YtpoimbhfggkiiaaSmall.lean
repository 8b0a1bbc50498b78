/- The example that every law evaluates first: it comes out true. -/
import Derived.Test.YtpoimbhfggkiiaaSame
namespace Go.Proofs.Ytpoimbhfggkiiaa
open Go.ChangeShapes Go.WideShapes Go.ChangeAt Go.RowKit
open LinesP

theorem push_st (B b lim : Nat) (t : List UInt8) (s : ByteArray) (w : World) (h : Fd w B b lim (t.take lim)) (ht : 10 ∉ t) (htl : t.length ≤ 1000000) (hB : B ≤ w.heap.size) (hb : b < w.heap.size) (hlim : lim ≤ 1048576) (hs : s.size ≤ 1000000) :
    Calls Try.prog 24 #[.pointer (some ⟨b, 0, none⟩), .string s] w fun e w' => ∃ v, e = .returned v ∧
      w'.ownsRow w.heap.size 9 1 v (toldL lim (t ++ s.data.toList)).length ((toldL lim (t ++ s.data.toList)).map strV) ∧ Fd w' B b lim ((restL (t ++ s.data.toList)).take lim) ∧ Fr B b w w' := by
  refine push_any B b lim t s w ?_ ht htl hB hb hlim hs
  unfold heldL
  rw [(no_done ht).2]; exact h
theorem push_is (B b lim : Nat) (t t' : List UInt8) (l : List (List UInt8)) (s : ByteArray) (w : World) (h : Fd w B b lim (t.take lim)) (hB : B ≤ w.heap.size) (hb : b < w.heap.size) (ht : 10 ∉ t) (htl : t.length ≤ 1000000) (hlim : lim ≤ 1048576) (hs : s.size ≤ 1000000)
    (h1 : toldL lim (t ++ s.data.toList) = l) (h2 : restL (t ++ s.data.toList) = t') :
    Calls Try.prog 24 #[.pointer (some ⟨b, 0, none⟩), .string s] w fun e w' => ∃ a c, e = .returned (.slice a l.length c) ∧
      w'.ownsRow w.heap.size 9 1 (.slice a l.length c) l.length (l.map strV) ∧ Fd w' B b lim (t'.take lim) ∧ Fr B b w w' := by
  refine (push_st B b lim t s w h ht htl hB hb hlim hs).mono ?_
  rintro e w' ⟨v, rfl, hr, hf, hF⟩
  rw [h1] at hr
  rw [h2] at hf
  obtain ⟨a, c, rfl⟩ : ∃ a c, v = .slice a l.length c := by
    rcases hr.2 with ⟨rfl, h0⟩ | ⟨g, cap, cur, rfl, _⟩
    · exact ⟨none, 0, by rw [h0]⟩
    · exact ⟨_, _, rfl⟩
  exact ⟨a, c, rfl, hr, hf, hF⟩
theorem linesB_val (l : List UInt8) : (linesB l).map Value.string = (splitL l).map strV := by
  unfold linesB
  rw [List.map_map]; rfl
theorem split_has (s : ByteArray) (hs : s.size ≤ 1000000) (w : World) :
    Calls Try.prog 11 #[.string s] w fun e w' => ∃ a c, e = .returned (.slice a (splitL s.data.toList).length c) ∧ w'.ownsRow w.heap.size 9 1 (.slice a (splitL s.data.toList).length c) (splitL s.data.toList).length ((splitL s.data.toList).map strV) ∧ Below w.heap.size w w' := by
  refine (split_any s hs w).mono ?_
  rintro e w' ⟨v, rfl, hr, hb⟩
  rw [linesB_val, show (linesB s.data.toList).length = (splitL s.data.toList).length by unfold linesB; rw [List.length_map]] at hr
  obtain ⟨a, c, rfl⟩ : ∃ a c, v = .slice a (splitL s.data.toList).length c := by
    rcases hr.2 with ⟨rfl, h0⟩ | ⟨g, cap, cur, rfl, _⟩
    · exact ⟨none, 0, by rw [h0]⟩
    · exact ⟨_, _, rfl⟩
  exact ⟨a, c, rfl, hr, hb⟩
theorem split_is (s : ByteArray) (l : List (List UInt8)) (hs : s.size ≤ 1000000) (h : splitL s.data.toList = l) (w : World) :
    Calls Try.prog 11 #[.string s] w fun e w' => ∃ a c, e = .returned (.slice a l.length c) ∧ w'.ownsRow w.heap.size 9 1 (.slice a l.length c) l.length (l.map strV) ∧ Below w.heap.size w w' := by
  subst h; exact split_has s hs w
theorem bare_is (s r : ByteArray) (hs : s.size ≤ 1000000) (h : strL (bareL s.data.toList) = r) (w : World) : Calls Try.prog 13 #[.string s] w fun e w' => e = .returned (.string r) ∧ Below w.heap.size w w' := by
  subst h; exact bare_any s hs w
theorem crlf_is (s r : ByteArray) (hs : s.size ≤ 1000000) (h : strL (crlfL s.data.toList) = r) (w : World) : Calls Try.prog 15 #[.string s] w fun e w' => e = .returned (.string r) ∧ Below w.heap.size w w' := by
  subst h; exact crlf_any s hs w
theorem stuff_is (s r : ByteArray) (hs : s.size ≤ 1000000) (h : strL (stuffL s.data.toList) = r) (w : World) : Calls Try.prog 17 #[.string s] w fun e w' => e = .returned (.string r) ∧ Below w.heap.size w w' := by
  subst h; exact stuff_any s hs w
theorem unstuff_is (s r : ByteArray) (hs : s.size ≤ 1000000) (h : strL (unstuffL s.data.toList) = r) (w : World) : Calls Try.prog 19 #[.string s] w fun e w' => e = .returned (.string r) ∧ Below w.heap.size w w' := by
  subst h; exact unstuff_any s hs w
theorem same_lit (v : Value) (l : List (List UInt8)) (n : Nat) (hn : n = l.length) (hl : l.length ≤ 1000000) (w : World) {base : Nat} (h : w.ownsRow base 9 1 v l.length (l.map strV)) :
    Calls Try.prog 10 #[v, .slice (some ⟨w.heap.size, 0, none⟩) n n] (w.alloc (.cells (l.map strV).toArray 9)) fun e w' => e = .returned (.bool true) ∧ Below w.heap.size w w' := by
  have hb := (Below.refl w.heap.size w).alloc (Nat.le_refl _) (.cells (l.map strV).toArray 9)
  have := same_any ((Has.of_own h).1.below' hb) (Has.lit strV w 9 l n hn) hl
  refine this.mono ?_
  rintro e w' ⟨rfl, h2⟩
  exact ⟨by rw [decide_eq_true rfl], hb.trans (h2.mono hb.size)⟩
theorem same_1 (a : Option Addr) (c : Nat) (w : World) {base : Nat} (h : w.ownsRow base 9 1 (.slice a 3 c) 3 (([[97, 13, 10], [10], [98]] : List (List UInt8)).map strV)) :
    Calls Try.prog 10 #[.slice a 3 c, .slice (some ⟨w.heap.size, 0, none⟩) 3 3] (w.alloc (.cells #[.string ⟨#[97, 13, 10]⟩, .string ⟨#[10]⟩, .string ⟨#[98]⟩] 9)) fun e w' => e = .returned (.bool true) ∧ Below w.heap.size w w' :=
  same_lit _ [[97, 13, 10], [10], [98]] 3 rfl (by decide) w h
theorem same_2 (a : Option Addr) (c : Nat) (w : World) {base : Nat} (h : w.ownsRow base 9 1 (.slice a 2 c) 2 (([[97, 98, 99, 100], [103, 13, 10]] : List (List UInt8)).map strV)) :
    Calls Try.prog 10 #[.slice a 2 c, .slice (some ⟨w.heap.size, 0, none⟩) 2 2] (w.alloc (.cells #[.string ⟨#[97, 98, 99, 100]⟩, .string ⟨#[103, 13, 10]⟩] 9)) fun e w' => e = .returned (.bool true) ∧ Below w.heap.size w w' :=
  same_lit _ [[97, 98, 99, 100], [103, 13, 10]] 2 rfl (by decide) w h
theorem fr_low {B b : Nat} {w0 w w' : World} (h : Below w0.heap.size w0 w) (f : Fr B b w w') (h1 : w0.heap.size ≤ b) (h2 : w0.heap.size ≤ B) : Below w0.heap.size w0 w' :=
  h.trans (f.below h1 h2 h.size)

theorem rest_h (B b : Nat) (w : World) (h : Fd w B b 4 (([104] : List UInt8).take 4)) : Calls Try.prog 25 #[.pointer (some ⟨b, 0, none⟩)] w fun e w' => e = .returned (.string ⟨#[104]⟩) ∧ w = w' := by
  have := rest_any _ _ _ _ _ h
  rwa [show strL (([104] : List UInt8).take 4) = ⟨#[104]⟩ from rfl] at this
/-- All older memory, and the two told lines. -/
structure Stt (w0 w : World) (v : Value) : Prop where
  bel : Below w0.heap.size w0 w
  own : ∃ base, w.ownsRow base 9 1 v 2 (([[97, 98, 99, 100], [103, 13, 10]] : List (List UInt8)).map strV)
theorem Stt.step {w0 w w' : World} {v : Value} (h : Stt w0 w v) (hb : Below w.heap.size w w') : Stt w0 w' v :=
  ⟨h.bel.trans (hb.mono h.bel.size), by obtain ⟨b, ho⟩ := h.own; exact ⟨b, own_below ho hb⟩⟩
theorem Stt.same {w0 w : World} {a : Option Addr} {c : Nat} (h : Stt w0 w (.slice a 2 c)) : Calls Try.prog 10 #[.slice a 2 c, .slice (some ⟨w.heap.size, 0, none⟩) 2 2] (w.alloc (.cells #[.string ⟨#[97, 98, 99, 100]⟩, .string ⟨#[103, 13, 10]⟩] 9)) fun e w' => e = .returned (.bool true) ∧ Below w.heap.size w w' := by
  obtain ⟨b, ho⟩ := h.own
  exact same_2 a c w ho
set_option maxHeartbeats 8000000 in
set_option maxRecDepth 1000000 in
theorem small_any (w : World) :
    Calls Try.prog 9 #[] w fun e w' => e = .returned (.bool true) ∧ Below w.heap.size w w' := by
  have hF0 := fd_new w 4 (w.heap.size + 1)
  have hb0 := (Below.refl w.heap.size w).alloc (Nat.le_refl _) (.cells #[.int .i64 4, .slice none 0 0] 53)
  have hN := new_any 4 w
  rw [show ((limN 4 : Nat) : Int) = 4 by decide] at hN
  have hP1' := push_is (w.heap.size + 1) w.heap.size 4 [] [97, 98] [] ⟨#[97, 98]⟩ (w.alloc (.cells #[.int .i64 4, .slice none 0 0] 53)) hF0 (by simp) (by simp) (by simp) (by decide) (by decide) (by decide) (by decide +kernel) (by decide +kernel)
  have hP1 : Calls Try.prog 24 #[.pointer (some ⟨w.heap.size, 0, none⟩), .string ⟨#[97, 98]⟩] (w.alloc (.cells #[.int .i64 4, .slice none 0 0] 53)) fun e w' => ∃ a c, e = .returned (.slice a 0 c) ∧
      w'.ownsRow (w.alloc (.cells #[.int .i64 4, .slice none 0 0] 53)).heap.size 9 1 (.slice a 0 c) 0 [] ∧ Fd w' (w.heap.size + 1) w.heap.size 4 (([97, 98] : List UInt8).take 4) ∧ Fr (w.heap.size + 1) w.heap.size (w.alloc (.cells #[.int .i64 4, .slice none 0 0] 53)) w' := hP1'
  clear hP1'
  have HP2 : Hid (∀ w1 : World, Fd w1 (w.heap.size + 1) w.heap.size 4 (([97, 98] : List UInt8).take 4) → w.heap.size + 1 ≤ w1.heap.size → Calls Try.prog 24 #[.pointer (some ⟨w.heap.size, 0, none⟩), .string ⟨#[99, 100, 101, 102, 10, 103, 13, 10, 104]⟩] w1 fun e w' => ∃ a c, e = .returned (.slice a 2 c) ∧
      w'.ownsRow w1.heap.size 9 1 (.slice a 2 c) 2 (([[97, 98, 99, 100], [103, 13, 10]] : List (List UInt8)).map strV) ∧ Fd w' (w.heap.size + 1) w.heap.size 4 (([104] : List UInt8).take 4) ∧ Fr (w.heap.size + 1) w.heap.size w1 w') := fun w1 h1 h2 =>
    push_is (w.heap.size + 1) w.heap.size 4 [97, 98] [104] [[97, 98, 99, 100], [103, 13, 10]] ⟨#[99, 100, 101, 102, 10, 103, 13, 10, 104]⟩ w1 h1 h2 (by omega) (by decide) (by decide) (by decide) (by decide) (by decide +kernel) (by decide +kernel)
  have hS1 : ∀ w', Calls Try.prog 11 #[.string ⟨#[97, 13, 10, 10, 98]⟩] w' fun e w'' => ∃ a c, e = .returned (.slice a 3 c) ∧ w''.ownsRow w'.heap.size 9 1 (.slice a 3 c) 3 (([[97, 13, 10], [10], [98]] : List (List UInt8)).map strV) ∧ Below w'.heap.size w' w'' := fun w' => split_is ⟨#[97, 13, 10, 10, 98]⟩ [[97, 13, 10], [10], [98]] (by decide) (by decide +kernel) w'
  have hS2 : ∀ w', Calls Try.prog 11 #[.string ⟨#[]⟩] w' fun e w'' => ∃ a c, e = .returned (.slice a 0 c) ∧ w''.ownsRow w'.heap.size 9 1 (.slice a 0 c) 0 (([] : List (List UInt8)).map strV) ∧ Below w'.heap.size w' w'' := fun w' => split_is ⟨#[]⟩ [] (by decide) (by decide +kernel) w'
  have hA1 : ∀ w', Calls Try.prog 13 #[.string ⟨#[97, 13, 10]⟩] w' fun e w'' => e = .returned (.string ⟨#[97]⟩) ∧ Below w'.heap.size w' w'' := fun w' => bare_is _ _ (by decide) (by decide +kernel) w'
  have hA2 : ∀ w', Calls Try.prog 13 #[.string ⟨#[13, 13, 10]⟩] w' fun e w'' => e = .returned (.string ⟨#[13]⟩) ∧ Below w'.heap.size w' w'' := fun w' => bare_is _ _ (by decide) (by decide +kernel) w'
  have hA3 : ∀ w', Calls Try.prog 13 #[.string ⟨#[97, 13]⟩] w' fun e w'' => e = .returned (.string ⟨#[97, 13]⟩) ∧ Below w'.heap.size w' w'' := fun w' => bare_is _ _ (by decide) (by decide +kernel) w'
  have hC : ∀ w', Calls Try.prog 15 #[.string ⟨#[97, 10, 98, 13, 10, 13, 99]⟩] w' fun e w'' => e = .returned (.string ⟨#[97, 13, 10, 98, 13, 10, 13, 99]⟩) ∧ Below w'.heap.size w' w'' := fun w' => crlf_is _ _ (by decide) (by decide +kernel) w'
  have hD : ∀ w', Calls Try.prog 17 #[.string ⟨#[46, 10, 97, 10, 46, 46, 98]⟩] w' fun e w'' => e = .returned (.string ⟨#[46, 46, 10, 97, 10, 46, 46, 46, 98]⟩) ∧ Below w'.heap.size w' w'' := fun w' => stuff_is _ _ (by decide) (by decide +kernel) w'
  have hE : ∀ w', Calls Try.prog 19 #[.string ⟨#[46, 46, 10, 46, 97, 10, 98]⟩] w' fun e w'' => e = .returned (.string ⟨#[46, 10, 97, 10, 98]⟩) ∧ Below w'.heap.size w' w'' := fun w' => unstuff_is _ _ (by decide) (by decide +kernel) w'
  go_enter Try.func9, Try.ntmps9
  go_wp2_with (first
    | (go_at_call 22; with_reducible refine hN.mono ?_; rintro e v0 ⟨rfl, hw⟩; rw [hw]; clear hw v0)
    | (go_at_call 24; with_reducible refine hP1.mono ?_; rintro e v1 ⟨a1, c1, rfl, o1, f1, r1⟩; clear hP1; have hs1 := r1.bel.size; rw [World.size_alloc] at hs1; have hB1 := fr_low hb0 r1 (Nat.le_refl _) (by omega); have hP2 := HP2.out v1 f1 hs1; clear HP2)
    | (go_at_call 24; with_reducible refine hP2.mono ?_; rintro e v2 ⟨a2, c2, rfl, o2, f2, r2⟩; clear hP2; have st : Stt w v2 (.slice a2 2 c2) := ⟨fr_low hB1 r2 (Nat.le_refl _) (by omega), _, o2⟩; have hR := rest_h _ _ _ f2; clear o2 r2 f2)
    | (go_at_call 25; with_reducible refine hR.mono ?_; rintro e v3 ⟨rfl, hw⟩; rw [← hw]; clear hw v3 hR)
    | (go_at_call 11; with_reducible refine (hS1 _).mono ?_; rintro e v4 ⟨a3, c3, rfl, o3, b3⟩; replace st := st.step b3; have hQ := same_1 a3 c3 v4 o3; clear hS1 b3 o3)
    | (go_at_call 10; with_reducible refine hQ.mono ?_; rintro e v5 ⟨rfl, b5⟩; replace st := st.step b5; clear hQ b5)
    | (go_at_call 13; with_reducible refine (hA1 _).mono ?_; rintro e v6 ⟨rfl, b6⟩; replace st := st.step b6; clear hA1 b6)
    | (go_at_call 13; with_reducible refine (hA2 _).mono ?_; rintro e v7 ⟨rfl, b7⟩; replace st := st.step b7; clear hA2 b7)
    | (go_at_call 13; with_reducible refine (hA3 _).mono ?_; rintro e v8 ⟨rfl, b8⟩; replace st := st.step b8; clear hA3 b8)
    | (go_at_call 15; with_reducible refine (hC _).mono ?_; rintro e v9 ⟨rfl, b9⟩; replace st := st.step b9; clear hC b9)
    | (go_at_call 17; with_reducible refine (hD _).mono ?_; rintro e v10 ⟨rfl, b10⟩; replace st := st.step b10; clear hD b10)
    | (go_at_call 19; with_reducible refine (hE _).mono ?_; rintro e v11 ⟨rfl, b11⟩; replace st := st.step b11; clear hE b11; have hQ2 := st.same)
    | (go_at_call 10; with_reducible refine hQ2.mono ?_; rintro e v12 ⟨rfl, b12⟩; replace st := st.step b12; clear hQ2 b12)
    | (go_at_call 11; with_reducible refine (hS2 _).mono ?_; rintro e v13 ⟨a4, c4, rfl, o4, b13⟩; replace st := st.step b13; clear hS2 b13 o4))
  go_ret
  exact ⟨rfl, st.bel⟩
end Go.Proofs.Ytpoimbhfggkiiaa

