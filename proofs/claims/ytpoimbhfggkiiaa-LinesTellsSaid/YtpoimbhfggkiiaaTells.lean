/- LinesTells: Split, Bare, Crlf, Stuff and Unstuff agree with the reference. -/
import Derived.Test.YtpoimbhfggkiiaaRefC
import Derived.Test.YtpoimbhfggkiiaaSplit
namespace Go.Proofs.Ytpoimbhfggkiiaa
open Go.ChangeShapes Go.WideShapes Go.ChangeAt Go.RowKit
open LinesP

theorem tells_long (s : ByteArray) (hs : 10000 < s.size) (w : World) : Calls Try.prog 3 #[.string s] w fun e w' => e = .returned (.bool true) ∧ Below w.heap.size w w' := by
  have hS := small_any w
  go_enter Try.func3, Try.ntmps3
  go_wp2_with (go_at_call 9; refine hS.mono ?_; rintro e w' ⟨rfl, hb⟩)
  go_ret
  exact ⟨rfl, hb⟩
set_option maxRecDepth 100000 in
set_option maxHeartbeats 4000000 in
theorem tells_any (s : ByteArray) (w : World) : Calls Try.prog 3 #[.string s] w fun e w' => e = .returned (.bool true) ∧ Below w.heap.size w w' := by
  by_cases hs : 10000 < s.size
  · exact tells_long s hs w
  have hS := small_any w
  have hnl := split_len s.data.toList
  obtain ⟨L, hL⟩ : ∃ L, splitL s.data.toList = L := ⟨_, rfl⟩
  rw [hL, ← size_list] at hnl
  obtain ⟨n, hn⟩ : ∃ n, L.length = n := ⟨_, rfl⟩
  have hP1 : ∀ w', Calls Try.prog 11 #[.string s] w' fun e w'' => ∃ a c, e = .returned (.slice a n c) ∧ Own w'' (.slice a n c) L ∧ Below w'.heap.size w' w'' := fun w' => (split_is s L (by omega) hL w').mono (by
    rintro e w'' ⟨a, c, rfl, ho, hb⟩
    rw [hn] at ho
    exact ⟨a, c, by rw [hn], ⟨_, by rw [hn]; exact ho⟩, hb⟩)
  have hP2 : ∀ w', Calls Try.prog 12 #[.string s] w' fun e w'' => ∃ a c, e = .returned (.slice a n c) ∧ Own w'' (.slice a n c) L ∧ Below w'.heap.size w' w'' := fun w' => (rsplit_any s (by omega) w').mono (by
    rintro e w'' ⟨a, c, rfl, ho, hb⟩
    rw [hL, hn] at ho
    exact ⟨a, c, by rw [hL, hn], ⟨_, by rw [hn]; exact ho⟩, hb⟩)
  have hB1 := fun w' => bare_any s (by omega) w'
  have hB2 := fun w' => rbare_any s (by omega) w'
  have hC1 := fun w' => crlf_any s (by omega) w'
  have hC2 := fun w' => rcrlf_any s (by omega) w'
  have hD1 := fun w' => stuff_any s (by omega) w'
  have hD2 := fun w' => rstuff_any s (by omega) w'
  have hU1 := fun w' => unstuff_any s (by omega) w'
  have hU2 := fun w' => runstuff_any s (by omega) w'
  generalize strL (bareL s.data.toList) = B at hB1 hB2
  generalize strL (crlfL s.data.toList) = C at hC1 hC2
  generalize strL (stuffL s.data.toList) = D at hD1 hD2
  generalize strL (unstuffL s.data.toList) = U at hU1 hU2
  clear hL
  go_enter Try.func3, Try.ntmps3
  go_wp2_with (first
    | (go_at_call 9; refine hS.mono ?_; rintro e w1 ⟨rfl, hb⟩; clear hS)
    | (go_at_call 11; with_reducible refine (hP1 _).mono ?_; rintro e w2 ⟨a1, c1, rfl, o1, b2⟩; replace hb := hb.trans (b2.mono hb.size); clear hP1 b2)
    | (go_at_call 12; with_reducible refine (hP2 _).mono ?_; rintro e w3 ⟨a2, c2, rfl, o2, b3⟩; replace hb := hb.trans (b3.mono hb.size); have q := same_yes (o1.step b3) o2 rfl (by omega); clear hP2 b3)
    | (go_at_call 10; with_reducible refine q.mono ?_; rintro e w4 ⟨rfl, b4⟩; replace hb := hb.trans (b4.mono hb.size); clear q b4)
    | (go_at_call 13; with_reducible refine (hB1 _).mono ?_; rintro e w5 ⟨rfl, b5⟩; replace hb := hb.trans (b5.mono hb.size); clear hB1 b5)
    | (go_at_call 14; with_reducible refine (hB2 _).mono ?_; rintro e w6 ⟨rfl, hw⟩; rw [← hw]; clear hB2 hw w6)
    | (go_at_call 15; with_reducible refine (hC1 _).mono ?_; rintro e w7 ⟨rfl, b7⟩; replace hb := hb.trans (b7.mono hb.size); clear hC1 b7)
    | (go_at_call 16; with_reducible refine (hC2 _).mono ?_; rintro e w8 ⟨rfl, b8⟩; replace hb := hb.trans (b8.mono hb.size); clear hC2 b8)
    | (go_at_call 17; with_reducible refine (hD1 _).mono ?_; rintro e w9 ⟨rfl, b9⟩; replace hb := hb.trans (b9.mono hb.size); clear hD1 b9)
    | (go_at_call 18; with_reducible refine (hD2 _).mono ?_; rintro e w10 ⟨rfl, b10⟩; replace hb := hb.trans (b10.mono hb.size); clear hD2 b10)
    | (go_at_call 19; with_reducible refine (hU1 _).mono ?_; rintro e w11 ⟨rfl, b11⟩; replace hb := hb.trans (b11.mono hb.size); clear hU1 b11)
    | (go_at_call 20; with_reducible refine (hU2 _).mono ?_; rintro e w12 ⟨rfl, b12⟩; replace hb := hb.trans (b12.mono hb.size); clear hU2 b12))
  go_ret
  exact ⟨rfl, hb⟩
end Go.Proofs.Ytpoimbhfggkiiaa
