/- The examples that every law evaluates first: they come out true. -/
import Derived.Test.YtblbajhjmdcdiaaDoorUnb64
namespace Go.Proofs.YtblbajhjmdcdiaaDoor
open Go.ChangeShapes Go.WideShapes Go.ChangeAt Go.RowKit

/-- The variables stand, and all older memory. -/
def Sn (w0 w : World) : Prop := Vars w ∧ Below w0.heap.size w0 w
theorem Sn.next {w0 w w' : World} (h : Sn w0 w) (hb : Below w.heap.size w w') : Sn w0 w' := ⟨h.1.below hb, h.2.trans (hb.mono h.2.size)⟩
theorem Sn.start {w : World} (h : Vars w) : Sn w w := ⟨h, Below.refl _ _⟩
section
variable {w0 w : World}
theorem b64_is (s r : ByteArray) (hs : s.size ≤ 1000000) (hr : strL (b64L s.data.toList) = r) (h : Sn w0 w) : Calls Tryd.prog 10 #[.string s] w fun e w' => e = .returned (.string r) ∧ Sn w0 w' := by
  subst hr
  exact (b64_any s hs w).mono fun e w' h1 => ⟨h1.1, h.next h1.2⟩
theorem unb64_is (s r : ByteArray) (hs : s.size ≤ 1000000) (hr : strL (unb64L s.data.toList) = r) (h : Sn w0 w) : Calls Tryd.prog 12 #[.string s] w fun e w' => e = .returned (.string r) ∧ Sn w0 w' := by
  subst hr
  exact (unb64_any s hs w h.1).mono fun e w' h1 => ⟨h1.1, h.next h1.2⟩
theorem qp_is (s r : ByteArray) (hs : s.size ≤ 1000000) (hr : strL (qpL s.data.toList) = r) (h : Sn w0 w) : Calls Tryd.prog 14 #[.string s] w fun e w' => e = .returned (.string r) ∧ Sn w0 w' := by
  subst hr
  exact (qp_any s hs w h.1).mono fun e w' h1 => ⟨h1.1, h.next h1.2⟩
theorem unqp_is (s r : ByteArray) (hs : s.size ≤ 1000000) (hr : strL (unqpL s.data.toList) = r) (h : Sn w0 w) : Calls Tryd.prog 16 #[.string s] w fun e w' => e = .returned (.string r) ∧ Sn w0 w' := by
  subst hr
  exact (unqp_any s hs w h.1).mono fun e w' h1 => ⟨h1.1, h.next h1.2⟩
theorem q_is (s r : ByteArray) (hs : s.size ≤ 1000000) (hr : strL (qL s.data.toList) = r) (h : Sn w0 w) : Calls Tryd.prog 18 #[.string s] w fun e w' => e = .returned (.string r) ∧ Sn w0 w' := by
  subst hr
  exact (q_any s hs w h.1).mono fun e w' h1 => ⟨h1.1, h.next h1.2⟩
theorem unq_is (s r : ByteArray) (hs : s.size ≤ 1000000) (hr : strL (unqL s.data.toList) = r) (h : Sn w0 w) : Calls Tryd.prog 20 #[.string s] w fun e w' => e = .returned (.string r) ∧ Sn w0 w' := by
  subst hr
  exact (unq_any s hs w h.1).mono fun e w' h1 => ⟨h1.1, h.next h1.2⟩
end
theorem ans0 {w0 w : World} (h : Sn w0 w) : Calls Tryd.prog 10 #[.string ⟨#[97, 98]⟩] w fun e w' => e = .returned (.string ⟨#[89, 87, 73, 61, 13, 10]⟩) ∧ Sn w0 w' :=
  b64_is ⟨#[97, 98]⟩ ⟨#[89, 87, 73, 61, 13, 10]⟩ (by decide) (by decide +kernel) h
theorem ans1 {w0 w : World} (h : Sn w0 w) : Calls Tryd.prog 10 #[.string ⟨#[]⟩] w fun e w' => e = .returned (.string ⟨#[]⟩) ∧ Sn w0 w' :=
  b64_is ⟨#[]⟩ ⟨#[]⟩ (by decide) (by decide +kernel) h
theorem ans2 {w0 w : World} (h : Sn w0 w) : Calls Tryd.prog 12 #[.string ⟨#[89, 32, 87, 63, 73, 61, 120]⟩] w fun e w' => e = .returned (.string ⟨#[97, 98]⟩) ∧ Sn w0 w' :=
  unb64_is ⟨#[89, 32, 87, 63, 73, 61, 120]⟩ ⟨#[97, 98]⟩ (by decide) (by decide +kernel) h
theorem ans3 {w0 w : World} (h : Sn w0 w) : Calls Tryd.prog 14 #[.string ⟨#[97, 32, 61]⟩] w fun e w' => e = .returned (.string ⟨#[97, 32, 61, 51, 68]⟩) ∧ Sn w0 w' :=
  qp_is ⟨#[97, 32, 61]⟩ ⟨#[97, 32, 61, 51, 68]⟩ (by decide) (by decide +kernel) h
theorem ans4 {w0 w : World} (h : Sn w0 w) : Calls Tryd.prog 16 #[.string ⟨#[97, 61, 51, 100, 32, 61, 13, 10, 98, 32, 10, 61]⟩] w fun e w' => e = .returned (.string ⟨#[97, 61, 32, 98, 10]⟩) ∧ Sn w0 w' :=
  unqp_is ⟨#[97, 61, 51, 100, 32, 61, 13, 10, 98, 32, 10, 61]⟩ ⟨#[97, 61, 32, 98, 10]⟩ (by decide) (by decide +kernel) h
theorem ans5 {w0 w : World} (h : Sn w0 w) : Calls Tryd.prog 18 #[.string ⟨#[97, 32, 233]⟩] w fun e w' => e = .returned (.string ⟨#[97, 95, 61, 69, 57]⟩) ∧ Sn w0 w' :=
  q_is ⟨#[97, 32, 233]⟩ ⟨#[97, 95, 61, 69, 57]⟩ (by decide) (by decide +kernel) h
theorem ans6 {w0 w : World} (h : Sn w0 w) : Calls Tryd.prog 20 #[.string ⟨#[97, 95, 61, 52, 49, 61, 52]⟩] w fun e w' => e = .returned (.string ⟨#[97, 32, 65, 61, 52]⟩) ∧ Sn w0 w' :=
  unq_is ⟨#[97, 95, 61, 52, 49, 61, 52]⟩ ⟨#[97, 32, 65, 61, 52]⟩ (by decide) (by decide +kernel) h
set_option maxHeartbeats 4000000 in
set_option maxRecDepth 1000000 in
theorem small_any (w : World) (hv : Vars w) :
    Calls Tryd.prog 8 #[] w fun e w' => e = .returned (.bool true) ∧ Below w.heap.size w w' := by
  have st := Sn.start hv
  go_enter Tryd.func8, Tryd.ntmps8
  go_wp2_with (first
    | (go_at_call 10; with_reducible refine (ans0 st).mono ?_; rintro e w' ⟨rfl, st⟩)
    | (go_at_call 10; with_reducible refine (ans1 st).mono ?_; rintro e w' ⟨rfl, st⟩)
    | (go_at_call 12; with_reducible refine (ans2 st).mono ?_; rintro e w' ⟨rfl, st⟩)
    | (go_at_call 14; with_reducible refine (ans3 st).mono ?_; rintro e w' ⟨rfl, st⟩)
    | (go_at_call 16; with_reducible refine (ans4 st).mono ?_; rintro e w' ⟨rfl, st⟩)
    | (go_at_call 18; with_reducible refine (ans5 st).mono ?_; rintro e w' ⟨rfl, st⟩)
    | (go_at_call 20; with_reducible refine (ans6 st).mono ?_; rintro e w' ⟨rfl, st⟩))
  go_ret
  exact ⟨rfl, st.2⟩
theorem few_any (s : ByteArray) (w : World) : Calls Tryd.prog 9 #[.string s] w fun e w' => e = .returned (.bool (decide (s.size ≤ 10000))) ∧ w = w' := by
  by_cases h : s.size ≤ 10000
  · have h2 : (s.size : Int) ≤ 10000 := by omega
    rw [decide_eq_true h]
    go_enter Tryd.func9, Tryd.ntmps9
    go_wp2
    go_ret
    exact ⟨rfl, rfl⟩
  · have h2 : ¬ (s.size : Int) ≤ 10000 := by omega
    rw [decide_eq_false h]
    go_enter Tryd.func9, Tryd.ntmps9
    go_wp2
    go_ret
    exact ⟨rfl, rfl⟩
end Go.Proofs.YtblbajhjmdcdiaaDoor
