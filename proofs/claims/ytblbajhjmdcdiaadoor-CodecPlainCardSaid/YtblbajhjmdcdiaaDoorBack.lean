/- The law CodecBack: decoding inverts encoding. -/
import Derived.Test.YtblbajhjmdcdiaaDoorSmall
namespace Go.Proofs.YtblbajhjmdcdiaaDoor
open Go.ChangeShapes Go.WideShapes Go.ChangeAt Go.RowKit

theorem few_yes (s : ByteArray) (h : s.size ≤ 10000) (w : World) : Calls Tryd.prog 9 #[.string s] w fun e w' => e = .returned (.bool true) ∧ w = w' := by
  have := few_any s w
  rwa [decide_eq_true h] at this
theorem few_no (s : ByteArray) (h : ¬ s.size ≤ 10000) (w : World) : Calls Tryd.prog 9 #[.string s] w fun e w' => e = .returned (.bool false) ∧ w = w' := by
  have := few_any s w
  rwa [decide_eq_false h] at this
theorem small_is {w0 w : World} (h : Sn w0 w) : Calls Tryd.prog 8 #[] w fun e w' => e = .returned (.bool true) ∧ Sn w0 w' :=
  (small_any w h.1).mono fun _ _ h1 => ⟨h1.1, h.next h1.2⟩
section
variable {w0 w : World} (s : ByteArray) (hs : s.size ≤ 10000)
include hs
theorem b64_go (h : Sn w0 w) : Calls Tryd.prog 10 #[.string s] w fun e w' => e = .returned (.string (strL (b64L s.data.toList))) ∧ Sn w0 w' :=
  b64_is s _ (by omega) rfl h
theorem qp_go (h : Sn w0 w) : Calls Tryd.prog 14 #[.string s] w fun e w' => e = .returned (.string (strL (qpL s.data.toList))) ∧ Sn w0 w' :=
  qp_is s _ (by omega) rfl h
theorem q_go (h : Sn w0 w) : Calls Tryd.prog 18 #[.string s] w fun e w' => e = .returned (.string (strL (qL s.data.toList))) ∧ Sn w0 w' :=
  q_is s _ (by omega) rfl h
theorem b64_short : (strL (b64L s.data.toList)).size ≤ 60000 := by
  have := (b64G_length s.data.toList 0).1
  rw [← size_list] at this
  rw [strL_size]; unfold b64L; omega
theorem qp_short : (strL (qpL s.data.toList)).size ≤ 60000 := by
  have := qpL_length s.data.toList
  rw [← size_list] at this
  rw [strL_size]; omega
theorem q_short : (strL (qL s.data.toList)).size ≤ 30000 := by
  have := qL_length s.data.toList
  rw [← size_list] at this
  rw [strL_size]; omega
theorem unb64_go (h : Sn w0 w) : Calls Tryd.prog 12 #[.string (strL (b64L s.data.toList))] w fun e w' => e = .returned (.string s) ∧ Sn w0 w' :=
  unb64_is _ _ (by have := b64_short s hs; omega) (by rw [strL_list, unb64_back, strL_of]) h
theorem unqp_go (h : Sn w0 w) : Calls Tryd.prog 16 #[.string (strL (qpL s.data.toList))] w fun e w' => e = .returned (.string s) ∧ Sn w0 w' :=
  unqp_is _ _ (by have := qp_short s hs; omega) (by rw [strL_list, unqp_back, strL_of]) h
theorem unq_go (h : Sn w0 w) : Calls Tryd.prog 20 #[.string (strL (qL s.data.toList))] w fun e w' => e = .returned (.string s) ∧ Sn w0 w' :=
  unq_is _ _ (by have := q_short s hs; omega) (by rw [strL_list, q_back, strL_of]) h
end

set_option maxHeartbeats 4000000 in
set_option maxRecDepth 1000000 in
theorem back_any (s : ByteArray) (w : World) (hv : Vars w) :
    Calls Tryd.prog 4 #[.string s] w fun e w' => e = .returned (.bool true) ∧ Below w.heap.size w w' := by
  have st := Sn.start hv
  by_cases hs : s.size ≤ 10000
  · go_enter Tryd.func4, Tryd.ntmps4
    go_wp2_with (first
      | (go_at_call 8; refine (small_is st).mono ?_; rintro e w' ⟨rfl, st⟩)
      | (go_at_call 9; refine (few_yes s hs _).mono ?_; rintro e w' ⟨rfl, rfl⟩)
      | (go_at_call 10; refine (b64_go s hs st).mono ?_; rintro e w' ⟨rfl, st⟩)
      | (go_at_call 12; refine (unb64_go s hs st).mono ?_; rintro e w' ⟨rfl, st⟩)
      | (go_at_call 14; refine (qp_go s hs st).mono ?_; rintro e w' ⟨rfl, st⟩)
      | (go_at_call 16; refine (unqp_go s hs st).mono ?_; rintro e w' ⟨rfl, st⟩)
      | (go_at_call 18; refine (q_go s hs st).mono ?_; rintro e w' ⟨rfl, st⟩)
      | (go_at_call 20; refine (unq_go s hs st).mono ?_; rintro e w' ⟨rfl, st⟩))
    go_ret
    exact ⟨rfl, st.2⟩
  · go_enter Tryd.func4, Tryd.ntmps4
    go_wp2_with (first
      | (go_at_call 8; refine (small_is st).mono ?_; rintro e w' ⟨rfl, st⟩)
      | (go_at_call 9; refine (few_no s hs _).mono ?_; rintro e w' ⟨rfl, rfl⟩))
    go_ret
    exact ⟨rfl, st.2⟩
end Go.Proofs.YtblbajhjmdcdiaaDoor
