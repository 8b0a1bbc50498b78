/- The law CodecTells: each function of the package answers as the reference does. -/
import Derived.Test.YtblbajhjmdcdiaaDoorBack
import Derived.Test.YtblbajhjmdcdiaaDoorRefUb
import Derived.Test.YtblbajhjmdcdiaaDoorRefU
import Derived.Test.YtblbajhjmdcdiaaDoorRefBw
namespace Go.Proofs.YtblbajhjmdcdiaaDoor
open Go.ChangeShapes Go.WideShapes Go.ChangeAt Go.RowKit

section
variable {w0 w : World} (s : ByteArray) (hs : s.size ≤ 1000000)
include hs
theorem tell10 (h : Sn w0 w) : Calls Tryd.prog 10 #[.string s] w fun e w' => e = .returned (.string (strL (b64L s.data.toList))) ∧ Sn w0 w' :=
  (b64_any s hs w).mono fun _ _ h1 => ⟨h1.1, h.next h1.2⟩
theorem tell12 (h : Sn w0 w) : Calls Tryd.prog 12 #[.string s] w fun e w' => e = .returned (.string (strL (unb64L s.data.toList))) ∧ Sn w0 w' :=
  (unb64_any s hs w h.1).mono fun _ _ h1 => ⟨h1.1, h.next h1.2⟩
theorem tell14 (h : Sn w0 w) : Calls Tryd.prog 14 #[.string s] w fun e w' => e = .returned (.string (strL (qpL s.data.toList))) ∧ Sn w0 w' :=
  (qp_any s hs w h.1).mono fun _ _ h1 => ⟨h1.1, h.next h1.2⟩
theorem tell16 (h : Sn w0 w) : Calls Tryd.prog 16 #[.string s] w fun e w' => e = .returned (.string (strL (unqpL s.data.toList))) ∧ Sn w0 w' :=
  (unqp_any s hs w h.1).mono fun _ _ h1 => ⟨h1.1, h.next h1.2⟩
theorem tell18 (h : Sn w0 w) : Calls Tryd.prog 18 #[.string s] w fun e w' => e = .returned (.string (strL (qL s.data.toList))) ∧ Sn w0 w' :=
  (q_any s hs w h.1).mono fun _ _ h1 => ⟨h1.1, h.next h1.2⟩
theorem tell20 (h : Sn w0 w) : Calls Tryd.prog 20 #[.string s] w fun e w' => e = .returned (.string (strL (unqL s.data.toList))) ∧ Sn w0 w' :=
  (unq_any s hs w h.1).mono fun _ _ h1 => ⟨h1.1, h.next h1.2⟩
theorem tell11 (h : Sn w0 w) : Calls Tryd.prog 11 #[.string s] w fun e w' => e = .returned (.string (strL (b64L s.data.toList))) ∧ Sn w0 w' :=
  (b64R_any s hs w).mono fun _ _ h1 => ⟨h1.1, h.next h1.2⟩
theorem tell13 (h : Sn w0 w) : Calls Tryd.prog 13 #[.string s] w fun e w' => e = .returned (.string (strL (unb64L s.data.toList))) ∧ Sn w0 w' :=
  (unb64R_any s hs w).mono fun _ _ h1 => ⟨h1.1, h.next h1.2⟩
theorem tell15 (h : Sn w0 w) : Calls Tryd.prog 15 #[.string s] w fun e w' => e = .returned (.string (strL (qpL s.data.toList))) ∧ Sn w0 w' :=
  (qpR_any s hs w).mono fun _ _ h1 => ⟨h1.1, h.next h1.2⟩
theorem tell17 (h : Sn w0 w) : Calls Tryd.prog 17 #[.string s] w fun e w' => e = .returned (.string (strL (unqpL s.data.toList))) ∧ Sn w0 w' :=
  (unqpR_any s hs w).mono fun _ _ h1 => ⟨h1.1, h.next h1.2⟩
theorem tell19 (h : Sn w0 w) : Calls Tryd.prog 19 #[.string s] w fun e w' => e = .returned (.string (strL (qL s.data.toList))) ∧ Sn w0 w' :=
  (qR_any s hs w).mono fun _ _ h1 => ⟨h1.1, h.next h1.2⟩
theorem tell21 (h : Sn w0 w) : Calls Tryd.prog 21 #[.string s] w fun e w' => e = .returned (.string (strL (unqL s.data.toList))) ∧ Sn w0 w' :=
  (unqR_any s hs w).mono fun _ _ h1 => ⟨h1.1, h.next h1.2⟩
end

set_option maxHeartbeats 4000000 in
set_option maxRecDepth 1000000 in
theorem tells_any (s : ByteArray) (w : World) (hv : Vars w) :
    Calls Tryd.prog 3 #[.string s] w fun e w' => e = .returned (.bool true) ∧ Below w.heap.size w w' := by
  have st := Sn.start hv
  by_cases hs : s.size ≤ 10000
  · have hm : s.size ≤ 1000000 := by omega
    go_enter Tryd.func3, Tryd.ntmps3
    go_wp2_with (first
      | (go_at_call 8; refine (small_is st).mono ?_; rintro e w' ⟨rfl, st⟩)
      | (go_at_call 9; refine (few_yes s hs _).mono ?_; rintro e w' ⟨rfl, rfl⟩)
      | (go_at_call 10; refine (tell10 s hm st).mono ?_; rintro e w' ⟨rfl, st⟩)
      | (go_at_call 11; refine (tell11 s hm st).mono ?_; rintro e w' ⟨rfl, st⟩)
      | (go_at_call 12; refine (tell12 s hm st).mono ?_; rintro e w' ⟨rfl, st⟩)
      | (go_at_call 13; refine (tell13 s hm st).mono ?_; rintro e w' ⟨rfl, st⟩)
      | (go_at_call 14; refine (tell14 s hm st).mono ?_; rintro e w' ⟨rfl, st⟩)
      | (go_at_call 15; refine (tell15 s hm st).mono ?_; rintro e w' ⟨rfl, st⟩)
      | (go_at_call 16; refine (tell16 s hm st).mono ?_; rintro e w' ⟨rfl, st⟩)
      | (go_at_call 17; refine (tell17 s hm st).mono ?_; rintro e w' ⟨rfl, st⟩)
      | (go_at_call 18; refine (tell18 s hm st).mono ?_; rintro e w' ⟨rfl, st⟩)
      | (go_at_call 19; refine (tell19 s hm st).mono ?_; rintro e w' ⟨rfl, st⟩)
      | (go_at_call 20; refine (tell20 s hm st).mono ?_; rintro e w' ⟨rfl, st⟩)
      | (go_at_call 21; refine (tell21 s hm st).mono ?_; rintro e w' ⟨rfl, st⟩))
    go_ret
    exact ⟨rfl, st.2⟩
  · go_enter Tryd.func3, Tryd.ntmps3
    go_wp2_with (first
      | (go_at_call 8; refine (small_is st).mono ?_; rintro e w' ⟨rfl, st⟩)
      | (go_at_call 9; refine (few_no s hs _).mono ?_; rintro e w' ⟨rfl, rfl⟩))
    go_ret
    exact ⟨rfl, st.2⟩
end Go.Proofs.YtblbajhjmdcdiaaDoor
