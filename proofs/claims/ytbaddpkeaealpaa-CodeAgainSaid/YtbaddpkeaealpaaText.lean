/- Reader.Text, and both functions that make a Reader. -/
import Derived.Test.YtbaddpkeaealpaaRNum
namespace Go.Proofs.Ytbaddpkeaealpaa
open Go.ChangeShapes Go.WideShapes Go.ChangeAt Go.RowKit

theorem text_any {b : Nat} {s : RS} {w : World} (h : Rd 57 w b s) :
    Calls Try.prog 23 #[.pointer (some ⟨b, 0, none⟩)] w fun e w' => e = .returned (.string ⟨(textP s).1.toArray⟩) ∧ Rd 57 w' b (textP s).2 ∧ w.grownBy w' (some b) := by
  have HH := Lib.hid h
  clear h
  go_enter Try.func23, Try.ntmps23
  go_wp2_with fail
  refine (num_any HH.out).mono ?_
  rintro e w1 ⟨rfl, h1, g1⟩
  go_wp2_with fail
  refine (take_any _ h1).mono ?_
  rintro e w2 ⟨rfl, h2, g2⟩
  go_wp2_with fail
  go_ret
  exact ⟨rfl, h2, grown_trans g1 g2⟩
theorem textR_any {b : Nat} {s : RS} {w : World} (h : Rd 59 w b s) (hs : s.1.length ≤ 140737488355328) (hg : Good s) :
    Calls Try.prog 24 #[.pointer (some ⟨b, 0, none⟩)] w fun e w' => e = .returned (.string ⟨(textP s).1.toArray⟩) ∧ Rd 59 w' b (textP s).2 ∧ w.grownBy w' (some b) := by
  have HH := Lib.hid h
  have HG := Lib.hid hg
  have HS := Lib.hid hs
  clear h hg hs
  go_enter Try.func24, Try.ntmps24
  go_wp2_with fail
  refine (numR_any HH.out HS.out).mono ?_
  rintro e w1 ⟨rfl, h1, g1⟩
  go_wp2_with fail
  refine (takeR_any _ h1 (numP_good HG.out)).mono ?_
  rintro e w2 ⟨rfl, h2, g2⟩
  go_wp2_with fail
  go_ret
  exact ⟨rfl, h2, grown_trans g1 g2⟩

theorem open_any (s : ByteArray) (w : World) :
    Calls Try.prog 19 #[.string s] w fun e w' => e = .returned (.pointer (some ⟨w.heap.size, 0, none⟩)) ∧ Rd 57 w' w.heap.size (s.data.toList, false) ∧ w.grownBy w' none := by
  go_enter Try.func19, Try.ntmps19
  go_wp2_with fail
  go_ret
  exact ⟨rfl, heap_alloc_new w _, World.grownBy_alloc w _ none⟩
theorem openR_any (s : ByteArray) (w : World) :
    Calls Try.prog 20 #[.string s] w fun e w' => e = .returned (.pointer (some ⟨w.heap.size, 0, none⟩)) ∧ Rd 59 w' w.heap.size (s.data.toList, false) ∧ w.grownBy w' none := by
  go_enter Try.func20, Try.ntmps20
  go_wp2_with fail
  go_ret
  exact ⟨rfl, heap_alloc_new w _, World.grownBy_alloc w _ none⟩
end Go.Proofs.Ytbaddpkeaealpaa
