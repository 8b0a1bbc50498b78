/- AddrBack of the program. -/
import Derived.Test.YtgponokcigapaaaDoorKASmall
namespace Go.Proofs.YtgponokcigapaaaDoor
open Go.ChangeShapes Go.WideShapes Go.ChangeAt Go.RowKit
open AdrP
theorem back_law (v : Value) (l : List Adr) (w : World) (h : HasA w v l) (hl : l.length ≤ maxLen) : Calls Tryd.prog 5 #[v] w fun e w' => e = .returned (.bool true) ∧ Below w.heap.size w w' := back_any small_ok parse_ok right_ok write_ok v l w h (by unfold maxLen at hl; omega)
end Go.Proofs.YtgponokcigapaaaDoor
