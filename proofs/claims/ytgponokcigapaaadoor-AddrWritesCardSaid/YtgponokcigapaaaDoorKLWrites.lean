/- AddrWrites of the program. -/
import Derived.Test.YtgponokcigapaaaDoorKASmall
import Derived.Test.YtgponokcigapaaaDoorK8
import Derived.Test.YtgponokcigapaaaDoorKARWrite
import Derived.Test.YtgponokcigapaaaDoorKARight
import Derived.Test.YtgponokcigapaaaDoorK7
import Derived.Test.YtgponokcigapaaaDoorK6
namespace Go.Proofs.YtgponokcigapaaaDoor
open Go.ChangeShapes Go.WideShapes Go.ChangeAt Go.RowKit
open AdrP
theorem writes_law (v : Value) (l : List Adr) (w : World) (h : HasA w v l) (hl : l.length ≤ maxLen) : Calls Tryd.prog 4 #[v] w fun e w' => e = .returned (.bool true) ∧ Below w.heap.size w w' := writes_any small_ok right_ok canon_ok write_ok rright_ok rcanon_ok rwrite_ok v l w h (by unfold maxLen at hl; omega)
end Go.Proofs.YtgponokcigapaaaDoor
