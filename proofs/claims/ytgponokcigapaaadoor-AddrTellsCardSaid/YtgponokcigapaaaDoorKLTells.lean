/- AddrTells of the program. -/
import Derived.Test.YtgponokcigapaaaDoorKASmall
import Derived.Test.YtgponokcigapaaaDoorK8
import Derived.Test.YtgponokcigapaaaDoorKRParse
namespace Go.Proofs.YtgponokcigapaaaDoor
open Go.ChangeShapes Go.WideShapes Go.ChangeAt Go.RowKit
open AdrP
theorem tells_law (s : ByteArray) (w : World) : Calls Tryd.prog 3 #[.string s] w fun e w' => e = .returned (.bool true) ∧ Below w.heap.size w w' := tells_any small_ok parse_ok rparse_ok ids_ok s w
end Go.Proofs.YtgponokcigapaaaDoor
