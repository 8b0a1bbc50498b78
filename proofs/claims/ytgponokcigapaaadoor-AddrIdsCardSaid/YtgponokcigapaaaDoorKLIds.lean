/- AddrIds of the program. -/
import Derived.Test.YtgponokcigapaaaDoorKASmall
import Derived.Test.YtgponokcigapaaaDoorKAIdsL
namespace Go.Proofs.YtgponokcigapaaaDoor
open Go.ChangeShapes Go.WideShapes Go.ChangeAt Go.RowKit
open AdrP
theorem ids_law (u v : Value) (is bs : List (List UInt8)) (w : World) (hu : Has strV w u is) (hv : Has strV w v bs) (hi : is.length ≤ maxLen) (hb : bs.length ≤ maxLen) : Calls Tryd.prog 8 #[u, v] w fun e w' => e = .returned (.bool true) ∧ Below w.heap.size w w' := idsl_any small_ok ids_ok u v is bs w hu hv (by unfold maxLen at hi; omega) (by unfold maxLen at hb; omega)
end Go.Proofs.YtgponokcigapaaaDoor
