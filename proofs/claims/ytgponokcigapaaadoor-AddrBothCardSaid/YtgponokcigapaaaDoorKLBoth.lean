/- AddrBoth, AddrBlanks of the program. -/
import Derived.Test.YtgponokcigapaaaDoorKASmall
import Derived.Test.YtgponokcigapaaaDoorK4
namespace Go.Proofs.YtgponokcigapaaaDoor
open Go.ChangeShapes Go.WideShapes Go.ChangeAt Go.RowKit
theorem both_law (s t : ByteArray) (w : World) : Calls Tryd.prog 6 #[.string s, .string t] w fun e w' => e = .returned (.bool true) ∧ Below w.heap.size w w' := both_any small_ok parse_ok s t w
theorem blanks_law (s : ByteArray) (q : Int) (w : World) : Calls Tryd.prog 7 #[.string s, .int .i64 q] w fun e w' => e = .returned (.bool true) ∧ Below w.heap.size w w' := blanks_any small_ok parse_ok s q w
end Go.Proofs.YtgponokcigapaaaDoor
