/- What a world of the program's shape gives package header. -/
import Derived.Test.YtdinachiiimngaaGreatDoorKLaid
import Derived.Test.YtdinachiiimngaaGreatDoorK15
import Derived.ShapedOpen
namespace Go.Proofs.YtdinachiiimngaaGreatDoor
open Go.ChangeShapes Go.WideShapes Go.ChangeAt Go.RowKit

theorem hd_of {W : World} (hs : W.ShapedOpen Tryz.prog) : Hd.Vars W :=
  cell_of_shapedOpen_int (P := Tryz.prog) (g := 2) (t := 3) (zero := #[.int .i64 0]) hs (of_decide_eq_true (by kernel_rfl)) (by kernel_rfl) rfl (by kernel_rfl) (by kernel_rfl) Tryz.underlying3
end Go.Proofs.YtdinachiiimngaaGreatDoor
