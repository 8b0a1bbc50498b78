/- What the rows' list of package-level variables gives the walks, and a world in which they are laid. -/
import Derived.Test.YtdinachiiimngaaGreatDoorCards
import Derived.Test.YtdinachiiimngaaGreatDoorTie
import Derived.Test.YtdinachiiimngaaGreatDoorK8
import Derived.Lib.LaidU8T
import Derived.Lib.LaidTab
import Derived.Lay
import Derived.OpenShut
import Derived.Carry
import Derived.Deep.DeepHandedRow
import Derived.Stop.LaidErr
namespace Go.Proofs.YtdinachiiimngaaGreatDoor
open Go.ChangeShapes Go.WideShapes Go.ChangeAt Go.RowKit

theorem own : ownKnob Tryz.prog.godebug = none := by kernel_rfl
theorem laidOut : laidOutB Tryz.prog = true := by kernel_rfl
/-- The numbers of the decoder's tables and their types. -/
def ren8 : Go.Shelf.Ren := ⟨fun n => n, fun | 5 => 5 | 119 => 130 | 138 => 132 | 139 => 133 | n => n, fun | 3 => 0 | 4 => 1 | n => n⟩
theorem u8_types : U8Types Tryz.prog ren8 := ⟨Tryz.underlying5, Tryz.underlying130, Tryz.underlying132, Tryz.underlying133⟩
theorem u8_extra : U8Extra Tryz.prog ren8 where
  n3 := by kernel_rfl
  n4 := by kernel_rfl
  y3 := by kernel_rfl
  y4 := by kernel_rfl
  c5 := by kernel_rfl
  c119 := by kernel_rfl
  c138 := by kernel_rfl
theorem gWin : Tryz.prog.globalNamed "pouch/charset.windowsPoints" = some 4 := by kernel_rfl
theorem gWinType : (Tryz.prog.globals[4]?).map (·.type) = some 187 := by kernel_rfl
theorem cellsWin : Tryz.prog.cellsOf 187 = 32 := by kernel_rfl
theorem cellsU16 : Tryz.prog.cellsOf 186 = 1 := by kernel_rfl
theorem gPow : Tryz.prog.globalNamed "internal/strconv.uint64pow10" = some 3 := by kernel_rfl
theorem gPowType : (Tryz.prog.globals[3]?).map (·.type) = some 177 := by kernel_rfl
theorem cellsPow : Tryz.prog.cellsOf 177 = 20 := by kernel_rfl
theorem cellsU64 : Tryz.prog.cellsOf 156 = 1 := by kernel_rfl
theorem star : "*" ++ "errors.errorString" = "*errors.errorString" := by decide
theorem typeRow (u : TypeId) (h : Tryz.prog.typeName? 3 u = some "*errors.errorString") : u = 204 :=
  typeName_ptr_named (nm := "errors.errorString") (by rw [star]; kernel_rfl) (by kernel_rfl) (by decide) u (by rw [star]; exact h)
theorem first_data : Rows.laid_unicode_utf8_first = Lib.firstData := by kernel_rfl
theorem accept_data : (Rows.laid_unicode_utf8_acceptRanges : DataW Unit) = Lib.acceptData := by kernel_rfl
theorem win_data : (Rows.laid_pouch_charset_windowsPoints : DataW Unit) = Lib.tabData .u16 (Cs.winL.map fun n : Nat => (n : Int)) := by kernel_rfl
theorem num_of {W : World} (h : laidMet Tryz.prog Rows.ctypeTellsRow.laid W) : Nu.Vars W := by
  refine ⟨Lib.tabIs_of_head gPow gPowType Tryz.underlying177 Tryz.underlying156 cellsU64 cellsPow (show laidMet Tryz.prog (("internal/strconv.uint64pow10", Lib.tabData .u64 Lib.pow10Tab) :: _) W from h.tail.tail), ?_, ?_⟩
  · obtain ⟨a, s, hv, _⟩ := laid_sentinel (g := 6) (ti := 63) (tp := 204) (te := 206) (ts := 9) h.tail.tail.tail.tail.tail (by kernel_rfl) (by kernel_rfl) Tryz.underlying63 (fun u hu => typeRow u hu) Tryz.underlying204 Tryz.underlying206 rfl rfl Tryz.underlying9 (by kernel_rfl) (by kernel_rfl)
    exact ⟨_, _, hv⟩
  · obtain ⟨a, s, hv, _⟩ := laid_sentinel (g := 7) (ti := 63) (tp := 204) (te := 206) (ts := 9) h.tail.tail.tail.tail (by kernel_rfl) (by kernel_rfl) Tryz.underlying63 (fun u hu => typeRow u hu) Tryz.underlying204 Tryz.underlying206 rfl rfl Tryz.underlying9 (by kernel_rfl) (by kernel_rfl)
    exact ⟨_, _, hv⟩
theorem set_of {W : World} (h : laidMet Tryz.prog Rows.ctypeTellsRow.laid W) : Cs.Vars W := by
  have h0 : Lib.VarReads Tryz.prog W "unicode/utf8.first" Rows.laid_unicode_utf8_first := Lib.laidMet.reads h (by simp [Rows.ctypeTellsRow])
  have h1 : Lib.VarReads Tryz.prog W "unicode/utf8.acceptRanges" Rows.laid_unicode_utf8_acceptRanges := Lib.laidMet.reads h (by simp [Rows.ctypeTellsRow])
  have h2 : Lib.VarReads Tryz.prog W "pouch/charset.windowsPoints" Rows.laid_pouch_charset_windowsPoints := Lib.laidMet.reads h (by simp [Rows.ctypeTellsRow])
  rw [first_data] at h0
  rw [accept_data] at h1
  rw [win_data] at h2
  refine ⟨utf8Tabs_of_readsT u8_types u8_extra h0 h1, fun i hi => ?_⟩
  obtain ⟨g, t, cs, fuel, p, hg, hty, hvar, hd⟩ := h2
  obtain rfl := Option.some.inj (gWin.symm.trans hg)
  obtain rfl := Option.some.inj (gWinType.symm.trans hty)
  have hcs := Lib.cells_of_tab Tryz.underlying187 Tryz.underlying186 cellsU16 cellsWin hd
  have := World.var?_cell hg hvar i
  rw [this, ← Array.getElem?_toList, hcs, List.map_map, List.getElem?_map]
  have hl : i < Cs.winL.length := hi
  rw [List.getElem?_eq_getElem hl, List.getD_eq_getElem?_getD, List.getElem?_eq_getElem hl]
  rfl
theorem vars_of {W : World} (h : laidMet Tryz.prog Rows.ctypeTellsRow.laid W) : Vr W := ⟨num_of h, set_of h⟩

/-- A world for the witness: the settled one, the listed variables as their initialisers lay them. -/
noncomputable def laidWorld (os : Os) : World := World.laidAll Tryz.prog os Rows.ctypeTellsRow.laid
theorem laid_met (os : Os) (args : Array Value) : laidMet Tryz.prog Rows.ctypeTellsRow.laid ((laidWorld os).forCall (fun _ _ => 0) ⟨#[], args, []⟩).memory :=
  laidMet_laidAll _ (by kernel_rfl) (by kernel_rfl)
theorem laid_shaped (os : Os) (args : Array Value) : ((laidWorld os).forCall (fun _ _ => 0) ⟨#[], args, []⟩).Shaped Tryz.prog :=
  World.shaped_of_ZipB (by kernel_rfl) (by kernel_rfl)
section
variable {H : Type} {enc : TypeId × Value → H}
/-- There is an input that fits. -/
theorem witness_zip {C : Checked} {os : Os} {f : FuncId} {fn : Func} {s : OpenSpec} {conds : List PathCond} {apart : Bool} {laid : List (String × DataW Unit)} (modest : Bool) (w0 : World) (args : Array Value) (hos : w0.os = os)
    (hsh : (w0.forCall (fun _ _ => 0) ⟨#[], args, []⟩).Shaped C.prog)
    (hok : Input.okWideB C.prog (w0.forCall (fun _ _ => 0) ⟨#[], args, []⟩) f ⟨#[], args, []⟩ = true)
    (hrow : s.preRow enc C.prog fn conds apart laid (w0.forCall (fun _ _ => 0) ⟨#[], args, []⟩).memory args) :
    ∃ (w : World) (tape : Tape) (i : Input), w.os = os ∧ (w.forCall tape i).Shaped C.prog ∧ i.vars = [] ∧ Input.okWide C.prog (w.forCall tape i) .any w.heap.size f i ∧
      s.preRow enc C.prog fn conds apart laid (w.forCall tape i).memory i.args ∧ ({ modest := modest } : Assume).holds C.prog (lone (Frame.enter C.prog f i.args .normal) [] (w.forCall tape i)) :=
  ⟨w0, fun _ _ => 0, ⟨#[], args, []⟩, hos, hsh, (Input.okWide_of_okWideB (base := 0) hok).1, (Input.okWide_of_okWideB hok).2, hrow, by
    simp only [Assume.holds]
    exact ⟨by simp, by simp, fun _ => Modest.zero, by simp, by simp⟩⟩
end
end Go.Proofs.YtdinachiiimngaaGreatDoor
