/-
  NARROWER THAN 'FOR EVERY INPUT', by the rows' own cells (each row's printed sentence says how): CharsetTells: laid · CharsetRepairs: laid · CharsetDecodes: laid · CharsetParts: laid · CharsetBounds: laid.
  DERIVED. THE GIVEN ROWS OF THIS SEAT. 5 by the template 'for every input the law returns true; each argument reads behind the call as it read before'; 0 by the template 'total and deterministic' (their statements: YtbmnoneeialfpaaDoorTotals.lean).
  GIVEN WITH THE SEED: the statements are not yours to turn. If you find one false, say at which input.
  Laid BY PROGRAM, IN A SANDBOX (cutbox-rows.mjs): the forced cells as the released guide's own fill.sh prints them over the translation b09b6e2e90c24a22… (all of the seat's roots in one cut). By AI agents, Wed Nov 11 2026. No macro, syntax, notation, axiom, sorry.
-/
import Derived.Test.YtbmnoneeialfpaaDoorChecked
import GoSem.PinnedTables
import GoSem.Claim
import GoSem.ClaimJoined
import GoSem.ClaimMapViews
import Derived.JoinedTies
import Derived.KernelRfl
namespace Go.Proofs.YtbmnoneeialfpaaDoor
/- THE CELL 'sum', in the pinned program and in every row, IS THE sha256 OF THE DUMP (.gsa) THAT YtbmnoneeialfpaaDoorProg.lean LOADS. Nothing in Lean hashes anything: it is a label: what it is worth is what the hold of that sum in a sandbox is worth. -/
noncomputable def Tryd.pinned : Pinned := { name := "ytbmnoneeialfpaadoor", sum := "b09b6e2e90c24a227144e656615b69f9062b9cc25f0ce24b1a3d52cb6639343c", checked := Tryd.checked }
namespace Rows
def none {H : Type} : Left H := { results := [], args := [] }

/- WHAT THE LISTED PACKAGE-LEVEL VARIABLES READ AS WHEN THE CALL BEGINS. Each datum BY PROGRAM (the guide's laid-datum.mjs) off the statement by which the dump's own 'gosem.cut.vars' lays the variable. In a bare row this is a premise. The card (YtbmnoneeialfpaaDoorCards.lean) ties it to the program's text. -/
def laid_unicode_utf8_acceptRanges {H : Type} : DataW H := .agg [.agg [.lit (.int .u8 128), .lit (.int .u8 191)], .agg [.lit (.int .u8 160), .lit (.int .u8 191)], .agg [.lit (.int .u8 128), .lit (.int .u8 159)], .agg [.lit (.int .u8 144), .lit (.int .u8 191)], .agg [.lit (.int .u8 128), .lit (.int .u8 143)], .agg [.lit (.int .u8 0), .lit (.int .u8 0)], .agg [.lit (.int .u8 0), .lit (.int .u8 0)], .agg [.lit (.int .u8 0), .lit (.int .u8 0)], .agg [.lit (.int .u8 0), .lit (.int .u8 0)], .agg [.lit (.int .u8 0), .lit (.int .u8 0)], .agg [.lit (.int .u8 0), .lit (.int .u8 0)], .agg [.lit (.int .u8 0), .lit (.int .u8 0)], .agg [.lit (.int .u8 0), .lit (.int .u8 0)], .agg [.lit (.int .u8 0), .lit (.int .u8 0)], .agg [.lit (.int .u8 0), .lit (.int .u8 0)], .agg [.lit (.int .u8 0), .lit (.int .u8 0)]]
def laid_pouch_charset_windowsPoints {H : Type} : DataW H := .agg [.lit (.int .u16 8364), .lit (.int .u16 129), .lit (.int .u16 8218), .lit (.int .u16 402), .lit (.int .u16 8222), .lit (.int .u16 8230), .lit (.int .u16 8224), .lit (.int .u16 8225), .lit (.int .u16 710), .lit (.int .u16 8240), .lit (.int .u16 352), .lit (.int .u16 8249), .lit (.int .u16 338), .lit (.int .u16 141), .lit (.int .u16 381), .lit (.int .u16 143), .lit (.int .u16 144), .lit (.int .u16 8216), .lit (.int .u16 8217), .lit (.int .u16 8220), .lit (.int .u16 8221), .lit (.int .u16 8226), .lit (.int .u16 8211), .lit (.int .u16 8212), .lit (.int .u16 732), .lit (.int .u16 8482), .lit (.int .u16 353), .lit (.int .u16 8250), .lit (.int .u16 339), .lit (.int .u16 157), .lit (.int .u16 382), .lit (.int .u16 376)]
/-- One of Go's own tables, pinned by name: the form's constant. -/
def laid_unicode_utf8_first : DataW Unit := Go.Pinned.utf8First

/-- 'pouchlaw04.CharsetTells': WHATEVER THE INPUT: true; the input reads as it did. -/
def charsetTellsSpec : ChangeSpec := { name := "charsetTells", fn := fun _ => fun
  | [d1, d2, d3] => { results := [.lit (.bool true)], args := [d1, d2, d3] }
  | _ => none }
def charsetTellsRow : OpenClaim := { program := "ytbmnoneeialfpaadoor", sum := "b09b6e2e90c24a227144e656615b69f9062b9cc25f0ce24b1a3d52cb6639343c", func := "pouch/pouchlaw04.CharsetTells", spec := "charsetTells", inPlace := ["internal/abi.NoEscape", "internal/bytealg.MakeNoZero"], unfollowed := true, recurses := true, named := ["pouch/charset.windowsPoints", "unicode/utf8.first", "unicode/utf8.acceptRanges"], apart := false, laid := [("unicode/utf8.acceptRanges", laid_unicode_utf8_acceptRanges), ("pouch/charset.windowsPoints", laid_pouch_charset_windowsPoints), ("unicode/utf8.first", laid_unicode_utf8_first)] }
def CharsetTellsSaid : Prop := charsetTellsRow.holds Tryd.pinned (OpenSpec.ofChange charsetTellsSpec)

/-- ITS FALSE NEIGHBOUR: 'it returns false'. Refute it at one input. -/
def charsetTellsWrong : ChangeSpec := { name := "charsetTells", fn := fun _ => fun
  | [d1, d2, d3] => { results := [.lit (.bool false)], args := [d1, d2, d3] }
  | _ => none }
def CharsetTellsWrongFalsely : Prop := charsetTellsRow.holds Tryd.pinned (OpenSpec.ofChange charsetTellsWrong)

/-- 'pouchlaw04.CharsetRepairs': WHATEVER THE INPUT: true; the input reads as it did. -/
def charsetRepairsSpec : ChangeSpec := { name := "charsetRepairs", fn := fun _ => fun
  | [d] => { results := [.lit (.bool true)], args := [d] }
  | _ => none }
def charsetRepairsRow : OpenClaim := { program := "ytbmnoneeialfpaadoor", sum := "b09b6e2e90c24a227144e656615b69f9062b9cc25f0ce24b1a3d52cb6639343c", func := "pouch/pouchlaw04.CharsetRepairs", spec := "charsetRepairs", inPlace := ["internal/abi.NoEscape", "internal/bytealg.MakeNoZero"], unfollowed := true, recurses := true, named := ["pouch/charset.windowsPoints", "unicode/utf8.first", "unicode/utf8.acceptRanges"], apart := false, laid := [("unicode/utf8.acceptRanges", laid_unicode_utf8_acceptRanges), ("pouch/charset.windowsPoints", laid_pouch_charset_windowsPoints), ("unicode/utf8.first", laid_unicode_utf8_first)] }
def CharsetRepairsSaid : Prop := charsetRepairsRow.holds Tryd.pinned (OpenSpec.ofChange charsetRepairsSpec)

/-- ITS FALSE NEIGHBOUR: 'it returns false'. Refute it at one input. -/
def charsetRepairsWrong : ChangeSpec := { name := "charsetRepairs", fn := fun _ => fun
  | [d] => { results := [.lit (.bool false)], args := [d] }
  | _ => none }
def CharsetRepairsWrongFalsely : Prop := charsetRepairsRow.holds Tryd.pinned (OpenSpec.ofChange charsetRepairsWrong)

/-- 'pouchlaw04.CharsetDecodes': WHATEVER THE INPUT: true; the input reads as it did. -/
def charsetDecodesSpec : ChangeSpec := { name := "charsetDecodes", fn := fun _ => fun
  | [d1, d2] => { results := [.lit (.bool true)], args := [d1, d2] }
  | _ => none }
def charsetDecodesRow : OpenClaim := { program := "ytbmnoneeialfpaadoor", sum := "b09b6e2e90c24a227144e656615b69f9062b9cc25f0ce24b1a3d52cb6639343c", func := "pouch/pouchlaw04.CharsetDecodes", spec := "charsetDecodes", inPlace := ["internal/abi.NoEscape", "internal/bytealg.MakeNoZero"], unfollowed := true, recurses := true, named := ["pouch/charset.windowsPoints", "unicode/utf8.first", "unicode/utf8.acceptRanges"], apart := false, laid := [("unicode/utf8.acceptRanges", laid_unicode_utf8_acceptRanges), ("pouch/charset.windowsPoints", laid_pouch_charset_windowsPoints), ("unicode/utf8.first", laid_unicode_utf8_first)] }
def CharsetDecodesSaid : Prop := charsetDecodesRow.holds Tryd.pinned (OpenSpec.ofChange charsetDecodesSpec)

/-- ITS FALSE NEIGHBOUR: 'it returns false'. Refute it at one input. -/
def charsetDecodesWrong : ChangeSpec := { name := "charsetDecodes", fn := fun _ => fun
  | [d1, d2] => { results := [.lit (.bool false)], args := [d1, d2] }
  | _ => none }
def CharsetDecodesWrongFalsely : Prop := charsetDecodesRow.holds Tryd.pinned (OpenSpec.ofChange charsetDecodesWrong)

/-- 'pouchlaw04.CharsetParts': WHATEVER THE INPUT: true; the input reads as it did. -/
def charsetPartsSpec : ChangeSpec := { name := "charsetParts", fn := fun _ => fun
  | [d1, d2] => { results := [.lit (.bool true)], args := [d1, d2] }
  | _ => none }
def charsetPartsRow : OpenClaim := { program := "ytbmnoneeialfpaadoor", sum := "b09b6e2e90c24a227144e656615b69f9062b9cc25f0ce24b1a3d52cb6639343c", func := "pouch/pouchlaw04.CharsetParts", spec := "charsetParts", inPlace := ["internal/abi.NoEscape", "internal/bytealg.MakeNoZero"], unfollowed := true, recurses := true, named := ["pouch/charset.windowsPoints", "unicode/utf8.first", "unicode/utf8.acceptRanges"], apart := false, laid := [("unicode/utf8.acceptRanges", laid_unicode_utf8_acceptRanges), ("pouch/charset.windowsPoints", laid_pouch_charset_windowsPoints), ("unicode/utf8.first", laid_unicode_utf8_first)] }
def CharsetPartsSaid : Prop := charsetPartsRow.holds Tryd.pinned (OpenSpec.ofChange charsetPartsSpec)

/-- ITS FALSE NEIGHBOUR: 'it returns false'. Refute it at one input. -/
def charsetPartsWrong : ChangeSpec := { name := "charsetParts", fn := fun _ => fun
  | [d1, d2] => { results := [.lit (.bool false)], args := [d1, d2] }
  | _ => none }
def CharsetPartsWrongFalsely : Prop := charsetPartsRow.holds Tryd.pinned (OpenSpec.ofChange charsetPartsWrong)

/-- 'pouchlaw04.CharsetBounds': WHATEVER THE INPUT: true; the input reads as it did. -/
def charsetBoundsSpec : ChangeSpec := { name := "charsetBounds", fn := fun _ => fun
  | [d] => { results := [.lit (.bool true)], args := [d] }
  | _ => none }
def charsetBoundsRow : OpenClaim := { program := "ytbmnoneeialfpaadoor", sum := "b09b6e2e90c24a227144e656615b69f9062b9cc25f0ce24b1a3d52cb6639343c", func := "pouch/pouchlaw04.CharsetBounds", spec := "charsetBounds", inPlace := ["internal/abi.NoEscape", "internal/bytealg.MakeNoZero"], unfollowed := true, recurses := true, named := ["pouch/charset.windowsPoints", "unicode/utf8.first", "unicode/utf8.acceptRanges"], apart := false, laid := [("unicode/utf8.acceptRanges", laid_unicode_utf8_acceptRanges), ("pouch/charset.windowsPoints", laid_pouch_charset_windowsPoints), ("unicode/utf8.first", laid_unicode_utf8_first)] }
def CharsetBoundsSaid : Prop := charsetBoundsRow.holds Tryd.pinned (OpenSpec.ofChange charsetBoundsSpec)

/-- ITS FALSE NEIGHBOUR: 'it returns false'. Refute it at one input. -/
def charsetBoundsWrong : ChangeSpec := { name := "charsetBounds", fn := fun _ => fun
  | [d] => { results := [.lit (.bool false)], args := [d] }
  | _ => none }
def CharsetBoundsWrongFalsely : Prop := charsetBoundsRow.holds Tryd.pinned (OpenSpec.ofChange charsetBoundsWrong)

/- THE SECOND FORM. 'bulk': how many values and letters a reading holds, each counted each time it is reached (what is shared counts as often as it is met; a slice's spare places count too). A statement '..UptoSaid' is the law's where the arguments, and the package variables that the reading takes, are together of bulk at most 1048576: NARROWER than '..Said'. Prove '..Said' where nothing that the law and all that it calls make is longer than what came in: it says more and counts as full. Else prove '..UptoSaid'. A law counts once. -/
mutual
def uptoBulk {H : Type} : DataW H → Nat
  | .lit (.string bytes) => bytes.length + 1
  | .lit _ => 1
  | .nil => 1
  | .ptr d => uptoBulk d + 1
  | .slice elems spare => uptoBulkAll elems + uptoBulkAll spare + 1
  | .agg parts => uptoBulkAll parts + 1
  | .iface _ d => uptoBulk d + 1
  | .map entries => uptoBulkEntries entries + 1
  | .held _ => 1
def uptoBulkAll {H : Type} : List (DataW H) → Nat
  | [] => 0
  | d :: r => uptoBulk d + uptoBulkAll r
def uptoBulkEntries {H : Type} : List (Lit × DataW H) → Nat
  | [] => 0
  | x :: r => uptoBulkEntry x + uptoBulkEntries r
def uptoBulkEntry {H : Type} : Lit × DataW H → Nat
  | (.string bytes, d) => bytes.length + uptoBulk d + 1
  | (_, d) => uptoBulk d + 1
 end
def uptoSmall : (H : Type) → List (DataW H) → Bool := fun _ ds => decide (uptoBulkAll ds ≤ 1048576)
def OpenSpec.upto (s : _root_.Go.ChangeSpec) : _root_.Go.OpenSpec := { _root_.Go.OpenSpec.ofChange s with cond := some uptoSmall }

/-- 'pouchlaw04.CharsetTells', WHERE WHAT IT READS IS OF BULK AT MOST 1048576: true; the input reads as it did. -/
def charsetTellsUptoRow : OpenClaim := { program := "ytbmnoneeialfpaadoor", sum := "b09b6e2e90c24a227144e656615b69f9062b9cc25f0ce24b1a3d52cb6639343c", func := "pouch/pouchlaw04.CharsetTells", spec := "charsetTells", inPlace := ["internal/abi.NoEscape", "internal/bytealg.MakeNoZero"], unfollowed := true, recurses := true, named := ["pouch/charset.windowsPoints", "unicode/utf8.first", "unicode/utf8.acceptRanges"], apart := false, laid := [("unicode/utf8.acceptRanges", laid_unicode_utf8_acceptRanges), ("pouch/charset.windowsPoints", laid_pouch_charset_windowsPoints), ("unicode/utf8.first", laid_unicode_utf8_first)], narrowed := true }
def CharsetTellsUptoSaid : Prop := charsetTellsUptoRow.holds Tryd.pinned (OpenSpec.upto charsetTellsSpec)

/-- 'pouchlaw04.CharsetRepairs', WHERE WHAT IT READS IS OF BULK AT MOST 1048576: true; the input reads as it did. -/
def charsetRepairsUptoRow : OpenClaim := { program := "ytbmnoneeialfpaadoor", sum := "b09b6e2e90c24a227144e656615b69f9062b9cc25f0ce24b1a3d52cb6639343c", func := "pouch/pouchlaw04.CharsetRepairs", spec := "charsetRepairs", inPlace := ["internal/abi.NoEscape", "internal/bytealg.MakeNoZero"], unfollowed := true, recurses := true, named := ["pouch/charset.windowsPoints", "unicode/utf8.first", "unicode/utf8.acceptRanges"], apart := false, laid := [("unicode/utf8.acceptRanges", laid_unicode_utf8_acceptRanges), ("pouch/charset.windowsPoints", laid_pouch_charset_windowsPoints), ("unicode/utf8.first", laid_unicode_utf8_first)], narrowed := true }
def CharsetRepairsUptoSaid : Prop := charsetRepairsUptoRow.holds Tryd.pinned (OpenSpec.upto charsetRepairsSpec)

/-- 'pouchlaw04.CharsetDecodes', WHERE WHAT IT READS IS OF BULK AT MOST 1048576: true; the input reads as it did. -/
def charsetDecodesUptoRow : OpenClaim := { program := "ytbmnoneeialfpaadoor", sum := "b09b6e2e90c24a227144e656615b69f9062b9cc25f0ce24b1a3d52cb6639343c", func := "pouch/pouchlaw04.CharsetDecodes", spec := "charsetDecodes", inPlace := ["internal/abi.NoEscape", "internal/bytealg.MakeNoZero"], unfollowed := true, recurses := true, named := ["pouch/charset.windowsPoints", "unicode/utf8.first", "unicode/utf8.acceptRanges"], apart := false, laid := [("unicode/utf8.acceptRanges", laid_unicode_utf8_acceptRanges), ("pouch/charset.windowsPoints", laid_pouch_charset_windowsPoints), ("unicode/utf8.first", laid_unicode_utf8_first)], narrowed := true }
def CharsetDecodesUptoSaid : Prop := charsetDecodesUptoRow.holds Tryd.pinned (OpenSpec.upto charsetDecodesSpec)

/-- 'pouchlaw04.CharsetParts', WHERE WHAT IT READS IS OF BULK AT MOST 1048576: true; the input reads as it did. -/
def charsetPartsUptoRow : OpenClaim := { program := "ytbmnoneeialfpaadoor", sum := "b09b6e2e90c24a227144e656615b69f9062b9cc25f0ce24b1a3d52cb6639343c", func := "pouch/pouchlaw04.CharsetParts", spec := "charsetParts", inPlace := ["internal/abi.NoEscape", "internal/bytealg.MakeNoZero"], unfollowed := true, recurses := true, named := ["pouch/charset.windowsPoints", "unicode/utf8.first", "unicode/utf8.acceptRanges"], apart := false, laid := [("unicode/utf8.acceptRanges", laid_unicode_utf8_acceptRanges), ("pouch/charset.windowsPoints", laid_pouch_charset_windowsPoints), ("unicode/utf8.first", laid_unicode_utf8_first)], narrowed := true }
def CharsetPartsUptoSaid : Prop := charsetPartsUptoRow.holds Tryd.pinned (OpenSpec.upto charsetPartsSpec)

/-- 'pouchlaw04.CharsetBounds', WHERE WHAT IT READS IS OF BULK AT MOST 1048576: true; the input reads as it did. -/
def charsetBoundsUptoRow : OpenClaim := { program := "ytbmnoneeialfpaadoor", sum := "b09b6e2e90c24a227144e656615b69f9062b9cc25f0ce24b1a3d52cb6639343c", func := "pouch/pouchlaw04.CharsetBounds", spec := "charsetBounds", inPlace := ["internal/abi.NoEscape", "internal/bytealg.MakeNoZero"], unfollowed := true, recurses := true, named := ["pouch/charset.windowsPoints", "unicode/utf8.first", "unicode/utf8.acceptRanges"], apart := false, laid := [("unicode/utf8.acceptRanges", laid_unicode_utf8_acceptRanges), ("pouch/charset.windowsPoints", laid_pouch_charset_windowsPoints), ("unicode/utf8.first", laid_unicode_utf8_first)], narrowed := true }
def CharsetBoundsUptoSaid : Prop := charsetBoundsUptoRow.holds Tryd.pinned (OpenSpec.upto charsetBoundsSpec)

end Rows
end Go.Proofs.YtbmnoneeialfpaaDoor
