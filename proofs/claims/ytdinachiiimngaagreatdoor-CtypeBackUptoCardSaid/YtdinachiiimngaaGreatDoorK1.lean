/- The contracts of the library's functions that this proof uses, stated in this translation's numbers. What the contracts share: strings as lists of bytes, slices that can be read. Tokens of header fields, of no program: scanning, values, quoting, and the stage's laws of them. Tokens of header fields, of no program: what stands behind whole tokens, neighbours, values and quoting. Tokens of header fields, of no program: strings that need no quotes. Single bytes: white space, specials, atom bytes, the program's. enclosed: where an opened token closes. Slices of tokens: in a block of their own, or read at an address; tokens as values. Mail addresses, of no program: what stands behind whole tokens; pieces, addr-specs, addresses. Mail addresses, of no program: pieces, addr-specs, addresses; two fields joined; blanks between tokens. -/
import Derived.Shelf.Strings.Builder1
import Derived.Shelf.Strings.Builder2
import Derived.Shelf.Strings.OnBuilder
import Derived.Shelf.Small.Utf8
import Derived.Shelf.Small.Strs
import Derived.Shelf.Small.Wraps
import Derived.Shelf.Strings.BuilderF
import Derived.Shelf.Strings.BuilderK
import Derived.Shelf.Strings.BuilderRune
import Derived.Shelf.Strconv.Atoi
import Derived.Shelf.Strconv.Itoa0
import Derived.Shelf.Strconv.Itoa1
import Derived.Shelf.LaysM
import Derived.Shelf.Strconv.Itoa2
import Derived.Shelf.Strconv.Itoa3
import Derived.Shelf.Strconv.AtoiErrFast
import Derived.Shelf.Strconv.ParseIntEmpty
import Derived.Shelf.Strconv.AtoiFail
import Derived.Shelf.Strconv.Clone
import Derived.Shelf.Strconv.SyntaxError
import Derived.Shelf.LaysC
import Derived.Shelf.Strconv.ToError
import Derived.Shelf.Strconv.Lower
import Derived.Shelf.Strconv.ParseUint10
import Derived.Shelf.Strconv.ParseUint10Empty
import Derived.Shelf.Strconv.ParseUint10Any
import Derived.Shelf.Strconv.ParseInt10
import Derived.Shelf.Strconv.AtoiLong
import Derived.Shelf.Strconv.AtoiInnerAll
import Derived.Shelf.Strconv.RangeError
import Derived.Shelf.Strconv.ToErrorRange
import Derived.Shelf.Strconv.AtoiAll
import Derived.Shelf.Strconv.ErrVarAll
import Derived.Shelf.Strings.Search1
import Derived.Shelf.Strings.Search2
import Derived.Shelf.Strings.Search3
import Derived.Shelf.Strings.Cut
import Derived.Shelf.Strings.Shaped
import Derived.Shelf.Strings.LastIndex
import Derived.Shelf.Strings.Prefix
import Derived.Shelf.Unicode.Latin
import Derived.Shelf.Strings.Runes
import Derived.Shelf.Strings.IndexAny
import Derived.Shelf.Strings.AsciiSet
import Derived.Shelf.Strings.IndexAnyAll
import Derived.Test.YtdinachiiimngaaGreatDoorProg
import Derived.Test.YtdinachiiimngaaGreatDoorChecked
import Derived.Lib.Hide
import Derived.WalkKit
import Derived.ProofKit
import Derived.MapKept
import Derived.Laws.OwnMore
import Derived.Laws.AppendOwn
import Derived.Laws.StructEq
import Derived.Deep.RegionHeld3
namespace Go.Proofs
open Go.Shelf
def Tryz.lays167_ren : Go.Shelf.Ren := ⟨fun | 167 => 80 | 240 => 77 | 276 => 117 | n => n, fun | 9 => 9 | 20 => 20 | 70 => 58 | 5 => 5 | 75 => 63 | 0 => 0 | 72 => 61 | 37 => 59 | 4 => 4 | 164 => 127 | 80 => 67 | n => n, fun | n => n⟩
theorem Tryz.lays167 : Go.Proofs.Lays.n167 Tryz.prog Tryz.lays167_ren := {
  mixed := by kernel_rfl
  f167 := Tryz.func80.trans (congrArg some (by kernel_rfl))
  f240 := Tryz.func77.trans (congrArg some (by kernel_rfl))
  f276 := Tryz.func117.trans (congrArg some (by kernel_rfl))
  t0 := Tryz.underlying0
  a0 := Tryz.isAgg0
  z0 := Tryz.sizeOf0
  v0 := Tryz.zeroValue0
  t4 := Tryz.underlying4
  a4 := Tryz.isAgg4
  z4 := Tryz.sizeOf4
  v4 := Tryz.zeroValue4
  t5 := Tryz.underlying5
  a5 := Tryz.isAgg5
  z5 := Tryz.sizeOf5
  v5 := Tryz.zeroValue5
  t9 := Tryz.underlying9
  a9 := Tryz.isAgg9
  z9 := Tryz.sizeOf9
  v9 := Tryz.zeroValue9
  t20 := Tryz.underlying20
  a20 := Tryz.isAgg20
  z20 := Tryz.sizeOf20
  v20 := Tryz.zeroValue20
  t37 := Tryz.underlying59
  a37 := Tryz.isAgg59
  z37 := Tryz.sizeOf59
  v37 := Tryz.zeroValue59
  t70 := Tryz.underlying58
  a70 := Tryz.isAgg58
  z70 := Tryz.sizeOf58
  v70 := Tryz.zeroValue58
  t72 := Tryz.underlying61
  a72 := Tryz.isAgg61
  z72 := Tryz.sizeOf61
  v72 := Tryz.zeroValue61
  t75 := Tryz.underlying63
  a75 := Tryz.isAgg63
  z75 := Tryz.sizeOf63
  v75 := Tryz.zeroValue63
  t164 := Tryz.underlying127
  a164 := Tryz.isAgg127
  z164 := Tryz.sizeOf127
  v164 := Tryz.zeroValue127 }
theorem Tryz.Builder_Extra_167 : Builder.Extra Tryz.prog Tryz.lays167_ren := {
  sizeBuilder := by kernel_rfl
  liesBuilder := by kernel_rfl
  t5 := Tryz.underlying5
  a5 := Tryz.isAgg5
  z5 := Tryz.sizeOf5
  v5 := Tryz.zeroValue5
  infoByte := by kernel_rfl
  cellsByte := by kernel_rfl
  sizeByte := by kernel_rfl
  neB5 := by decide }
open Go.RowKit in
theorem Tryz.Builder_WriteByte (B b : Nat) (bs : List Value) (c : Int) (w : World) (h : Lib.IsBuilder 61 5 B b bs w) (hlen : bs.length + 1 ≤ 140737488355328) (hBw : B ≤ w.heap.size) :
    Calls Tryz.prog 80 #[.pointer (some ⟨b, 0, none⟩), .int .u8 c] w fun e w' => e = .returned .nilIface ∧ (Lib.BuilderAt 61 5 B b (.pointer (some ⟨b, 0, none⟩)) (bs ++ [.int .u8 c]) w' ∧ Below B w w') := Any.Builder_WriteByte Tryz.lays167 Tryz.Builder_Extra_167 B b bs c w h hlen hBw
def Tryz.lays166_ren : Go.Shelf.Ren := ⟨fun | 166 => 42 | 240 => 77 | 276 => 117 | n => n, fun | 9 => 9 | 20 => 20 | 70 => 58 | 3 => 3 | 75 => 63 | 0 => 0 | 72 => 61 | 37 => 59 | 4 => 4 | 164 => 127 | 80 => 67 | 5 => 5 | n => n, fun | n => n⟩
theorem Tryz.lays166 : Go.Proofs.Lays.n166 Tryz.prog Tryz.lays166_ren := {
  mixed := by kernel_rfl
  f166 := Tryz.func42.trans (congrArg some (by kernel_rfl))
  f240 := Tryz.func77.trans (congrArg some (by kernel_rfl))
  f276 := Tryz.func117.trans (congrArg some (by kernel_rfl))
  t0 := Tryz.underlying0
  a0 := Tryz.isAgg0
  z0 := Tryz.sizeOf0
  v0 := Tryz.zeroValue0
  t3 := Tryz.underlying3
  a3 := Tryz.isAgg3
  z3 := Tryz.sizeOf3
  v3 := Tryz.zeroValue3
  t4 := Tryz.underlying4
  a4 := Tryz.isAgg4
  z4 := Tryz.sizeOf4
  v4 := Tryz.zeroValue4
  t9 := Tryz.underlying9
  a9 := Tryz.isAgg9
  z9 := Tryz.sizeOf9
  v9 := Tryz.zeroValue9
  t20 := Tryz.underlying20
  a20 := Tryz.isAgg20
  z20 := Tryz.sizeOf20
  v20 := Tryz.zeroValue20
  t37 := Tryz.underlying59
  a37 := Tryz.isAgg59
  z37 := Tryz.sizeOf59
  v37 := Tryz.zeroValue59
  t70 := Tryz.underlying58
  a70 := Tryz.isAgg58
  z70 := Tryz.sizeOf58
  v70 := Tryz.zeroValue58
  t72 := Tryz.underlying61
  a72 := Tryz.isAgg61
  z72 := Tryz.sizeOf61
  v72 := Tryz.zeroValue61
  t75 := Tryz.underlying63
  a75 := Tryz.isAgg63
  z75 := Tryz.sizeOf63
  v75 := Tryz.zeroValue63
  t164 := Tryz.underlying127
  a164 := Tryz.isAgg127
  z164 := Tryz.sizeOf127
  v164 := Tryz.zeroValue127 }
theorem Tryz.Builder_Extra_166 : Builder.Extra Tryz.prog Tryz.lays166_ren := {
  sizeBuilder := by kernel_rfl
  liesBuilder := by kernel_rfl
  t5 := Tryz.underlying5
  a5 := Tryz.isAgg5
  z5 := Tryz.sizeOf5
  v5 := Tryz.zeroValue5
  infoByte := by kernel_rfl
  cellsByte := by kernel_rfl
  sizeByte := by kernel_rfl
  neB5 := by decide }
open Go.RowKit in
theorem Tryz.Builder_WriteString (B b : Nat) (bs : List Value) (s : ByteArray) (w : World) (h : Lib.IsBuilder 61 5 B b bs w) (hlen : bs.length + s.size ≤ 140737488355328) (hBw : B ≤ w.heap.size) :
    Calls Tryz.prog 42 #[.pointer (some ⟨b, 0, none⟩), .string s] w fun e w' => e = .returned (.tuple #[.int .i64 s.size, .nilIface]) ∧ (Lib.BuilderAt 61 5 B b (.pointer (some ⟨b, 0, none⟩)) (bs ++ Lib.strCells s) w' ∧ Below B w w') := Any.Builder_WriteString Tryz.lays166 Tryz.Builder_Extra_166 B b bs s w h hlen hBw
def Tryz.lays169_ren : Go.Shelf.Ren := ⟨fun | 169 => 44 | n => n, fun | 9 => 9 | 20 => 20 | 70 => 58 | 0 => 0 | 72 => 61 | 37 => 59 | 127 => 110 | 3 => 3 | 5 => 5 | n => n, fun | n => n⟩
theorem Tryz.lays169 : Go.Proofs.Lays.n169 Tryz.prog Tryz.lays169_ren := {
  mixed := by kernel_rfl
  f169 := Tryz.func44.trans (congrArg some (by kernel_rfl))
  t0 := Tryz.underlying0
  a0 := Tryz.isAgg0
  z0 := Tryz.sizeOf0
  v0 := Tryz.zeroValue0
  t3 := Tryz.underlying3
  a3 := Tryz.isAgg3
  z3 := Tryz.sizeOf3
  v3 := Tryz.zeroValue3
  t9 := Tryz.underlying9
  a9 := Tryz.isAgg9
  z9 := Tryz.sizeOf9
  v9 := Tryz.zeroValue9
  t37 := Tryz.underlying59
  a37 := Tryz.isAgg59
  z37 := Tryz.sizeOf59
  v37 := Tryz.zeroValue59
  t70 := Tryz.underlying58
  a70 := Tryz.isAgg58
  z70 := Tryz.sizeOf58
  v70 := Tryz.zeroValue58
  t72 := Tryz.underlying61
  a72 := Tryz.isAgg61
  z72 := Tryz.sizeOf61
  v72 := Tryz.zeroValue61
  t127 := Tryz.underlying110
  a127 := Tryz.isAgg110
  z127 := Tryz.sizeOf110
  v127 := Tryz.zeroValue110 }
theorem Tryz.Builder_Extra_169 : Builder.Extra Tryz.prog Tryz.lays169_ren := {
  sizeBuilder := by kernel_rfl
  liesBuilder := by kernel_rfl
  t5 := Tryz.underlying5
  a5 := Tryz.isAgg5
  z5 := Tryz.sizeOf5
  v5 := Tryz.zeroValue5
  infoByte := by kernel_rfl
  cellsByte := by kernel_rfl
  sizeByte := by kernel_rfl
  neB5 := by decide }
open Go.RowKit in
theorem Tryz.Builder_String_any (B b : Nat) (l : List UInt8) (w : World) (h : Lib.IsBuilder 61 5 B b (Lib.byteCells l) w) (hBw : B ≤ w.heap.size) :
    Calls Tryz.prog 44 #[.pointer (some ⟨b, 0, none⟩)] w fun e w' => e = .returned (.string ⟨l.toArray⟩) ∧ Below B w w' := Any.Builder_String_any Tryz.lays169 Tryz.Builder_Extra_169 B b l w h hBw
def Tryz.lays165_ren : Go.Shelf.Ren := ⟨fun | 165 => 53 | 240 => 77 | 241 => 85 | 276 => 117 | 277 => 122 | n => n, fun | 9 => 9 | 20 => 20 | 70 => 58 | 3 => 3 | 0 => 0 | 4 => 4 | 72 => 61 | 37 => 59 | 164 => 127 | 5 => 5 | n => n, fun | n => n⟩
theorem Tryz.lays165 : Go.Proofs.Lays.n165 Tryz.prog Tryz.lays165_ren := {
  mixed := by kernel_rfl
  f165 := Tryz.func53.trans (congrArg some (by kernel_rfl))
  f240 := Tryz.func77.trans (congrArg some (by kernel_rfl))
  f241 := Tryz.func85.trans (congrArg some (by kernel_rfl))
  f276 := Tryz.func117.trans (congrArg some (by kernel_rfl))
  f277 := Tryz.func122.trans (congrArg some (by kernel_rfl))
  t0 := Tryz.underlying0
  a0 := Tryz.isAgg0
  z0 := Tryz.sizeOf0
  v0 := Tryz.zeroValue0
  t3 := Tryz.underlying3
  a3 := Tryz.isAgg3
  z3 := Tryz.sizeOf3
  v3 := Tryz.zeroValue3
  t4 := Tryz.underlying4
  a4 := Tryz.isAgg4
  z4 := Tryz.sizeOf4
  v4 := Tryz.zeroValue4
  t9 := Tryz.underlying9
  a9 := Tryz.isAgg9
  z9 := Tryz.sizeOf9
  v9 := Tryz.zeroValue9
  t20 := Tryz.underlying20
  a20 := Tryz.isAgg20
  z20 := Tryz.sizeOf20
  v20 := Tryz.zeroValue20
  t37 := Tryz.underlying59
  a37 := Tryz.isAgg59
  z37 := Tryz.sizeOf59
  v37 := Tryz.zeroValue59
  t70 := Tryz.underlying58
  a70 := Tryz.isAgg58
  z70 := Tryz.sizeOf58
  v70 := Tryz.zeroValue58
  t72 := Tryz.underlying61
  a72 := Tryz.isAgg61
  z72 := Tryz.sizeOf61
  v72 := Tryz.zeroValue61
  t164 := Tryz.underlying127
  a164 := Tryz.isAgg127
  z164 := Tryz.sizeOf127
  v164 := Tryz.zeroValue127 }
theorem Tryz.Builder_Extra_165 : Builder.Extra Tryz.prog Tryz.lays165_ren := {
  sizeBuilder := by kernel_rfl
  liesBuilder := by kernel_rfl
  t5 := Tryz.underlying5
  a5 := Tryz.isAgg5
  z5 := Tryz.sizeOf5
  v5 := Tryz.zeroValue5
  infoByte := by kernel_rfl
  cellsByte := by kernel_rfl
  sizeByte := by kernel_rfl
  neB5 := by decide }
open Go.RowKit in
theorem Tryz.Builder_Grow_fresh (B b n : Nat) (w : World) (hB : B ≤ b) (hbk : w.heap[b]? = some (.cells #[.pointer none, .slice none 0 0] 61 (0, 0))) (hBw : B ≤ w.heap.size) (hn : n ≤ 281474976710656) :
    Calls Tryz.prog 53 #[.pointer (some ⟨b, 0, none⟩), .int .i64 n] w fun e w' => e = .returned (.tuple #[]) ∧ (Lib.BuilderAt 61 5 B b (.pointer (some ⟨b, 0, none⟩)) [] w' ∧ Below B w w') := Any.Builder_Grow_fresh Tryz.lays165 Tryz.Builder_Extra_165 B b n w hB hbk hBw hn
def Tryz.lays158_ren : Go.Shelf.Ren := ⟨fun | 158 => 119 | 165 => 53 | 166 => 42 | 167 => 80 | 169 => 44 | 230 => 165 | 203 => 166 | 240 => 77 | 241 => 85 | 197 => 176 | 118 => 193 | 168 => 54 | 270 => 194 | 262 => 195 | 276 => 117 | 277 => 122 | 260 => 204 | 242 => 86 | 313 => 214 | 278 => 123 | 274 => 221 | 275 => 222 | n => n, fun | 9 => 9 | 20 => 20 | 4 => 4 | 3 => 3 | 5 => 5 | 72 => 61 | 0 => 0 | 76 => 64 | 75 => 63 | 107 => 155 | 70 => 58 | 37 => 59 | 127 => 110 | 21 => 21 | 105 => 162 | 164 => 127 | 162 => 192 | 203 => 190 | 119 => 130 | 46 => 111 | 139 => 133 | 138 => 132 | 51 => 136 | 160 => 199 | 208 => 210 | 206 => 208 | 80 => 67 | n => n, fun | 13 => 5 | 3 => 0 | 4 => 1 | n => n⟩
theorem Tryz.lays158 : Go.Proofs.Lays.n158 Tryz.prog Tryz.lays158_ren := {
  mixed := by kernel_rfl
  f118 := Tryz.func193.trans (congrArg some (by kernel_rfl))
  f158 := Tryz.func119.trans (congrArg some (by kernel_rfl))
  f165 := Tryz.func53.trans (congrArg some (by kernel_rfl))
  f166 := Tryz.func42.trans (congrArg some (by kernel_rfl))
  f167 := Tryz.func80.trans (congrArg some (by kernel_rfl))
  f168 := Tryz.func54.trans (congrArg some (by kernel_rfl))
  f169 := Tryz.func44.trans (congrArg some (by kernel_rfl))
  f197 := Tryz.func176.trans (congrArg some (by kernel_rfl))
  f203 := Tryz.func166.trans (congrArg some (by kernel_rfl))
  f230 := Tryz.func165.trans (congrArg some (by kernel_rfl))
  f240 := Tryz.func77.trans (congrArg some (by kernel_rfl))
  f241 := Tryz.func85.trans (congrArg some (by kernel_rfl))
  f242 := Tryz.func86.trans (congrArg some (by kernel_rfl))
  f260 := Tryz.func204.trans (congrArg some (by kernel_rfl))
  f262 := Tryz.func195.trans (congrArg some (by kernel_rfl))
  f270 := Tryz.func194.trans (congrArg some (by kernel_rfl))
  f274 := Tryz.func221.trans (congrArg some (by kernel_rfl))
  f275 := Tryz.func222.trans (congrArg some (by kernel_rfl))
  f276 := Tryz.func117.trans (congrArg some (by kernel_rfl))
  f277 := Tryz.func122.trans (congrArg some (by kernel_rfl))
  f278 := Tryz.func123.trans (congrArg some (by kernel_rfl))
  f313 := Tryz.func214.trans (congrArg some (by kernel_rfl))
  t0 := Tryz.underlying0
  a0 := Tryz.isAgg0
  z0 := Tryz.sizeOf0
  v0 := Tryz.zeroValue0
  t3 := Tryz.underlying3
  a3 := Tryz.isAgg3
  z3 := Tryz.sizeOf3
  v3 := Tryz.zeroValue3
  t4 := Tryz.underlying4
  a4 := Tryz.isAgg4
  z4 := Tryz.sizeOf4
  v4 := Tryz.zeroValue4
  t5 := Tryz.underlying5
  a5 := Tryz.isAgg5
  z5 := Tryz.sizeOf5
  v5 := Tryz.zeroValue5
  t9 := Tryz.underlying9
  a9 := Tryz.isAgg9
  z9 := Tryz.sizeOf9
  v9 := Tryz.zeroValue9
  t20 := Tryz.underlying20
  a20 := Tryz.isAgg20
  z20 := Tryz.sizeOf20
  v20 := Tryz.zeroValue20
  t21 := Tryz.underlying21
  a21 := Tryz.isAgg21
  z21 := Tryz.sizeOf21
  v21 := Tryz.zeroValue21
  t37 := Tryz.underlying59
  a37 := Tryz.isAgg59
  z37 := Tryz.sizeOf59
  v37 := Tryz.zeroValue59
  t46 := Tryz.underlying111
  a46 := Tryz.isAgg111
  z46 := Tryz.sizeOf111
  v46 := Tryz.zeroValue111
  t51 := Tryz.underlying136
  a51 := Tryz.isAgg136
  z51 := Tryz.sizeOf136
  v51 := Tryz.zeroValue136
  t70 := Tryz.underlying58
  a70 := Tryz.isAgg58
  z70 := Tryz.sizeOf58
  v70 := Tryz.zeroValue58
  t72 := Tryz.underlying61
  a72 := Tryz.isAgg61
  z72 := Tryz.sizeOf61
  v72 := Tryz.zeroValue61
  t75 := Tryz.underlying63
  a75 := Tryz.isAgg63
  z75 := Tryz.sizeOf63
  v75 := Tryz.zeroValue63
  t76 := Tryz.underlying64
  a76 := Tryz.isAgg64
  z76 := Tryz.sizeOf64
  v76 := Tryz.zeroValue64
  t105 := Tryz.underlying162
  a105 := Tryz.isAgg162
  z105 := Tryz.sizeOf162
  v105 := Tryz.zeroValue162
  t107 := Tryz.underlying155
  a107 := Tryz.isAgg155
  z107 := Tryz.sizeOf155
  v107 := Tryz.zeroValue155
  t119 := Tryz.underlying130
  a119 := Tryz.isAgg130
  z119 := Tryz.sizeOf130
  t127 := Tryz.underlying110
  a127 := Tryz.isAgg110
  z127 := Tryz.sizeOf110
  v127 := Tryz.zeroValue110
  t138 := Tryz.underlying132
  a138 := Tryz.isAgg132
  z138 := Tryz.sizeOf132
  v138 := Tryz.zeroValue132
  t139 := Tryz.underlying133
  a139 := Tryz.isAgg133
  z139 := Tryz.sizeOf133
  v139 := Tryz.zeroValue133
  t160 := Tryz.underlying199
  a160 := Tryz.isAgg199
  z160 := Tryz.sizeOf199
  v160 := Tryz.zeroValue199
  t162 := Tryz.underlying192
  a162 := Tryz.isAgg192
  z162 := Tryz.sizeOf192
  v162 := Tryz.zeroValue192
  t164 := Tryz.underlying127
  a164 := Tryz.isAgg127
  z164 := Tryz.sizeOf127
  v164 := Tryz.zeroValue127
  t203 := Tryz.underlying190
  a203 := Tryz.isAgg190
  z203 := Tryz.sizeOf190
  v203 := Tryz.zeroValue190
  t206 := Tryz.underlying208
  a206 := Tryz.isAgg208
  z206 := Tryz.sizeOf208
  v206 := Tryz.zeroValue208
  t208 := Tryz.underlying210
  a208 := Tryz.isAgg210
  z208 := Tryz.sizeOf210
  v208 := Tryz.zeroValue210
  g3 := by kernel_rfl
  g4 := by kernel_rfl
  g13 := by kernel_rfl }
theorem Tryz.Builder_Extra_158 : Builder.Extra Tryz.prog Tryz.lays158_ren := {
  sizeBuilder := by kernel_rfl
  liesBuilder := by kernel_rfl
  t5 := Tryz.underlying5
  a5 := Tryz.isAgg5
  z5 := Tryz.sizeOf5
  v5 := Tryz.zeroValue5
  infoByte := by kernel_rfl
  cellsByte := by kernel_rfl
  sizeByte := by kernel_rfl
  neB5 := by decide }
open Go.RowKit in
theorem Tryz.strings_ToUpper_ascii (s : ByteArray) (w : World) (hs : s.size ≤ 140737488355328) (hascii : ∀ (j : Nat) (b : UInt8), s.data.toList[j]? = some b → b.toNat < 128) :
    Calls Tryz.prog 119 #[.string s] w fun e w' => e = .returned (.string ⟨(Lib.toUpperA s.data.toList).toArray⟩) ∧ Below w.heap.size w w' := Any.strings_ToUpper_ascii Tryz.lays158 Tryz.Builder_Extra_158 s w hs hascii
def Tryz.lays119_ren : Go.Shelf.Ren := ⟨fun | 119 => 192 | n => n, fun | 9 => 9 | 20 => 20 | 21 => 21 | 4 => 4 | n => n, fun | n => n⟩
theorem Tryz.lays119 : Go.Proofs.Lays.n119 Tryz.prog Tryz.lays119_ren := {
  mixed := by kernel_rfl
  f119 := Tryz.func192.trans (congrArg some (by kernel_rfl))
  t4 := Tryz.underlying4
  a4 := Tryz.isAgg4
  z4 := Tryz.sizeOf4
  v4 := Tryz.zeroValue4
  t21 := Tryz.underlying21
  a21 := Tryz.isAgg21
  z21 := Tryz.sizeOf21
  v21 := Tryz.zeroValue21 }
theorem Tryz.utf8_ValidRune (r : Int) (w : World) :
    Calls Tryz.prog 192 #[.int .i32 r] w fun e w' => e = .returned (.bool (Lib.validRune r)) ∧ w' = w := Any.utf8_ValidRune Tryz.lays119 r w
def Tryz.lays137_ren : Go.Shelf.Ren := ⟨fun | 137 => 67 | 217 => 98 | 266 => 144 | n => n, fun | 9 => 9 | 20 => 20 | 5 => 5 | 3 => 3 | n => n, fun | n => n⟩
theorem Tryz.lays137 : Go.Proofs.Lays.n137 Tryz.prog Tryz.lays137_ren := {
  mixed := by kernel_rfl
  f137 := Tryz.func67.trans (congrArg some (by kernel_rfl))
  f217 := Tryz.func98.trans (congrArg some (by kernel_rfl))
  f266 := Tryz.func144.trans (congrArg some (by kernel_rfl))
  t3 := Tryz.underlying3
  a3 := Tryz.isAgg3
  z3 := Tryz.sizeOf3
  v3 := Tryz.zeroValue3
  t5 := Tryz.underlying5
  a5 := Tryz.isAgg5
  z5 := Tryz.sizeOf5
  v5 := Tryz.zeroValue5
  t9 := Tryz.underlying9
  a9 := Tryz.isAgg9
  z9 := Tryz.sizeOf9
  v9 := Tryz.zeroValue9 }
open Go.RowKit in
theorem Tryz.strings_IndexByte (s : ByteArray) (c : Int) (w : World) :
    Calls Tryz.prog 67 #[.string s, .int .u8 c] w fun e w' => e = .returned (.int .i64 (Lib.indexByte s.data.toList c.toNat.toUInt8)) ∧ w' = w := Any.strings_IndexByte Tryz.lays137 s c w
def Tryz.lays104_ren : Go.Shelf.Ren := ⟨fun | 104 => 125 | 211 => 171 | 207 => 147 | n => n, fun | 9 => 9 | 20 => 20 | 4 => 4 | 24 => 31 | 3 => 3 | n => n, fun | n => n⟩
theorem Tryz.lays104 : Go.Proofs.Lays.n104 Tryz.prog Tryz.lays104_ren := {
  mixed := by kernel_rfl
  f104 := Tryz.func125.trans (congrArg some (by kernel_rfl))
  f207 := Tryz.func147.trans (congrArg some (by kernel_rfl))
  f211 := Tryz.func171.trans (congrArg some (by kernel_rfl))
  t3 := Tryz.underlying3
  a3 := Tryz.isAgg3
  z3 := Tryz.sizeOf3
  v3 := Tryz.zeroValue3
  t4 := Tryz.underlying4
  a4 := Tryz.isAgg4
  z4 := Tryz.sizeOf4
  v4 := Tryz.zeroValue4
  t9 := Tryz.underlying9
  a9 := Tryz.isAgg9
  z9 := Tryz.sizeOf9
  v9 := Tryz.zeroValue9
  t24 := Tryz.underlying31
  a24 := Tryz.isAgg31
  z24 := Tryz.sizeOf31
  v24 := Tryz.zeroValue31 }
open Go.RowKit in
theorem Tryz.strings_CutSuffix (s p : ByteArray) (w : World) (hs : s.size ≤ 9223372036854775807) :
    Calls Tryz.prog 125 #[.string s, .string p] w fun e w' => e = .returned (.tuple #[.string ⟨(Lib.trimSuffix s.data.toList p.data.toList).toArray⟩, .bool (Lib.hasSuffix s.data.toList p.data.toList)]) ∧ w' = w := Any.strings_CutSuffix Tryz.lays104 s p w hs
open Go.RowKit in
theorem Tryz.Builder_WriteByte_k (B b : Nat) (bs : List Value) (c : Int) (w : World) (h : Lib.IsBuilderF 61 5 B b bs w) (hlen : bs.length + 1 ≤ 140737488355328) (hBw : B ≤ w.heap.size) :
    Calls Tryz.prog 80 #[.pointer (some ⟨b, 0, none⟩), .int .u8 c] w fun e w' => e = .returned .nilIface ∧ (Lib.BuilderAtF 61 5 B b (.pointer (some ⟨b, 0, none⟩)) (bs ++ [.int .u8 c]) w' ∧ Below B w w' ∧ Lib.OthersKept 5 (some b) w w') := Any.Builder_WriteByte_k Tryz.lays167 Tryz.Builder_Extra_167 B b bs c w h hlen hBw
open Go.RowKit in
theorem Tryz.Builder_WriteString_k (B b : Nat) (bs : List Value) (s : ByteArray) (w : World) (h : Lib.IsBuilderF 61 5 B b bs w) (hlen : bs.length + s.size ≤ 140737488355328) (hBw : B ≤ w.heap.size) :
    Calls Tryz.prog 42 #[.pointer (some ⟨b, 0, none⟩), .string s] w fun e w' => e = .returned (.tuple #[.int .i64 s.size, .nilIface]) ∧ (Lib.BuilderAtF 61 5 B b (.pointer (some ⟨b, 0, none⟩)) (bs ++ Lib.strCells s) w' ∧ Below B w w' ∧ Lib.OthersKept 5 (some b) w w') := Any.Builder_WriteString_k Tryz.lays166 Tryz.Builder_Extra_166 B b bs s w h hlen hBw
open Go.RowKit in
theorem Tryz.Builder_String_any_k (B b : Nat) (l : List UInt8) (w : World) (h : Lib.IsBuilderF 61 5 B b (Lib.byteCells l) w) (hBw : B ≤ w.heap.size) :
    Calls Tryz.prog 44 #[.pointer (some ⟨b, 0, none⟩)] w fun e w' => e = .returned (.string ⟨l.toArray⟩) ∧ (Lib.IsBuilderF 61 5 B b (Lib.byteCells l) w' ∧ Below B w w' ∧ Lib.OthersKept 5 (some b) w w') := Any.Builder_String_any_k Tryz.lays169 Tryz.Builder_Extra_169 B b l w h hBw
def Tryz.lays168_ren : Go.Shelf.Ren := ⟨fun | 168 => 54 | 240 => 77 | 242 => 86 | 276 => 117 | 278 => 123 | n => n, fun | 9 => 9 | 20 => 20 | 70 => 58 | 21 => 21 | 3 => 3 | 75 => 63 | 0 => 0 | 72 => 61 | 37 => 59 | 4 => 4 | 164 => 127 | 51 => 136 | 5 => 5 | 46 => 111 | 80 => 67 | n => n, fun | n => n⟩
theorem Tryz.lays168 : Go.Proofs.Lays.n168 Tryz.prog Tryz.lays168_ren := {
  mixed := by kernel_rfl
  f168 := Tryz.func54.trans (congrArg some (by kernel_rfl))
  f240 := Tryz.func77.trans (congrArg some (by kernel_rfl))
  f242 := Tryz.func86.trans (congrArg some (by kernel_rfl))
  f276 := Tryz.func117.trans (congrArg some (by kernel_rfl))
  f278 := Tryz.func123.trans (congrArg some (by kernel_rfl))
  t0 := Tryz.underlying0
  a0 := Tryz.isAgg0
  z0 := Tryz.sizeOf0
  v0 := Tryz.zeroValue0
  t3 := Tryz.underlying3
  a3 := Tryz.isAgg3
  z3 := Tryz.sizeOf3
  v3 := Tryz.zeroValue3
  t4 := Tryz.underlying4
  a4 := Tryz.isAgg4
  z4 := Tryz.sizeOf4
  v4 := Tryz.zeroValue4
  t5 := Tryz.underlying5
  a5 := Tryz.isAgg5
  z5 := Tryz.sizeOf5
  v5 := Tryz.zeroValue5
  t9 := Tryz.underlying9
  a9 := Tryz.isAgg9
  z9 := Tryz.sizeOf9
  v9 := Tryz.zeroValue9
  t20 := Tryz.underlying20
  a20 := Tryz.isAgg20
  z20 := Tryz.sizeOf20
  v20 := Tryz.zeroValue20
  t21 := Tryz.underlying21
  a21 := Tryz.isAgg21
  z21 := Tryz.sizeOf21
  v21 := Tryz.zeroValue21
  t37 := Tryz.underlying59
  a37 := Tryz.isAgg59
  z37 := Tryz.sizeOf59
  v37 := Tryz.zeroValue59
  t46 := Tryz.underlying111
  a46 := Tryz.isAgg111
  z46 := Tryz.sizeOf111
  v46 := Tryz.zeroValue111
  t51 := Tryz.underlying136
  a51 := Tryz.isAgg136
  z51 := Tryz.sizeOf136
  v51 := Tryz.zeroValue136
  t70 := Tryz.underlying58
  a70 := Tryz.isAgg58
  z70 := Tryz.sizeOf58
  v70 := Tryz.zeroValue58
  t72 := Tryz.underlying61
  a72 := Tryz.isAgg61
  z72 := Tryz.sizeOf61
  v72 := Tryz.zeroValue61
  t75 := Tryz.underlying63
  a75 := Tryz.isAgg63
  z75 := Tryz.sizeOf63
  v75 := Tryz.zeroValue63
  t164 := Tryz.underlying127
  a164 := Tryz.isAgg127
  z164 := Tryz.sizeOf127
  v164 := Tryz.zeroValue127 }
theorem Tryz.Builder_Extra_168 : Builder.Extra Tryz.prog Tryz.lays168_ren := {
  sizeBuilder := by kernel_rfl
  liesBuilder := by kernel_rfl
  t5 := Tryz.underlying5
  a5 := Tryz.isAgg5
  z5 := Tryz.sizeOf5
  v5 := Tryz.zeroValue5
  infoByte := by kernel_rfl
  cellsByte := by kernel_rfl
  sizeByte := by kernel_rfl
  neB5 := by decide }
open Go.RowKit in
theorem Tryz.Builder_WriteRune_k (B b : Nat) (bs : List Value) (r : Int) (hr0 : -2147483648 ≤ r) (hr1 : r ≤ 2147483647) (w : World) (h : Lib.IsBuilderF 61 5 B b bs w) (hlen : bs.length + 4 ≤ 140737488355328) (hBw : B ≤ w.heap.size) :
    Calls Tryz.prog 54 #[.pointer (some ⟨b, 0, none⟩), .int .i32 r] w fun e w' => e = .returned (.tuple #[.int .i64 (Lib.runeCells r).length, .nilIface]) ∧ (Lib.BuilderAtF 61 5 B b (.pointer (some ⟨b, 0, none⟩)) (bs ++ Lib.runeCells r) w' ∧ Below B w w' ∧ Lib.OthersKept 5 (some b) w w') := Any.Builder_WriteRune_k Tryz.lays168 Tryz.Builder_Extra_168 B b bs r hr0 hr1 w h hlen hBw
def Tryz.laysM171_ren : Go.Shelf.Ren := ⟨fun | 171 => 51 | 243 => 84 | 246 => 121 | 283 => 167 | 284 => 168 | 285 => 169 | 286 => 170 | 129 => 197 | 317 => 196 | 318 => 198 | 319 => 199 | 320 => 200 | 337 => 215 | 338 => 216 | n => n, fun | 9 => 9 | 20 => 20 | 3 => 3 | 2 => 2 | 4 => 4 | 171 => 157 | 0 => 0 | 53 => 156 | 37 => 59 | 5 => 5 | 173 => 160 | 212 => 177 | 51 => 136 | 213 => 178 | 46 => 111 | 232 => 202 | 233 => 203 | n => n, fun | 17 => 3 | 18 => 8 | 19 => 9 | n => n⟩
theorem Tryz.laysM171 : Go.Proofs.LaysM.n171 Tryz.prog Tryz.laysM171_ren := {
  mixed := by kernel_rfl
  f129 := Tryz.func197.trans (congrArg some (by kernel_rfl))
  f171 := Tryz.func51.trans (congrArg some (by kernel_rfl))
  f243 := Tryz.func84.trans (congrArg some (by kernel_rfl))
  f246 := Tryz.func121.trans (congrArg some (by kernel_rfl))
  f283 := Tryz.func167.trans (congrArg some (by kernel_rfl))
  f284 := Tryz.func168.trans (congrArg some (by kernel_rfl))
  f285 := Tryz.func169.trans (congrArg some (by kernel_rfl))
  f286 := Tryz.func170.trans (congrArg some (by kernel_rfl))
  f317 := Tryz.func196.trans (congrArg some (by kernel_rfl))
  f318 := Tryz.func198.trans (congrArg some (by kernel_rfl))
  f319 := Tryz.func199.trans (congrArg some (by kernel_rfl))
  f320 := Tryz.func200.trans (congrArg some (by kernel_rfl))
  f337 := Tryz.func215.trans (congrArg some (by kernel_rfl))
  f338 := Tryz.func216.trans (congrArg some (by kernel_rfl))
  t0 := Tryz.underlying0
  a0 := Tryz.isAgg0
  z0 := Tryz.sizeOf0
  v0 := Tryz.zeroValue0
  t2 := Tryz.underlying2
  a2 := Tryz.isAgg2
  z2 := Tryz.sizeOf2
  v2 := Tryz.zeroValue2
  t3 := Tryz.underlying3
  a3 := Tryz.isAgg3
  z3 := Tryz.sizeOf3
  v3 := Tryz.zeroValue3
  t4 := Tryz.underlying4
  a4 := Tryz.isAgg4
  z4 := Tryz.sizeOf4
  v4 := Tryz.zeroValue4
  t5 := Tryz.underlying5
  a5 := Tryz.isAgg5
  z5 := Tryz.sizeOf5
  v5 := Tryz.zeroValue5
  t9 := Tryz.underlying9
  a9 := Tryz.isAgg9
  z9 := Tryz.sizeOf9
  v9 := Tryz.zeroValue9
  t20 := Tryz.underlying20
  a20 := Tryz.isAgg20
  z20 := Tryz.sizeOf20
  v20 := Tryz.zeroValue20
  t37 := Tryz.underlying59
  a37 := Tryz.isAgg59
  z37 := Tryz.sizeOf59
  v37 := Tryz.zeroValue59
  t46 := Tryz.underlying111
  a46 := Tryz.isAgg111
  z46 := Tryz.sizeOf111
  v46 := Tryz.zeroValue111
  t51 := Tryz.underlying136
  a51 := Tryz.isAgg136
  z51 := Tryz.sizeOf136
  v51 := Tryz.zeroValue136
  t53 := Tryz.underlying156
  a53 := Tryz.isAgg156
  z53 := Tryz.sizeOf156
  v53 := Tryz.zeroValue156
  t171 := Tryz.underlying157
  a171 := Tryz.isAgg157
  z171 := Tryz.sizeOf157
  v171 := Tryz.zeroValue157
  t173 := Tryz.underlying160
  a173 := Tryz.isAgg160
  z173 := Tryz.sizeOf160
  v173 := Tryz.zeroValue160
  t212 := Tryz.underlying177
  a212 := Tryz.isAgg177
  z212 := Tryz.sizeOf177
  v212 := Tryz.zeroValue177
  t213 := Tryz.underlying178
  a213 := Tryz.isAgg178
  z213 := Tryz.sizeOf178
  t232 := Tryz.underlying202
  a232 := Tryz.isAgg202
  z232 := Tryz.sizeOf202
  v232 := Tryz.zeroValue202
  t233 := Tryz.underlying203
  a233 := Tryz.isAgg203
  z233 := Tryz.sizeOf203
  v233 := Tryz.zeroValue203
  g17 := by kernel_rfl
  g18 := by kernel_rfl
  g19 := by kernel_rfl
  i0 := by kernel_rfl
  i2 := by kernel_rfl
  i3 := by kernel_rfl
  i4 := by kernel_rfl
  i5 := by kernel_rfl
  i9 := by kernel_rfl
  i20 := by kernel_rfl
  i37 := by kernel_rfl
  i46 := by kernel_rfl
  i51 := by kernel_rfl
  i53 := by kernel_rfl
  i171 := by kernel_rfl
  i173 := by kernel_rfl
  i212 := by kernel_rfl
  i232 := by kernel_rfl
  i233 := by kernel_rfl
  m17 := by kernel_rfl
  m18 := by kernel_rfl
  m19 := by kernel_rfl }
open Go.RowKit Go.Sort Go.Lib in
theorem Tryz.strconv_Itoa (n : Int) (h0 : -9223372036854775808 ≤ n) (h1 : n ≤ 9223372036854775807) (w : World) (htab : Lib.TabIs Tryz.prog w "internal/strconv.uint64pow10" .u64 Lib.pow10Tab) :
    Calls Tryz.prog 51 #[.int .i64 n] w fun e w' => e = .returned (.string ⟨(Lib.itoa n).toArray⟩) ∧ ∃ k os, w' = grow (w.drewN k) os := Any.strconv_Itoa Tryz.laysM171 n h0 h1 w htab
def Tryz.laysM316_ren : Go.Shelf.Ren := ⟨fun | 316 => 76 | n => n, fun | 9 => 9 | 20 => 20 | 3 => 3 | 4 => 4 | 37 => 59 | 0 => 0 | 127 => 110 | 5 => 5 | n => n, fun | n => n⟩
theorem Tryz.laysM316 : Go.Proofs.LaysM.n316 Tryz.prog Tryz.laysM316_ren := {
  mixed := by kernel_rfl
  f316 := Tryz.func76.trans (congrArg some (by kernel_rfl))
  t0 := Tryz.underlying0
  a0 := Tryz.isAgg0
  z0 := Tryz.sizeOf0
  v0 := Tryz.zeroValue0
  t3 := Tryz.underlying3
  a3 := Tryz.isAgg3
  z3 := Tryz.sizeOf3
  v3 := Tryz.zeroValue3
  t4 := Tryz.underlying4
  a4 := Tryz.isAgg4
  z4 := Tryz.sizeOf4
  v4 := Tryz.zeroValue4
  t9 := Tryz.underlying9
  a9 := Tryz.isAgg9
  z9 := Tryz.sizeOf9
  v9 := Tryz.zeroValue9
  t37 := Tryz.underlying59
  a37 := Tryz.isAgg59
  z37 := Tryz.sizeOf59
  v37 := Tryz.zeroValue59
  t127 := Tryz.underlying110
  a127 := Tryz.isAgg110
  z127 := Tryz.sizeOf110
  v127 := Tryz.zeroValue110
  t5 := Tryz.underlying5
  a5 := Tryz.isAgg5
  z5 := Tryz.sizeOf5
  v5 := Tryz.zeroValue5
  i0 := by kernel_rfl
  i3 := by kernel_rfl
  i4 := by kernel_rfl
  i5 := by kernel_rfl
  i9 := by kernel_rfl
  i37 := by kernel_rfl
  i127 := by kernel_rfl }
open Go.RowKit in
theorem Tryz.stringslite_Clone (s : ByteArray) (w : World) (hlim : s.size ≤ 281474976710656) :
    Calls Tryz.prog 76 #[.string s] w fun e w' => e = .returned (.string s) ∧ Below w.heap.size w w' := Any.stringslite_Clone Tryz.laysM316 s w hlim
def Tryz.laysC172_ren : Go.Shelf.Ren := ⟨fun | 172 => 150 | 244 => 179 | 245 => 180 | 247 => 206 | 279 => 207 | 280 => 208 | 281 => 209 | 282 => 210 | 287 => 218 | 316 => 76 | 171 => 51 | 205 => 219 | 321 => 223 | 322 => 224 | 243 => 84 | 246 => 121 | 283 => 167 | 284 => 168 | 285 => 169 | 286 => 170 | 129 => 197 | 317 => 196 | 318 => 198 | 319 => 199 | 320 => 200 | 337 => 215 | 338 => 216 | n => n, fun | 9 => 9 | 20 => 20 | 3 => 3 | 75 => 63 | 76 => 64 | 4 => 4 | 5 => 5 | 167 => 180 | 37 => 59 | 0 => 0 | 85 => 181 | 2 => 2 | 168 => 183 | 53 => 156 | 175 => 194 | 46 => 111 | 210 => 197 | 127 => 110 | 145 => 206 | 143 => 204 | 21 => 21 | 171 => 157 | 173 => 160 | 212 => 177 | 51 => 136 | 213 => 178 | 232 => 202 | 233 => 203 | 80 => 67 | n => n, fun | 15 => 6 | 16 => 7 | 17 => 3 | 18 => 8 | 19 => 9 | n => n⟩
theorem Tryz.laysC172 : Go.Proofs.LaysC.n172 Tryz.prog Tryz.laysC172_ren := {
  mixed := by kernel_rfl
  f129 := Tryz.func197.trans (congrArg some (by kernel_rfl))
  f171 := Tryz.func51.trans (congrArg some (by kernel_rfl))
  f172 := Tryz.func150.trans (congrArg some (by kernel_rfl))
  f205 := Tryz.func219.trans (congrArg some (by kernel_rfl))
  f243 := Tryz.func84.trans (congrArg some (by kernel_rfl))
  f244 := Tryz.func179.trans (congrArg some (by kernel_rfl))
  f245 := Tryz.func180.trans (congrArg some (by kernel_rfl))
  f246 := Tryz.func121.trans (congrArg some (by kernel_rfl))
  f247 := Tryz.func206.trans (congrArg some (by kernel_rfl))
  f279 := Tryz.func207.trans (congrArg some (by kernel_rfl))
  f280 := Tryz.func208.trans (congrArg some (by kernel_rfl))
  f281 := Tryz.func209.trans (congrArg some (by kernel_rfl))
  f282 := Tryz.func210.trans (congrArg some (by kernel_rfl))
  f283 := Tryz.func167.trans (congrArg some (by kernel_rfl))
  f284 := Tryz.func168.trans (congrArg some (by kernel_rfl))
  f285 := Tryz.func169.trans (congrArg some (by kernel_rfl))
  f286 := Tryz.func170.trans (congrArg some (by kernel_rfl))
  f287 := Tryz.func218.trans (congrArg some (by kernel_rfl))
  f316 := Tryz.func76.trans (congrArg some (by kernel_rfl))
  f317 := Tryz.func196.trans (congrArg some (by kernel_rfl))
  f318 := Tryz.func198.trans (congrArg some (by kernel_rfl))
  f319 := Tryz.func199.trans (congrArg some (by kernel_rfl))
  f320 := Tryz.func200.trans (congrArg some (by kernel_rfl))
  f321 := Tryz.func223.trans (congrArg some (by kernel_rfl))
  f322 := Tryz.func224.trans (congrArg some (by kernel_rfl))
  f337 := Tryz.func215.trans (congrArg some (by kernel_rfl))
  f338 := Tryz.func216.trans (congrArg some (by kernel_rfl))
  t0 := Tryz.underlying0
  a0 := Tryz.isAgg0
  z0 := Tryz.sizeOf0
  v0 := Tryz.zeroValue0
  t2 := Tryz.underlying2
  a2 := Tryz.isAgg2
  z2 := Tryz.sizeOf2
  v2 := Tryz.zeroValue2
  t3 := Tryz.underlying3
  a3 := Tryz.isAgg3
  z3 := Tryz.sizeOf3
  v3 := Tryz.zeroValue3
  t4 := Tryz.underlying4
  a4 := Tryz.isAgg4
  z4 := Tryz.sizeOf4
  v4 := Tryz.zeroValue4
  t5 := Tryz.underlying5
  a5 := Tryz.isAgg5
  z5 := Tryz.sizeOf5
  v5 := Tryz.zeroValue5
  t9 := Tryz.underlying9
  a9 := Tryz.isAgg9
  z9 := Tryz.sizeOf9
  v9 := Tryz.zeroValue9
  t20 := Tryz.underlying20
  a20 := Tryz.isAgg20
  z20 := Tryz.sizeOf20
  v20 := Tryz.zeroValue20
  t21 := Tryz.underlying21
  a21 := Tryz.isAgg21
  z21 := Tryz.sizeOf21
  v21 := Tryz.zeroValue21
  t37 := Tryz.underlying59
  a37 := Tryz.isAgg59
  z37 := Tryz.sizeOf59
  v37 := Tryz.zeroValue59
  t46 := Tryz.underlying111
  a46 := Tryz.isAgg111
  z46 := Tryz.sizeOf111
  v46 := Tryz.zeroValue111
  t51 := Tryz.underlying136
  a51 := Tryz.isAgg136
  z51 := Tryz.sizeOf136
  v51 := Tryz.zeroValue136
  t53 := Tryz.underlying156
  a53 := Tryz.isAgg156
  z53 := Tryz.sizeOf156
  v53 := Tryz.zeroValue156
  t75 := Tryz.underlying63
  a75 := Tryz.isAgg63
  z75 := Tryz.sizeOf63
  v75 := Tryz.zeroValue63
  t76 := Tryz.underlying64
  a76 := Tryz.isAgg64
  z76 := Tryz.sizeOf64
  v76 := Tryz.zeroValue64
  t85 := Tryz.underlying181
  a85 := Tryz.isAgg181
  z85 := Tryz.sizeOf181
  v85 := Tryz.zeroValue181
  t127 := Tryz.underlying110
  a127 := Tryz.isAgg110
  z127 := Tryz.sizeOf110
  v127 := Tryz.zeroValue110
  t143 := Tryz.underlying204
  a143 := Tryz.isAgg204
  z143 := Tryz.sizeOf204
  v143 := Tryz.zeroValue204
  t145 := Tryz.underlying206
  a145 := Tryz.isAgg206
  z145 := Tryz.sizeOf206
  v145 := Tryz.zeroValue206
  t167 := Tryz.underlying180
  a167 := Tryz.isAgg180
  z167 := Tryz.sizeOf180
  v167 := Tryz.zeroValue180
  t168 := Tryz.underlying183
  a168 := Tryz.isAgg183
  z168 := Tryz.sizeOf183
  v168 := Tryz.zeroValue183
  t171 := Tryz.underlying157
  a171 := Tryz.isAgg157
  z171 := Tryz.sizeOf157
  v171 := Tryz.zeroValue157
  t173 := Tryz.underlying160
  a173 := Tryz.isAgg160
  z173 := Tryz.sizeOf160
  v173 := Tryz.zeroValue160
  t175 := Tryz.underlying194
  a175 := Tryz.isAgg194
  z175 := Tryz.sizeOf194
  v175 := Tryz.zeroValue194
  t210 := Tryz.underlying197
  a210 := Tryz.isAgg197
  z210 := Tryz.sizeOf197
  v210 := Tryz.zeroValue197
  t212 := Tryz.underlying177
  a212 := Tryz.isAgg177
  z212 := Tryz.sizeOf177
  v212 := Tryz.zeroValue177
  t213 := Tryz.underlying178
  a213 := Tryz.isAgg178
  z213 := Tryz.sizeOf178
  t232 := Tryz.underlying202
  a232 := Tryz.isAgg202
  z232 := Tryz.sizeOf202
  v232 := Tryz.zeroValue202
  t233 := Tryz.underlying203
  a233 := Tryz.isAgg203
  z233 := Tryz.sizeOf203
  v233 := Tryz.zeroValue203
  g15 := by kernel_rfl
  g16 := by kernel_rfl
  g17 := by kernel_rfl
  g18 := by kernel_rfl
  g19 := by kernel_rfl
  t80 := Tryz.underlying67
  a80 := Tryz.isAgg67
  z80 := Tryz.sizeOf67
  v80 := Tryz.zeroValue67
  i0 := by kernel_rfl
  i2 := by kernel_rfl
  i3 := by kernel_rfl
  i4 := by kernel_rfl
  i5 := by kernel_rfl
  i9 := by kernel_rfl
  i20 := by kernel_rfl
  i21 := by kernel_rfl
  i37 := by kernel_rfl
  i46 := by kernel_rfl
  i51 := by kernel_rfl
  i53 := by kernel_rfl
  i75 := by kernel_rfl
  i76 := by kernel_rfl
  i80 := by kernel_rfl
  i85 := by kernel_rfl
  i127 := by kernel_rfl
  i143 := by kernel_rfl
  i145 := by kernel_rfl
  i167 := by kernel_rfl
  i168 := by kernel_rfl
  i171 := by kernel_rfl
  i173 := by kernel_rfl
  i175 := by kernel_rfl
  i210 := by kernel_rfl
  i212 := by kernel_rfl
  i232 := by kernel_rfl
  i233 := by kernel_rfl
  m15 := by kernel_rfl
  m16 := by kernel_rfl
  m17 := by kernel_rfl
  m18 := by kernel_rfl
  m19 := by kernel_rfl
  c0 := by kernel_rfl
  c2 := by kernel_rfl
  c3 := by kernel_rfl
  c4 := by kernel_rfl
  c5 := by kernel_rfl
  c9 := by kernel_rfl
  c20 := by kernel_rfl
  c21 := by kernel_rfl
  c37 := by kernel_rfl
  c46 := by kernel_rfl
  c51 := by kernel_rfl
  c53 := by kernel_rfl
  c75 := by kernel_rfl
  c76 := by kernel_rfl
  c80 := by kernel_rfl
  c85 := by kernel_rfl
  c127 := by kernel_rfl
  c143 := by kernel_rfl
  c145 := by kernel_rfl
  c167 := by kernel_rfl
  c168 := by kernel_rfl
  c171 := by kernel_rfl
  c173 := by kernel_rfl
  c175 := by kernel_rfl
  c210 := by kernel_rfl
  c212 := by kernel_rfl
  c213 := by kernel_rfl
  c232 := by kernel_rfl
  c233 := by kernel_rfl }
open Go.RowKit in
theorem Tryz.strconv_Atoi_ok (s : ByteArray) (hmax : s.size ≤ 9223372036854775806) (v : Int) (h : Lib.atoiAll s.data.toList = .ok v) (w : World) :
    Calls Tryz.prog 150 #[.string s] w fun e w' => e = .returned (.tuple #[.int .i64 v, .nilIface]) ∧ (w' = w ∨ ∃ t, w' = Lib.bytesWorld w 5 t) := Any.strconv_Atoi_ok Tryz.laysC172 s hmax v h w
open Go.RowKit in
theorem Tryz.strconv_Atoi_syntax_var (s : ByteArray) (hlim : s.size ≤ 281474976710656) (h : Lib.atoiAll s.data.toList = Lib.atoiAll []) (tp : TypeId) (p : Value) (w : World) (hvar : w.var? Tryz.prog "strconv.ErrSyntax" = some #[.iface tp p]) :
    Calls Tryz.prog 150 #[.string s] w fun e w' => ∃ N, e = .returned (.tuple #[.int .i64 0, .iface 183 (.pointer (some ⟨N, 0, none⟩))]) ∧ w.heap.size ≤ N ∧ w'.heap[N]? = some (.cells #[.string ⟨#[65, 116, 111, 105]⟩, .string s, .iface tp p] 197 (0, 0)) ∧ Below w.heap.size w w' := Any.strconv_Atoi_syntax_var Tryz.laysC172 s hlim h tp p w hvar
open Go.RowKit in
theorem Tryz.strconv_Atoi_range_var (s : ByteArray) (hlim : s.size ≤ 281474976710656) (h : Lib.atoiAll s.data.toList = .range) (tp : TypeId) (p : Value) (w : World) (hvar : w.var? Tryz.prog "strconv.ErrRange" = some #[.iface tp p]) :
    Calls Tryz.prog 150 #[.string s] w fun e w' => ∃ N, e = .returned (.tuple #[.int .i64 (Lib.atoiSat s.data.toList), .iface 183 (.pointer (some ⟨N, 0, none⟩))]) ∧ w.heap.size ≤ N ∧ w'.heap[N]? = some (.cells #[.string ⟨#[65, 116, 111, 105]⟩, .string s, .iface tp p] 197 (0, 0)) ∧ Below w.heap.size w w' := Any.strconv_Atoi_range_var Tryz.laysC172 s hlim h tp p w hvar
def Tryz.lays143_ren : Go.Shelf.Ren := ⟨fun | 143 => 145 | 219 => 97 | 217 => 98 | 225 => 141 | 224 => 142 | 267 => 143 | 266 => 144 | 314 => 177 | n => n, fun | 9 => 9 | 20 => 20 | 3 => 3 | 4 => 4 | 5 => 5 | 46 => 111 | 146 => 165 | 51 => 136 | n => n, fun | 1 => 2 | n => n⟩
theorem Tryz.lays143 : Go.Proofs.Lays.n143 Tryz.prog Tryz.lays143_ren := {
  mixed := by kernel_rfl
  f143 := Tryz.func145.trans (congrArg some (by kernel_rfl))
  f217 := Tryz.func98.trans (congrArg some (by kernel_rfl))
  f219 := Tryz.func97.trans (congrArg some (by kernel_rfl))
  f224 := Tryz.func142.trans (congrArg some (by kernel_rfl))
  f225 := Tryz.func141.trans (congrArg some (by kernel_rfl))
  f266 := Tryz.func144.trans (congrArg some (by kernel_rfl))
  f267 := Tryz.func143.trans (congrArg some (by kernel_rfl))
  f314 := Tryz.func177.trans (congrArg some (by kernel_rfl))
  t3 := Tryz.underlying3
  a3 := Tryz.isAgg3
  z3 := Tryz.sizeOf3
  v3 := Tryz.zeroValue3
  t4 := Tryz.underlying4
  a4 := Tryz.isAgg4
  z4 := Tryz.sizeOf4
  v4 := Tryz.zeroValue4
  t5 := Tryz.underlying5
  a5 := Tryz.isAgg5
  z5 := Tryz.sizeOf5
  v5 := Tryz.zeroValue5
  t9 := Tryz.underlying9
  a9 := Tryz.isAgg9
  z9 := Tryz.sizeOf9
  v9 := Tryz.zeroValue9
  t46 := Tryz.underlying111
  a46 := Tryz.isAgg111
  z46 := Tryz.sizeOf111
  v46 := Tryz.zeroValue111
  t51 := Tryz.underlying136
  a51 := Tryz.isAgg136
  z51 := Tryz.sizeOf136
  v51 := Tryz.zeroValue136
  t146 := Tryz.underlying165
  a146 := Tryz.isAgg165
  z146 := Tryz.sizeOf165
  v146 := Tryz.zeroValue165
  g1 := by kernel_rfl }
open Go.RowKit Go.Lib in
theorem Tryz.strings_Index_one (s : ByteArray) (c : UInt8) (w : World) :
    Calls Tryz.prog 145 #[.string s, .string ⟨#[c]⟩] w fun e w' => e = .returned (.int .i64 (Lib.indexByte s.data.toList c)) ∧ w' = w := Any.strings_Index_one Tryz.lays143 s c w
def Tryz.lays144_ren : Go.Shelf.Ren := ⟨fun | 144 => 101 | 143 => 145 | 219 => 97 | 217 => 98 | 225 => 141 | 224 => 142 | 267 => 143 | 266 => 144 | 314 => 177 | n => n, fun | 9 => 9 | 20 => 20 | 4 => 4 | 3 => 3 | 5 => 5 | 46 => 111 | 146 => 165 | 51 => 136 | n => n, fun | 1 => 2 | n => n⟩
theorem Tryz.lays144 : Go.Proofs.Lays.n144 Tryz.prog Tryz.lays144_ren := {
  mixed := by kernel_rfl
  f143 := Tryz.func145.trans (congrArg some (by kernel_rfl))
  f144 := Tryz.func101.trans (congrArg some (by kernel_rfl))
  f217 := Tryz.func98.trans (congrArg some (by kernel_rfl))
  f219 := Tryz.func97.trans (congrArg some (by kernel_rfl))
  f224 := Tryz.func142.trans (congrArg some (by kernel_rfl))
  f225 := Tryz.func141.trans (congrArg some (by kernel_rfl))
  f266 := Tryz.func144.trans (congrArg some (by kernel_rfl))
  f267 := Tryz.func143.trans (congrArg some (by kernel_rfl))
  f314 := Tryz.func177.trans (congrArg some (by kernel_rfl))
  t3 := Tryz.underlying3
  a3 := Tryz.isAgg3
  z3 := Tryz.sizeOf3
  v3 := Tryz.zeroValue3
  t4 := Tryz.underlying4
  a4 := Tryz.isAgg4
  z4 := Tryz.sizeOf4
  v4 := Tryz.zeroValue4
  t5 := Tryz.underlying5
  a5 := Tryz.isAgg5
  z5 := Tryz.sizeOf5
  v5 := Tryz.zeroValue5
  t9 := Tryz.underlying9
  a9 := Tryz.isAgg9
  z9 := Tryz.sizeOf9
  v9 := Tryz.zeroValue9
  t46 := Tryz.underlying111
  a46 := Tryz.isAgg111
  z46 := Tryz.sizeOf111
  v46 := Tryz.zeroValue111
  t51 := Tryz.underlying136
  a51 := Tryz.isAgg136
  z51 := Tryz.sizeOf136
  v51 := Tryz.zeroValue136
  t146 := Tryz.underlying165
  a146 := Tryz.isAgg165
  z146 := Tryz.sizeOf165
  v146 := Tryz.zeroValue165
  g1 := by kernel_rfl }
open Go.RowKit Go.Lib in
theorem Tryz.strings_Contains_one (s : ByteArray) (c : UInt8) (w : World) :
    Calls Tryz.prog 101 #[.string s, .string ⟨#[c]⟩] w fun e w' => e = .returned (.bool (decide (0 ≤ Lib.indexByte s.data.toList c))) ∧ w' = w := Any.strings_Contains_one Tryz.lays144 s c w
def Tryz.lays145_ren : Go.Shelf.Ren := ⟨fun | 145 => 30 | 220 => 65 | 219 => 97 | 217 => 98 | 225 => 141 | 224 => 142 | 267 => 143 | 266 => 144 | 314 => 177 | n => n, fun | 9 => 9 | 20 => 20 | 4 => 4 | 59 => 52 | 3 => 3 | 5 => 5 | 46 => 111 | 146 => 165 | 51 => 136 | n => n, fun | 1 => 2 | n => n⟩
theorem Tryz.lays145 : Go.Proofs.Lays.n145 Tryz.prog Tryz.lays145_ren := {
  mixed := by kernel_rfl
  f145 := Tryz.func30.trans (congrArg some (by kernel_rfl))
  f217 := Tryz.func98.trans (congrArg some (by kernel_rfl))
  f219 := Tryz.func97.trans (congrArg some (by kernel_rfl))
  f220 := Tryz.func65.trans (congrArg some (by kernel_rfl))
  f224 := Tryz.func142.trans (congrArg some (by kernel_rfl))
  f225 := Tryz.func141.trans (congrArg some (by kernel_rfl))
  f266 := Tryz.func144.trans (congrArg some (by kernel_rfl))
  f267 := Tryz.func143.trans (congrArg some (by kernel_rfl))
  f314 := Tryz.func177.trans (congrArg some (by kernel_rfl))
  t3 := Tryz.underlying3
  a3 := Tryz.isAgg3
  z3 := Tryz.sizeOf3
  v3 := Tryz.zeroValue3
  t4 := Tryz.underlying4
  a4 := Tryz.isAgg4
  z4 := Tryz.sizeOf4
  v4 := Tryz.zeroValue4
  t5 := Tryz.underlying5
  a5 := Tryz.isAgg5
  z5 := Tryz.sizeOf5
  v5 := Tryz.zeroValue5
  t9 := Tryz.underlying9
  a9 := Tryz.isAgg9
  z9 := Tryz.sizeOf9
  v9 := Tryz.zeroValue9
  t46 := Tryz.underlying111
  a46 := Tryz.isAgg111
  z46 := Tryz.sizeOf111
  v46 := Tryz.zeroValue111
  t51 := Tryz.underlying136
  a51 := Tryz.isAgg136
  z51 := Tryz.sizeOf136
  v51 := Tryz.zeroValue136
  t59 := Tryz.underlying52
  a59 := Tryz.isAgg52
  z59 := Tryz.sizeOf52
  v59 := Tryz.zeroValue52
  t146 := Tryz.underlying165
  a146 := Tryz.isAgg165
  z146 := Tryz.sizeOf165
  v146 := Tryz.zeroValue165
  g1 := by kernel_rfl }
open Go.RowKit Go.Lib in
theorem Tryz.strings_Cut (s sep : ByteArray) (m : Int) (w : World) (hs : s.size < 4294967281) (hm : w.cell? ⟨2, 0, none⟩ = some (.int .i64 m)) :
    Calls Tryz.prog 30 #[.string s, .string sep] w fun e w' => e = .returned (.tuple #[.string ⟨(Lib.cut s.data.toList sep.data.toList).1.toArray⟩, .string ⟨(Lib.cut s.data.toList sep.data.toList).2.1.toArray⟩, .bool (Lib.cut s.data.toList sep.data.toList).2.2]) ∧ ∃ n, w' = w.drewN n := Any.strings_Cut Tryz.lays145 s sep m w hs hm
def Tryz.lays149_ren : Go.Shelf.Ren := ⟨fun | 149 => 104 | 222 => 148 | n => n, fun | 9 => 9 | 20 => 20 | 5 => 5 | 3 => 3 | 4 => 4 | n => n, fun | n => n⟩
theorem Tryz.lays149 : Go.Proofs.Lays.n149 Tryz.prog Tryz.lays149_ren := {
  mixed := by kernel_rfl
  f149 := Tryz.func104.trans (congrArg some (by kernel_rfl))
  f222 := Tryz.func148.trans (congrArg some (by kernel_rfl))
  t3 := Tryz.underlying3
  a3 := Tryz.isAgg3
  z3 := Tryz.sizeOf3
  v3 := Tryz.zeroValue3
  t4 := Tryz.underlying4
  a4 := Tryz.isAgg4
  z4 := Tryz.sizeOf4
  v4 := Tryz.zeroValue4
  t5 := Tryz.underlying5
  a5 := Tryz.isAgg5
  z5 := Tryz.sizeOf5
  v5 := Tryz.zeroValue5
  t9 := Tryz.underlying9
  a9 := Tryz.isAgg9
  z9 := Tryz.sizeOf9
  v9 := Tryz.zeroValue9 }
open Go.RowKit Go.Lib in
theorem Tryz.strings_LastIndexByte (s : ByteArray) (c : Int) (hs : s.size < 4611686018427387904) (w : World) :
    Calls Tryz.prog 104 #[.string s, .int .u8 c] w fun e w' => e = .returned (.int .i64 (Lib.lastIndexByte s c)) ∧ w' = w := Any.strings_LastIndexByte Tryz.lays149 s c hs w
def Tryz.lays100_ren : Go.Shelf.Ren := ⟨fun | 100 => 103 | 207 => 147 | n => n, fun | 9 => 9 | 20 => 20 | 4 => 4 | 3 => 3 | n => n, fun | n => n⟩
theorem Tryz.lays100 : Go.Proofs.Lays.n100 Tryz.prog Tryz.lays100_ren := {
  mixed := by kernel_rfl
  f100 := Tryz.func103.trans (congrArg some (by kernel_rfl))
  f207 := Tryz.func147.trans (congrArg some (by kernel_rfl))
  t3 := Tryz.underlying3
  a3 := Tryz.isAgg3
  z3 := Tryz.sizeOf3
  v3 := Tryz.zeroValue3
  t4 := Tryz.underlying4
  a4 := Tryz.isAgg4
  z4 := Tryz.sizeOf4
  v4 := Tryz.zeroValue4
  t9 := Tryz.underlying9
  a9 := Tryz.isAgg9
  z9 := Tryz.sizeOf9
  v9 := Tryz.zeroValue9 }
open Go.RowKit Go.Lib in
theorem Tryz.strings_HasSuffix (s p : ByteArray) (w : World) (hs : s.size ≤ 9223372036854775807) :
    Calls Tryz.prog 103 #[.string s, .string p] w fun e w' => e = .returned (.bool (Lib.hasSuffix s.data.toList p.data.toList)) ∧ w' = w := Any.strings_HasSuffix Tryz.lays100 s p w hs
def Tryz.lays101_ren : Go.Shelf.Ren := ⟨fun | 101 => 178 | 208 => 205 | 206 => 217 | n => n, fun | 9 => 9 | 20 => 20 | 4 => 4 | 3 => 3 | n => n, fun | n => n⟩
theorem Tryz.lays101 : Go.Proofs.Lays.n101 Tryz.prog Tryz.lays101_ren := {
  mixed := by kernel_rfl
  f101 := Tryz.func178.trans (congrArg some (by kernel_rfl))
  f206 := Tryz.func217.trans (congrArg some (by kernel_rfl))
  f208 := Tryz.func205.trans (congrArg some (by kernel_rfl))
  t3 := Tryz.underlying3
  a3 := Tryz.isAgg3
  z3 := Tryz.sizeOf3
  v3 := Tryz.zeroValue3
  t4 := Tryz.underlying4
  a4 := Tryz.isAgg4
  z4 := Tryz.sizeOf4
  v4 := Tryz.zeroValue4
  t9 := Tryz.underlying9
  a9 := Tryz.isAgg9
  z9 := Tryz.sizeOf9
  v9 := Tryz.zeroValue9 }
open Go.RowKit Go.Lib in
theorem Tryz.strings_TrimPrefix (s p : ByteArray) (w : World) :
    Calls Tryz.prog 178 #[.string s, .string p] w fun e w' => e = .returned (.string ⟨(Lib.trimPrefix s.data.toList p.data.toList).toArray⟩) ∧ w' = w := Any.strings_TrimPrefix Tryz.lays101 s p w
def Tryz.lays102_ren : Go.Shelf.Ren := ⟨fun | 102 => 126 | 209 => 172 | 207 => 147 | n => n, fun | 9 => 9 | 20 => 20 | 4 => 4 | 3 => 3 | n => n, fun | n => n⟩
theorem Tryz.lays102 : Go.Proofs.Lays.n102 Tryz.prog Tryz.lays102_ren := {
  mixed := by kernel_rfl
  f102 := Tryz.func126.trans (congrArg some (by kernel_rfl))
  f207 := Tryz.func147.trans (congrArg some (by kernel_rfl))
  f209 := Tryz.func172.trans (congrArg some (by kernel_rfl))
  t3 := Tryz.underlying3
  a3 := Tryz.isAgg3
  z3 := Tryz.sizeOf3
  v3 := Tryz.zeroValue3
  t4 := Tryz.underlying4
  a4 := Tryz.isAgg4
  z4 := Tryz.sizeOf4
  v4 := Tryz.zeroValue4
  t9 := Tryz.underlying9
  a9 := Tryz.isAgg9
  z9 := Tryz.sizeOf9
  v9 := Tryz.zeroValue9 }
open Go.RowKit Go.Lib in
theorem Tryz.strings_TrimSuffix (s p : ByteArray) (w : World) (hs : s.size ≤ 9223372036854775807) :
    Calls Tryz.prog 126 #[.string s, .string p] w fun e w' => e = .returned (.string ⟨(Lib.trimSuffix s.data.toList p.data.toList).toArray⟩) ∧ w' = w := Any.strings_TrimSuffix Tryz.lays102 s p w hs
def Tryz.lays152_ren : Go.Shelf.Ren := ⟨fun | 152 => 162 | 137 => 67 | 119 => 192 | 224 => 142 | 225 => 141 | 217 => 98 | 266 => 144 | n => n, fun | 9 => 9 | 20 => 20 | 21 => 21 | 3 => 3 | 4 => 4 | 5 => 5 | 0 => 0 | 46 => 111 | n => n, fun | n => n⟩
theorem Tryz.lays152 : Go.Proofs.Lays.n152 Tryz.prog Tryz.lays152_ren := {
  mixed := by kernel_rfl
  f119 := Tryz.func192.trans (congrArg some (by kernel_rfl))
  f137 := Tryz.func67.trans (congrArg some (by kernel_rfl))
  f152 := Tryz.func162.trans (congrArg some (by kernel_rfl))
  f217 := Tryz.func98.trans (congrArg some (by kernel_rfl))
  f224 := Tryz.func142.trans (congrArg some (by kernel_rfl))
  f225 := Tryz.func141.trans (congrArg some (by kernel_rfl))
  f266 := Tryz.func144.trans (congrArg some (by kernel_rfl))
  t0 := Tryz.underlying0
  a0 := Tryz.isAgg0
  z0 := Tryz.sizeOf0
  v0 := Tryz.zeroValue0
  t3 := Tryz.underlying3
  a3 := Tryz.isAgg3
  z3 := Tryz.sizeOf3
  v3 := Tryz.zeroValue3
  t4 := Tryz.underlying4
  a4 := Tryz.isAgg4
  z4 := Tryz.sizeOf4
  v4 := Tryz.zeroValue4
  t5 := Tryz.underlying5
  a5 := Tryz.isAgg5
  z5 := Tryz.sizeOf5
  v5 := Tryz.zeroValue5
  t9 := Tryz.underlying9
  a9 := Tryz.isAgg9
  z9 := Tryz.sizeOf9
  v9 := Tryz.zeroValue9
  t21 := Tryz.underlying21
  a21 := Tryz.isAgg21
  z21 := Tryz.sizeOf21
  v21 := Tryz.zeroValue21
  t46 := Tryz.underlying111
  a46 := Tryz.isAgg111
  z46 := Tryz.sizeOf111
  v46 := Tryz.zeroValue111 }
open Go.RowKit Go.Lib in
theorem Tryz.strings_IndexRune_ascii (s : ByteArray) (r : Int) (w : World) (h0 : 0 ≤ r) (h1 : r < 128) :
    Calls Tryz.prog 162 #[.string s, .int .i32 r] w fun e w' => e = .returned (.int .i64 (Lib.indexByte s.data.toList r.toNat.toUInt8)) ∧ w' = w := Any.strings_IndexRune_ascii Tryz.lays152 s r w h0 h1
def Tryz.lays151_ren : Go.Shelf.Ren := ⟨fun | 151 => 174 | 152 => 162 | 137 => 67 | 119 => 192 | 224 => 142 | 225 => 141 | 217 => 98 | 266 => 144 | n => n, fun | 9 => 9 | 20 => 20 | 21 => 21 | 4 => 4 | 3 => 3 | 5 => 5 | 0 => 0 | 46 => 111 | n => n, fun | n => n⟩
theorem Tryz.lays151 : Go.Proofs.Lays.n151 Tryz.prog Tryz.lays151_ren := {
  mixed := by kernel_rfl
  f119 := Tryz.func192.trans (congrArg some (by kernel_rfl))
  f137 := Tryz.func67.trans (congrArg some (by kernel_rfl))
  f151 := Tryz.func174.trans (congrArg some (by kernel_rfl))
  f152 := Tryz.func162.trans (congrArg some (by kernel_rfl))
  f217 := Tryz.func98.trans (congrArg some (by kernel_rfl))
  f224 := Tryz.func142.trans (congrArg some (by kernel_rfl))
  f225 := Tryz.func141.trans (congrArg some (by kernel_rfl))
  f266 := Tryz.func144.trans (congrArg some (by kernel_rfl))
  t0 := Tryz.underlying0
  a0 := Tryz.isAgg0
  z0 := Tryz.sizeOf0
  v0 := Tryz.zeroValue0
  t3 := Tryz.underlying3
  a3 := Tryz.isAgg3
  z3 := Tryz.sizeOf3
  v3 := Tryz.zeroValue3
  t4 := Tryz.underlying4
  a4 := Tryz.isAgg4
  z4 := Tryz.sizeOf4
  v4 := Tryz.zeroValue4
  t5 := Tryz.underlying5
  a5 := Tryz.isAgg5
  z5 := Tryz.sizeOf5
  v5 := Tryz.zeroValue5
  t9 := Tryz.underlying9
  a9 := Tryz.isAgg9
  z9 := Tryz.sizeOf9
  v9 := Tryz.zeroValue9
  t21 := Tryz.underlying21
  a21 := Tryz.isAgg21
  z21 := Tryz.sizeOf21
  v21 := Tryz.zeroValue21
  t46 := Tryz.underlying111
  a46 := Tryz.isAgg111
  z46 := Tryz.sizeOf111
  v46 := Tryz.zeroValue111 }
open Go.RowKit Go.Lib in
theorem Tryz.strings_ContainsRune_ascii (s : ByteArray) (r : Int) (w : World) (h0 : 0 ≤ r) (h1 : r < 128) :
    Calls Tryz.prog 174 #[.string s, .int .i32 r] w fun e w' => e = .returned (.bool (decide (0 ≤ Lib.indexByte s.data.toList r.toNat.toUInt8))) ∧ w' = w := Any.strings_ContainsRune_ascii Tryz.lays151 s r w h0 h1
def Tryz.lays226_ren : Go.Shelf.Ren := ⟨fun | 226 => 163 | n => n, fun | 9 => 9 | 20 => 20 | 3 => 3 | 4 => 4 | n => n, fun | n => n⟩
theorem Tryz.lays226 : Go.Proofs.Lays.n226 Tryz.prog Tryz.lays226_ren := {
  mixed := by kernel_rfl
  f226 := Tryz.func163.trans (congrArg some (by kernel_rfl))
  t3 := Tryz.underlying3
  a3 := Tryz.isAgg3
  z3 := Tryz.sizeOf3
  v3 := Tryz.zeroValue3
  t4 := Tryz.underlying4
  a4 := Tryz.isAgg4
  z4 := Tryz.sizeOf4
  v4 := Tryz.zeroValue4 }
open Go.RowKit Go.Lib in
theorem Tryz.strings_shouldUseASCIISet (n : Int) (w : World) :
    Calls Tryz.prog 163 #[.int .i64 n] w fun e w' => e = .returned (.bool (decide (8 < n))) ∧ w' = w := Any.strings_shouldUseASCIISet Tryz.lays226 n w
def Tryz.lays153_ren : Go.Shelf.Ren := ⟨fun | 153 => 118 | 152 => 162 | 226 => 163 | 227 => 128 | 228 => 164 | 137 => 67 | 119 => 192 | 224 => 142 | 225 => 141 | 217 => 98 | 266 => 144 | n => n, fun | 9 => 9 | 20 => 20 | 3 => 3 | 4 => 4 | 5 => 5 | 21 => 21 | 117 => 140 | 116 => 139 | 0 => 0 | 46 => 111 | 124 => 143 | n => n, fun | n => n⟩
theorem Tryz.lays153 : Go.Proofs.Lays.n153 Tryz.prog Tryz.lays153_ren := {
  mixed := by kernel_rfl
  f119 := Tryz.func192.trans (congrArg some (by kernel_rfl))
  f137 := Tryz.func67.trans (congrArg some (by kernel_rfl))
  f152 := Tryz.func162.trans (congrArg some (by kernel_rfl))
  f153 := Tryz.func118.trans (congrArg some (by kernel_rfl))
  f217 := Tryz.func98.trans (congrArg some (by kernel_rfl))
  f224 := Tryz.func142.trans (congrArg some (by kernel_rfl))
  f225 := Tryz.func141.trans (congrArg some (by kernel_rfl))
  f226 := Tryz.func163.trans (congrArg some (by kernel_rfl))
  f227 := Tryz.func128.trans (congrArg some (by kernel_rfl))
  f228 := Tryz.func164.trans (congrArg some (by kernel_rfl))
  f266 := Tryz.func144.trans (congrArg some (by kernel_rfl))
  t0 := Tryz.underlying0
  a0 := Tryz.isAgg0
  z0 := Tryz.sizeOf0
  v0 := Tryz.zeroValue0
  t3 := Tryz.underlying3
  a3 := Tryz.isAgg3
  z3 := Tryz.sizeOf3
  v3 := Tryz.zeroValue3
  t4 := Tryz.underlying4
  a4 := Tryz.isAgg4
  z4 := Tryz.sizeOf4
  v4 := Tryz.zeroValue4
  t5 := Tryz.underlying5
  a5 := Tryz.isAgg5
  z5 := Tryz.sizeOf5
  v5 := Tryz.zeroValue5
  t9 := Tryz.underlying9
  a9 := Tryz.isAgg9
  z9 := Tryz.sizeOf9
  v9 := Tryz.zeroValue9
  t21 := Tryz.underlying21
  a21 := Tryz.isAgg21
  z21 := Tryz.sizeOf21
  v21 := Tryz.zeroValue21
  t46 := Tryz.underlying111
  a46 := Tryz.isAgg111
  z46 := Tryz.sizeOf111
  v46 := Tryz.zeroValue111
  t116 := Tryz.underlying139
  a116 := Tryz.isAgg139
  z116 := Tryz.sizeOf139
  t117 := Tryz.underlying140
  a117 := Tryz.isAgg140
  z117 := Tryz.sizeOf140
  v117 := Tryz.zeroValue140
  t124 := Tryz.underlying143
  a124 := Tryz.isAgg143
  z124 := Tryz.sizeOf143
  v124 := Tryz.zeroValue143 }
open Go.RowKit Go.Lib in
theorem Tryz.strings_IndexAny_long (hv116 : ∀ w, (zeroValue 139).run Tryz.prog w = .ok (.agg (Array.replicate 256 (.bool false))) w) (s chars : ByteArray) (w : World) (h2 : 2 ≤ chars.size) (h8 : 8 < s.size) (hs : s.size < 4294967281) (hcs : chars.size < 4294967281) (hascii : ∀ (j : Nat) b, chars.data.toList[j]? = some b → b.toNat < 128) :
    Calls Tryz.prog 118 #[.string s, .string chars] w fun e w' => e = .returned (.int .i64 (Lib.indexAny s.data.toList chars.data.toList)) ∧ w' = ((w.alloc (.cells (Lib.setCells chars.data.toList) 139)).alloc (.cells (Lib.setCells chars.data.toList) 139)) := Any.strings_IndexAny_long Tryz.lays153 hv116 (by kernel_rfl) s chars w h2 h8 hs hcs hascii
end Go.Proofs
namespace Go.Proofs.YtdinachiiimngaaGreatDoor
open Go.ChangeShapes Go.WideShapes Go.ChangeAt Go.RowKit

theorem Qtrans {w w1 w2 : World} (h : Below w.heap.size w w1) (k : Below w1.heap.size w1 w2) : Below w.heap.size w w2 := h.trans (k.mono h.size)
/-! ### Strings as lists of bytes -/
/-- The string of a list of bytes. -/
def strL (l : List UInt8) : ByteArray := ⟨l.toArray⟩
theorem strL_list (l : List UInt8) : (strL l).data.toList = l := rfl
theorem strL_size (l : List UInt8) : (strL l).size = l.length := by
  show l.toArray.size = l.length
  simp
theorem bytes_is {a b : ByteArray} (h : a.data.toList = b.data.toList) : a = b := by
  cases a; cases b
  simp only [ByteArray.mk.injEq] at h ⊢
  exact Array.toList_inj.1 h
theorem strL_of (s : ByteArray) : strL s.data.toList = s := bytes_is rfl
theorem strL_is {s : ByteArray} {l : List UInt8} (h : s.data.toList = l) : s = strL l := bytes_is h
theorem strL_inj {a b : List UInt8} : strL a = strL b ↔ a = b := ⟨fun h => congrArg (fun s : ByteArray => s.data.toList) h, fun h => by rw [h]⟩
theorem size_list (t : ByteArray) : t.size = t.data.toList.length := by rw [Array.length_toList]; rfl
theorem bytes_eqb (a b : ByteArray) : (a == b) = decide (a = b) := by
  rw [Bool.eq_iff_iff, MapKept.bytes_beq, decide_eq_true_eq]
theorem eq_lists (a b : ByteArray) : (a.toList == b.toList) = (a == b) := by
  rw [bytes_eqb, Bool.eq_iff_iff, beq_iff_eq, ByteArray.toList_eq, ByteArray.toList_eq, decide_eq_true_eq]
  exact ⟨bytes_is, fun h => by rw [h]⟩
theorem eq_strL (a b : List UInt8) : ((strL a).toList == (strL b).toList) = decide (a = b) := by
  rw [eq_lists, bytes_eqb, Bool.eq_iff_iff, decide_eq_true_eq, decide_eq_true_eq, strL_inj]
theorem list_append (a b : ByteArray) : (a ++ b).data.toList = a.data.toList ++ b.data.toList := by
  rw [ByteArray.data_append, Array.toList_append]
theorem strL_append (a b : List UInt8) : strL a ++ strL b = strL (a ++ b) := bytes_is (by rw [list_append]; rfl)
/-- A part of a string. -/
theorem part_of (s : ByteArray) (i j : Nat) (_hij : i ≤ j) (_hj : j ≤ s.size) : s.extract i j = strL ((s.data.toList.drop i).take (j - i)) := by
  refine bytes_is ?_
  rw [ByteArray.data_extract, Array.toList_extract, strL_list, List.extract_eq_take_drop]
theorem run_slice_str (s : ByteArray) (p q : Nat) (x : Int) (hx : x = q) (h : p ≤ q) (h2 : q ≤ s.size) (W : World) :
    (Instr.slice 9 (.string s) (some (.int .i64 p)) (some (.int .i64 x)) none).run Tryz.prog W = .ok (.string (s.extract p q)) W := by
  subst hx
  go_simp
theorem run_slice_from (s : ByteArray) (p : Nat) (x : Int) (hx : x = p) (h2 : p ≤ s.size) (W : World) :
    (Instr.slice 9 (.string s) (some (.int .i64 x)) none none).run Tryz.prog W = .ok (.string (s.extract p s.size)) W := by
  subst hx
  go_simp
theorem run_slice_to (s : ByteArray) (q : Nat) (x : Int) (hx : x = q) (h2 : q ≤ s.size) (W : World) :
    (Instr.slice 9 (.string s) none (some (.int .i64 x)) none).run Tryz.prog W = .ok (.string (s.extract 0 q)) W := by
  subst hx
  go_simp
theorem run_index_str (s : ByteArray) (x : Int) (n : Nat) (hx : x = n) (h : n < s.size) (W : World) :
    (Instr.index 9 (.string s) (.int .i64 x)).run Tryz.prog W = .ok (.int .u8 (s[n].toNat : Int)) W := by
  subst hx
  go_simp
theorem at_list (s : ByteArray) (n : Nat) (_h : n < s.size) (h2 : n < s.data.toList.length) : s.data.toList[n] = s[n] := rfl
theorem drop_cons (s : ByteArray) (n : Nat) (h : n < s.size) : s.data.toList.drop n = s[n] :: s.data.toList.drop (n + 1) := List.drop_eq_getElem_cons (by rw [← size_list]; exact h)
theorem part_rest (s : ByteArray) (n : Nat) (h : n ≤ s.size) : (s.extract n s.size).data.toList = s.data.toList.drop n := by
  rw [part_of s n s.size h (by omega), strL_list, List.take_of_length_le]
  rw [List.length_drop, ← size_list]
  exact Nat.le_refl _
theorem part_start (s : ByteArray) (n : Nat) (h : n ≤ s.size) : (s.extract 0 n).data.toList = s.data.toList.take n := by
  rw [part_of s 0 n (by omega) h, strL_list]; rfl
/-! ### Slices that can be read -/
def strV (l : List UInt8) : Value := .string (strL l)
def blk : Value → Option Nat
  | .slice (some a) _ _ => some a.block
  | _ => none
/-- The slice v reads as xs. -/
def Has {A : Type} (E : A → Value) (w : World) (v : Value) (xs : List A) : Prop :=
  (v = .slice none 0 0 ∧ xs = []) ∨ ∃ a c, v = .slice (some a) xs.length c ∧ ∀ j (h : j < xs.length), w.cell? (a.add j) = some (E xs[j])
theorem Has.nil {A : Type} (E : A → Value) (w : World) : Has E w (.slice none 0 0) [] := Or.inl ⟨rfl, rfl⟩
theorem add_block (a : Addr) (j : Nat) : (a.add j).block = a.block := by unfold Addr.add; split <;> rfl
theorem block_lt {w : World} {a : Addr} {j : Nat} {u : Value} (h : w.cell? (a.add j) = some u) : a.block < w.heap.size := by
  have := World.block_lt_of_cell? w (a.add j) h
  rwa [add_block] at this
theorem Has.keep {A : Type} {E : A → Value} {w w' : World} {v : Value} {xs : List A} (h : Has E w v xs) (hk : ∀ k, blk v = some k → k < w.heap.size → w'.heap[k]? = w.heap[k]?) : Has E w' v xs := by
  rcases h with h | ⟨a, c, rfl, h2⟩
  · exact Or.inl h
  · exact Or.inr ⟨a, c, rfl, fun j hj => by rw [World.cell?_of_block (w := w) (by rw [add_block]; exact hk a.block rfl (block_lt (h2 j hj)))]; exact h2 j hj⟩
theorem Has.below {A : Type} {E : A → Value} {w w' : World} {v : Value} {xs : List A} {B : Nat} (h : Has E w v xs) (hb : Below B w w') (hB : ∀ k, blk v = some k → k < w.heap.size → k < B) : Has E w' v xs :=
  h.keep fun k hk hl => hb.block k (hB k hk hl)
theorem Has.below' {A : Type} {E : A → Value} {w w' : World} {v : Value} {xs : List A} (h : Has E w v xs) (hb : Below w.heap.size w w') : Has E w' v xs := h.below hb fun _ _ h => h
theorem Has.of_own {A : Type} {E : A → Value} {w : World} {base e : Nat} {v : Value} {xs : List A} (h : w.ownsRow base e 1 v xs.length (xs.map E)) : Has E w v xs ∧ ∀ k, blk v = some k → base ≤ k := by
  rcases h.2 with ⟨rfl, h0⟩ | ⟨g, cap, cur, rfl, hb, hg, _⟩
  · exact ⟨Or.inl ⟨rfl, List.eq_nil_of_length_eq_zero h0⟩, fun k hk => by cases hk⟩
  · refine ⟨Or.inr ⟨⟨g, 0, none⟩, cap, rfl, fun j hj => ?_⟩, fun k hk => by cases hk; exact hb⟩
    exact h.cells (g := g) rfl j _ (by rw [List.getElem?_map, List.getElem?_eq_getElem hj]; rfl)
theorem cells_new {A : Type} (E : A → Value) (w : World) (e : TypeId) (l : List A) : ∀ j u, (l.map E)[j]? = some u → (w.alloc (.cells (l.map E).toArray e)).cell? ((⟨w.heap.size, 0, none⟩ : Addr).add j) = some u := by
  intro j u h
  have := World.cell?_alloc_mark w (l.map E).toArray e (0, 0) j
  have e : (⟨w.heap.size, 0, none⟩ : Addr).add j = ⟨w.heap.size, j, none⟩ := by
    simp only [Addr.add, Nat.zero_add]
    split
    · rename_i hj; rw [hj]
    · rfl
  rw [e, this, List.getElem?_toArray]; exact h
theorem Has.lit {A : Type} (E : A → Value) (w : World) (e : TypeId) (l : List A) (n : Nat) (hn : n = l.length) : Has E (w.alloc (.cells (l.map E).toArray e)) (.slice (some ⟨w.heap.size, 0, none⟩) n n) l := by
  subst hn
  exact Or.inr ⟨_, _, rfl, fun j hj => cells_new E w e l j _ (by rw [List.getElem?_map, List.getElem?_eq_getElem hj]; rfl)⟩
theorem own_below {w w' : World} {base : Nat} {e : TypeId} {size : Nat} {v : Value} {n : Nat} {xs : List Value} (h : w.ownsRow base e size v n xs) (hb : Below w.heap.size w w') : w'.ownsRow base e size v n xs := by
  refine ⟨h.1, ?_⟩
  rcases h.2 with h1 | ⟨g, cap, cur, rfl, hbg, hg, rest⟩
  · exact .inl h1
  · refine .inr ⟨g, cap, cur, rfl, hbg, ?_, rest⟩
    rw [hb.block g (Array.getElem?_eq_some_iff.1 hg).1]
    exact hg
theorem info9 : (Tryz.prog.info? 9).map (fun i => (i.zero, i.size, i.bytes)) = some (some (.string ⟨#[]⟩), 1, 16) := by kernel_rfl
theorem info5 : (Tryz.prog.info? 5).map (fun i => (i.zero, i.size, i.bytes)) = some (some (.int .u8 0), 1, 1) := by kernel_rfl
end Go.Proofs.YtdinachiiimngaaGreatDoor
namespace Go.Proofs.YtdinachiiimngaaGreatDoor.TokP

structure Tok where
  kind : Nat
  text : List UInt8
deriving DecidableEq
def blank (c : UInt8) : Bool := c == 9 || c == 10 || c == 13 || c == 32
def special (c : UInt8) : Bool := [40, 41, 60, 62, 91, 93, 58, 59, 64, 92, 44, 46, 34].contains c
def atomB (c : UInt8) : Bool := decide (32 < c.toNat) && c != 127 && !special c
/-- What opens a token that is closed by another byte. -/
def opens (c : UInt8) : Bool := c == 40 || c == 34 || c == 91
def closer (c : UInt8) : UInt8 := if c = 40 then 41 else if c = 34 then 34 else 93
def kindO (c : UInt8) : Nat := if c = 40 then 3 else if c = 34 then 2 else 5
/-- How many bytes behind the opening one there are to the closing one, it too: q closes, nest: '(' opens another; e: the byte is escaped; d: the depth. -/
def closeS (q : UInt8) (nest : Bool) : Bool → Nat → List UInt8 → Option Nat
  | _, _, [] => none
  | true, d, _ :: t => (closeS q nest false d t).map (· + 1)
  | false, d, c :: t =>
    if c = 92 then (closeS q nest true d t).map (· + 1)
    else if c = q then (if d = 0 then some 1 else (closeS q nest false (d - 1) t).map (· + 1))
    else if nest = true ∧ c = 40 then (closeS q nest false (d + 1) t).map (· + 1)
    else (closeS q nest false d t).map (· + 1)
def closeL (c : UInt8) (t : List UInt8) : Option Nat := closeS (closer c) (c == 40) false 0 t
/-- The first token. -/
def frontL : List UInt8 → Tok
  | [] => ⟨7, []⟩
  | c :: t =>
    if blank c = true then ⟨6, (c :: t).takeWhile blank⟩
    else if opens c = true then (match closeL c t with
      | none => ⟨7, c :: t⟩
      | some n => ⟨kindO c, c :: t.take n⟩)
    else if special c = true then ⟨4, [c]⟩
    else if atomB c = true then ⟨1, (c :: t).takeWhile atomB⟩
    else ⟨7, [c]⟩
theorem close_le (q : UInt8) (nest : Bool) : ∀ (t : List UInt8) (e : Bool) (d n : Nat), closeS q nest e d t = some n → 0 < n ∧ n ≤ t.length := by
  intro t
  induction t with
  | nil => intro e d n h; cases e <;> simp [closeS] at h
  | cons c t ih =>
    intro e d n h
    have key : ∀ e' d', (closeS q nest e' d' t).map (· + 1) = some n → 0 < n ∧ n ≤ (c :: t).length := by
      intro e' d' h'
      obtain ⟨m, hm, rfl⟩ := Option.map_eq_some_iff.1 h'
      have := ih e' d' m hm
      rw [List.length_cons]; omega
    cases e with
    | true => exact key _ _ (by simpa only [closeS] using h)
    | false =>
      rw [closeS] at h
      split at h
      · exact key _ _ h
      · split at h
        · split at h
          · cases h; rw [List.length_cons]; omega
          · exact key _ _ h
        · split at h
          · exact key _ _ h
          · exact key _ _ h
/-- Only what stands before the closing byte matters. -/
theorem close_pre (q : UInt8) (nest : Bool) : ∀ (t u : List UInt8) (e : Bool) (d n : Nat), closeS q nest e d t = some n → closeS q nest e d (t.take n ++ u) = some n := by
  intro t
  induction t with
  | nil => intro u e d n h; cases e <;> simp [closeS] at h
  | cons c t ih =>
    intro u e d n h
    have key : ∀ e' d', (closeS q nest e' d' t).map (· + 1) = some n → (∃ m, n = m + 1 ∧ (closeS q nest e' d' (t.take m ++ u)).map (· + 1) = some n) := by
      intro e' d' h'
      obtain ⟨m, hm, rfl⟩ := Option.map_eq_some_iff.1 h'
      exact ⟨m, rfl, by rw [ih u e' d' m hm]; rfl⟩
    cases e with
    | true =>
      obtain ⟨m, rfl, h2⟩ := key _ _ (by simpa only [closeS] using h)
      rw [List.take_succ_cons, List.cons_append, closeS]; exact h2
    | false =>
      rw [closeS] at h
      by_cases h1 : c = 92
      · rw [if_pos h1] at h
        obtain ⟨m, rfl, h2⟩ := key _ _ h
        rw [List.take_succ_cons, List.cons_append, closeS, if_pos h1]; exact h2
      · rw [if_neg h1] at h
        by_cases h3 : c = q
        · rw [if_pos h3] at h
          by_cases h4 : d = 0
          · rw [if_pos h4] at h
            cases h
            rw [List.take_succ_cons, List.cons_append, closeS, if_neg h1, if_pos h3, if_pos h4]
          · rw [if_neg h4] at h
            obtain ⟨m, rfl, h2⟩ := key _ _ h
            rw [List.take_succ_cons, List.cons_append, closeS, if_neg h1, if_pos h3, if_neg h4]; exact h2
        · rw [if_neg h3] at h
          by_cases h5 : nest = true ∧ c = 40
          · rw [if_pos h5] at h
            obtain ⟨m, rfl, h2⟩ := key _ _ h
            rw [List.take_succ_cons, List.cons_append, closeS, if_neg h1, if_neg h3, if_pos h5]; exact h2
          · rw [if_neg h5] at h
            obtain ⟨m, rfl, h2⟩ := key _ _ h
            rw [List.take_succ_cons, List.cons_append, closeS, if_neg h1, if_neg h3, if_neg h5]; exact h2
theorem close_app (c : UInt8) (t u : List UInt8) (n : Nat) (h : closeL c t = some n) : closeL c (t ++ u) = some n := by
  have := close_pre _ _ t (t.drop n ++ u) _ _ _ h
  rwa [← List.append_assoc, List.take_append_drop] at this
theorem close_cut (c : UInt8) (t : List UInt8) (n : Nat) (h : closeL c t = some n) : closeL c (t.take n) = some n := by
  have := close_pre _ _ t [] _ _ _ h
  rwa [List.append_nil] at this
theorem front_pos (s : List UInt8) (h : s ≠ []) : (frontL s).text ≠ [] := by
  cases s with
  | nil => exact absurd rfl h
  | cons c t =>
    rw [frontL]
    split
    · rename_i hb; rw [List.takeWhile_cons_of_pos hb]; simp
    · split
      · split <;> simp
      · split
        · simp
        · split
          · rename_i ha; rw [List.takeWhile_cons_of_pos ha]; simp
          · simp
/-- The first token is how the string begins. -/
theorem front_pre (s : List UInt8) : (frontL s).text ++ s.drop (frontL s).text.length = s := by
  have key : ∀ p : List UInt8, p <+: s → p ++ s.drop p.length = s := by
    rintro p ⟨r, rfl⟩; rw [List.drop_left]
  refine key _ ?_
  cases s with
  | nil => exact List.nil_prefix
  | cons c t =>
    rw [frontL]
    split
    · exact List.takeWhile_prefix _
    · split
      · split
        · exact List.prefix_refl _
        · exact (List.cons_prefix_cons).2 ⟨rfl, List.take_prefix _ _⟩
      · split
        · exact (List.cons_prefix_cons).2 ⟨rfl, List.nil_prefix⟩
        · split
          · exact List.takeWhile_prefix _
          · exact (List.cons_prefix_cons).2 ⟨rfl, List.nil_prefix⟩
theorem front_le (s : List UInt8) : (frontL s).text.length ≤ s.length := by
  have := congrArg List.length (front_pre s)
  rw [List.length_append] at this
  omega
def scanF : Nat → List UInt8 → List Tok
  | 0, _ => []
  | _ + 1, [] => []
  | n + 1, c :: t => frontL (c :: t) :: scanF n ((c :: t).drop (frontL (c :: t)).text.length)
def scanL (s : List UInt8) : List Tok := scanF s.length s
theorem scanF_more : ∀ (n m : Nat) (s : List UInt8), s.length ≤ n → s.length ≤ m → scanF n s = scanF m s := by
  intro n
  induction n with
  | zero =>
    intro m s h1 _
    obtain rfl : s = [] := List.eq_nil_of_length_eq_zero (by omega)
    cases m <;> rfl
  | succ n ih =>
    intro m s h1 h2
    cases s with
    | nil => cases m <;> rfl
    | cons c t =>
      cases m with
      | zero => rw [List.length_cons] at h2; omega
      | succ m =>
        have h3 := List.length_pos_iff.2 (front_pos (c :: t) (by simp))
        have h4 : ((c :: t).drop (frontL (c :: t)).text.length).length ≤ t.length := by rw [List.length_drop, List.length_cons]; omega
        rw [List.length_cons] at h1 h2
        rw [scanF, scanF, ih m _ (by omega) (by omega)]
theorem scan_nil : scanL [] = [] := rfl
theorem scan_cons (s : List UInt8) (h : s ≠ []) : scanL s = frontL s :: scanL (s.drop (frontL s).text.length) := by
  cases s with
  | nil => exact absurd rfl h
  | cons c t =>
    have h3 := List.length_pos_iff.2 (front_pos (c :: t) (by simp))
    have h4 : ((c :: t).drop (frontL (c :: t)).text.length).length ≤ t.length := by rw [List.length_drop, List.length_cons]; omega
    unfold scanL
    rw [List.length_cons, scanF, scanF_more t.length _ _ h4 (Nat.le_refl _)]
/-- Whatever holds of the tail's tokens .. : induction along the tokens. -/
theorem scan_ind {P : List UInt8 → Prop} (h0 : P []) (h1 : ∀ s, s ≠ [] → P (s.drop (frontL s).text.length) → P s) : ∀ s, P s := by
  have : ∀ n (s : List UInt8), s.length ≤ n → P s := by
    intro n
    induction n with
    | zero => intro s h; obtain rfl : s = [] := List.eq_nil_of_length_eq_zero (by omega); exact h0
    | succ n ih =>
      intro s h
      by_cases hs : s = []
      · subst hs; exact h0
      · have h3 := List.length_pos_iff.2 (front_pos s hs)
        exact h1 s hs (ih _ (by rw [List.length_drop]; omega))
  exact fun s => this s.length s (Nat.le_refl _)
def joinL (l : List Tok) : List UInt8 := (l.map Tok.text).flatten
/-- TokenKeeps: nothing is lost. -/
theorem join_scan (s : List UInt8) : joinL (scanL s) = s := by
  induction s using scan_ind with
  | h0 => rfl
  | h1 s hs ih =>
    rw [scan_cons s hs]
    unfold joinL at ih ⊢
    rw [List.map_cons, List.flatten_cons, ih, front_pre]
theorem scan_len (s : List UInt8) : (scanL s).length ≤ s.length := by
  induction s using scan_ind with
  | h0 => exact Nat.le_refl _
  | h1 s hs ih =>
    have h3 := List.length_pos_iff.2 (front_pos s hs)
    have h4 := front_le s
    rw [scan_cons s hs, List.length_cons]
    rw [List.length_drop] at ih
    omega
theorem take_while_idem (p : UInt8 → Bool) (l : List UInt8) : (l.takeWhile p).takeWhile p = l.takeWhile p := by
  induction l with
  | nil => rfl
  | cons c t ih =>
    by_cases h : p c = true
    · rw [List.takeWhile_cons_of_pos h, List.takeWhile_cons_of_pos h, ih]
    · rw [List.takeWhile_cons_of_neg h]; rfl
/-- The first token of its own text is it. -/
theorem front_again (s : List UInt8) (h : s ≠ []) : frontL (frontL s).text = frontL s := by
  cases s with
  | nil => exact absurd rfl h
  | cons c t =>
    by_cases h1 : blank c = true
    · have e : frontL (c :: t) = ⟨6, (c :: t).takeWhile blank⟩ := by rw [frontL, if_pos h1]
      rw [e]
      show frontL ((c :: t).takeWhile blank) = _
      rw [List.takeWhile_cons_of_pos h1, frontL, if_pos h1, List.takeWhile_cons_of_pos h1, take_while_idem]
    · by_cases h2 : opens c = true
      · cases hc : closeL c t with
        | none =>
          have e : frontL (c :: t) = ⟨7, c :: t⟩ := by rw [frontL, if_neg h1, if_pos h2, hc]
          rw [e]; show frontL (c :: t) = _; rw [e]
        | some n =>
          have e : frontL (c :: t) = ⟨kindO c, c :: t.take n⟩ := by rw [frontL, if_neg h1, if_pos h2, hc]
          rw [e]
          show frontL (c :: t.take n) = _
          rw [frontL, if_neg h1, if_pos h2, close_cut c t n hc]
          show (⟨kindO c, c :: (t.take n).take n⟩ : Tok) = _
          rw [List.take_take, Nat.min_self]
      · by_cases h3 : special c = true
        · have e : frontL (c :: t) = ⟨4, [c]⟩ := by rw [frontL, if_neg h1, if_neg h2, if_pos h3]
          rw [e]; show frontL [c] = _
          rw [frontL, if_neg h1, if_neg h2, if_pos h3]
        · by_cases h4 : atomB c = true
          · have e : frontL (c :: t) = ⟨1, (c :: t).takeWhile atomB⟩ := by rw [frontL, if_neg h1, if_neg h2, if_neg h3, if_pos h4]
            rw [e]
            show frontL ((c :: t).takeWhile atomB) = _
            rw [List.takeWhile_cons_of_pos h4, frontL, if_neg h1, if_neg h2, if_neg h3, if_pos h4, List.takeWhile_cons_of_pos h4, take_while_idem]
          · have e : frontL (c :: t) = ⟨7, [c]⟩ := by rw [frontL, if_neg h1, if_neg h2, if_neg h3, if_neg h4]
            rw [e]; show frontL [c] = _
            rw [frontL, if_neg h1, if_neg h2, if_neg h3, if_neg h4]
theorem scan_front (s : List UInt8) (h : s ≠ []) : scanL (frontL s).text = [frontL s] := by
  have hp := front_pos s h
  rw [scan_cons _ hp, front_again s h, List.drop_length]; rfl
theorem kindO_bd (c : UInt8) : 1 ≤ kindO c ∧ kindO c ≤ 7 := by
  unfold kindO
  repeat' split
  all_goals decide
theorem scan_mem (s : List UInt8) : ∀ t ∈ scanL s, t.text ≠ [] ∧ scanL t.text = [t] ∧ 1 ≤ t.kind ∧ t.kind ≤ 7 ∧ t.text.length ≤ s.length := by
  induction s using scan_ind with
  | h0 => intro t h; cases h
  | h1 s hs ih =>
    intro t h
    rw [scan_cons s hs] at h
    rcases List.mem_cons.1 h with rfl | h
    · refine ⟨front_pos s hs, scan_front s hs, ?_, ?_, front_le s⟩
      all_goals
        cases s with
        | nil => exact absurd rfl hs
        | cons c t =>
          rw [frontL]
          repeat' split
          all_goals first | exact (kindO_bd c).1 | exact (kindO_bd c).2 | simp
    · have := ih t h
      rw [List.length_drop] at this
      exact ⟨this.1, this.2.1, this.2.2.1, this.2.2.2.1, by omega⟩
end Go.Proofs.YtdinachiiimngaaGreatDoor.TokP
namespace Go.Proofs.YtdinachiiimngaaGreatDoor.TokP

theorem take_while_app (p : UInt8 → Bool) (a b : List UInt8) (h : (a.takeWhile p).length < a.length) : (a ++ b).takeWhile p = a.takeWhile p := by
  induction a with
  | nil => simp at h
  | cons c t ih =>
    by_cases hc : p c = true
    · rw [List.takeWhile_cons_of_pos hc, List.length_cons, List.length_cons] at h
      rw [List.cons_append, List.takeWhile_cons_of_pos hc, List.takeWhile_cons_of_pos hc, ih (by omega)]
    · rw [List.cons_append, List.takeWhile_cons_of_neg hc, List.takeWhile_cons_of_neg hc]
/-- A token that ends ahead of the string's end, or by a byte of its own, is the first whatever follows. -/
theorem front_app (a b : List UInt8) (ha : a ≠ []) (h : (frontL a).text.length < a.length ∨ ((frontL a).kind ≠ 6 ∧ (frontL a).kind ≠ 1 ∧ (frontL a).kind ≠ 7)) : frontL (a ++ b) = frontL a := by
  cases a with
  | nil => exact absurd rfl ha
  | cons c t =>
    by_cases h1 : blank c = true
    · have e : frontL (c :: t) = ⟨6, (c :: t).takeWhile blank⟩ := by rw [frontL, if_pos h1]
      rw [e] at h ⊢
      rcases h with h | h
      · rw [List.cons_append, frontL, if_pos h1, ← List.cons_append, take_while_app blank _ b h]
      · exact absurd rfl h.1
    · by_cases h2 : opens c = true
      · cases hc : closeL c t with
        | none =>
          have e : frontL (c :: t) = ⟨7, c :: t⟩ := by rw [frontL, if_neg h1, if_pos h2, hc]
          rw [e] at h
          rcases h with h | h
          · exact absurd h (Nat.lt_irrefl _)
          · exact absurd rfl h.2.2
        | some n =>
          have e : frontL (c :: t) = ⟨kindO c, c :: t.take n⟩ := by rw [frontL, if_neg h1, if_pos h2, hc]
          have hn := (close_le _ _ t _ _ n hc).2
          rw [e, List.cons_append, frontL, if_neg h1, if_pos h2, close_app c t b n hc]
          show (⟨kindO c, c :: (t ++ b).take n⟩ : Tok) = _
          rw [List.take_append_of_le_length hn]
      · by_cases h3 : special c = true
        · rw [List.cons_append, frontL, frontL, if_neg h1, if_neg h2, if_pos h3, if_neg h1, if_neg h2, if_pos h3]
        · by_cases h4 : atomB c = true
          · have e : frontL (c :: t) = ⟨1, (c :: t).takeWhile atomB⟩ := by rw [frontL, if_neg h1, if_neg h2, if_neg h3, if_pos h4]
            rw [e] at h ⊢
            rcases h with h | h
            · rw [List.cons_append, frontL, if_neg h1, if_neg h2, if_neg h3, if_pos h4, ← List.cons_append, take_while_app atomB _ b h]
            · exact absurd rfl h.2.1
          · rw [List.cons_append, frontL, frontL, if_neg h1, if_neg h2, if_neg h3, if_neg h4, if_neg h1, if_neg h2, if_neg h3, if_neg h4]
/-- TokenParts. -/
theorem scan_parts (a b : List UInt8) (h : ∀ t, (scanL a).getLast? = some t → t.kind ≠ 6 ∧ t.kind ≠ 1 ∧ t.kind ≠ 7) : scanL (a ++ b) = scanL a ++ scanL b := by
  induction a using scan_ind with
  | h0 => rfl
  | h1 a ha ih =>
    have hp := front_pre a
    have hl := congrArg List.length hp
    rw [List.length_append] at hl
    have hcond : (frontL a).text.length < a.length ∨ ((frontL a).kind ≠ 6 ∧ (frontL a).kind ≠ 1 ∧ (frontL a).kind ≠ 7) := by
      by_cases hr : a.drop (frontL a).text.length = []
      · refine .inr (h _ ?_)
        rw [scan_cons a ha, hr]; rfl
      · have := List.length_pos_iff.2 hr
        exact .inl (by omega)
    have hf := front_app a b ha hcond
    have hd : (a ++ b).drop (frontL a).text.length = a.drop (frontL a).text.length ++ b := List.drop_append_of_le_length (by omega)
    rw [scan_cons (a ++ b) (by simp [ha]), hf, hd, scan_cons a ha, ih ?_, List.cons_append]
    intro t ht
    refine h t ?_
    rw [scan_cons a ha, List.getLast?_cons, ht]; rfl
/-- TokenKeeps: neither white space nor an atom stands beside another. -/
theorem head_drop (p : UInt8 → Bool) (s : List UInt8) (c : UInt8) (h : (s.drop (s.takeWhile p).length).head? = some c) : p c = false := by
  induction s with
  | nil => simp at h
  | cons x t ih =>
    by_cases hx : p x = true
    · rw [List.takeWhile_cons_of_pos hx, List.length_cons, List.drop_succ_cons] at h
      exact ih h
    · rw [List.takeWhile_cons_of_neg hx, List.length_nil, List.drop_zero] at h
      obtain rfl : x = c := by simpa using h
      simpa using hx
theorem front_kind (c : UInt8) (t : List UInt8) : ((frontL (c :: t)).kind = 6 ↔ blank c = true) ∧ ((frontL (c :: t)).kind = 1 → atomB c = true ∧ blank c = false) ∧
    (blank c = true → (frontL (c :: t)).text = (c :: t).takeWhile blank) ∧ ((frontL (c :: t)).kind = 1 → (frontL (c :: t)).text = (c :: t).takeWhile atomB) := by
  have hk : kindO c ≠ 6 ∧ kindO c ≠ 1 := by
    unfold kindO
    repeat' split
    all_goals decide
  rw [frontL]
  by_cases h1 : blank c = true
  · rw [if_pos h1]; simp [h1]
  · rw [if_neg h1]
    by_cases h2 : opens c = true
    · rw [if_pos h2]
      cases closeL c t with
      | none => simp [h1]
      | some n => simp [h1, hk.1, hk.2]
    · rw [if_neg h2]
      by_cases h3 : special c = true
      · rw [if_pos h3]; simp [h1]
      · rw [if_neg h3]
        by_cases h4 : atomB c = true
        · rw [if_pos h4]; simp [h1, h4]
        · rw [if_neg h4]; simp [h1]
theorem scan_apart (s : List UInt8) : ∀ (i : Nat) (t u : Tok), (scanL s)[i]? = some t → (scanL s)[i + 1]? = some u → t.kind = u.kind → t.kind ≠ 6 ∧ t.kind ≠ 1 := by
  induction s using scan_ind with
  | h0 => intro i t u h; simp [scan_nil] at h
  | h1 s hs ih =>
    intro i t u h1 h2 he
    rw [scan_cons s hs] at h1 h2
    rw [List.getElem?_cons_succ] at h2
    cases i with
    | succ i =>
      rw [List.getElem?_cons_succ] at h1
      exact ih i t u h1 h2 he
    | zero =>
      obtain rfl : frontL s = t := by simpa using h1
      have hr : s.drop (frontL s).text.length ≠ [] := by
        intro e; rw [e] at h2; simp [scan_nil] at h2
      obtain ⟨x, r, hx⟩ := List.exists_cons_of_ne_nil hr
      rw [hx, scan_cons (x :: r) (by simp)] at h2
      obtain rfl : frontL (x :: r) = u := by simpa using h2
      cases s with
      | nil => exact absurd rfl hs
      | cons c t =>
        obtain ⟨k1, k2, k3, k4⟩ := front_kind c t
        obtain ⟨m1, m2, _, _⟩ := front_kind x r
        refine ⟨fun h6 => ?_, fun h1 => ?_⟩
        · have hx2 := head_drop blank (c :: t) x (by rw [← k3 (k1.1 h6), hx]; rfl)
          rw [he] at h6
          rw [m1.1 h6] at hx2
          exact Bool.noConfusion hx2
        · have hx2 := head_drop atomB (c :: t) x (by rw [← k4 h1, hx]; rfl)
          rw [he] at h1
          rw [(m2 h1).1] at hx2
          exact Bool.noConfusion hx2
/-! Values. -/
def unescS : Bool → List UInt8 → List UInt8
  | _, [] => []
  | true, c :: t => c :: unescS false t
  | false, c :: t => if c = 92 then unescS true t else if c = 10 ∨ c = 13 then unescS false t else c :: unescS false t
def valueL (t : Tok) : List UInt8 := if (t.kind = 2 ∨ t.kind = 3) ∧ 2 ≤ t.text.length then unescS false (t.text.drop 1).dropLast else t.text
def held (c : UInt8) : Bool := c == 34 || c == 92 || c == 10 || c == 13
def escL : List UInt8 → List UInt8
  | [] => []
  | c :: t => if held c = true then 92 :: c :: escL t else c :: escL t
/-- Atoms, separated by single spaces; b: an atom stands before. -/
def plainA : Bool → List UInt8 → Bool
  | b, [] => b
  | b, c :: t => if atomB c = true then plainA true t else if c = 32 ∧ b = true then plainA false t else false
def quoteL (s : List UInt8) : List UInt8 := if plainA false s = true then s else 34 :: escL s ++ [34]
theorem unesc_esc (s : List UInt8) : unescS false (escL s) = s := by
  induction s with
  | nil => rfl
  | cons c t ih =>
    rw [escL]
    split
    · rw [unescS, if_pos rfl, unescS, ih]
    · rename_i h
      have h92 : c ≠ 92 := fun e => h (by subst e; rfl)
      have h10 : ¬ (c = 10 ∨ c = 13) := fun e => h (by rcases e with rfl | rfl <;> rfl)
      rw [unescS, if_neg h92, if_neg h10, ih]
theorem unesc_le (e : Bool) (s : List UInt8) : (unescS e s).length ≤ s.length := by
  induction s generalizing e with
  | nil => cases e <;> exact Nat.le_refl _
  | cons c t ih =>
    cases e with
    | true => rw [unescS, List.length_cons, List.length_cons]; exact Nat.succ_le_succ (ih false)
    | false =>
      rw [unescS]
      split
      · have := ih true; rw [List.length_cons]; omega
      · split
        · have := ih false; rw [List.length_cons]; omega
        · have := ih false; rw [List.length_cons, List.length_cons]; omega
theorem esc_len (s : List UInt8) : (escL s).length ≤ 2 * s.length := by
  induction s with
  | nil => exact Nat.le_refl _
  | cons c t ih =>
    rw [escL]
    split
    · rw [List.length_cons, List.length_cons, List.length_cons]; omega
    · rw [List.length_cons, List.length_cons]; omega
theorem esc_ge (s : List UInt8) : s.length ≤ (escL s).length := by
  induction s with
  | nil => exact Nat.le_refl _
  | cons c t ih =>
    rw [escL]
    split
    · rw [List.length_cons, List.length_cons, List.length_cons]; omega
    · rw [List.length_cons, List.length_cons]; omega
theorem close_esc (s : List UInt8) : closeS 34 false false 0 (escL s ++ [34]) = some ((escL s).length + 1) := by
  induction s with
  | nil => rfl
  | cons c t ih =>
    rw [escL]
    split
    · rw [List.cons_append, List.cons_append, closeS, if_pos rfl, closeS, ih]
      simp
    · rename_i h
      have h92 : c ≠ 92 := fun e => h (by subst e; rfl)
      have h34 : c ≠ 34 := fun e => h (by subst e; rfl)
      rw [List.cons_append, closeS, if_neg h92, if_neg h34, if_neg (by simp), ih]
      simp
/-- TokenQuotes: quoted, one token with the string as its value. -/
theorem quote_one (s : List UInt8) (h : plainA false s = false) : quoteL s = 34 :: escL s ++ [34] ∧ scanL (quoteL s) = [⟨2, quoteL s⟩] ∧ valueL ⟨2, quoteL s⟩ = s ∧ (quoteL s).length ≤ 2 * s.length + 2 ∧ s.length + 2 ≤ (quoteL s).length := by
  have e : quoteL s = 34 :: escL s ++ [34] := by unfold quoteL; rw [if_neg (by rw [h]; exact Bool.false_ne_true)]
  have e2 : (34 : UInt8) :: escL s ++ [34] = 34 :: (escL s ++ [34]) := rfl
  have hc : closeL 34 (escL s ++ [34]) = some ((escL s).length + 1) := close_esc s
  have hf : frontL (34 :: (escL s ++ [34])) = ⟨2, 34 :: (escL s ++ [34])⟩ := by
    rw [frontL, if_neg (by decide), if_pos (by decide), hc]
    show (⟨kindO 34, 34 :: (escL s ++ [34]).take ((escL s).length + 1)⟩ : Tok) = _
    rw [List.take_of_length_le (by simp)]; rfl
  rw [e, e2]
  refine ⟨rfl, ?_, ?_, ?_, ?_⟩
  · rw [scan_cons _ (by simp), hf, List.drop_length]; rfl
  · unfold valueL
    rw [if_pos ⟨.inl rfl, by simp⟩]
    show unescS false (escL s ++ [34]).dropLast = s
    rw [List.dropLast_concat, unesc_esc]
  · have := esc_len s
    simp; omega
  · have := esc_ge s
    simp; omega
end Go.Proofs.YtdinachiiimngaaGreatDoor.TokP
namespace Go.Proofs.YtdinachiiimngaaGreatDoor.TokP

theorem atom_not (c : UInt8) (h : atomB c = true) : blank c = false ∧ opens c = false ∧ special c = false ∧ c ≠ 32 := by
  unfold atomB at h
  simp only [Bool.and_eq_true, decide_eq_true_eq, bne_iff_ne, ne_eq, Bool.not_eq_true'] at h
  obtain ⟨⟨h1, _⟩, h3⟩ := h
  refine ⟨?_, ?_, h3, ?_⟩
  · unfold blank
    simp only [Bool.or_eq_false_iff, beq_eq_false_iff_ne]
    refine ⟨⟨⟨?_, ?_⟩, ?_⟩, ?_⟩
    all_goals
      intro e
      subst e
      exact absurd h1 (by decide)
  · unfold opens
    simp only [Bool.or_eq_false_iff, beq_eq_false_iff_ne]
    refine ⟨⟨?_, ?_⟩, ?_⟩
    all_goals
      intro e
      subst e
      exact absurd h3 (by decide)
  · intro e; subst e; exact absurd h1 (by decide)
theorem plain_head (s : List UInt8) (h : plainA false s = true) : ∃ c t, s = c :: t ∧ atomB c = true ∧ plainA true t = true := by
  cases s with
  | nil => exact absurd h (by decide)
  | cons c t =>
    rw [plainA] at h
    split at h
    · rename_i ha; exact ⟨c, t, rfl, ha, h⟩
    · split at h
      · rename_i hb; exact absurd hb.2 Bool.false_ne_true
      · exact absurd h Bool.false_ne_true
theorem plain_skip (s : List UInt8) (h : plainA true s = true) : plainA true (s.drop (s.takeWhile atomB).length) = true := by
  induction s with
  | nil => exact h
  | cons c t ih =>
    by_cases hc : atomB c = true
    · rw [plainA, if_pos hc] at h
      rw [List.takeWhile_cons_of_pos hc, List.length_cons, List.drop_succ_cons]
      exact ih h
    · rw [List.takeWhile_cons_of_neg hc]; exact h
/-- Atoms and single spaces by turns. -/
def Alt (l : List Tok) : Prop := l.length % 2 = 1 ∧ ∀ i t, l[i]? = some t → (i % 2 = 0 → t.kind = 1) ∧ (i % 2 = 1 → t.text = [32])
theorem alt_one (t : Tok) (h : t.kind = 1) : Alt [t] := by
  refine ⟨rfl, fun i u hu => ?_⟩
  cases i with
  | zero => obtain rfl : t = u := by simpa using hu
            exact ⟨fun _ => h, fun h => by omega⟩
  | succ i => simp at hu
theorem alt_more (t u : Tok) (l : List Tok) (h : t.kind = 1) (hu : u.text = [32]) (hl : Alt l) : Alt (t :: u :: l) := by
  refine ⟨by rw [List.length_cons, List.length_cons]; have := hl.1; omega, fun i x hx => ?_⟩
  match i with
  | 0 => obtain rfl : t = x := by simpa using hx
         exact ⟨fun _ => h, fun h => by omega⟩
  | 1 => obtain rfl : u = x := by simpa using hx
         exact ⟨fun h => by omega, fun _ => hu⟩
  | i + 2 =>
    have := hl.2 i x (by simpa using hx)
    exact ⟨fun h => this.1 (by omega), fun h => this.2 (by omega)⟩
theorem front_atom (c : UInt8) (t : List UInt8) (h : atomB c = true) : frontL (c :: t) = ⟨1, (c :: t).takeWhile atomB⟩ := by
  obtain ⟨h1, h2, h3, _⟩ := atom_not c h
  rw [frontL, if_neg (by rw [h1]; exact Bool.false_ne_true), if_neg (by rw [h2]; exact Bool.false_ne_true), if_neg (by rw [h3]; exact Bool.false_ne_true), if_pos h]
theorem plain_scan : ∀ (n : Nat) (s : List UInt8), s.length ≤ n → plainA false s = true → Alt (scanL s) := by
  intro n
  induction n with
  | zero =>
    intro s h hp
    obtain rfl : s = [] := List.eq_nil_of_length_eq_zero (by omega)
    exact absurd hp (by decide)
  | succ n ih =>
    intro s h hp
    obtain ⟨c, t, rfl, hc, ht⟩ := plain_head s hp
    have hr := plain_skip t ht
    rw [scan_cons _ (by simp), front_atom c t hc]
    show Alt (_ :: scanL ((c :: t).drop ((c :: t).takeWhile atomB).length))
    rw [List.takeWhile_cons_of_pos hc, List.length_cons, List.drop_succ_cons]
    have hn : ∀ x, (t.drop (t.takeWhile atomB).length).head? = some x → atomB x = false := fun x hx => head_drop atomB t x hx
    have hl : (t.drop (t.takeWhile atomB).length).length ≤ t.length := by rw [List.length_drop]; omega
    generalize t.drop (t.takeWhile atomB).length = r at hr hn hl
    cases r with
    | nil => exact alt_one _ rfl
    | cons x r =>
      have hx := hn x rfl
      rw [plainA, if_neg (by rw [hx]; exact Bool.false_ne_true)] at hr
      split at hr
      · rename_i hx2
        obtain rfl := hx2.1
        obtain ⟨y, u, rfl, hy, _⟩ := plain_head r hr
        have hf : frontL (32 :: y :: u) = ⟨6, [32]⟩ := by
          rw [frontL, if_pos (by decide), List.takeWhile_cons_of_pos (by decide), List.takeWhile_cons_of_neg (by rw [(atom_not y hy).1]; exact Bool.false_ne_true)]
        rw [scan_cons (32 :: y :: u) (by simp), hf]
        refine alt_more _ _ _ rfl rfl (ih _ ?_ hr)
        show (y :: u).length ≤ n
        rw [List.length_cons] at h hl
        omega
      · exact absurd hr Bool.false_ne_true
theorem plain_alt (s : List UInt8) (h : plainA false s = true) : quoteL s = s ∧ Alt (scanL s) := ⟨by unfold quoteL; rw [if_pos h], plain_scan s.length s (Nat.le_refl _) h⟩
theorem quote_same (s : List UInt8) : quoteL s = s ↔ plainA false s = true := by
  by_cases h : plainA false s = true
  · exact ⟨fun _ => h, fun _ => (plain_alt s h).1⟩
  · refine ⟨fun e => ?_, fun e => absurd e h⟩
    have := (quote_one s (by simpa using h)).2.2.2.2
    rw [e] at this
    omega
/-- What the reference asks of each byte. -/
def goodAt (w : List UInt8) (i : Nat) : Prop := ∃ c, w[i]? = some c ∧ (atomB c = true ∨ (c = 32 ∧ 0 < i ∧ i + 1 < w.length ∧ (∃ p, w[i - 1]? = some p ∧ p ≠ 32) ∧ ∃ q, w[i + 1]? = some q ∧ q ≠ 32))
theorem plain_good : ∀ (s pre : List UInt8) (b : Bool), (b = true → ∃ p, pre.getLast? = some p ∧ p ≠ 32) → (b = false → ∀ p, pre.getLast? = some p → p = 32) →
    (plainA b s = true ↔ (s = [] → b = true) ∧ ∀ i, pre.length ≤ i → i < (pre ++ s).length → goodAt (pre ++ s) i) := by
  intro s
  induction s with
  | nil =>
    intro pre b h1 h2
    rw [List.append_nil]
    have e : plainA b [] = b := by cases b <;> rfl
    rw [e]
    exact ⟨fun h => ⟨fun _ => h, fun i hi hj => by omega⟩, fun h => h.1 rfl⟩
  | cons c t ih =>
    intro pre b h1 h2
    have hsplit : pre ++ c :: t = (pre ++ [c]) ++ t := by simp
    have hat : (pre ++ c :: t)[pre.length]? = some c := by simp
    have hlast : (pre ++ [c]).getLast? = some c := by simp
    have key : (∀ i, pre.length ≤ i → i < (pre ++ c :: t).length → goodAt (pre ++ c :: t) i) ↔ goodAt (pre ++ c :: t) pre.length ∧ ∀ i, (pre ++ [c]).length ≤ i → i < ((pre ++ [c]) ++ t).length → goodAt ((pre ++ [c]) ++ t) i := by
      rw [← hsplit, @List.length_append _ pre [c]]
      constructor
      · intro h
        exact ⟨h _ (Nat.le_refl _) (by simp), fun i hi hj => h i (by omega) hj⟩
      · rintro ⟨h3, h4⟩ i hi hj
        by_cases he : i = pre.length
        · rw [he]; exact h3
        · exact h4 i (by simp; omega) hj
    rw [key]
    by_cases hc : atomB c = true
    · have hih := ih (pre ++ [c]) true (fun _ => ⟨c, hlast, (atom_not c hc).2.2.2⟩) (fun h => Bool.noConfusion h)
      rw [plainA, if_pos hc, hih]
      exact ⟨fun h => ⟨fun e => (List.cons_ne_nil _ _ e).elim, ⟨c, hat, .inl hc⟩, h.2⟩, fun h => ⟨fun _ => rfl, h.2.2⟩⟩
    · rw [plainA, if_neg hc]
      by_cases h32 : c = 32
      · subst h32
        have hih := ih (pre ++ [32]) false (fun h => Bool.noConfusion h) (fun _ p hp => by rw [hlast] at hp; exact (Option.some.inj hp).symm)
        cases b with
        | true =>
          rw [if_pos ⟨rfl, rfl⟩]
          obtain ⟨p, hp, hp2⟩ := h1 rfl
          constructor
          · intro h
            refine ⟨fun _ => rfl, ?_, (hih.1 h).2⟩
            obtain ⟨y, u, rfl, hy, _⟩ := plain_head t h
            have hpos : 0 < pre.length := by cases pre with | nil => simp at hp | cons _ _ => simp
            refine ⟨32, hat, .inr ⟨rfl, hpos, by simp, ⟨p, ?_, hp2⟩, y, ?_, (atom_not y hy).2.2.2⟩⟩
            · rw [List.getElem?_append_left (by omega), ← List.getLast?_eq_getElem?]; exact hp
            · rw [List.getElem?_append_right (by omega)]; simp
          · rintro ⟨_, ⟨c', hc', h3⟩, h4⟩
            rw [hat] at hc'
            obtain rfl := Option.some.inj hc'
            refine hih.2 ⟨fun e => ?_, h4⟩
            rcases h3 with h3 | ⟨_, _, h5, _⟩
            · exact absurd h3 hc
            · subst e; simp at h5
        | false =>
          rw [if_neg (by simp)]
          refine ⟨fun h => absurd h Bool.false_ne_true, ?_⟩
          rintro ⟨_, ⟨c', hc', h3⟩, _⟩
          rw [hat] at hc'
          obtain rfl := Option.some.inj hc'
          rcases h3 with h3 | ⟨_, h5, _, ⟨p, hp, hp2⟩, _⟩
          · exact absurd h3 hc
          · rw [List.getElem?_append_left (by omega), ← List.getLast?_eq_getElem?] at hp
            exact absurd (h2 rfl p hp) hp2
      · rw [if_neg (fun e => h32 e.1)]
        refine ⟨fun h => absurd h Bool.false_ne_true, ?_⟩
        rintro ⟨_, ⟨c', hc', h3⟩, _⟩
        rw [hat] at hc'
        obtain rfl := Option.some.inj hc'
        rcases h3 with h3 | ⟨h5, _⟩
        · exact absurd h3 hc
        · exact absurd h5 h32
theorem plain_all (s : List UInt8) : plainA false s = true ↔ s ≠ [] ∧ ∀ i, i < s.length → goodAt s i := by
  have := plain_good s [] false (fun h => Bool.noConfusion h) (fun _ p hp => by simp at hp)
  rw [this, List.nil_append]
  exact ⟨fun h => ⟨fun e => Bool.noConfusion (h.1 e), fun i hi => h.2 i (Nat.zero_le _) hi⟩, fun h => ⟨fun e => absurd e h.1, fun i _ hi => h.2 i hi⟩⟩
end Go.Proofs.YtdinachiiimngaaGreatDoor.TokP
namespace Go.Proofs.YtdinachiiimngaaGreatDoor
open Go.ChangeShapes Go.WideShapes Go.ChangeAt Go.RowKit

theorem byte_is (c : UInt8) (x : Nat) (hx : c.toNat = x) (n : Nat) (hn : n < 256) : ((x : Int) == (n : Int)) = decide (c = UInt8.ofNat n) := by
  rw [Bool.eq_iff_iff, beq_iff_eq, decide_eq_true_iff]
  constructor
  · intro h
    refine UInt8.toNat_inj.1 ?_
    rw [hx, UInt8.toNat_ofNat']; omega
  · intro h
    rw [h, UInt8.toNat_ofNat'] at hx
    omega
theorem byte_back (c : UInt8) (x : Nat) (hx : c.toNat = x) : ((x : Int).toNat).toUInt8 = c := by
  subst hx
  simp
theorem index_in (l : List UInt8) (c : UInt8) : decide (0 ≤ Lib.indexByte l c) = l.contains c := by
  induction l with
  | nil => rfl
  | cons b t ih =>
    rw [Lib.indexByte, List.contains_cons]
    have hg := Lib.indexByte_ge t c
    by_cases hb : b = c
    · subst hb; simp
    · have h1 : (b == c) = false := beq_eq_false_iff_ne.2 hb
      have h2 : (c == b) = false := beq_eq_false_iff_ne.2 (fun e => hb e.symm)
      rw [h1, h2, if_neg (by simp), Bool.false_or, ← ih]
      by_cases h3 : Lib.indexByte t c = -1
      · rw [h3]; simp
      · have : (Lib.indexByte t c == -1) = false := beq_eq_false_iff_ne.2 h3
        rw [this, if_neg (by simp), Bool.eq_iff_iff, decide_eq_true_iff, decide_eq_true_iff]
        omega
theorem blank_in (c : UInt8) : ([9, 10, 13, 32] : List UInt8).contains c = TokP.blank c := by
  unfold TokP.blank
  simp only [List.contains_cons, List.contains_nil, Bool.or_false, Bool.or_assoc]
theorem white_list : (⟨#[9, 10, 13, 32]⟩ : ByteArray).data.toList = [9, 10, 13, 32] := rfl
theorem spec_list : (⟨#[40, 41, 60, 62, 91, 93, 58, 59, 64, 92, 44, 46, 34]⟩ : ByteArray).data.toList = [40, 41, 60, 62, 91, 93, 58, 59, 64, 92, 44, 46, 34] := rfl
theorem isWhite_any (c : UInt8) (x : Nat) (hx : c.toNat = x) (w : World) :
    Calls Tryz.prog 136 #[.int .u8 x] w fun e w' => e = .returned (.bool (TokP.blank c)) ∧ w = w' := by
  have cI := Tryz.strings_IndexByte ⟨#[9, 10, 13, 32]⟩ x
  rw [byte_back c x hx, white_list] at cI
  have hi := index_in [9, 10, 13, 32] c
  rw [blank_in] at hi
  generalize Lib.indexByte [9, 10, 13, 32] c = i at cI hi
  generalize TokP.blank c = r at hi ⊢
  clear hx
  subst hi
  go_enter Tryz.func136, Tryz.ntmps136
  go_wp2_with (go_at_call 67; refine (cI _).mono ?_; rintro e w' ⟨rfl, rfl⟩)
  go_ret
  exact ⟨rfl, rfl⟩
theorem isSpecial_any (c : UInt8) (x : Nat) (hx : c.toNat = x) (w : World) :
    Calls Tryz.prog 139 #[.int .u8 x] w fun e w' => e = .returned (.bool (TokP.special c)) ∧ w = w' := by
  have cI := Tryz.strings_IndexByte ⟨#[40, 41, 60, 62, 91, 93, 58, 59, 64, 92, 44, 46, 34]⟩ x
  rw [byte_back c x hx, spec_list] at cI
  have hi : decide (0 ≤ Lib.indexByte [40, 41, 60, 62, 91, 93, 58, 59, 64, 92, 44, 46, 34] c) = TokP.special c := index_in [40, 41, 60, 62, 91, 93, 58, 59, 64, 92, 44, 46, 34] c
  generalize Lib.indexByte [40, 41, 60, 62, 91, 93, 58, 59, 64, 92, 44, 46, 34] c = i at cI hi
  generalize TokP.special c = r at hi ⊢
  clear hx
  subst hi
  go_enter Tryz.func139, Tryz.ntmps139
  go_wp2_with (go_at_call 67; refine (cI _).mono ?_; rintro e w' ⟨rfl, rfl⟩)
  go_ret
  exact ⟨rfl, rfl⟩
theorem ne127 (c : UInt8) (x : Nat) (hx : c.toNat = x) : ((x : Int) == 127) = decide (c = 127) := byte_is c x hx 127 (by decide)
theorem isAtom_any (c : UInt8) (x : Nat) (hx : c.toNat = x) (w : World) :
    Calls Tryz.prog 140 #[.int .u8 x] w fun e w' => e = .returned (.bool (TokP.atomB c)) ∧ w = w' := by
  have cS := isSpecial_any c x hx
  have e1 := ne127 c x hx
  unfold TokP.atomB
  rw [hx]
  by_cases h1 : 32 < x
  · have h1' : (32 : Int) < x := by omega
    by_cases h2 : c = 127
    · have hx2 : x = 127 := by rw [← hx, h2]; rfl
      rw [decide_eq_true h1, show (c != 127) = false by rw [h2]; rfl]
      clear hx cS h2 e1
      subst hx2
      go_enter Tryz.func140, Tryz.ntmps140
      go_wp2_with fail
      go_ret
      exact ⟨rfl, rfl⟩
    · have hx2 : ¬ (x : Int) = 127 := by
        rw [decide_eq_false h2] at e1
        exact beq_eq_false_iff_ne.1 e1
      rw [decide_eq_true h1, show (c != 127) = true by simpa using h2]
      clear hx h2 e1
      go_enter Tryz.func140, Tryz.ntmps140
      go_wp2_with (go_at_call 139; refine (cS _).mono ?_; rintro e w' ⟨rfl, rfl⟩)
      go_ret
      exact ⟨by simp; exact fun _ => hx2, rfl⟩
  · have h1' : ¬ (32 : Int) < x := by omega
    rw [decide_eq_false h1]
    clear hx cS e1
    go_enter Tryz.func140, Tryz.ntmps140
    go_wp2_with fail
    go_ret
    exact ⟨rfl, rfl⟩
theorem eq_byte (b c : UInt8) (y x : Nat) (hy : b.toNat = y) (hx : c.toNat = x) : ((y : Int) == (x : Int)) = decide (b = c) := by
  rw [Bool.eq_iff_iff, beq_iff_eq, decide_eq_true_iff]
  constructor
  · intro h; exact UInt8.toNat_inj.1 (by omega)
  · intro h; rw [← hy, ← hx, h]
/-! ### A byte of a string, as a list has it -/
theorem byte_at (s : ByteArray) (k : Nat) (h : k < s.size) : ∃ c : UInt8, s.data.toList[k]? = some c ∧ (s[k]'h) = c := by
  refine ⟨s[k]'h, ?_, rfl⟩
  rw [List.getElem?_eq_getElem (by rw [← size_list]; exact h)]; rfl
/-- The k-th byte as the walk reads it. -/
theorem run_byte (s : ByteArray) (k : Nat) (h : k < s.size) : ∃ (c : UInt8) (x : Nat), s.data.toList[k]? = some c ∧ c.toNat = x ∧ x < 256 ∧ ∀ W : World, (Instr.index 9 (.string s) (.int .i64 k)).run Tryz.prog W = .ok (.int .u8 x) W := by
  obtain ⟨c, h1, h2⟩ := byte_at s k h
  refine ⟨c, c.toNat, h1, rfl, c.toNat_lt, fun W => ?_⟩
  rw [← h2]
  exact run_index_str s k k rfl h W
theorem run_byte0 (s : ByteArray) (h : 0 < s.size) : ∃ (c : UInt8) (x : Nat) (t : List UInt8), s.data.toList = c :: t ∧ c.toNat = x ∧ x < 256 ∧ ∀ W : World, (Instr.index 9 (.string s) (.int .i64 0)).run Tryz.prog W = .ok (.int .u8 x) W := by
  obtain ⟨c, x, h1, h2, h3, h4⟩ := run_byte s 0 h
  cases hl : s.data.toList with
  | nil => rw [hl] at h1; simp at h1
  | cons d t =>
    rw [hl] at h1
    obtain rfl : d = c := by simpa using h1
    exact ⟨d, x, t, rfl, h2, h3, h4⟩
theorem cons_at (l : List UInt8) (i : Nat) (c : UInt8) (h : l[i]? = some c) : l.drop i = c :: l.drop (i + 1) := by
  obtain ⟨h1, h2⟩ := List.getElem?_eq_some_iff.1 h
  rw [List.drop_eq_getElem_cons h1, h2]
end Go.Proofs.YtdinachiiimngaaGreatDoor
namespace Go.Proofs.YtdinachiiimngaaGreatDoor
open Go.ChangeShapes Go.WideShapes Go.ChangeAt Go.RowKit
open TokP

/-- Up to byte i nothing has closed; d: the depth there. -/
def Cl (q : UInt8) (nest : Bool) (l : List UInt8) (i d : Nat) : Prop := 1 ≤ i ∧ closeS q nest false 0 (l.drop 1) = (closeS q nest false d (l.drop i)).map (· + (i - 1))
theorem cl_start (q : UInt8) (nest : Bool) (l : List UInt8) : Cl q nest l 1 0 := ⟨Nat.le_refl _, by simp⟩
theorem map_more (o : Option Nat) (i k : Nat) (h : 1 ≤ i) : (o.map (· + k)).map (· + (i - 1)) = o.map (· + (i + k - 1)) := by
  cases o with
  | none => rfl
  | some m => simp only [Option.map_some]; congr 1; omega
theorem cl_esc {q : UInt8} {nest : Bool} {l : List UInt8} {i d : Nat} (h : Cl q nest l i d) (hc : l[i]? = some 92) : Cl q nest l (i + 2) d := by
  refine ⟨by have := h.1; omega, ?_⟩
  rw [h.2, cons_at l i 92 hc, closeS, if_pos rfl]
  have key : closeS q nest true d (l.drop (i + 1)) = (closeS q nest false d (l.drop (i + 2))).map (· + 1) := by
    cases h2 : l.drop (i + 1) with
    | nil =>
      have : l.drop (i + 2) = [] := by
        rw [← List.drop_drop (i := 1) (j := i + 1), h2]; rfl
      rw [this, closeS, closeS]; rfl
    | cons x t =>
      have : l.drop (i + 2) = t := by
        rw [← List.drop_drop (i := 1) (j := i + 1), h2]; rfl
      rw [this, closeS]
  rw [key]
  have e : ∀ o : Option Nat, (o.map (· + 1)).map (· + 1) = o.map (· + 2) := by intro o; cases o <;> rfl
  rw [e, map_more _ _ _ h.1]
theorem cl_up {q : UInt8} {l : List UInt8} {i d : Nat} (h : Cl q true l i d) (hc : l[i]? = some 40) (hq : q ≠ 40) : Cl q true l (i + 1) (d + 1) := by
  refine ⟨by omega, ?_⟩
  rw [h.2, cons_at l i 40 hc, closeS, if_neg (by decide), if_neg (fun e => hq e.symm), if_pos ⟨rfl, rfl⟩, map_more _ _ _ h.1]
theorem cl_down {q : UInt8} {nest : Bool} {l : List UInt8} {i d : Nat} (h : Cl q nest l i (d + 1)) (hc : l[i]? = some q) (hq : q ≠ 92) : Cl q nest l (i + 1) d := by
  refine ⟨by omega, ?_⟩
  rw [h.2, cons_at l i q hc, closeS, if_neg hq, if_pos rfl, if_neg (by omega), map_more _ _ _ h.1]
  rfl
theorem cl_done {q : UInt8} {nest : Bool} {l : List UInt8} {i : Nat} (h : Cl q nest l i 0) (hc : l[i]? = some q) (hq : q ≠ 92) : closeS q nest false 0 (l.drop 1) = some i := by
  rw [h.2, cons_at l i q hc, closeS, if_neg hq, if_pos rfl, if_pos rfl]
  have := h.1
  show some (1 + (i - 1)) = _
  congr 1; omega
theorem cl_next {q : UInt8} {nest : Bool} {l : List UInt8} {i d : Nat} {c : UInt8} (h : Cl q nest l i d) (hc : l[i]? = some c) (h1 : c ≠ 92) (h2 : c ≠ q) (h3 : ¬ (nest = true ∧ c = 40)) : Cl q nest l (i + 1) d := by
  refine ⟨by omega, ?_⟩
  rw [h.2, cons_at l i c hc, closeS, if_neg h1, if_neg h2, if_neg h3, map_more _ _ _ h.1]
theorem cl_end {q : UInt8} {nest : Bool} {l : List UInt8} {i d : Nat} (h : Cl q nest l i d) (hl : l.length ≤ i) : closeS q nest false 0 (l.drop 1) = none := by
  rw [h.2, List.drop_eq_nil_of_le hl, closeS]; rfl
/-- What enclosed hands back. -/
def enclV (K : Int) (n : Nat) : Option Nat → Value
  | none => .tuple #[.int .i64 7, .int .i64 n]
  | some m => .tuple #[.int .i64 K, .int .i64 ((m : Int) + 1)]
set_option maxHeartbeats 2000000 in
theorem encl_any (s : ByteArray) (hs : s.size ≤ 4000000) (K : Int) (q : UInt8) (y : Nat) (nest : Bool) (hy : q.toNat = y) (hK : (K == 3) = nest) (hq : nest = true → q ≠ 40) (hq2 : q ≠ 92) (R : Option Nat) (hR : closeS q nest false 0 (s.data.toList.drop 1) = R) (w : World) :
    Calls Tryz.prog 138 #[.string s, .int .i64 K, .int .u8 y] w fun e w' => e = .returned (enclV K s.size R) ∧ w = w' := by
  obtain ⟨n, hn⟩ : ∃ n, s.size = n := ⟨_, rfl⟩
  have HL := Lib.hid (size_list s)
  rw [hn] at hs
  have HN := Lib.hid hn
  have HQ := Lib.hid hq
  have HQ2 := Lib.hid hq2
  have HY := Lib.hid hy
  have HK := Lib.hid hK
  have HR := Lib.hid hR
  clear hn hq hq2 hy hK hR
  go_enter Tryz.func138, Tryz.ntmps138
  go_wp2_with fail
  go_loopw [8, 9] (fun d i wr => ∃ (k e : Nat), k ≤ n + 1 ∧ e < k ∧ d = .int .i64 e ∧ i = .int .i64 k ∧ wr = w ∧ Hid (Cl q nest s.data.toList k e)) (fun _ i _ => n + 1 - (intOf i).toNat)
  case atStart => exact ⟨1, 0, by omega, by omega, rfl, rfl, rfl, cl_start _ _ _⟩
  case round =>
    obtain ⟨k, d, hk, hd, rfl, rfl, rfl, HC⟩ := hrel
    have F1 : IntKind.i64.wrap ((k : Int) + 1) = (k : Int) + 1 := by rw [IntKind.wrap_i64]; omega
    have F2 : IntKind.i64.wrap ((k : Int) + 1 + 1) = (k : Int) + 1 + 1 := by rw [IntKind.wrap_i64]; omega
    have F3 : IntKind.i64.wrap ((d : Int) + 1) = (d : Int) + 1 := by rw [IntKind.wrap_i64]; omega
    have hn : s.size = n := HN.out
    by_cases hlt : k < n
    · have hlt' : (k : Int) < (n : Int) := by omega
      obtain ⟨c, x, hc, hx, hx2, S1⟩ := run_byte s k (by rw [hn]; exact hlt)
      have e92 := byte_is c x hx 92 (by decide)
      have e40 := byte_is c x hx 40 (by decide)
      have eq := eq_byte c q x y hx HY.out
      rw [show ((92 : Nat) : Int) = 92 from rfl] at e92
      rw [show ((40 : Nat) : Int) = 40 from rfl] at e40
      clear hx hx2
      by_cases h92 : c = 92
      · rw [show decide (c = UInt8.ofNat 92) = true from decide_eq_true h92] at e92
        have HC2 := Lib.hid (cl_esc HC.out (by rw [hc, h92]))
        clear h92 e40 eq hc HC
        go_wp2_with fail
        go_roundw
        case rel => exact ⟨k + 2, d, by omega, by omega, rfl, by go_num, trivial, HC2⟩
        case measure => simp [intOf]; omega
      · rw [show decide (c = UInt8.ofNat 92) = false from decide_eq_false h92] at e92
        by_cases h40 : c = 40 ∧ nest = true
        · obtain ⟨h40, rfl⟩ := h40
          rw [show decide (c = UInt8.ofNat 40) = true from decide_eq_true h40] at e40
          have hK := HK.out
          have HC2 := Lib.hid (cl_up HC.out (by rw [hc, h40]) (HQ.out rfl))
          clear h92 h40 eq hc HC
          go_wp2_with fail
          go_roundw
          case rel => exact ⟨k + 1, d + 1, by omega, by omega, by go_num, by go_num, trivial, HC2⟩
          case measure => simp [intOf]; omega
        · by_cases hcq : c = q
          · rw [decide_eq_true hcq] at eq
            by_cases hd0 : d = 0
            · subst hd0
              have HC2 := Lib.hid (cl_done HC.out (by rw [hc, hcq]) HQ2.out)
              by_cases hc40 : c = 40
              · rw [show decide (c = UInt8.ofNat 40) = true from decide_eq_true hc40] at e40
                have hK := HK.out
                have hnest : nest = false := by
                  cases nest with
                  | false => rfl
                  | true => exact absurd ⟨hc40, rfl⟩ h40
                rw [hnest] at hK
                clear h92 h40 hcq hc40 hc HC hnest
                go_wp2_with fail
                go_ret2
                exact ⟨by rw [HR.out.symm.trans HC2.out]; rfl, rfl⟩
              · rw [show decide (c = UInt8.ofNat 40) = false from decide_eq_false hc40] at e40
                clear h92 h40 hcq hc40 hc HC
                go_wp2_with fail
                go_ret2
                exact ⟨by rw [HR.out.symm.trans HC2.out]; rfl, rfl⟩
            · obtain ⟨f, rfl⟩ : ∃ f, d = f + 1 := ⟨d - 1, by omega⟩
              have HC2 := Lib.hid (cl_down HC.out (by rw [hc, hcq]) HQ2.out)
              have F4 : IntKind.i64.wrap ((f : Int) + 1 - 1) = (f : Int) := by rw [IntKind.wrap_i64]; omega
              have F5 : IntKind.i64.wrap (f : Int) = (f : Int) := by rw [IntKind.wrap_i64]; omega
              have hf0 : (0 : Int) < (f : Int) + 1 := by omega
              have hf1 : (0 : Int) < ((f + 1 : Nat) : Int) := by omega
              by_cases hc40 : c = 40
              · rw [show decide (c = UInt8.ofNat 40) = true from decide_eq_true hc40] at e40
                have hK := HK.out
                have hnest : nest = false := by
                  cases nest with
                  | false => rfl
                  | true => exact absurd ⟨hc40, rfl⟩ h40
                rw [hnest] at hK
                clear h92 h40 hcq hc40 hc HC hnest F3 hd0
                go_wp2_with fail
                go_roundw
                case rel => exact ⟨k + 1, f, by omega, by omega, by go_num, by go_num, trivial, HC2⟩
                case measure => simp [intOf]; omega
              · rw [show decide (c = UInt8.ofNat 40) = false from decide_eq_false hc40] at e40
                clear h92 h40 hcq hc40 hc HC F3 hd0
                go_wp2_with fail
                go_roundw
                case rel => exact ⟨k + 1, f, by omega, by omega, by go_num, by go_num, trivial, HC2⟩
                case measure => simp [intOf]; omega
          · rw [decide_eq_false hcq] at eq
            have HC2 := Lib.hid (cl_next HC.out hc h92 hcq (fun e => h40 ⟨e.2, e.1⟩))
            by_cases hc40 : c = 40
            · rw [show decide (c = UInt8.ofNat 40) = true from decide_eq_true hc40] at e40
              have hK := HK.out
              have hnest : nest = false := by
                cases nest with
                | false => rfl
                | true => exact absurd ⟨hc40, rfl⟩ h40
              rw [hnest] at hK
              clear h92 h40 hcq hc40 hc HC hnest
              go_wp2_with fail
              go_roundw
              case rel => exact ⟨k + 1, d, by omega, by omega, rfl, by go_num, trivial, HC2⟩
              case measure => simp [intOf]; omega
            · rw [show decide (c = UInt8.ofNat 40) = false from decide_eq_false hc40] at e40
              clear h92 h40 hcq hc40 hc HC
              go_wp2_with fail
              go_roundw
              case rel => exact ⟨k + 1, d, by omega, by omega, rfl, by go_num, trivial, HC2⟩
              case measure => simp [intOf]; omega
    · have HC2 := Lib.hid (cl_end HC.out (by rw [← HL.out, hn]; omega))
      have hlt' : ¬ (k : Int) < (n : Int) := by omega
      clear HC
      go_wp2_with fail
      go_ret2
      exact ⟨by rw [HR.out.symm.trans HC2.out]; rfl, rfl⟩
end Go.Proofs.YtdinachiiimngaaGreatDoor
namespace Go.Proofs.YtdinachiiimngaaGreatDoor
open Go.ChangeShapes Go.WideShapes Go.ChangeAt Go.RowKit
open TokP

theorem add_none (g o j : Nat) : (⟨g, o, none⟩ : Addr).add j = ⟨g, o + j, none⟩ := by unfold Addr.add; split <;> simp_all
def tokV (t : Tok) : List Value := [.int .i64 (t.kind : Nat), .string (strL t.text)]
def toksV (l : List Tok) : List Value := l.flatMap tokV
theorem toksV_len (l : List Tok) : (toksV l).length = l.length * 2 := by
  unfold toksV
  induction l with
  | nil => rfl
  | cons m l ih => rw [List.flatMap_cons, List.length_append, ih, List.length_cons]; simp [tokV]; omega
theorem toksV_app (a b : List Tok) : toksV a ++ toksV b = toksV (a ++ b) := by unfold toksV; rw [List.flatMap_append]
theorem toksV_one (f : Tok) : toksV [f] = tokV f := by unfold toksV; simp
theorem toksV_at : ∀ (l : List Tok) (i : Nat) (f : Tok), l[i]? = some f → ∀ j, j < 2 → (toksV l)[i * 2 + j]? = (tokV f)[j]?
  | [], i, m, h => by simp at h
  | x :: l, 0, m, h => by
    simp at h
    subst h
    intro j hj
    rw [show toksV (x :: l) = tokV x ++ toksV l by unfold toksV; rw [List.flatMap_cons], Nat.zero_mul, Nat.zero_add, List.getElem?_append_left (by simp [tokV]; exact hj)]
  | x :: l, i + 1, m, h => by
    intro j hj
    have ih := toksV_at l i m (by simpa using h) j hj
    rw [show toksV (x :: l) = tokV x ++ toksV l by unfold toksV; rw [List.flatMap_cons], List.getElem?_append_right (by simp [tokV]; omega)]
    have e1 : (i + 1) * 2 + j - (tokV x).length = i * 2 + j := by simp [tokV]; omega
    rw [e1]
    exact ih
theorem tokV_one (f : Tok) : ∀ u ∈ tokV f, u.oneCell' = true := by
  intro u hu
  simp [tokV] at hu
  rcases hu with rfl | rfl <;> rfl
theorem toksV_ones (l : List Tok) : ∀ u ∈ toksV l, u.oneCell' = true := by
  intro u hu
  obtain ⟨f, _, hf⟩ := List.mem_flatMap.1 hu
  exact tokV_one f u hf
/-- The tokens l lie at g, from cell o on. -/
def FAt (w : World) (g o : Nat) (l : List Tok) : Prop := ∀ i f, l[i]? = some f → w.cell? ⟨g, o + i * 2, none⟩ = some (.int .i64 (f.kind : Nat)) ∧ w.cell? ⟨g, o + i * 2 + 1, none⟩ = some (.string (strL f.text))
def OwnF (w : World) (v : Value) (l : List Tok) : Prop := ∃ base, w.ownsRow base 89 2 v l.length (toksV l)
/-- The slice v reads as l. -/
def HasF (w : World) (v : Value) (l : List Tok) : Prop := (v = .slice none 0 0 ∧ l = []) ∨ ∃ g o c, v = .slice (some ⟨g, o, none⟩) l.length c ∧ FAt w g o l
theorem OwnF.step {w w' : World} {v : Value} {xs : List Tok} (h : OwnF w v xs) (hb : Below w.heap.size w w') : OwnF w' v xs := by
  obtain ⟨b, ho⟩ := h; exact ⟨b, own_below ho hb⟩
theorem OwnF.shape {w : World} {v : Value} {xs : List Tok} (h : OwnF w v xs) : ∃ a c, v = .slice a xs.length c := by
  obtain ⟨b, ho⟩ := h
  rcases ho.2 with ⟨rfl, h0⟩ | ⟨g, cap, cur, rfl, _⟩
  · exact ⟨none, 0, by rw [h0]⟩
  · exact ⟨_, _, rfl⟩
theorem OwnF.at {w : World} {a : Option Addr} {n c : Nat} {xs : List Tok} (h : OwnF w (.slice a n c) xs) (hn : 0 < n) : ∃ g, a = some ⟨g, 0, none⟩ ∧ FAt w g 0 xs := by
  obtain ⟨b, ho⟩ := h
  rcases ho.2 with ⟨e, h0⟩ | ⟨g, cap, cur, e, _⟩
  · injection e with _ e2 _; omega
  · have e' := e
    injection e with e1 _ _
    subst e1
    refine ⟨g, rfl, fun i f hf => ?_⟩
    have key : ∀ j u, j < 2 → (tokV f)[j]? = some u → w.cell? ⟨g, 0 + i * 2 + j, none⟩ = some u := fun j u hj hu => by
      have := ho.cells (g := g) rfl (i * 2 + j) u (by rw [toksV_at xs i f hf j hj]; exact hu)
      rwa [add_none, ← Nat.add_assoc] at this
    exact ⟨key 0 _ (by decide) rfl, key 1 _ (by decide) rfl⟩
theorem OwnF.has {w : World} {v : Value} {xs : List Tok} (h : OwnF w v xs) : HasF w v xs := by
  obtain ⟨a, c, rfl⟩ := h.shape
  by_cases hn : 0 < xs.length
  · obtain ⟨g, rfl, hf⟩ := h.at hn
    exact .inr ⟨g, 0, c, rfl, hf⟩
  · obtain rfl : xs = [] := List.eq_nil_of_length_eq_zero (by omega)
    obtain ⟨b, ho⟩ := h
    rcases ho.2 with ⟨e, _⟩ | ⟨g, cap, cur, e, _⟩
    · exact .inl ⟨e, rfl⟩
    · exact .inr ⟨g, 0, _, e, fun i f hf => by simp at hf⟩
theorem FAt.drop {w : World} {g o : Nat} {f : Tok} {l : List Tok} (h : FAt w g o (f :: l)) : FAt w g (o + 2) l := by
  intro i x hx
  have := h (i + 1) x (by simpa using hx)
  rwa [show o + (i + 1) * 2 = o + 2 + i * 2 by omega] at this
theorem FAt.lt {w : World} {g o : Nat} {l : List Tok} (h : FAt w g o l) (hl : l ≠ []) : g < w.heap.size := by
  cases l with
  | nil => exact absurd rfl hl
  | cons f r => exact World.block_lt_of_cell? w _ (h 0 f rfl).1
theorem FAt.keep {w w' : World} {g o : Nat} {l : List Tok} (h : FAt w g o l) (hk : w'.heap[g]? = w.heap[g]?) : FAt w' g o l := by
  intro i f hf
  obtain ⟨h1, h2⟩ := h i f hf
  exact ⟨by rw [World.cell?_of_block (by exact hk)]; exact h1, by rw [World.cell?_of_block (by exact hk)]; exact h2⟩
theorem FAt.step {w w' : World} {g o : Nat} {l : List Tok} (h : FAt w g o l) (hb : Below w.heap.size w w') : FAt w' g o l := by
  by_cases hl : l = []
  · subst hl; intro i f hf; simp at hf
  · exact h.keep (hb.block g (h.lt hl))
theorem HasF.step {w w' : World} {v : Value} {l : List Tok} (h : HasF w v l) (hb : Below w.heap.size w w') : HasF w' v l := by
  rcases h with h | ⟨g, o, c, rfl, h⟩
  · exact .inl h
  · exact .inr ⟨g, o, c, rfl, h.step hb⟩
theorem news_tok (w : World) (f : Tok) : ∀ j u, (tokV f)[j]? = some u → (w.alloc (.cells (tokV f).toArray 89)).cell? ((⟨w.heap.size, 0, none⟩ : Addr).add j) = some u := by
  intro j u h
  have := World.cell?_alloc_mark w (tokV f).toArray 89 (0, 0) j
  rw [add_none, Nat.zero_add, this, List.getElem?_toArray]; exact h
theorem info23 : (Tryz.prog.info? 89).map (fun i => (i.zero, i.size, i.bytes)) = some (some (.agg #[.int .i64 0, .string ⟨#[]⟩]), 2, 24) := by kernel_rfl
/-- A token is appended. -/
theorem run_appF {w : World} (base : Nat) {v : Value} {xs : List Tok} (f : Tok) (hown : w.ownsRow base 89 2 v xs.length (toksV xs)) (hb : base ≤ w.heap.size) (hl : xs.length ≤ 4000000) :
    ∃ a c w', (Builtin.append_ #[55, 55] 55 #[v, .slice (some ⟨w.heap.size, 0, none⟩) 1 1]).run Tryz.prog (w.alloc (.cells #[.int .i64 (f.kind : Nat), .string (strL f.text)] 89)) = .ok (.slice a (xs.length + 1) c) w' ∧
      w'.ownsRow base 89 2 (.slice a (xs.length + 1) c) (xs ++ [f]).length (toksV (xs ++ [f])) ∧ (w.alloc (.cells #[.int .i64 (f.kind : Nat), .string (strL f.text)] 89)).grownBy w' v.ownBlock := by
  obtain ⟨i0, hi, hz0, hz1, hz2⟩ := info_parts info23
  obtain ⟨v', w', hr, h1, h2, _⟩ := run_append_own (P := Tryz.prog) (w.alloc (.cells (tokV f).toArray 89)) base 55 55 89 i0 _ 2 24 Tryz.underlying55 hi hz0 hz1 hz2 rfl (by decide) v xs.length _ (World.ownsRow.alloc hown _) ⟨w.heap.size, 0, none⟩ 1 1 (tokV f) rfl (news_tok w f) (tokV_one f) (by unfold maxLen; omega) (by omega) (by rw [World.size_alloc]; omega)
  rw [← toksV_one, toksV_app, ← List.length_singleton (a := f), ← List.length_append] at h1
  obtain ⟨a, c, rfl⟩ : ∃ a c, v' = .slice a (xs.length + 1) c := by
    rcases h1.2 with ⟨rfl, h0⟩ | ⟨g, cap, cur, rfl, _⟩
    · simp at h0
    · exact ⟨_, _, by rw [List.length_append]; rfl⟩
  exact ⟨a, c, w', hr, h1, h2⟩
theorem wpList_appF {ops : Array Oper} {rest : List Oper} {o : Oper} {a : Act} {w : World} {Q : Exit → Act → World → Prop} (hw : Region.wanted o (yielded ops a.tmps) = true) (s x : Operand)
    (ho : o.op = .call { callee := .builtin .append, args := #[s, x], argTypes := #[55, 55] }) (hty : o.type = 55) (base : Nat) {v : Value} {xs : List Tok} {n : Nat} (f : Tok) (hs : a.eval s = v) (hx : a.eval x = .slice (some ⟨w.heap.size, 0, none⟩) 1 1)
    (hown : w.ownsRow base 89 2 v xs.length (toksV xs)) (hn : xs.length = n) (hb : base ≤ w.heap.size) (hl : n ≤ 4000000)
    (h : ∀ a' c' w', w'.ownsRow base 89 2 (.slice a' (n + 1) c') (xs ++ [f]).length (toksV (xs ++ [f])) → (w.alloc (.cells #[.int .i64 (f.kind : Nat), .string (strL f.text)] 89)).grownBy w' v.ownBlock → wpList Tryz.prog ops Q rest (a.put o.dst (.slice a' (n + 1) c')) w') :
    wpList Tryz.prog ops Q (o :: rest) a (w.alloc (.cells #[.int .i64 (f.kind : Nat), .string (strL f.text)] 89)) := by
  subst hn
  obtain ⟨a', c', w', hr, h1, h2⟩ := run_appF base f hown hb hl
  unfold wpList
  rw [if_pos hw]
  left
  unfold Oper.wp
  simp [execOp, ho, hty, resolve, invoke, builtin, hs, hx, hr, Result.andThen]
  exact h a' c' w' h1 h2
/-- Tokens are compared part by part. -/
theorem tok_ext {f g : Tok} (h1 : f.kind = g.kind) (h2 : f.text = g.text) : f = g := by
  cases f; cases g; simp_all
theorem tok_iff (f g : Tok) : (decide (f = g)) = (((f.kind : Nat) : Int) == (g.kind : Nat) && (strL f.text).toList == (strL g.text).toList) := by
  rw [eq_strL, Bool.eq_iff_iff]
  simp only [Bool.and_eq_true, decide_eq_true_iff, beq_iff_eq]
  exact ⟨fun h => by rw [h]; exact ⟨rfl, rfl⟩, fun h => tok_ext (by omega) h.2⟩
theorem run_equal_tok (f g : Tok) (W : World) : (Op.equalIn 10000 89 (.agg #[.int .i64 (f.kind : Nat), .string (strL f.text)]) (.agg #[.int .i64 (g.kind : Nat), .string (strL g.text)])).run Tryz.prog W = .ok (decide (f = g)) W := by
  rw [tok_iff]
  generalize strL f.text = a1
  generalize strL g.text = b1
  generalize ((f.kind : Nat) : Int) = a2
  generalize ((g.kind : Nat) : Int) = b2
  go_simp
  cases h1 : (a1.toList == b1.toList) <;> cases h2 : (a2 == b2) <;> simp_all
theorem run_neq_tok (f g : Tok) (W : World) : (binOp .neq 89 (.agg #[.int .i64 (f.kind : Nat), .string (strL f.text)]) (.agg #[.int .i64 (g.kind : Nat), .string (strL g.text)])).run Tryz.prog W = .ok (.bool (!decide (f = g))) W := by
  rw [run_neq_struct, run_equal_tok]; rfl
theorem join_step (l : List Tok) (k : Nat) (f : Tok) (h : l[k]? = some f) : joinL (l.take (k + 1)) = joinL (l.take k) ++ f.text := by
  unfold joinL
  rw [List.take_add_one, h]; simp
theorem join_le (l : List Tok) (k : Nat) : (joinL (l.take k)).length ≤ (joinL l).length := by
  have : joinL l = joinL (l.take k) ++ joinL (l.drop k) := by unfold joinL; rw [← List.flatten_append, ← List.map_append, List.take_append_drop]
  rw [this, List.length_append]; omega
theorem text_le (l : List Tok) (k : Nat) (f : Tok) (h : l[k]? = some f) : (joinL (l.take k)).length + f.text.length ≤ (joinL l).length := by
  rw [← List.length_append, ← join_step l k f h]; exact join_le l (k + 1)
end Go.Proofs.YtdinachiiimngaaGreatDoor
namespace Go.Proofs.YtdinachiiimngaaGreatDoor.TokP

/-- No byte that p holds of stands first. -/
def HeadNot (p : UInt8 → Bool) (b : List UInt8) : Prop := ∀ c r, b = c :: r → p c = false
/-- A comment, a quoted string or a literal that is not closed. -/
def Unclosed (t : Tok) : Prop := t.kind = 7 ∧ ∃ c r, t.text = c :: r ∧ opens c = true
theorem headNot_nil (p : UInt8 → Bool) : HeadNot p [] := fun _ _ h => absurd h (by simp)
theorem headNot_cons {p : UInt8 → Bool} {c : UInt8} (r : List UInt8) (h : p c = false) : HeadNot p (c :: r) := fun d s e => by
  obtain ⟨rfl, _⟩ := List.cons.inj e
  exact h
theorem while_all {p : UInt8 → Bool} {a b : List UInt8} (h : a.takeWhile p = a) (hb : HeadNot p b) : (a ++ b).takeWhile p = a := by
  induction a with
  | nil =>
    cases b with
    | nil => rfl
    | cons c r => rw [List.nil_append, List.takeWhile_cons_of_neg (by rw [hb c r rfl]; exact Bool.false_ne_true)]
  | cons c t ih =>
    by_cases hc : p c = true
    · rw [List.takeWhile_cons_of_pos hc] at h
      rw [List.cons_append, List.takeWhile_cons_of_pos hc, ih (List.cons.inj h).2]
    · rw [List.takeWhile_cons_of_neg hc] at h
      exact absurd h (by simp)
theorem front_app2 (a b : List UInt8) (ha : a ≠ []) (h6 : (frontL a).kind = 6 → HeadNot blank b) (h1 : (frontL a).kind = 1 → HeadNot atomB b) (h7 : ¬ Unclosed (frontL a)) : frontL (a ++ b) = frontL a := by
  by_cases hlt : (frontL a).text.length < a.length
  · exact front_app a b ha (.inl hlt)
  · have hle := front_le a
    have htx : (frontL a).text = a := by
      have h := front_pre a
      rw [List.drop_eq_nil_of_le (by omega), List.append_nil] at h
      exact h
    cases a with
    | nil => exact absurd rfl ha
    | cons c t =>
      by_cases hb : blank c = true
      · have e : frontL (c :: t) = ⟨6, (c :: t).takeWhile blank⟩ := by rw [frontL, if_pos hb]
        rw [e] at htx h6
        have h6 := h6 rfl
        have : frontL (c :: t ++ b) = ⟨6, (c :: t ++ b).takeWhile blank⟩ := by rw [List.cons_append, frontL, if_pos hb]
        rw [this, e, while_all htx h6]
        exact congrArg (Tok.mk 6) htx.symm
      · by_cases ho : opens c = true
        · cases hc : closeL c t with
          | none =>
            have e : frontL (c :: t) = ⟨7, c :: t⟩ := by rw [frontL, if_neg hb, if_pos ho, hc]
            rw [e] at h7
            exact absurd ⟨rfl, c, t, rfl, ho⟩ h7
          | some n =>
            have e : frontL (c :: t) = ⟨kindO c, c :: t.take n⟩ := by rw [frontL, if_neg hb, if_pos ho, hc]
            refine front_app _ b ha (.inr ?_)
            rw [e]
            show kindO c ≠ 6 ∧ kindO c ≠ 1 ∧ kindO c ≠ 7
            unfold kindO
            repeat' split
            all_goals decide
        · by_cases hs : special c = true
          · rw [List.cons_append, frontL, frontL, if_neg hb, if_neg ho, if_pos hs, if_neg hb, if_neg ho, if_pos hs]
          · by_cases h4 : atomB c = true
            · have e : frontL (c :: t) = ⟨1, (c :: t).takeWhile atomB⟩ := by rw [frontL, if_neg hb, if_neg ho, if_neg hs, if_pos h4]
              rw [e] at htx h1
              have h1 := h1 rfl
              have : frontL (c :: t ++ b) = ⟨1, (c :: t ++ b).takeWhile atomB⟩ := by rw [List.cons_append, frontL, if_neg hb, if_neg ho, if_neg hs, if_pos h4]
              rw [this, e, while_all htx h1]
              exact congrArg (Tok.mk 1) htx.symm
            · rw [List.cons_append, frontL, frontL, if_neg hb, if_neg ho, if_neg hs, if_neg h4, if_neg hb, if_neg ho, if_neg hs, if_neg h4]
/-- What follows a string whose last token cannot go on. -/
def Ends (t : Tok) (b : List UInt8) : Prop := (t.kind = 6 → HeadNot blank b) ∧ (t.kind = 1 → HeadNot atomB b) ∧ ¬ Unclosed t
theorem scan_app (a b : List UInt8) (h : ∀ t, (scanL a).getLast? = some t → Ends t b) : scanL (a ++ b) = scanL a ++ scanL b := by
  induction a using scan_ind with
  | h0 => rfl
  | h1 a ha ih =>
    have hl := front_le a
    have hf : frontL (a ++ b) = frontL a := by
      by_cases hr : a.drop (frontL a).text.length = []
      · obtain ⟨e1, e2, e3⟩ := h (frontL a) (by rw [scan_cons a ha, hr]; rfl)
        exact front_app2 a b ha e1 e2 e3
      · have h1 := List.length_pos_iff.2 hr
        rw [List.length_drop] at h1
        exact front_app a b ha (.inl (by omega))
    have hd : (a ++ b).drop (frontL a).text.length = a.drop (frontL a).text.length ++ b := List.drop_append_of_le_length hl
    rw [scan_cons (a ++ b) (by simp [ha]), hf, hd, scan_cons a ha, ih ?_, List.cons_append]
    intro t ht
    refine h t ?_
    rw [scan_cons a ha, List.getLast?_cons, ht]; rfl
/-- An unclosed token is the last. -/
def LastU : List Tok → Prop
  | [] => True
  | t :: r => (Unclosed t → r = []) ∧ LastU r
theorem front_unclosed (s : List UInt8) (h : Unclosed (frontL s)) : s.drop (frontL s).text.length = [] := by
  cases s with
  | nil => rfl
  | cons c t =>
    obtain ⟨h7, d, r, hd, ho⟩ := h
    by_cases hb : blank c = true
    · rw [frontL, if_pos hb] at h7; simp at h7
    · by_cases hoc : opens c = true
      · cases hc : closeL c t with
        | none =>
          have e : frontL (c :: t) = ⟨7, c :: t⟩ := by rw [frontL, if_neg hb, if_pos hoc, hc]
          rw [e, List.drop_length]
        | some n =>
          have e : frontL (c :: t) = ⟨kindO c, c :: t.take n⟩ := by rw [frontL, if_neg hb, if_pos hoc, hc]
          rw [e] at h7
          unfold kindO at h7
          dsimp only at h7
          repeat' split at h7
          all_goals exact absurd h7 (by decide)
      · by_cases hs : special c = true
        · rw [frontL, if_neg hb, if_neg hoc, if_pos hs] at h7; simp at h7
        · by_cases h4 : atomB c = true
          · rw [frontL, if_neg hb, if_neg hoc, if_neg hs, if_pos h4] at h7; simp at h7
          · have e : frontL (c :: t) = ⟨7, [c]⟩ := by rw [frontL, if_neg hb, if_neg hoc, if_neg hs, if_neg h4]
            rw [e] at hd
            obtain ⟨rfl, _⟩ := List.cons.inj hd
            exact absurd ho hoc
theorem scan_last (s : List UInt8) : LastU (scanL s) := by
  induction s using scan_ind with
  | h0 => trivial
  | h1 s hs ih =>
    rw [scan_cons s hs]
    exact ⟨fun h => by rw [front_unclosed s h]; rfl, ih⟩
theorem last_filter (p : Tok → Bool) : ∀ l : List Tok, LastU l → LastU (l.filter p)
  | [], _ => trivial
  | t :: r, h => by
    rw [List.filter_cons]
    split
    · exact ⟨fun hu => by rw [h.1 hu]; rfl, last_filter p r h.2⟩
    · exact last_filter p r h.2
end Go.Proofs.YtdinachiiimngaaGreatDoor.TokP
namespace Go.Proofs.YtdinachiiimngaaGreatDoor.AdrP
open TokP

structure Adr where
  name : List UInt8
  loc : List UInt8
  dom : List UInt8
deriving DecidableEq
/-- The token is the special c. -/
def isS (t : Tok) (c : UInt8) : Bool := t.kind == 4 && t.text == [c]
theorem isS_iff (t : Tok) (c : UInt8) : isS t c = true ↔ t = ⟨4, [c]⟩ := by
  unfold isS
  rw [Bool.and_eq_true, beq_iff_eq, beq_iff_eq]
  constructor
  · rintro ⟨h1, h2⟩; cases t; simp_all
  · rintro rfl; exact ⟨rfl, rfl⟩
theorem isS_ne {t : Tok} {c d : UInt8} (h : isS t c = true) (hd : c ≠ d) : isS t d = false := by
  rw [isS_iff] at h
  rw [← Bool.not_eq_true, isS_iff, h]
  intro e
  injection e with _ e
  exact hd (List.cons.inj e).1
/-- The tokens that are neither white space nor comments. -/
def bareT (l : List Tok) : List Tok := l.filter (fun t => t.kind != 6 && t.kind != 3)
theorem bare_app (a b : List Tok) : bareT (a ++ b) = bareT a ++ bareT b := List.filter_append ..
/-- Pieces; inside: inside angle brackets; now: the piece that has begun. -/
def pcs : Bool → List Tok → List Tok → List (List Tok)
  | _, now, [] => [now]
  | true, now, t :: r => pcs (!isS t 62) (now ++ [t]) r
  | false, now, t :: r =>
    if isS t 44 = true ∨ isS t 59 = true then now :: pcs false [] r
    else pcs (isS t 60) (if isS t 58 = true then [] else now ++ [t]) r
/-- Whether an angle bracket is open at the end. -/
def ins : Bool → List Tok → Bool
  | b, [] => b
  | true, t :: r => ins (!isS t 62) r
  | false, t :: r => ins (isS t 60) r
theorem ins_bare : ∀ (l : List Tok) (b : Bool), ins b (bareT l) = ins b l
  | [], _ => rfl
  | t :: r, b => by
    have key : ∀ c, t.kind ≠ 4 → isS t c = false := fun c h => by unfold isS; rw [beq_eq_false_iff_ne.2 h]; rfl
    unfold bareT
    rw [List.filter_cons]
    have ih := fun b => ins_bare r b
    unfold bareT at ih
    by_cases h : (t.kind != 6 && t.kind != 3) = true
    · rw [if_pos h]
      cases b with
      | true => rw [ins, ins, ih]
      | false => rw [ins, ins, ih]
    · rw [if_neg h, ih]
      have hk : t.kind ≠ 4 := fun e => h (by rw [e]; rfl)
      cases b with
      | true => rw [ins, key 62 hk]; rfl
      | false => rw [ins, key 60 hk]
theorem pcs_app : ∀ (a b : List Tok) (i : Bool) (now : List Tok) (t : Tok), (isS t 44 = true ∨ isS t 59 = true) → ins i a = false → pcs i now (a ++ t :: b) = pcs i now a ++ pcs false [] b
  | [], b, i, now, t, ht, hi => by
    have : i = false := hi
    subst this
    have e : pcs false now (t :: b) = if isS t 44 = true ∨ isS t 59 = true then now :: pcs false [] b else pcs (isS t 60) (if isS t 58 = true then [] else now ++ [t]) b := by rw [pcs]
    rw [List.nil_append, e, if_pos ht]; rfl
  | x :: a, b, i, now, t, ht, hi => by
    cases i with
    | true =>
      rw [List.cons_append, pcs, pcs, pcs_app a b _ _ t ht (by rw [ins] at hi; exact hi)]
    | false =>
      rw [ins] at hi
      rw [List.cons_append, pcs, pcs]
      by_cases hx : isS x 44 = true ∨ isS x 59 = true
      · have h60 : isS x 60 = false := hx.elim (fun h => isS_ne h (by decide)) (fun h => isS_ne h (by decide))
        rw [h60] at hi
        rw [if_pos hx, if_pos hx, pcs_app a b _ _ t ht hi]; rfl
      · rw [if_neg hx, if_neg hx, pcs_app a b _ _ t ht hi]
/-! ### Addr-specs and addresses -/
def wordT (t : Tok) : Bool := t.kind == 1 || t.kind == 2
def atomT (t : Tok) : Bool := t.kind == 1
/-- Words separated by dots: what they say; w: a word must follow. -/
def dotsT (ok : Tok → Bool) : Bool → List Tok → Option (List UInt8)
  | true, [] => none
  | false, [] => some []
  | true, t :: r => if ok t = true then (dotsT ok false r).map (valueL t ++ ·) else none
  | false, t :: r => if isS t 46 = true then (dotsT ok true r).map (46 :: ·) else none
def domT (l : List Tok) : Option (List UInt8) := match l with
  | [t] => if t.kind = 5 then some (t.text.filter (fun c => !TokP.blank c)) else dotsT atomT true l
  | _ => dotsT atomT true l
def upToS (c : UInt8) (l : List Tok) : List Tok := l.takeWhile (fun t => !isS t c)
def fromS (c : UInt8) (l : List Tok) : List Tok := l.dropWhile (fun t => !isS t c)
def specT (l : List Tok) : Option Adr := match fromS 64 l with
  | [] => none
  | _ :: d => match dotsT wordT true (upToS 64 l), domT d with
    | some x, some y => some ⟨[], x, y⟩
    | _, _ => none
def nameT (t : Tok) : Bool := wordT t || isS t 46
def nameR : List Tok → List UInt8
  | [] => []
  | t :: r => (if isS t 46 = true then [] else [32]) ++ valueL t ++ nameR r
def nameL : List Tok → List UInt8
  | [] => []
  | t :: r => valueL t ++ nameR r
/-- Behind a route, if there is one. -/
def routed (m : List Tok) : List Tok := match m with
  | [] => []
  | t :: _ => if isS t 64 = true then (match fromS 58 m with
    | [] => m
    | _ :: r => r) else m
def oneT (l : List Tok) : Option Adr := match fromS 60 l with
  | [] => specT l
  | _ :: r => if (upToS 60 l).all nameT = true ∧ (fromS 62 r).length = 1 then (specT (routed (upToS 62 r))).map (fun a => { a with name := nameL (upToS 60 l) }) else none
def parseP (p : List (List Tok)) : List Adr × Bool := (p.filterMap oneT, p.all (fun x => x.isEmpty || (oneT x).isSome))
def parseA (s : List UInt8) : List Adr × Bool := parseP (pcs false [] (bareT (scanL s)))
theorem parse_app (p q : List (List Tok)) : parseP (p ++ q) = ((parseP p).1 ++ (parseP q).1, (parseP p).2 && (parseP q).2) := by
  unfold parseP
  rw [List.filterMap_append, List.all_append]
/-! ### AddrBoth -/
/-- Something is open at the end. -/
def openL (s : List UInt8) : Prop := (∃ t ∈ scanL s, Unclosed t) ∨ ins false (scanL s) = true
theorem scan_comma (s t : List UInt8) (h : ∀ u ∈ scanL s, ¬ Unclosed u) : scanL (s ++ 44 :: t) = scanL s ++ ⟨4, [44]⟩ :: scanL t := by
  rw [scan_app s (44 :: t) (fun u hu => ⟨fun _ => headNot_cons t (by decide), fun _ => headNot_cons t (by decide), h u (List.mem_of_getLast? hu)⟩)]
  rw [scan_cons (44 :: t) (by simp)]
  rfl
theorem parse_both (s t : List UInt8) (h : ¬ openL s) : parseA (s ++ 44 :: t) = ((parseA s).1 ++ (parseA t).1, (parseA s).2 && (parseA t).2) := by
  have h1 : ∀ u ∈ scanL s, ¬ Unclosed u := fun u hu hn => h (.inl ⟨u, hu, hn⟩)
  have h2 : ins false (scanL s) = false := by rw [← Bool.not_eq_true]; exact fun e => h (.inr e)
  unfold parseA
  rw [scan_comma s t h1, bare_app]
  have e : bareT ((⟨4, [44]⟩ : Tok) :: scanL t) = ⟨4, [44]⟩ :: bareT (scanL t) := rfl
  rw [e, pcs_app _ _ _ _ _ (.inl rfl) (by rw [ins_bare]; exact h2), parse_app]
/-! ### AddrBlanks -/
/-- A comment that is put between tokens. -/
def cmt : List UInt8 := [40, 120, 32, 34, 121, 41]
def blanksL : List (Bool × Tok) → List UInt8
  | [] => []
  | (c, t) :: r => (if c = true then cmt else []) ++ (32 :: (t.text ++ blanksL r))
theorem blanks_head (l : List (Bool × Tok)) : HeadNot atomB (blanksL l) := by
  cases l with
  | nil => exact headNot_nil _
  | cons x r =>
    obtain ⟨c, t⟩ := x
    cases c with
    | true => exact headNot_cons _ (by decide)
    | false => exact headNot_cons _ (by decide)
theorem scan_blanks : ∀ l : List (Bool × Tok), (∀ x ∈ l, x.2.text ≠ [] ∧ scanL x.2.text = [x.2] ∧ x.2.kind ≠ 6 ∧ x.2.kind ≠ 3) → LastU (l.map Prod.snd) → bareT (scanL (blanksL l)) = l.map Prod.snd
  | [], _, _ => rfl
  | (c, t) :: r, h, hu => by
    obtain ⟨h1, h2, h3, h4⟩ := h (c, t) (by simp)
    have h1 : t.text ≠ [] := h1
    have h2 : scanL t.text = [t] := h2
    have h3 : t.kind ≠ 6 := h3
    have h4 : t.kind ≠ 3 := h4
    have ih := scan_blanks r (fun x hx => h x (by simp [hx])) hu.2
    have hb : HeadNot TokP.blank (t.text ++ blanksL r) := by
      cases ht : t.text with
      | nil => exact absurd ht h1
      | cons d u =>
        refine headNot_cons _ ?_
        rw [← Bool.not_eq_true]
        intro hd
        have hk := ((front_kind d u).1).2 hd
        rw [ht, scan_cons (d :: u) (by simp)] at h2
        have := (List.cons.inj h2).1
        rw [this] at hk
        exact h3 hk
    have e1 : scanL (t.text ++ blanksL r) = t :: scanL (blanksL r) := by
      by_cases hn : Unclosed t
      · have hr : r = [] := by
          have := hu.1 hn
          simpa using this
        subst hr
        rw [show blanksL [] = [] from rfl, List.append_nil, h2]; rfl
      · rw [scan_app _ _ (fun u hu' => by
          rw [h2] at hu'
          obtain rfl : t = u := by simpa using hu'
          exact ⟨fun e => absurd e h3, fun _ => blanks_head r, hn⟩), h2]
        rfl
    have e2 : scanL (32 :: (t.text ++ blanksL r)) = ⟨6, [32]⟩ :: t :: scanL (blanksL r) := by
      have : scanL ([32] ++ (t.text ++ blanksL r)) = scanL [32] ++ scanL (t.text ++ blanksL r) := scan_app [32] _ (fun u hu' => by
        obtain rfl : (⟨6, [32]⟩ : Tok) = u := by simpa [show scanL [32] = [⟨6, [32]⟩] from by decide] using hu'
        exact ⟨fun _ => hb, fun e => absurd e (by decide), fun e => absurd e.1 (by decide)⟩)
      rw [e1] at this
      exact this
    have e3 : bareT (⟨6, [32]⟩ :: t :: scanL (blanksL r)) = t :: bareT (scanL (blanksL r)) := by
      unfold bareT
      rw [List.filter_cons, if_neg (by decide), List.filter_cons, if_pos (by simp [h3, h4])]
    have e4 : bareT (scanL (blanksL ((c, t) :: r))) = t :: bareT (scanL (blanksL r)) := by
      cases c with
      | false =>
        show bareT (scanL (32 :: (t.text ++ blanksL r))) = _
        rw [e2, e3]
      | true =>
        show bareT (scanL (cmt ++ (32 :: (t.text ++ blanksL r)))) = _
        rw [scan_app cmt _ (fun u hu' => by
          obtain rfl : (⟨3, cmt⟩ : Tok) = u := by simpa [show scanL cmt = [⟨3, cmt⟩] from by decide] using hu'
          exact ⟨fun e => absurd e (by decide), fun e => absurd e (by decide), fun e => absurd e.1 (by decide)⟩), e2, bare_app, e3]
        rfl
    rw [e4, ih]
    rfl
theorem parse_blanks (s : List UInt8) (l : List (Bool × Tok)) (hl : l.map Prod.snd = bareT (scanL s)) : parseA (blanksL l) = parseA s := by
  unfold parseA
  rw [scan_blanks l (fun x hx => ?_) (by rw [hl]; exact last_filter _ _ (scan_last s)), hl]
  have hm : x.2 ∈ bareT (scanL s) := by rw [← hl]; exact List.mem_map_of_mem hx
  unfold bareT at hm
  obtain ⟨hm, hk⟩ := List.mem_filter.1 hm
  obtain ⟨a1, a2, _⟩ := scan_mem s x.2 hm
  simp only [Bool.and_eq_true, bne_iff_ne] at hk
  exact ⟨a1, a2, hk.1, hk.2⟩
end Go.Proofs.YtdinachiiimngaaGreatDoor.AdrP
