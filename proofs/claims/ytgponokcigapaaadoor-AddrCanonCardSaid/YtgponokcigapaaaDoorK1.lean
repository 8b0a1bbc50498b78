/- The contracts of the library's functions that this proof uses, stated in this translation's numbers. What the contracts share: strings as lists of bytes, slices that can be read. Tokens of header fields, of no program: scanning, values, quoting, and the stage's laws of them. Tokens of header fields, of no program: what stands behind whole tokens, neighbours, values and quoting. Tokens of header fields, of no program: strings that need no quotes. Single bytes: white space, specials, atom bytes, the program's. enclosed: where an opened token closes. prefix: how many bytes at the start belong, white space and atom bytes. first: the kind and the length of the first token. Slices of tokens: in a block of their own, or read at an address; tokens as values. Scan: the tokens of a string, one by one. Mail addresses, of no program: what stands behind whole tokens; pieces, addr-specs, addresses. Mail addresses, of no program: pieces, addr-specs, addresses; two fields joined; blanks between tokens. Mail addresses, of no program: what is written is read back; message ids. Mail addresses, of no program: lists of addresses that are written are read back. A strings.Builder that a call has made. -/
import Derived.Shelf.Strings.Builder1
import Derived.Shelf.Small.Utf8
import Derived.Shelf.Small.Strs
import Derived.Shelf.LaysM
import Derived.Shelf.Strconv.Clone
import Derived.Shelf.Strings.Search1
import Derived.Shelf.Strings.Search2
import Derived.Shelf.Strings.Search3
import Derived.Shelf.Strings.LastIndex
import Derived.Shelf.Strings.Runes
import Derived.Shelf.Strings.IndexAny
import Derived.Shelf.Strings.AsciiSet
import Derived.Shelf.Strings.IndexAnyAll
import Derived.Test.YtgponokcigapaaaDoorProg
import Derived.Test.YtgponokcigapaaaDoorChecked
import Derived.Lib.Hide
import Derived.WalkKit
import Derived.ProofKit
import Derived.MapKept
import Derived.Laws.OwnMore
import Derived.Laws.AppendOwn
import Derived.Laws.StructEq
import Derived.Deep.RegionHeld3
namespace Go.Proofs
open Go.Shelf
def Tryd.lays167_ren : Go.Shelf.Ren := ⟨fun | 167 => 72 | 240 => 61 | 276 => 78 | n => n, fun | 9 => 9 | 20 => 20 | 70 => 57 | 5 => 5 | 75 => 61 | 0 => 0 | 72 => 59 | 37 => 45 | 4 => 4 | 164 => 80 | 80 => 64 | n => n, fun | n => n⟩
theorem Tryd.lays167 : Go.Proofs.Lays.n167 Tryd.prog Tryd.lays167_ren := {
  mixed := by kernel_rfl
  f167 := Tryd.func72.trans (congrArg some (by kernel_rfl))
  f240 := Tryd.func61.trans (congrArg some (by kernel_rfl))
  f276 := Tryd.func78.trans (congrArg some (by kernel_rfl))
  t0 := Tryd.underlying0
  a0 := Tryd.isAgg0
  z0 := Tryd.sizeOf0
  v0 := Tryd.zeroValue0
  t4 := Tryd.underlying4
  a4 := Tryd.isAgg4
  z4 := Tryd.sizeOf4
  v4 := Tryd.zeroValue4
  t5 := Tryd.underlying5
  a5 := Tryd.isAgg5
  z5 := Tryd.sizeOf5
  v5 := Tryd.zeroValue5
  t9 := Tryd.underlying9
  a9 := Tryd.isAgg9
  z9 := Tryd.sizeOf9
  v9 := Tryd.zeroValue9
  t20 := Tryd.underlying20
  a20 := Tryd.isAgg20
  z20 := Tryd.sizeOf20
  v20 := Tryd.zeroValue20
  t37 := Tryd.underlying45
  a37 := Tryd.isAgg45
  z37 := Tryd.sizeOf45
  v37 := Tryd.zeroValue45
  t70 := Tryd.underlying57
  a70 := Tryd.isAgg57
  z70 := Tryd.sizeOf57
  v70 := Tryd.zeroValue57
  t72 := Tryd.underlying59
  a72 := Tryd.isAgg59
  z72 := Tryd.sizeOf59
  v72 := Tryd.zeroValue59
  t75 := Tryd.underlying61
  a75 := Tryd.isAgg61
  z75 := Tryd.sizeOf61
  v75 := Tryd.zeroValue61
  t164 := Tryd.underlying80
  a164 := Tryd.isAgg80
  z164 := Tryd.sizeOf80
  v164 := Tryd.zeroValue80 }
theorem Tryd.Builder_Extra_167 : Builder.Extra Tryd.prog Tryd.lays167_ren := {
  sizeBuilder := by kernel_rfl
  liesBuilder := by kernel_rfl
  t5 := Tryd.underlying5
  a5 := Tryd.isAgg5
  z5 := Tryd.sizeOf5
  v5 := Tryd.zeroValue5
  infoByte := by kernel_rfl
  cellsByte := by kernel_rfl
  sizeByte := by kernel_rfl
  neB5 := by decide }
open Go.RowKit in
theorem Tryd.Builder_WriteByte (B b : Nat) (bs : List Value) (c : Int) (w : World) (h : Lib.IsBuilder 59 5 B b bs w) (hlen : bs.length + 1 ≤ 140737488355328) (hBw : B ≤ w.heap.size) :
    Calls Tryd.prog 72 #[.pointer (some ⟨b, 0, none⟩), .int .u8 c] w fun e w' => e = .returned .nilIface ∧ (Lib.BuilderAt 59 5 B b (.pointer (some ⟨b, 0, none⟩)) (bs ++ [.int .u8 c]) w' ∧ Below B w w') := Any.Builder_WriteByte Tryd.lays167 Tryd.Builder_Extra_167 B b bs c w h hlen hBw
def Tryd.lays166_ren : Go.Shelf.Ren := ⟨fun | 166 => 39 | 240 => 61 | 276 => 78 | n => n, fun | 9 => 9 | 20 => 20 | 70 => 57 | 3 => 3 | 75 => 61 | 0 => 0 | 72 => 59 | 37 => 45 | 4 => 4 | 164 => 80 | 80 => 64 | 5 => 5 | n => n, fun | n => n⟩
theorem Tryd.lays166 : Go.Proofs.Lays.n166 Tryd.prog Tryd.lays166_ren := {
  mixed := by kernel_rfl
  f166 := Tryd.func39.trans (congrArg some (by kernel_rfl))
  f240 := Tryd.func61.trans (congrArg some (by kernel_rfl))
  f276 := Tryd.func78.trans (congrArg some (by kernel_rfl))
  t0 := Tryd.underlying0
  a0 := Tryd.isAgg0
  z0 := Tryd.sizeOf0
  v0 := Tryd.zeroValue0
  t3 := Tryd.underlying3
  a3 := Tryd.isAgg3
  z3 := Tryd.sizeOf3
  v3 := Tryd.zeroValue3
  t4 := Tryd.underlying4
  a4 := Tryd.isAgg4
  z4 := Tryd.sizeOf4
  v4 := Tryd.zeroValue4
  t9 := Tryd.underlying9
  a9 := Tryd.isAgg9
  z9 := Tryd.sizeOf9
  v9 := Tryd.zeroValue9
  t20 := Tryd.underlying20
  a20 := Tryd.isAgg20
  z20 := Tryd.sizeOf20
  v20 := Tryd.zeroValue20
  t37 := Tryd.underlying45
  a37 := Tryd.isAgg45
  z37 := Tryd.sizeOf45
  v37 := Tryd.zeroValue45
  t70 := Tryd.underlying57
  a70 := Tryd.isAgg57
  z70 := Tryd.sizeOf57
  v70 := Tryd.zeroValue57
  t72 := Tryd.underlying59
  a72 := Tryd.isAgg59
  z72 := Tryd.sizeOf59
  v72 := Tryd.zeroValue59
  t75 := Tryd.underlying61
  a75 := Tryd.isAgg61
  z75 := Tryd.sizeOf61
  v75 := Tryd.zeroValue61
  t164 := Tryd.underlying80
  a164 := Tryd.isAgg80
  z164 := Tryd.sizeOf80
  v164 := Tryd.zeroValue80 }
theorem Tryd.Builder_Extra_166 : Builder.Extra Tryd.prog Tryd.lays166_ren := {
  sizeBuilder := by kernel_rfl
  liesBuilder := by kernel_rfl
  t5 := Tryd.underlying5
  a5 := Tryd.isAgg5
  z5 := Tryd.sizeOf5
  v5 := Tryd.zeroValue5
  infoByte := by kernel_rfl
  cellsByte := by kernel_rfl
  sizeByte := by kernel_rfl
  neB5 := by decide }
open Go.RowKit in
theorem Tryd.Builder_WriteString (B b : Nat) (bs : List Value) (s : ByteArray) (w : World) (h : Lib.IsBuilder 59 5 B b bs w) (hlen : bs.length + s.size ≤ 140737488355328) (hBw : B ≤ w.heap.size) :
    Calls Tryd.prog 39 #[.pointer (some ⟨b, 0, none⟩), .string s] w fun e w' => e = .returned (.tuple #[.int .i64 s.size, .nilIface]) ∧ (Lib.BuilderAt 59 5 B b (.pointer (some ⟨b, 0, none⟩)) (bs ++ Lib.strCells s) w' ∧ Below B w w') := Any.Builder_WriteString Tryd.lays166 Tryd.Builder_Extra_166 B b bs s w h hlen hBw
def Tryd.lays169_ren : Go.Shelf.Ren := ⟨fun | 169 => 41 | n => n, fun | 9 => 9 | 20 => 20 | 70 => 57 | 0 => 0 | 72 => 59 | 37 => 45 | 127 => 72 | 3 => 3 | 5 => 5 | n => n, fun | n => n⟩
theorem Tryd.lays169 : Go.Proofs.Lays.n169 Tryd.prog Tryd.lays169_ren := {
  mixed := by kernel_rfl
  f169 := Tryd.func41.trans (congrArg some (by kernel_rfl))
  t0 := Tryd.underlying0
  a0 := Tryd.isAgg0
  z0 := Tryd.sizeOf0
  v0 := Tryd.zeroValue0
  t3 := Tryd.underlying3
  a3 := Tryd.isAgg3
  z3 := Tryd.sizeOf3
  v3 := Tryd.zeroValue3
  t9 := Tryd.underlying9
  a9 := Tryd.isAgg9
  z9 := Tryd.sizeOf9
  v9 := Tryd.zeroValue9
  t37 := Tryd.underlying45
  a37 := Tryd.isAgg45
  z37 := Tryd.sizeOf45
  v37 := Tryd.zeroValue45
  t70 := Tryd.underlying57
  a70 := Tryd.isAgg57
  z70 := Tryd.sizeOf57
  v70 := Tryd.zeroValue57
  t72 := Tryd.underlying59
  a72 := Tryd.isAgg59
  z72 := Tryd.sizeOf59
  v72 := Tryd.zeroValue59
  t127 := Tryd.underlying72
  a127 := Tryd.isAgg72
  z127 := Tryd.sizeOf72
  v127 := Tryd.zeroValue72 }
theorem Tryd.Builder_Extra_169 : Builder.Extra Tryd.prog Tryd.lays169_ren := {
  sizeBuilder := by kernel_rfl
  liesBuilder := by kernel_rfl
  t5 := Tryd.underlying5
  a5 := Tryd.isAgg5
  z5 := Tryd.sizeOf5
  v5 := Tryd.zeroValue5
  infoByte := by kernel_rfl
  cellsByte := by kernel_rfl
  sizeByte := by kernel_rfl
  neB5 := by decide }
open Go.RowKit in
theorem Tryd.Builder_String_any (B b : Nat) (l : List UInt8) (w : World) (h : Lib.IsBuilder 59 5 B b (Lib.byteCells l) w) (hBw : B ≤ w.heap.size) :
    Calls Tryd.prog 41 #[.pointer (some ⟨b, 0, none⟩)] w fun e w' => e = .returned (.string ⟨l.toArray⟩) ∧ Below B w w' := Any.Builder_String_any Tryd.lays169 Tryd.Builder_Extra_169 B b l w h hBw
def Tryd.lays119_ren : Go.Shelf.Ren := ⟨fun | 119 => 101 | n => n, fun | 9 => 9 | 20 => 20 | 21 => 21 | 4 => 4 | n => n, fun | n => n⟩
theorem Tryd.lays119 : Go.Proofs.Lays.n119 Tryd.prog Tryd.lays119_ren := {
  mixed := by kernel_rfl
  f119 := Tryd.func101.trans (congrArg some (by kernel_rfl))
  t4 := Tryd.underlying4
  a4 := Tryd.isAgg4
  z4 := Tryd.sizeOf4
  v4 := Tryd.zeroValue4
  t21 := Tryd.underlying21
  a21 := Tryd.isAgg21
  z21 := Tryd.sizeOf21
  v21 := Tryd.zeroValue21 }
theorem Tryd.utf8_ValidRune (r : Int) (w : World) :
    Calls Tryd.prog 101 #[.int .i32 r] w fun e w' => e = .returned (.bool (Lib.validRune r)) ∧ w' = w := Any.utf8_ValidRune Tryd.lays119 r w
def Tryd.lays137_ren : Go.Shelf.Ren := ⟨fun | 137 => 81 | 217 => 87 | 266 => 94 | n => n, fun | 9 => 9 | 20 => 20 | 5 => 5 | 3 => 3 | n => n, fun | n => n⟩
theorem Tryd.lays137 : Go.Proofs.Lays.n137 Tryd.prog Tryd.lays137_ren := {
  mixed := by kernel_rfl
  f137 := Tryd.func81.trans (congrArg some (by kernel_rfl))
  f217 := Tryd.func87.trans (congrArg some (by kernel_rfl))
  f266 := Tryd.func94.trans (congrArg some (by kernel_rfl))
  t3 := Tryd.underlying3
  a3 := Tryd.isAgg3
  z3 := Tryd.sizeOf3
  v3 := Tryd.zeroValue3
  t5 := Tryd.underlying5
  a5 := Tryd.isAgg5
  z5 := Tryd.sizeOf5
  v5 := Tryd.zeroValue5
  t9 := Tryd.underlying9
  a9 := Tryd.isAgg9
  z9 := Tryd.sizeOf9
  v9 := Tryd.zeroValue9 }
open Go.RowKit in
theorem Tryd.strings_IndexByte (s : ByteArray) (c : Int) (w : World) :
    Calls Tryd.prog 81 #[.string s, .int .u8 c] w fun e w' => e = .returned (.int .i64 (Lib.indexByte s.data.toList c.toNat.toUInt8)) ∧ w' = w := Any.strings_IndexByte Tryd.lays137 s c w
def Tryd.laysM316_ren : Go.Shelf.Ren := ⟨fun | 316 => 57 | n => n, fun | 9 => 9 | 20 => 20 | 3 => 3 | 4 => 4 | 37 => 45 | 0 => 0 | 127 => 72 | 5 => 5 | n => n, fun | n => n⟩
theorem Tryd.laysM316 : Go.Proofs.LaysM.n316 Tryd.prog Tryd.laysM316_ren := {
  mixed := by kernel_rfl
  f316 := Tryd.func57.trans (congrArg some (by kernel_rfl))
  t0 := Tryd.underlying0
  a0 := Tryd.isAgg0
  z0 := Tryd.sizeOf0
  v0 := Tryd.zeroValue0
  t3 := Tryd.underlying3
  a3 := Tryd.isAgg3
  z3 := Tryd.sizeOf3
  v3 := Tryd.zeroValue3
  t4 := Tryd.underlying4
  a4 := Tryd.isAgg4
  z4 := Tryd.sizeOf4
  v4 := Tryd.zeroValue4
  t9 := Tryd.underlying9
  a9 := Tryd.isAgg9
  z9 := Tryd.sizeOf9
  v9 := Tryd.zeroValue9
  t37 := Tryd.underlying45
  a37 := Tryd.isAgg45
  z37 := Tryd.sizeOf45
  v37 := Tryd.zeroValue45
  t127 := Tryd.underlying72
  a127 := Tryd.isAgg72
  z127 := Tryd.sizeOf72
  v127 := Tryd.zeroValue72
  t5 := Tryd.underlying5
  a5 := Tryd.isAgg5
  z5 := Tryd.sizeOf5
  v5 := Tryd.zeroValue5
  i0 := by kernel_rfl
  i3 := by kernel_rfl
  i4 := by kernel_rfl
  i5 := by kernel_rfl
  i9 := by kernel_rfl
  i37 := by kernel_rfl
  i127 := by kernel_rfl }
open Go.RowKit in
theorem Tryd.stringslite_Clone (s : ByteArray) (w : World) (hlim : s.size ≤ 281474976710656) :
    Calls Tryd.prog 57 #[.string s] w fun e w' => e = .returned (.string s) ∧ Below w.heap.size w w' := Any.stringslite_Clone Tryd.laysM316 s w hlim
def Tryd.lays219_ren : Go.Shelf.Ren := ⟨fun | 219 => 76 | 217 => 87 | 225 => 88 | 224 => 89 | 267 => 90 | 266 => 94 | 314 => 95 | n => n, fun | 9 => 9 | 20 => 20 | 3 => 3 | 4 => 4 | 5 => 5 | 46 => 41 | 146 => 91 | 51 => 90 | n => n, fun | 1 => 0 | n => n⟩
theorem Tryd.lays219 : Go.Proofs.Lays.n219 Tryd.prog Tryd.lays219_ren := {
  mixed := by kernel_rfl
  f217 := Tryd.func87.trans (congrArg some (by kernel_rfl))
  f219 := Tryd.func76.trans (congrArg some (by kernel_rfl))
  f224 := Tryd.func89.trans (congrArg some (by kernel_rfl))
  f225 := Tryd.func88.trans (congrArg some (by kernel_rfl))
  f266 := Tryd.func94.trans (congrArg some (by kernel_rfl))
  f267 := Tryd.func90.trans (congrArg some (by kernel_rfl))
  f314 := Tryd.func95.trans (congrArg some (by kernel_rfl))
  t3 := Tryd.underlying3
  a3 := Tryd.isAgg3
  z3 := Tryd.sizeOf3
  v3 := Tryd.zeroValue3
  t4 := Tryd.underlying4
  a4 := Tryd.isAgg4
  z4 := Tryd.sizeOf4
  v4 := Tryd.zeroValue4
  t5 := Tryd.underlying5
  a5 := Tryd.isAgg5
  z5 := Tryd.sizeOf5
  v5 := Tryd.zeroValue5
  t9 := Tryd.underlying9
  a9 := Tryd.isAgg9
  z9 := Tryd.sizeOf9
  v9 := Tryd.zeroValue9
  t46 := Tryd.underlying41
  a46 := Tryd.isAgg41
  z46 := Tryd.sizeOf41
  v46 := Tryd.zeroValue41
  t51 := Tryd.underlying90
  a51 := Tryd.isAgg90
  z51 := Tryd.sizeOf90
  v51 := Tryd.zeroValue90
  t146 := Tryd.underlying91
  a146 := Tryd.isAgg91
  z146 := Tryd.sizeOf91
  v146 := Tryd.zeroValue91
  g1 := by kernel_rfl }
open Go.RowKit Go.Lib in
theorem Tryd.stringslite_Index_one (s : ByteArray) (c : UInt8) (w : World) :
    Calls Tryd.prog 76 #[.string s, .string ⟨#[c]⟩] w fun e w' => e = .returned (.int .i64 (Lib.indexByte s.data.toList c)) ∧ w' = w := Any.stringslite_Index_one Tryd.lays219 s c w
def Tryd.lays143_ren : Go.Shelf.Ren := ⟨fun | 143 => 104 | 219 => 76 | 217 => 87 | 225 => 88 | 224 => 89 | 267 => 90 | 266 => 94 | 314 => 95 | n => n, fun | 9 => 9 | 20 => 20 | 3 => 3 | 4 => 4 | 5 => 5 | 46 => 41 | 146 => 91 | 51 => 90 | n => n, fun | 1 => 0 | n => n⟩
theorem Tryd.lays143 : Go.Proofs.Lays.n143 Tryd.prog Tryd.lays143_ren := {
  mixed := by kernel_rfl
  f143 := Tryd.func104.trans (congrArg some (by kernel_rfl))
  f217 := Tryd.func87.trans (congrArg some (by kernel_rfl))
  f219 := Tryd.func76.trans (congrArg some (by kernel_rfl))
  f224 := Tryd.func89.trans (congrArg some (by kernel_rfl))
  f225 := Tryd.func88.trans (congrArg some (by kernel_rfl))
  f266 := Tryd.func94.trans (congrArg some (by kernel_rfl))
  f267 := Tryd.func90.trans (congrArg some (by kernel_rfl))
  f314 := Tryd.func95.trans (congrArg some (by kernel_rfl))
  t3 := Tryd.underlying3
  a3 := Tryd.isAgg3
  z3 := Tryd.sizeOf3
  v3 := Tryd.zeroValue3
  t4 := Tryd.underlying4
  a4 := Tryd.isAgg4
  z4 := Tryd.sizeOf4
  v4 := Tryd.zeroValue4
  t5 := Tryd.underlying5
  a5 := Tryd.isAgg5
  z5 := Tryd.sizeOf5
  v5 := Tryd.zeroValue5
  t9 := Tryd.underlying9
  a9 := Tryd.isAgg9
  z9 := Tryd.sizeOf9
  v9 := Tryd.zeroValue9
  t46 := Tryd.underlying41
  a46 := Tryd.isAgg41
  z46 := Tryd.sizeOf41
  v46 := Tryd.zeroValue41
  t51 := Tryd.underlying90
  a51 := Tryd.isAgg90
  z51 := Tryd.sizeOf90
  v51 := Tryd.zeroValue90
  t146 := Tryd.underlying91
  a146 := Tryd.isAgg91
  z146 := Tryd.sizeOf91
  v146 := Tryd.zeroValue91
  g1 := by kernel_rfl }
open Go.RowKit Go.Lib in
theorem Tryd.strings_Index_one (s : ByteArray) (c : UInt8) (w : World) :
    Calls Tryd.prog 104 #[.string s, .string ⟨#[c]⟩] w fun e w' => e = .returned (.int .i64 (Lib.indexByte s.data.toList c)) ∧ w' = w := Any.strings_Index_one Tryd.lays143 s c w
def Tryd.lays149_ren : Go.Shelf.Ren := ⟨fun | 149 => 32 | 222 => 55 | n => n, fun | 9 => 9 | 20 => 20 | 5 => 5 | 3 => 3 | 4 => 4 | n => n, fun | n => n⟩
theorem Tryd.lays149 : Go.Proofs.Lays.n149 Tryd.prog Tryd.lays149_ren := {
  mixed := by kernel_rfl
  f149 := Tryd.func32.trans (congrArg some (by kernel_rfl))
  f222 := Tryd.func55.trans (congrArg some (by kernel_rfl))
  t3 := Tryd.underlying3
  a3 := Tryd.isAgg3
  z3 := Tryd.sizeOf3
  v3 := Tryd.zeroValue3
  t4 := Tryd.underlying4
  a4 := Tryd.isAgg4
  z4 := Tryd.sizeOf4
  v4 := Tryd.zeroValue4
  t5 := Tryd.underlying5
  a5 := Tryd.isAgg5
  z5 := Tryd.sizeOf5
  v5 := Tryd.zeroValue5
  t9 := Tryd.underlying9
  a9 := Tryd.isAgg9
  z9 := Tryd.sizeOf9
  v9 := Tryd.zeroValue9 }
open Go.RowKit Go.Lib in
theorem Tryd.strings_LastIndexByte (s : ByteArray) (c : Int) (hs : s.size < 4611686018427387904) (w : World) :
    Calls Tryd.prog 32 #[.string s, .int .u8 c] w fun e w' => e = .returned (.int .i64 (Lib.lastIndexByte s c)) ∧ w' = w := Any.strings_LastIndexByte Tryd.lays149 s c hs w
def Tryd.lays152_ren : Go.Shelf.Ren := ⟨fun | 152 => 96 | 137 => 81 | 119 => 101 | 224 => 89 | 225 => 88 | 217 => 87 | 266 => 94 | n => n, fun | 9 => 9 | 20 => 20 | 21 => 21 | 3 => 3 | 4 => 4 | 5 => 5 | 0 => 0 | 46 => 41 | n => n, fun | n => n⟩
theorem Tryd.lays152 : Go.Proofs.Lays.n152 Tryd.prog Tryd.lays152_ren := {
  mixed := by kernel_rfl
  f119 := Tryd.func101.trans (congrArg some (by kernel_rfl))
  f137 := Tryd.func81.trans (congrArg some (by kernel_rfl))
  f152 := Tryd.func96.trans (congrArg some (by kernel_rfl))
  f217 := Tryd.func87.trans (congrArg some (by kernel_rfl))
  f224 := Tryd.func89.trans (congrArg some (by kernel_rfl))
  f225 := Tryd.func88.trans (congrArg some (by kernel_rfl))
  f266 := Tryd.func94.trans (congrArg some (by kernel_rfl))
  t0 := Tryd.underlying0
  a0 := Tryd.isAgg0
  z0 := Tryd.sizeOf0
  v0 := Tryd.zeroValue0
  t3 := Tryd.underlying3
  a3 := Tryd.isAgg3
  z3 := Tryd.sizeOf3
  v3 := Tryd.zeroValue3
  t4 := Tryd.underlying4
  a4 := Tryd.isAgg4
  z4 := Tryd.sizeOf4
  v4 := Tryd.zeroValue4
  t5 := Tryd.underlying5
  a5 := Tryd.isAgg5
  z5 := Tryd.sizeOf5
  v5 := Tryd.zeroValue5
  t9 := Tryd.underlying9
  a9 := Tryd.isAgg9
  z9 := Tryd.sizeOf9
  v9 := Tryd.zeroValue9
  t21 := Tryd.underlying21
  a21 := Tryd.isAgg21
  z21 := Tryd.sizeOf21
  v21 := Tryd.zeroValue21
  t46 := Tryd.underlying41
  a46 := Tryd.isAgg41
  z46 := Tryd.sizeOf41
  v46 := Tryd.zeroValue41 }
open Go.RowKit Go.Lib in
theorem Tryd.strings_IndexRune_ascii (s : ByteArray) (r : Int) (w : World) (h0 : 0 ≤ r) (h1 : r < 128) :
    Calls Tryd.prog 96 #[.string s, .int .i32 r] w fun e w' => e = .returned (.int .i64 (Lib.indexByte s.data.toList r.toNat.toUInt8)) ∧ w' = w := Any.strings_IndexRune_ascii Tryd.lays152 s r w h0 h1
def Tryd.lays226_ren : Go.Shelf.Ren := ⟨fun | 226 => 97 | n => n, fun | 9 => 9 | 20 => 20 | 3 => 3 | 4 => 4 | n => n, fun | n => n⟩
theorem Tryd.lays226 : Go.Proofs.Lays.n226 Tryd.prog Tryd.lays226_ren := {
  mixed := by kernel_rfl
  f226 := Tryd.func97.trans (congrArg some (by kernel_rfl))
  t3 := Tryd.underlying3
  a3 := Tryd.isAgg3
  z3 := Tryd.sizeOf3
  v3 := Tryd.zeroValue3
  t4 := Tryd.underlying4
  a4 := Tryd.isAgg4
  z4 := Tryd.sizeOf4
  v4 := Tryd.zeroValue4 }
open Go.RowKit Go.Lib in
theorem Tryd.strings_shouldUseASCIISet (n : Int) (w : World) :
    Calls Tryd.prog 97 #[.int .i64 n] w fun e w' => e = .returned (.bool (decide (8 < n))) ∧ w' = w := Any.strings_shouldUseASCIISet Tryd.lays226 n w
def Tryd.lays153_ren : Go.Shelf.Ren := ⟨fun | 153 => 91 | 152 => 96 | 226 => 97 | 227 => 98 | 228 => 99 | 137 => 81 | 119 => 101 | 224 => 89 | 225 => 88 | 217 => 87 | 266 => 94 | n => n, fun | 9 => 9 | 20 => 20 | 3 => 3 | 4 => 4 | 5 => 5 | 21 => 21 | 117 => 97 | 116 => 96 | 0 => 0 | 46 => 41 | 124 => 101 | n => n, fun | n => n⟩
theorem Tryd.lays153 : Go.Proofs.Lays.n153 Tryd.prog Tryd.lays153_ren := {
  mixed := by kernel_rfl
  f119 := Tryd.func101.trans (congrArg some (by kernel_rfl))
  f137 := Tryd.func81.trans (congrArg some (by kernel_rfl))
  f152 := Tryd.func96.trans (congrArg some (by kernel_rfl))
  f153 := Tryd.func91.trans (congrArg some (by kernel_rfl))
  f217 := Tryd.func87.trans (congrArg some (by kernel_rfl))
  f224 := Tryd.func89.trans (congrArg some (by kernel_rfl))
  f225 := Tryd.func88.trans (congrArg some (by kernel_rfl))
  f226 := Tryd.func97.trans (congrArg some (by kernel_rfl))
  f227 := Tryd.func98.trans (congrArg some (by kernel_rfl))
  f228 := Tryd.func99.trans (congrArg some (by kernel_rfl))
  f266 := Tryd.func94.trans (congrArg some (by kernel_rfl))
  t0 := Tryd.underlying0
  a0 := Tryd.isAgg0
  z0 := Tryd.sizeOf0
  v0 := Tryd.zeroValue0
  t3 := Tryd.underlying3
  a3 := Tryd.isAgg3
  z3 := Tryd.sizeOf3
  v3 := Tryd.zeroValue3
  t4 := Tryd.underlying4
  a4 := Tryd.isAgg4
  z4 := Tryd.sizeOf4
  v4 := Tryd.zeroValue4
  t5 := Tryd.underlying5
  a5 := Tryd.isAgg5
  z5 := Tryd.sizeOf5
  v5 := Tryd.zeroValue5
  t9 := Tryd.underlying9
  a9 := Tryd.isAgg9
  z9 := Tryd.sizeOf9
  v9 := Tryd.zeroValue9
  t21 := Tryd.underlying21
  a21 := Tryd.isAgg21
  z21 := Tryd.sizeOf21
  v21 := Tryd.zeroValue21
  t46 := Tryd.underlying41
  a46 := Tryd.isAgg41
  z46 := Tryd.sizeOf41
  v46 := Tryd.zeroValue41
  t116 := Tryd.underlying96
  a116 := Tryd.isAgg96
  z116 := Tryd.sizeOf96
  t117 := Tryd.underlying97
  a117 := Tryd.isAgg97
  z117 := Tryd.sizeOf97
  v117 := Tryd.zeroValue97
  t124 := Tryd.underlying101
  a124 := Tryd.isAgg101
  z124 := Tryd.sizeOf101
  v124 := Tryd.zeroValue101 }
open Go.RowKit Go.Lib in
theorem Tryd.strings_IndexAny_long (hv116 : ∀ w, (zeroValue 96).run Tryd.prog w = .ok (.agg (Array.replicate 256 (.bool false))) w) (s chars : ByteArray) (w : World) (h2 : 2 ≤ chars.size) (h8 : 8 < s.size) (hs : s.size < 4294967281) (hcs : chars.size < 4294967281) (hascii : ∀ (j : Nat) b, chars.data.toList[j]? = some b → b.toNat < 128) :
    Calls Tryd.prog 91 #[.string s, .string chars] w fun e w' => e = .returned (.int .i64 (Lib.indexAny s.data.toList chars.data.toList)) ∧ w' = ((w.alloc (.cells (Lib.setCells chars.data.toList) 96)).alloc (.cells (Lib.setCells chars.data.toList) 96)) := Any.strings_IndexAny_long Tryd.lays153 hv116 (by kernel_rfl) s chars w h2 h8 hs hcs hascii
end Go.Proofs
namespace Go.Proofs.YtgponokcigapaaaDoor
open Go.ChangeShapes Go.WideShapes Go.ChangeAt Go.RowKit

theorem Qtrans {w w1 w2 : World} (h : Below w.heap.size w w1) (k : Below w1.heap.size w1 w2) : Below w.heap.size w w2 := h.trans (k.mono h.size)
/-! ### Strings as lists of bytes -/
/-- The string of a list of bytes. -/
def strL (l : List UInt8) : ByteArray := ⟨l.toArray⟩
theorem strL_list (l : List UInt8) : (strL l).data.toList = l := rfl
theorem strL_size (l : List UInt8) : (strL l).size = l.length := by
  show l.toArray.size = l.length
  simp
theorem bytes_is {a b : ByteArray} (h : a.data.toList = b.data.toList) : a = b := by
  cases a; cases b
  simp only [ByteArray.mk.injEq] at h ⊢
  exact Array.toList_inj.1 h
theorem strL_of (s : ByteArray) : strL s.data.toList = s := bytes_is rfl
theorem strL_is {s : ByteArray} {l : List UInt8} (h : s.data.toList = l) : s = strL l := bytes_is h
theorem strL_inj {a b : List UInt8} : strL a = strL b ↔ a = b := ⟨fun h => congrArg (fun s : ByteArray => s.data.toList) h, fun h => by rw [h]⟩
theorem size_list (t : ByteArray) : t.size = t.data.toList.length := by rw [Array.length_toList]; rfl
theorem bytes_eqb (a b : ByteArray) : (a == b) = decide (a = b) := by
  rw [Bool.eq_iff_iff, MapKept.bytes_beq, decide_eq_true_eq]
theorem eq_lists (a b : ByteArray) : (a.toList == b.toList) = (a == b) := by
  rw [bytes_eqb, Bool.eq_iff_iff, beq_iff_eq, ByteArray.toList_eq, ByteArray.toList_eq, decide_eq_true_eq]
  exact ⟨bytes_is, fun h => by rw [h]⟩
theorem eq_strL (a b : List UInt8) : ((strL a).toList == (strL b).toList) = decide (a = b) := by
  rw [eq_lists, bytes_eqb, Bool.eq_iff_iff, decide_eq_true_eq, decide_eq_true_eq, strL_inj]
theorem list_append (a b : ByteArray) : (a ++ b).data.toList = a.data.toList ++ b.data.toList := by
  rw [ByteArray.data_append, Array.toList_append]
theorem strL_append (a b : List UInt8) : strL a ++ strL b = strL (a ++ b) := bytes_is (by rw [list_append]; rfl)
/-- A part of a string. -/
theorem part_of (s : ByteArray) (i j : Nat) (_hij : i ≤ j) (_hj : j ≤ s.size) : s.extract i j = strL ((s.data.toList.drop i).take (j - i)) := by
  refine bytes_is ?_
  rw [ByteArray.data_extract, Array.toList_extract, strL_list, List.extract_eq_take_drop]
theorem run_slice_str (s : ByteArray) (p q : Nat) (x : Int) (hx : x = q) (h : p ≤ q) (h2 : q ≤ s.size) (W : World) :
    (Instr.slice 9 (.string s) (some (.int .i64 p)) (some (.int .i64 x)) none).run Tryd.prog W = .ok (.string (s.extract p q)) W := by
  subst hx
  go_simp
theorem run_slice_from (s : ByteArray) (p : Nat) (x : Int) (hx : x = p) (h2 : p ≤ s.size) (W : World) :
    (Instr.slice 9 (.string s) (some (.int .i64 x)) none none).run Tryd.prog W = .ok (.string (s.extract p s.size)) W := by
  subst hx
  go_simp
theorem run_slice_to (s : ByteArray) (q : Nat) (x : Int) (hx : x = q) (h2 : q ≤ s.size) (W : World) :
    (Instr.slice 9 (.string s) none (some (.int .i64 x)) none).run Tryd.prog W = .ok (.string (s.extract 0 q)) W := by
  subst hx
  go_simp
theorem run_index_str (s : ByteArray) (x : Int) (n : Nat) (hx : x = n) (h : n < s.size) (W : World) :
    (Instr.index 9 (.string s) (.int .i64 x)).run Tryd.prog W = .ok (.int .u8 (s[n].toNat : Int)) W := by
  subst hx
  go_simp
theorem at_list (s : ByteArray) (n : Nat) (_h : n < s.size) (h2 : n < s.data.toList.length) : s.data.toList[n] = s[n] := rfl
theorem drop_cons (s : ByteArray) (n : Nat) (h : n < s.size) : s.data.toList.drop n = s[n] :: s.data.toList.drop (n + 1) := List.drop_eq_getElem_cons (by rw [← size_list]; exact h)
theorem part_rest (s : ByteArray) (n : Nat) (h : n ≤ s.size) : (s.extract n s.size).data.toList = s.data.toList.drop n := by
  rw [part_of s n s.size h (by omega), strL_list, List.take_of_length_le]
  rw [List.length_drop, ← size_list]
  exact Nat.le_refl _
theorem part_start (s : ByteArray) (n : Nat) (h : n ≤ s.size) : (s.extract 0 n).data.toList = s.data.toList.take n := by
  rw [part_of s 0 n (by omega) h, strL_list]; rfl
/-! ### Slices that can be read -/
def strV (l : List UInt8) : Value := .string (strL l)
def blk : Value → Option Nat
  | .slice (some a) _ _ => some a.block
  | _ => none
/-- The slice v reads as xs. -/
def Has {A : Type} (E : A → Value) (w : World) (v : Value) (xs : List A) : Prop :=
  (v = .slice none 0 0 ∧ xs = []) ∨ ∃ a c, v = .slice (some a) xs.length c ∧ ∀ j (h : j < xs.length), w.cell? (a.add j) = some (E xs[j])
theorem Has.nil {A : Type} (E : A → Value) (w : World) : Has E w (.slice none 0 0) [] := Or.inl ⟨rfl, rfl⟩
theorem add_block (a : Addr) (j : Nat) : (a.add j).block = a.block := by unfold Addr.add; split <;> rfl
theorem block_lt {w : World} {a : Addr} {j : Nat} {u : Value} (h : w.cell? (a.add j) = some u) : a.block < w.heap.size := by
  have := World.block_lt_of_cell? w (a.add j) h
  rwa [add_block] at this
theorem Has.keep {A : Type} {E : A → Value} {w w' : World} {v : Value} {xs : List A} (h : Has E w v xs) (hk : ∀ k, blk v = some k → k < w.heap.size → w'.heap[k]? = w.heap[k]?) : Has E w' v xs := by
  rcases h with h | ⟨a, c, rfl, h2⟩
  · exact Or.inl h
  · exact Or.inr ⟨a, c, rfl, fun j hj => by rw [World.cell?_of_block (w := w) (by rw [add_block]; exact hk a.block rfl (block_lt (h2 j hj)))]; exact h2 j hj⟩
theorem Has.below {A : Type} {E : A → Value} {w w' : World} {v : Value} {xs : List A} {B : Nat} (h : Has E w v xs) (hb : Below B w w') (hB : ∀ k, blk v = some k → k < w.heap.size → k < B) : Has E w' v xs :=
  h.keep fun k hk hl => hb.block k (hB k hk hl)
theorem Has.below' {A : Type} {E : A → Value} {w w' : World} {v : Value} {xs : List A} (h : Has E w v xs) (hb : Below w.heap.size w w') : Has E w' v xs := h.below hb fun _ _ h => h
theorem Has.of_own {A : Type} {E : A → Value} {w : World} {base e : Nat} {v : Value} {xs : List A} (h : w.ownsRow base e 1 v xs.length (xs.map E)) : Has E w v xs ∧ ∀ k, blk v = some k → base ≤ k := by
  rcases h.2 with ⟨rfl, h0⟩ | ⟨g, cap, cur, rfl, hb, hg, _⟩
  · exact ⟨Or.inl ⟨rfl, List.eq_nil_of_length_eq_zero h0⟩, fun k hk => by cases hk⟩
  · refine ⟨Or.inr ⟨⟨g, 0, none⟩, cap, rfl, fun j hj => ?_⟩, fun k hk => by cases hk; exact hb⟩
    exact h.cells (g := g) rfl j _ (by rw [List.getElem?_map, List.getElem?_eq_getElem hj]; rfl)
theorem cells_new {A : Type} (E : A → Value) (w : World) (e : TypeId) (l : List A) : ∀ j u, (l.map E)[j]? = some u → (w.alloc (.cells (l.map E).toArray e)).cell? ((⟨w.heap.size, 0, none⟩ : Addr).add j) = some u := by
  intro j u h
  have := World.cell?_alloc_mark w (l.map E).toArray e (0, 0) j
  have e : (⟨w.heap.size, 0, none⟩ : Addr).add j = ⟨w.heap.size, j, none⟩ := by
    simp only [Addr.add, Nat.zero_add]
    split
    · rename_i hj; rw [hj]
    · rfl
  rw [e, this, List.getElem?_toArray]; exact h
theorem Has.lit {A : Type} (E : A → Value) (w : World) (e : TypeId) (l : List A) (n : Nat) (hn : n = l.length) : Has E (w.alloc (.cells (l.map E).toArray e)) (.slice (some ⟨w.heap.size, 0, none⟩) n n) l := by
  subst hn
  exact Or.inr ⟨_, _, rfl, fun j hj => cells_new E w e l j _ (by rw [List.getElem?_map, List.getElem?_eq_getElem hj]; rfl)⟩
theorem own_below {w w' : World} {base : Nat} {e : TypeId} {size : Nat} {v : Value} {n : Nat} {xs : List Value} (h : w.ownsRow base e size v n xs) (hb : Below w.heap.size w w') : w'.ownsRow base e size v n xs := by
  refine ⟨h.1, ?_⟩
  rcases h.2 with h1 | ⟨g, cap, cur, rfl, hbg, hg, rest⟩
  · exact .inl h1
  · refine .inr ⟨g, cap, cur, rfl, hbg, ?_, rest⟩
    rw [hb.block g (Array.getElem?_eq_some_iff.1 hg).1]
    exact hg
theorem info9 : (Tryd.prog.info? 9).map (fun i => (i.zero, i.size, i.bytes)) = some (some (.string ⟨#[]⟩), 1, 16) := by kernel_rfl
theorem info5 : (Tryd.prog.info? 5).map (fun i => (i.zero, i.size, i.bytes)) = some (some (.int .u8 0), 1, 1) := by kernel_rfl
end Go.Proofs.YtgponokcigapaaaDoor
namespace Go.Proofs.YtgponokcigapaaaDoor.TokP

structure Tok where
  kind : Nat
  text : List UInt8
deriving DecidableEq
def blank (c : UInt8) : Bool := c == 9 || c == 10 || c == 13 || c == 32
def special (c : UInt8) : Bool := [40, 41, 60, 62, 91, 93, 58, 59, 64, 92, 44, 46, 34].contains c
def atomB (c : UInt8) : Bool := decide (32 < c.toNat) && c != 127 && !special c
/-- What opens a token that is closed by another byte. -/
def opens (c : UInt8) : Bool := c == 40 || c == 34 || c == 91
def closer (c : UInt8) : UInt8 := if c = 40 then 41 else if c = 34 then 34 else 93
def kindO (c : UInt8) : Nat := if c = 40 then 3 else if c = 34 then 2 else 5
/-- How many bytes behind the opening one there are to the closing one, it too: q closes, nest: '(' opens another; e: the byte is escaped; d: the depth. -/
def closeS (q : UInt8) (nest : Bool) : Bool → Nat → List UInt8 → Option Nat
  | _, _, [] => none
  | true, d, _ :: t => (closeS q nest false d t).map (· + 1)
  | false, d, c :: t =>
    if c = 92 then (closeS q nest true d t).map (· + 1)
    else if c = q then (if d = 0 then some 1 else (closeS q nest false (d - 1) t).map (· + 1))
    else if nest = true ∧ c = 40 then (closeS q nest false (d + 1) t).map (· + 1)
    else (closeS q nest false d t).map (· + 1)
def closeL (c : UInt8) (t : List UInt8) : Option Nat := closeS (closer c) (c == 40) false 0 t
/-- The first token. -/
def frontL : List UInt8 → Tok
  | [] => ⟨7, []⟩
  | c :: t =>
    if blank c = true then ⟨6, (c :: t).takeWhile blank⟩
    else if opens c = true then (match closeL c t with
      | none => ⟨7, c :: t⟩
      | some n => ⟨kindO c, c :: t.take n⟩)
    else if special c = true then ⟨4, [c]⟩
    else if atomB c = true then ⟨1, (c :: t).takeWhile atomB⟩
    else ⟨7, [c]⟩
theorem close_le (q : UInt8) (nest : Bool) : ∀ (t : List UInt8) (e : Bool) (d n : Nat), closeS q nest e d t = some n → 0 < n ∧ n ≤ t.length := by
  intro t
  induction t with
  | nil => intro e d n h; cases e <;> simp [closeS] at h
  | cons c t ih =>
    intro e d n h
    have key : ∀ e' d', (closeS q nest e' d' t).map (· + 1) = some n → 0 < n ∧ n ≤ (c :: t).length := by
      intro e' d' h'
      obtain ⟨m, hm, rfl⟩ := Option.map_eq_some_iff.1 h'
      have := ih e' d' m hm
      rw [List.length_cons]; omega
    cases e with
    | true => exact key _ _ (by simpa only [closeS] using h)
    | false =>
      rw [closeS] at h
      split at h
      · exact key _ _ h
      · split at h
        · split at h
          · cases h; rw [List.length_cons]; omega
          · exact key _ _ h
        · split at h
          · exact key _ _ h
          · exact key _ _ h
/-- Only what stands before the closing byte matters. -/
theorem close_pre (q : UInt8) (nest : Bool) : ∀ (t u : List UInt8) (e : Bool) (d n : Nat), closeS q nest e d t = some n → closeS q nest e d (t.take n ++ u) = some n := by
  intro t
  induction t with
  | nil => intro u e d n h; cases e <;> simp [closeS] at h
  | cons c t ih =>
    intro u e d n h
    have key : ∀ e' d', (closeS q nest e' d' t).map (· + 1) = some n → (∃ m, n = m + 1 ∧ (closeS q nest e' d' (t.take m ++ u)).map (· + 1) = some n) := by
      intro e' d' h'
      obtain ⟨m, hm, rfl⟩ := Option.map_eq_some_iff.1 h'
      exact ⟨m, rfl, by rw [ih u e' d' m hm]; rfl⟩
    cases e with
    | true =>
      obtain ⟨m, rfl, h2⟩ := key _ _ (by simpa only [closeS] using h)
      rw [List.take_succ_cons, List.cons_append, closeS]; exact h2
    | false =>
      rw [closeS] at h
      by_cases h1 : c = 92
      · rw [if_pos h1] at h
        obtain ⟨m, rfl, h2⟩ := key _ _ h
        rw [List.take_succ_cons, List.cons_append, closeS, if_pos h1]; exact h2
      · rw [if_neg h1] at h
        by_cases h3 : c = q
        · rw [if_pos h3] at h
          by_cases h4 : d = 0
          · rw [if_pos h4] at h
            cases h
            rw [List.take_succ_cons, List.cons_append, closeS, if_neg h1, if_pos h3, if_pos h4]
          · rw [if_neg h4] at h
            obtain ⟨m, rfl, h2⟩ := key _ _ h
            rw [List.take_succ_cons, List.cons_append, closeS, if_neg h1, if_pos h3, if_neg h4]; exact h2
        · rw [if_neg h3] at h
          by_cases h5 : nest = true ∧ c = 40
          · rw [if_pos h5] at h
            obtain ⟨m, rfl, h2⟩ := key _ _ h
            rw [List.take_succ_cons, List.cons_append, closeS, if_neg h1, if_neg h3, if_pos h5]; exact h2
          · rw [if_neg h5] at h
            obtain ⟨m, rfl, h2⟩ := key _ _ h
            rw [List.take_succ_cons, List.cons_append, closeS, if_neg h1, if_neg h3, if_neg h5]; exact h2
theorem close_app (c : UInt8) (t u : List UInt8) (n : Nat) (h : closeL c t = some n) : closeL c (t ++ u) = some n := by
  have := close_pre _ _ t (t.drop n ++ u) _ _ _ h
  rwa [← List.append_assoc, List.take_append_drop] at this
theorem close_cut (c : UInt8) (t : List UInt8) (n : Nat) (h : closeL c t = some n) : closeL c (t.take n) = some n := by
  have := close_pre _ _ t [] _ _ _ h
  rwa [List.append_nil] at this
theorem front_pos (s : List UInt8) (h : s ≠ []) : (frontL s).text ≠ [] := by
  cases s with
  | nil => exact absurd rfl h
  | cons c t =>
    rw [frontL]
    split
    · rename_i hb; rw [List.takeWhile_cons_of_pos hb]; simp
    · split
      · split <;> simp
      · split
        · simp
        · split
          · rename_i ha; rw [List.takeWhile_cons_of_pos ha]; simp
          · simp
/-- The first token is how the string begins. -/
theorem front_pre (s : List UInt8) : (frontL s).text ++ s.drop (frontL s).text.length = s := by
  have key : ∀ p : List UInt8, p <+: s → p ++ s.drop p.length = s := by
    rintro p ⟨r, rfl⟩; rw [List.drop_left]
  refine key _ ?_
  cases s with
  | nil => exact List.nil_prefix
  | cons c t =>
    rw [frontL]
    split
    · exact List.takeWhile_prefix _
    · split
      · split
        · exact List.prefix_refl _
        · exact (List.cons_prefix_cons).2 ⟨rfl, List.take_prefix _ _⟩
      · split
        · exact (List.cons_prefix_cons).2 ⟨rfl, List.nil_prefix⟩
        · split
          · exact List.takeWhile_prefix _
          · exact (List.cons_prefix_cons).2 ⟨rfl, List.nil_prefix⟩
theorem front_le (s : List UInt8) : (frontL s).text.length ≤ s.length := by
  have := congrArg List.length (front_pre s)
  rw [List.length_append] at this
  omega
def scanF : Nat → List UInt8 → List Tok
  | 0, _ => []
  | _ + 1, [] => []
  | n + 1, c :: t => frontL (c :: t) :: scanF n ((c :: t).drop (frontL (c :: t)).text.length)
def scanL (s : List UInt8) : List Tok := scanF s.length s
theorem scanF_more : ∀ (n m : Nat) (s : List UInt8), s.length ≤ n → s.length ≤ m → scanF n s = scanF m s := by
  intro n
  induction n with
  | zero =>
    intro m s h1 _
    obtain rfl : s = [] := List.eq_nil_of_length_eq_zero (by omega)
    cases m <;> rfl
  | succ n ih =>
    intro m s h1 h2
    cases s with
    | nil => cases m <;> rfl
    | cons c t =>
      cases m with
      | zero => rw [List.length_cons] at h2; omega
      | succ m =>
        have h3 := List.length_pos_iff.2 (front_pos (c :: t) (by simp))
        have h4 : ((c :: t).drop (frontL (c :: t)).text.length).length ≤ t.length := by rw [List.length_drop, List.length_cons]; omega
        rw [List.length_cons] at h1 h2
        rw [scanF, scanF, ih m _ (by omega) (by omega)]
theorem scan_nil : scanL [] = [] := rfl
theorem scan_cons (s : List UInt8) (h : s ≠ []) : scanL s = frontL s :: scanL (s.drop (frontL s).text.length) := by
  cases s with
  | nil => exact absurd rfl h
  | cons c t =>
    have h3 := List.length_pos_iff.2 (front_pos (c :: t) (by simp))
    have h4 : ((c :: t).drop (frontL (c :: t)).text.length).length ≤ t.length := by rw [List.length_drop, List.length_cons]; omega
    unfold scanL
    rw [List.length_cons, scanF, scanF_more t.length _ _ h4 (Nat.le_refl _)]
/-- Whatever holds of the tail's tokens .. : induction along the tokens. -/
theorem scan_ind {P : List UInt8 → Prop} (h0 : P []) (h1 : ∀ s, s ≠ [] → P (s.drop (frontL s).text.length) → P s) : ∀ s, P s := by
  have : ∀ n (s : List UInt8), s.length ≤ n → P s := by
    intro n
    induction n with
    | zero => intro s h; obtain rfl : s = [] := List.eq_nil_of_length_eq_zero (by omega); exact h0
    | succ n ih =>
      intro s h
      by_cases hs : s = []
      · subst hs; exact h0
      · have h3 := List.length_pos_iff.2 (front_pos s hs)
        exact h1 s hs (ih _ (by rw [List.length_drop]; omega))
  exact fun s => this s.length s (Nat.le_refl _)
def joinL (l : List Tok) : List UInt8 := (l.map Tok.text).flatten
/-- TokenKeeps: nothing is lost. -/
theorem join_scan (s : List UInt8) : joinL (scanL s) = s := by
  induction s using scan_ind with
  | h0 => rfl
  | h1 s hs ih =>
    rw [scan_cons s hs]
    unfold joinL at ih ⊢
    rw [List.map_cons, List.flatten_cons, ih, front_pre]
theorem scan_len (s : List UInt8) : (scanL s).length ≤ s.length := by
  induction s using scan_ind with
  | h0 => exact Nat.le_refl _
  | h1 s hs ih =>
    have h3 := List.length_pos_iff.2 (front_pos s hs)
    have h4 := front_le s
    rw [scan_cons s hs, List.length_cons]
    rw [List.length_drop] at ih
    omega
theorem take_while_idem (p : UInt8 → Bool) (l : List UInt8) : (l.takeWhile p).takeWhile p = l.takeWhile p := by
  induction l with
  | nil => rfl
  | cons c t ih =>
    by_cases h : p c = true
    · rw [List.takeWhile_cons_of_pos h, List.takeWhile_cons_of_pos h, ih]
    · rw [List.takeWhile_cons_of_neg h]; rfl
/-- The first token of its own text is it. -/
theorem front_again (s : List UInt8) (h : s ≠ []) : frontL (frontL s).text = frontL s := by
  cases s with
  | nil => exact absurd rfl h
  | cons c t =>
    by_cases h1 : blank c = true
    · have e : frontL (c :: t) = ⟨6, (c :: t).takeWhile blank⟩ := by rw [frontL, if_pos h1]
      rw [e]
      show frontL ((c :: t).takeWhile blank) = _
      rw [List.takeWhile_cons_of_pos h1, frontL, if_pos h1, List.takeWhile_cons_of_pos h1, take_while_idem]
    · by_cases h2 : opens c = true
      · cases hc : closeL c t with
        | none =>
          have e : frontL (c :: t) = ⟨7, c :: t⟩ := by rw [frontL, if_neg h1, if_pos h2, hc]
          rw [e]; show frontL (c :: t) = _; rw [e]
        | some n =>
          have e : frontL (c :: t) = ⟨kindO c, c :: t.take n⟩ := by rw [frontL, if_neg h1, if_pos h2, hc]
          rw [e]
          show frontL (c :: t.take n) = _
          rw [frontL, if_neg h1, if_pos h2, close_cut c t n hc]
          show (⟨kindO c, c :: (t.take n).take n⟩ : Tok) = _
          rw [List.take_take, Nat.min_self]
      · by_cases h3 : special c = true
        · have e : frontL (c :: t) = ⟨4, [c]⟩ := by rw [frontL, if_neg h1, if_neg h2, if_pos h3]
          rw [e]; show frontL [c] = _
          rw [frontL, if_neg h1, if_neg h2, if_pos h3]
        · by_cases h4 : atomB c = true
          · have e : frontL (c :: t) = ⟨1, (c :: t).takeWhile atomB⟩ := by rw [frontL, if_neg h1, if_neg h2, if_neg h3, if_pos h4]
            rw [e]
            show frontL ((c :: t).takeWhile atomB) = _
            rw [List.takeWhile_cons_of_pos h4, frontL, if_neg h1, if_neg h2, if_neg h3, if_pos h4, List.takeWhile_cons_of_pos h4, take_while_idem]
          · have e : frontL (c :: t) = ⟨7, [c]⟩ := by rw [frontL, if_neg h1, if_neg h2, if_neg h3, if_neg h4]
            rw [e]; show frontL [c] = _
            rw [frontL, if_neg h1, if_neg h2, if_neg h3, if_neg h4]
theorem scan_front (s : List UInt8) (h : s ≠ []) : scanL (frontL s).text = [frontL s] := by
  have hp := front_pos s h
  rw [scan_cons _ hp, front_again s h, List.drop_length]; rfl
theorem kindO_bd (c : UInt8) : 1 ≤ kindO c ∧ kindO c ≤ 7 := by
  unfold kindO
  repeat' split
  all_goals decide
theorem scan_mem (s : List UInt8) : ∀ t ∈ scanL s, t.text ≠ [] ∧ scanL t.text = [t] ∧ 1 ≤ t.kind ∧ t.kind ≤ 7 ∧ t.text.length ≤ s.length := by
  induction s using scan_ind with
  | h0 => intro t h; cases h
  | h1 s hs ih =>
    intro t h
    rw [scan_cons s hs] at h
    rcases List.mem_cons.1 h with rfl | h
    · refine ⟨front_pos s hs, scan_front s hs, ?_, ?_, front_le s⟩
      all_goals
        cases s with
        | nil => exact absurd rfl hs
        | cons c t =>
          rw [frontL]
          repeat' split
          all_goals first | exact (kindO_bd c).1 | exact (kindO_bd c).2 | simp
    · have := ih t h
      rw [List.length_drop] at this
      exact ⟨this.1, this.2.1, this.2.2.1, this.2.2.2.1, by omega⟩
end Go.Proofs.YtgponokcigapaaaDoor.TokP
namespace Go.Proofs.YtgponokcigapaaaDoor.TokP

theorem take_while_app (p : UInt8 → Bool) (a b : List UInt8) (h : (a.takeWhile p).length < a.length) : (a ++ b).takeWhile p = a.takeWhile p := by
  induction a with
  | nil => simp at h
  | cons c t ih =>
    by_cases hc : p c = true
    · rw [List.takeWhile_cons_of_pos hc, List.length_cons, List.length_cons] at h
      rw [List.cons_append, List.takeWhile_cons_of_pos hc, List.takeWhile_cons_of_pos hc, ih (by omega)]
    · rw [List.cons_append, List.takeWhile_cons_of_neg hc, List.takeWhile_cons_of_neg hc]
/-- A token that ends ahead of the string's end, or by a byte of its own, is the first whatever follows. -/
theorem front_app (a b : List UInt8) (ha : a ≠ []) (h : (frontL a).text.length < a.length ∨ ((frontL a).kind ≠ 6 ∧ (frontL a).kind ≠ 1 ∧ (frontL a).kind ≠ 7)) : frontL (a ++ b) = frontL a := by
  cases a with
  | nil => exact absurd rfl ha
  | cons c t =>
    by_cases h1 : blank c = true
    · have e : frontL (c :: t) = ⟨6, (c :: t).takeWhile blank⟩ := by rw [frontL, if_pos h1]
      rw [e] at h ⊢
      rcases h with h | h
      · rw [List.cons_append, frontL, if_pos h1, ← List.cons_append, take_while_app blank _ b h]
      · exact absurd rfl h.1
    · by_cases h2 : opens c = true
      · cases hc : closeL c t with
        | none =>
          have e : frontL (c :: t) = ⟨7, c :: t⟩ := by rw [frontL, if_neg h1, if_pos h2, hc]
          rw [e] at h
          rcases h with h | h
          · exact absurd h (Nat.lt_irrefl _)
          · exact absurd rfl h.2.2
        | some n =>
          have e : frontL (c :: t) = ⟨kindO c, c :: t.take n⟩ := by rw [frontL, if_neg h1, if_pos h2, hc]
          have hn := (close_le _ _ t _ _ n hc).2
          rw [e, List.cons_append, frontL, if_neg h1, if_pos h2, close_app c t b n hc]
          show (⟨kindO c, c :: (t ++ b).take n⟩ : Tok) = _
          rw [List.take_append_of_le_length hn]
      · by_cases h3 : special c = true
        · rw [List.cons_append, frontL, frontL, if_neg h1, if_neg h2, if_pos h3, if_neg h1, if_neg h2, if_pos h3]
        · by_cases h4 : atomB c = true
          · have e : frontL (c :: t) = ⟨1, (c :: t).takeWhile atomB⟩ := by rw [frontL, if_neg h1, if_neg h2, if_neg h3, if_pos h4]
            rw [e] at h ⊢
            rcases h with h | h
            · rw [List.cons_append, frontL, if_neg h1, if_neg h2, if_neg h3, if_pos h4, ← List.cons_append, take_while_app atomB _ b h]
            · exact absurd rfl h.2.1
          · rw [List.cons_append, frontL, frontL, if_neg h1, if_neg h2, if_neg h3, if_neg h4, if_neg h1, if_neg h2, if_neg h3, if_neg h4]
/-- TokenParts. -/
theorem scan_parts (a b : List UInt8) (h : ∀ t, (scanL a).getLast? = some t → t.kind ≠ 6 ∧ t.kind ≠ 1 ∧ t.kind ≠ 7) : scanL (a ++ b) = scanL a ++ scanL b := by
  induction a using scan_ind with
  | h0 => rfl
  | h1 a ha ih =>
    have hp := front_pre a
    have hl := congrArg List.length hp
    rw [List.length_append] at hl
    have hcond : (frontL a).text.length < a.length ∨ ((frontL a).kind ≠ 6 ∧ (frontL a).kind ≠ 1 ∧ (frontL a).kind ≠ 7) := by
      by_cases hr : a.drop (frontL a).text.length = []
      · refine .inr (h _ ?_)
        rw [scan_cons a ha, hr]; rfl
      · have := List.length_pos_iff.2 hr
        exact .inl (by omega)
    have hf := front_app a b ha hcond
    have hd : (a ++ b).drop (frontL a).text.length = a.drop (frontL a).text.length ++ b := List.drop_append_of_le_length (by omega)
    rw [scan_cons (a ++ b) (by simp [ha]), hf, hd, scan_cons a ha, ih ?_, List.cons_append]
    intro t ht
    refine h t ?_
    rw [scan_cons a ha, List.getLast?_cons, ht]; rfl
/-- TokenKeeps: neither white space nor an atom stands beside another. -/
theorem head_drop (p : UInt8 → Bool) (s : List UInt8) (c : UInt8) (h : (s.drop (s.takeWhile p).length).head? = some c) : p c = false := by
  induction s with
  | nil => simp at h
  | cons x t ih =>
    by_cases hx : p x = true
    · rw [List.takeWhile_cons_of_pos hx, List.length_cons, List.drop_succ_cons] at h
      exact ih h
    · rw [List.takeWhile_cons_of_neg hx, List.length_nil, List.drop_zero] at h
      obtain rfl : x = c := by simpa using h
      simpa using hx
theorem front_kind (c : UInt8) (t : List UInt8) : ((frontL (c :: t)).kind = 6 ↔ blank c = true) ∧ ((frontL (c :: t)).kind = 1 → atomB c = true ∧ blank c = false) ∧
    (blank c = true → (frontL (c :: t)).text = (c :: t).takeWhile blank) ∧ ((frontL (c :: t)).kind = 1 → (frontL (c :: t)).text = (c :: t).takeWhile atomB) := by
  have hk : kindO c ≠ 6 ∧ kindO c ≠ 1 := by
    unfold kindO
    repeat' split
    all_goals decide
  rw [frontL]
  by_cases h1 : blank c = true
  · rw [if_pos h1]; simp [h1]
  · rw [if_neg h1]
    by_cases h2 : opens c = true
    · rw [if_pos h2]
      cases closeL c t with
      | none => simp [h1]
      | some n => simp [h1, hk.1, hk.2]
    · rw [if_neg h2]
      by_cases h3 : special c = true
      · rw [if_pos h3]; simp [h1]
      · rw [if_neg h3]
        by_cases h4 : atomB c = true
        · rw [if_pos h4]; simp [h1, h4]
        · rw [if_neg h4]; simp [h1]
theorem scan_apart (s : List UInt8) : ∀ (i : Nat) (t u : Tok), (scanL s)[i]? = some t → (scanL s)[i + 1]? = some u → t.kind = u.kind → t.kind ≠ 6 ∧ t.kind ≠ 1 := by
  induction s using scan_ind with
  | h0 => intro i t u h; simp [scan_nil] at h
  | h1 s hs ih =>
    intro i t u h1 h2 he
    rw [scan_cons s hs] at h1 h2
    rw [List.getElem?_cons_succ] at h2
    cases i with
    | succ i =>
      rw [List.getElem?_cons_succ] at h1
      exact ih i t u h1 h2 he
    | zero =>
      obtain rfl : frontL s = t := by simpa using h1
      have hr : s.drop (frontL s).text.length ≠ [] := by
        intro e; rw [e] at h2; simp [scan_nil] at h2
      obtain ⟨x, r, hx⟩ := List.exists_cons_of_ne_nil hr
      rw [hx, scan_cons (x :: r) (by simp)] at h2
      obtain rfl : frontL (x :: r) = u := by simpa using h2
      cases s with
      | nil => exact absurd rfl hs
      | cons c t =>
        obtain ⟨k1, k2, k3, k4⟩ := front_kind c t
        obtain ⟨m1, m2, _, _⟩ := front_kind x r
        refine ⟨fun h6 => ?_, fun h1 => ?_⟩
        · have hx2 := head_drop blank (c :: t) x (by rw [← k3 (k1.1 h6), hx]; rfl)
          rw [he] at h6
          rw [m1.1 h6] at hx2
          exact Bool.noConfusion hx2
        · have hx2 := head_drop atomB (c :: t) x (by rw [← k4 h1, hx]; rfl)
          rw [he] at h1
          rw [(m2 h1).1] at hx2
          exact Bool.noConfusion hx2
/-! Values. -/
def unescS : Bool → List UInt8 → List UInt8
  | _, [] => []
  | true, c :: t => c :: unescS false t
  | false, c :: t => if c = 92 then unescS true t else if c = 10 ∨ c = 13 then unescS false t else c :: unescS false t
def valueL (t : Tok) : List UInt8 := if (t.kind = 2 ∨ t.kind = 3) ∧ 2 ≤ t.text.length then unescS false (t.text.drop 1).dropLast else t.text
def held (c : UInt8) : Bool := c == 34 || c == 92 || c == 10 || c == 13
def escL : List UInt8 → List UInt8
  | [] => []
  | c :: t => if held c = true then 92 :: c :: escL t else c :: escL t
/-- Atoms, separated by single spaces; b: an atom stands before. -/
def plainA : Bool → List UInt8 → Bool
  | b, [] => b
  | b, c :: t => if atomB c = true then plainA true t else if c = 32 ∧ b = true then plainA false t else false
def quoteL (s : List UInt8) : List UInt8 := if plainA false s = true then s else 34 :: escL s ++ [34]
theorem unesc_esc (s : List UInt8) : unescS false (escL s) = s := by
  induction s with
  | nil => rfl
  | cons c t ih =>
    rw [escL]
    split
    · rw [unescS, if_pos rfl, unescS, ih]
    · rename_i h
      have h92 : c ≠ 92 := fun e => h (by subst e; rfl)
      have h10 : ¬ (c = 10 ∨ c = 13) := fun e => h (by rcases e with rfl | rfl <;> rfl)
      rw [unescS, if_neg h92, if_neg h10, ih]
theorem unesc_le (e : Bool) (s : List UInt8) : (unescS e s).length ≤ s.length := by
  induction s generalizing e with
  | nil => cases e <;> exact Nat.le_refl _
  | cons c t ih =>
    cases e with
    | true => rw [unescS, List.length_cons, List.length_cons]; exact Nat.succ_le_succ (ih false)
    | false =>
      rw [unescS]
      split
      · have := ih true; rw [List.length_cons]; omega
      · split
        · have := ih false; rw [List.length_cons]; omega
        · have := ih false; rw [List.length_cons, List.length_cons]; omega
theorem esc_len (s : List UInt8) : (escL s).length ≤ 2 * s.length := by
  induction s with
  | nil => exact Nat.le_refl _
  | cons c t ih =>
    rw [escL]
    split
    · rw [List.length_cons, List.length_cons, List.length_cons]; omega
    · rw [List.length_cons, List.length_cons]; omega
theorem esc_ge (s : List UInt8) : s.length ≤ (escL s).length := by
  induction s with
  | nil => exact Nat.le_refl _
  | cons c t ih =>
    rw [escL]
    split
    · rw [List.length_cons, List.length_cons, List.length_cons]; omega
    · rw [List.length_cons, List.length_cons]; omega
theorem close_esc (s : List UInt8) : closeS 34 false false 0 (escL s ++ [34]) = some ((escL s).length + 1) := by
  induction s with
  | nil => rfl
  | cons c t ih =>
    rw [escL]
    split
    · rw [List.cons_append, List.cons_append, closeS, if_pos rfl, closeS, ih]
      simp
    · rename_i h
      have h92 : c ≠ 92 := fun e => h (by subst e; rfl)
      have h34 : c ≠ 34 := fun e => h (by subst e; rfl)
      rw [List.cons_append, closeS, if_neg h92, if_neg h34, if_neg (by simp), ih]
      simp
/-- TokenQuotes: quoted, one token with the string as its value. -/
theorem quote_one (s : List UInt8) (h : plainA false s = false) : quoteL s = 34 :: escL s ++ [34] ∧ scanL (quoteL s) = [⟨2, quoteL s⟩] ∧ valueL ⟨2, quoteL s⟩ = s ∧ (quoteL s).length ≤ 2 * s.length + 2 ∧ s.length + 2 ≤ (quoteL s).length := by
  have e : quoteL s = 34 :: escL s ++ [34] := by unfold quoteL; rw [if_neg (by rw [h]; exact Bool.false_ne_true)]
  have e2 : (34 : UInt8) :: escL s ++ [34] = 34 :: (escL s ++ [34]) := rfl
  have hc : closeL 34 (escL s ++ [34]) = some ((escL s).length + 1) := close_esc s
  have hf : frontL (34 :: (escL s ++ [34])) = ⟨2, 34 :: (escL s ++ [34])⟩ := by
    rw [frontL, if_neg (by decide), if_pos (by decide), hc]
    show (⟨kindO 34, 34 :: (escL s ++ [34]).take ((escL s).length + 1)⟩ : Tok) = _
    rw [List.take_of_length_le (by simp)]; rfl
  rw [e, e2]
  refine ⟨rfl, ?_, ?_, ?_, ?_⟩
  · rw [scan_cons _ (by simp), hf, List.drop_length]; rfl
  · unfold valueL
    rw [if_pos ⟨.inl rfl, by simp⟩]
    show unescS false (escL s ++ [34]).dropLast = s
    rw [List.dropLast_concat, unesc_esc]
  · have := esc_len s
    simp; omega
  · have := esc_ge s
    simp; omega
end Go.Proofs.YtgponokcigapaaaDoor.TokP
namespace Go.Proofs.YtgponokcigapaaaDoor.TokP

theorem atom_not (c : UInt8) (h : atomB c = true) : blank c = false ∧ opens c = false ∧ special c = false ∧ c ≠ 32 := by
  unfold atomB at h
  simp only [Bool.and_eq_true, decide_eq_true_eq, bne_iff_ne, ne_eq, Bool.not_eq_true'] at h
  obtain ⟨⟨h1, _⟩, h3⟩ := h
  refine ⟨?_, ?_, h3, ?_⟩
  · unfold blank
    simp only [Bool.or_eq_false_iff, beq_eq_false_iff_ne]
    refine ⟨⟨⟨?_, ?_⟩, ?_⟩, ?_⟩
    all_goals
      intro e
      subst e
      exact absurd h1 (by decide)
  · unfold opens
    simp only [Bool.or_eq_false_iff, beq_eq_false_iff_ne]
    refine ⟨⟨?_, ?_⟩, ?_⟩
    all_goals
      intro e
      subst e
      exact absurd h3 (by decide)
  · intro e; subst e; exact absurd h1 (by decide)
theorem plain_head (s : List UInt8) (h : plainA false s = true) : ∃ c t, s = c :: t ∧ atomB c = true ∧ plainA true t = true := by
  cases s with
  | nil => exact absurd h (by decide)
  | cons c t =>
    rw [plainA] at h
    split at h
    · rename_i ha; exact ⟨c, t, rfl, ha, h⟩
    · split at h
      · rename_i hb; exact absurd hb.2 Bool.false_ne_true
      · exact absurd h Bool.false_ne_true
theorem plain_skip (s : List UInt8) (h : plainA true s = true) : plainA true (s.drop (s.takeWhile atomB).length) = true := by
  induction s with
  | nil => exact h
  | cons c t ih =>
    by_cases hc : atomB c = true
    · rw [plainA, if_pos hc] at h
      rw [List.takeWhile_cons_of_pos hc, List.length_cons, List.drop_succ_cons]
      exact ih h
    · rw [List.takeWhile_cons_of_neg hc]; exact h
/-- Atoms and single spaces by turns. -/
def Alt (l : List Tok) : Prop := l.length % 2 = 1 ∧ ∀ i t, l[i]? = some t → (i % 2 = 0 → t.kind = 1) ∧ (i % 2 = 1 → t.text = [32])
theorem alt_one (t : Tok) (h : t.kind = 1) : Alt [t] := by
  refine ⟨rfl, fun i u hu => ?_⟩
  cases i with
  | zero => obtain rfl : t = u := by simpa using hu
            exact ⟨fun _ => h, fun h => by omega⟩
  | succ i => simp at hu
theorem alt_more (t u : Tok) (l : List Tok) (h : t.kind = 1) (hu : u.text = [32]) (hl : Alt l) : Alt (t :: u :: l) := by
  refine ⟨by rw [List.length_cons, List.length_cons]; have := hl.1; omega, fun i x hx => ?_⟩
  match i with
  | 0 => obtain rfl : t = x := by simpa using hx
         exact ⟨fun _ => h, fun h => by omega⟩
  | 1 => obtain rfl : u = x := by simpa using hx
         exact ⟨fun h => by omega, fun _ => hu⟩
  | i + 2 =>
    have := hl.2 i x (by simpa using hx)
    exact ⟨fun h => this.1 (by omega), fun h => this.2 (by omega)⟩
theorem front_atom (c : UInt8) (t : List UInt8) (h : atomB c = true) : frontL (c :: t) = ⟨1, (c :: t).takeWhile atomB⟩ := by
  obtain ⟨h1, h2, h3, _⟩ := atom_not c h
  rw [frontL, if_neg (by rw [h1]; exact Bool.false_ne_true), if_neg (by rw [h2]; exact Bool.false_ne_true), if_neg (by rw [h3]; exact Bool.false_ne_true), if_pos h]
theorem plain_scan : ∀ (n : Nat) (s : List UInt8), s.length ≤ n → plainA false s = true → Alt (scanL s) := by
  intro n
  induction n with
  | zero =>
    intro s h hp
    obtain rfl : s = [] := List.eq_nil_of_length_eq_zero (by omega)
    exact absurd hp (by decide)
  | succ n ih =>
    intro s h hp
    obtain ⟨c, t, rfl, hc, ht⟩ := plain_head s hp
    have hr := plain_skip t ht
    rw [scan_cons _ (by simp), front_atom c t hc]
    show Alt (_ :: scanL ((c :: t).drop ((c :: t).takeWhile atomB).length))
    rw [List.takeWhile_cons_of_pos hc, List.length_cons, List.drop_succ_cons]
    have hn : ∀ x, (t.drop (t.takeWhile atomB).length).head? = some x → atomB x = false := fun x hx => head_drop atomB t x hx
    have hl : (t.drop (t.takeWhile atomB).length).length ≤ t.length := by rw [List.length_drop]; omega
    generalize t.drop (t.takeWhile atomB).length = r at hr hn hl
    cases r with
    | nil => exact alt_one _ rfl
    | cons x r =>
      have hx := hn x rfl
      rw [plainA, if_neg (by rw [hx]; exact Bool.false_ne_true)] at hr
      split at hr
      · rename_i hx2
        obtain rfl := hx2.1
        obtain ⟨y, u, rfl, hy, _⟩ := plain_head r hr
        have hf : frontL (32 :: y :: u) = ⟨6, [32]⟩ := by
          rw [frontL, if_pos (by decide), List.takeWhile_cons_of_pos (by decide), List.takeWhile_cons_of_neg (by rw [(atom_not y hy).1]; exact Bool.false_ne_true)]
        rw [scan_cons (32 :: y :: u) (by simp), hf]
        refine alt_more _ _ _ rfl rfl (ih _ ?_ hr)
        show (y :: u).length ≤ n
        rw [List.length_cons] at h hl
        omega
      · exact absurd hr Bool.false_ne_true
theorem plain_alt (s : List UInt8) (h : plainA false s = true) : quoteL s = s ∧ Alt (scanL s) := ⟨by unfold quoteL; rw [if_pos h], plain_scan s.length s (Nat.le_refl _) h⟩
theorem quote_same (s : List UInt8) : quoteL s = s ↔ plainA false s = true := by
  by_cases h : plainA false s = true
  · exact ⟨fun _ => h, fun _ => (plain_alt s h).1⟩
  · refine ⟨fun e => ?_, fun e => absurd e h⟩
    have := (quote_one s (by simpa using h)).2.2.2.2
    rw [e] at this
    omega
/-- What the reference asks of each byte. -/
def goodAt (w : List UInt8) (i : Nat) : Prop := ∃ c, w[i]? = some c ∧ (atomB c = true ∨ (c = 32 ∧ 0 < i ∧ i + 1 < w.length ∧ (∃ p, w[i - 1]? = some p ∧ p ≠ 32) ∧ ∃ q, w[i + 1]? = some q ∧ q ≠ 32))
theorem plain_good : ∀ (s pre : List UInt8) (b : Bool), (b = true → ∃ p, pre.getLast? = some p ∧ p ≠ 32) → (b = false → ∀ p, pre.getLast? = some p → p = 32) →
    (plainA b s = true ↔ (s = [] → b = true) ∧ ∀ i, pre.length ≤ i → i < (pre ++ s).length → goodAt (pre ++ s) i) := by
  intro s
  induction s with
  | nil =>
    intro pre b h1 h2
    rw [List.append_nil]
    have e : plainA b [] = b := by cases b <;> rfl
    rw [e]
    exact ⟨fun h => ⟨fun _ => h, fun i hi hj => by omega⟩, fun h => h.1 rfl⟩
  | cons c t ih =>
    intro pre b h1 h2
    have hsplit : pre ++ c :: t = (pre ++ [c]) ++ t := by simp
    have hat : (pre ++ c :: t)[pre.length]? = some c := by simp
    have hlast : (pre ++ [c]).getLast? = some c := by simp
    have key : (∀ i, pre.length ≤ i → i < (pre ++ c :: t).length → goodAt (pre ++ c :: t) i) ↔ goodAt (pre ++ c :: t) pre.length ∧ ∀ i, (pre ++ [c]).length ≤ i → i < ((pre ++ [c]) ++ t).length → goodAt ((pre ++ [c]) ++ t) i := by
      rw [← hsplit, @List.length_append _ pre [c]]
      constructor
      · intro h
        exact ⟨h _ (Nat.le_refl _) (by simp), fun i hi hj => h i (by omega) hj⟩
      · rintro ⟨h3, h4⟩ i hi hj
        by_cases he : i = pre.length
        · rw [he]; exact h3
        · exact h4 i (by simp; omega) hj
    rw [key]
    by_cases hc : atomB c = true
    · have hih := ih (pre ++ [c]) true (fun _ => ⟨c, hlast, (atom_not c hc).2.2.2⟩) (fun h => Bool.noConfusion h)
      rw [plainA, if_pos hc, hih]
      exact ⟨fun h => ⟨fun e => (List.cons_ne_nil _ _ e).elim, ⟨c, hat, .inl hc⟩, h.2⟩, fun h => ⟨fun _ => rfl, h.2.2⟩⟩
    · rw [plainA, if_neg hc]
      by_cases h32 : c = 32
      · subst h32
        have hih := ih (pre ++ [32]) false (fun h => Bool.noConfusion h) (fun _ p hp => by rw [hlast] at hp; exact (Option.some.inj hp).symm)
        cases b with
        | true =>
          rw [if_pos ⟨rfl, rfl⟩]
          obtain ⟨p, hp, hp2⟩ := h1 rfl
          constructor
          · intro h
            refine ⟨fun _ => rfl, ?_, (hih.1 h).2⟩
            obtain ⟨y, u, rfl, hy, _⟩ := plain_head t h
            have hpos : 0 < pre.length := by cases pre with | nil => simp at hp | cons _ _ => simp
            refine ⟨32, hat, .inr ⟨rfl, hpos, by simp, ⟨p, ?_, hp2⟩, y, ?_, (atom_not y hy).2.2.2⟩⟩
            · rw [List.getElem?_append_left (by omega), ← List.getLast?_eq_getElem?]; exact hp
            · rw [List.getElem?_append_right (by omega)]; simp
          · rintro ⟨_, ⟨c', hc', h3⟩, h4⟩
            rw [hat] at hc'
            obtain rfl := Option.some.inj hc'
            refine hih.2 ⟨fun e => ?_, h4⟩
            rcases h3 with h3 | ⟨_, _, h5, _⟩
            · exact absurd h3 hc
            · subst e; simp at h5
        | false =>
          rw [if_neg (by simp)]
          refine ⟨fun h => absurd h Bool.false_ne_true, ?_⟩
          rintro ⟨_, ⟨c', hc', h3⟩, _⟩
          rw [hat] at hc'
          obtain rfl := Option.some.inj hc'
          rcases h3 with h3 | ⟨_, h5, _, ⟨p, hp, hp2⟩, _⟩
          · exact absurd h3 hc
          · rw [List.getElem?_append_left (by omega), ← List.getLast?_eq_getElem?] at hp
            exact absurd (h2 rfl p hp) hp2
      · rw [if_neg (fun e => h32 e.1)]
        refine ⟨fun h => absurd h Bool.false_ne_true, ?_⟩
        rintro ⟨_, ⟨c', hc', h3⟩, _⟩
        rw [hat] at hc'
        obtain rfl := Option.some.inj hc'
        rcases h3 with h3 | ⟨h5, _⟩
        · exact absurd h3 hc
        · exact absurd h5 h32
theorem plain_all (s : List UInt8) : plainA false s = true ↔ s ≠ [] ∧ ∀ i, i < s.length → goodAt s i := by
  have := plain_good s [] false (fun h => Bool.noConfusion h) (fun _ p hp => by simp at hp)
  rw [this, List.nil_append]
  exact ⟨fun h => ⟨fun e => Bool.noConfusion (h.1 e), fun i hi => h.2 i (Nat.zero_le _) hi⟩, fun h => ⟨fun e => absurd e h.1, fun i _ hi => h.2 i hi⟩⟩
end Go.Proofs.YtgponokcigapaaaDoor.TokP
namespace Go.Proofs.YtgponokcigapaaaDoor
open Go.ChangeShapes Go.WideShapes Go.ChangeAt Go.RowKit

theorem byte_is (c : UInt8) (x : Nat) (hx : c.toNat = x) (n : Nat) (hn : n < 256) : ((x : Int) == (n : Int)) = decide (c = UInt8.ofNat n) := by
  rw [Bool.eq_iff_iff, beq_iff_eq, decide_eq_true_iff]
  constructor
  · intro h
    refine UInt8.toNat_inj.1 ?_
    rw [hx, UInt8.toNat_ofNat']; omega
  · intro h
    rw [h, UInt8.toNat_ofNat'] at hx
    omega
theorem byte_back (c : UInt8) (x : Nat) (hx : c.toNat = x) : ((x : Int).toNat).toUInt8 = c := by
  subst hx
  simp
theorem index_in (l : List UInt8) (c : UInt8) : decide (0 ≤ Lib.indexByte l c) = l.contains c := by
  induction l with
  | nil => rfl
  | cons b t ih =>
    rw [Lib.indexByte, List.contains_cons]
    have hg := Lib.indexByte_ge t c
    by_cases hb : b = c
    · subst hb; simp
    · have h1 : (b == c) = false := beq_eq_false_iff_ne.2 hb
      have h2 : (c == b) = false := beq_eq_false_iff_ne.2 (fun e => hb e.symm)
      rw [h1, h2, if_neg (by simp), Bool.false_or, ← ih]
      by_cases h3 : Lib.indexByte t c = -1
      · rw [h3]; simp
      · have : (Lib.indexByte t c == -1) = false := beq_eq_false_iff_ne.2 h3
        rw [this, if_neg (by simp), Bool.eq_iff_iff, decide_eq_true_iff, decide_eq_true_iff]
        omega
theorem blank_in (c : UInt8) : ([9, 10, 13, 32] : List UInt8).contains c = TokP.blank c := by
  unfold TokP.blank
  simp only [List.contains_cons, List.contains_nil, Bool.or_false, Bool.or_assoc]
theorem white_list : (⟨#[9, 10, 13, 32]⟩ : ByteArray).data.toList = [9, 10, 13, 32] := rfl
theorem spec_list : (⟨#[40, 41, 60, 62, 91, 93, 58, 59, 64, 92, 44, 46, 34]⟩ : ByteArray).data.toList = [40, 41, 60, 62, 91, 93, 58, 59, 64, 92, 44, 46, 34] := rfl
theorem isWhite_any (c : UInt8) (x : Nat) (hx : c.toNat = x) (w : World) :
    Calls Tryd.prog 65 #[.int .u8 x] w fun e w' => e = .returned (.bool (TokP.blank c)) ∧ w = w' := by
  have cI := Tryd.strings_IndexByte ⟨#[9, 10, 13, 32]⟩ x
  rw [byte_back c x hx, white_list] at cI
  have hi := index_in [9, 10, 13, 32] c
  rw [blank_in] at hi
  generalize Lib.indexByte [9, 10, 13, 32] c = i at cI hi
  generalize TokP.blank c = r at hi ⊢
  clear hx
  subst hi
  go_enter Tryd.func65, Tryd.ntmps65
  go_wp2_with (go_at_call 81; refine (cI _).mono ?_; rintro e w' ⟨rfl, rfl⟩)
  go_ret
  exact ⟨rfl, rfl⟩
theorem isSpecial_any (c : UInt8) (x : Nat) (hx : c.toNat = x) (w : World) :
    Calls Tryd.prog 68 #[.int .u8 x] w fun e w' => e = .returned (.bool (TokP.special c)) ∧ w = w' := by
  have cI := Tryd.strings_IndexByte ⟨#[40, 41, 60, 62, 91, 93, 58, 59, 64, 92, 44, 46, 34]⟩ x
  rw [byte_back c x hx, spec_list] at cI
  have hi : decide (0 ≤ Lib.indexByte [40, 41, 60, 62, 91, 93, 58, 59, 64, 92, 44, 46, 34] c) = TokP.special c := index_in [40, 41, 60, 62, 91, 93, 58, 59, 64, 92, 44, 46, 34] c
  generalize Lib.indexByte [40, 41, 60, 62, 91, 93, 58, 59, 64, 92, 44, 46, 34] c = i at cI hi
  generalize TokP.special c = r at hi ⊢
  clear hx
  subst hi
  go_enter Tryd.func68, Tryd.ntmps68
  go_wp2_with (go_at_call 81; refine (cI _).mono ?_; rintro e w' ⟨rfl, rfl⟩)
  go_ret
  exact ⟨rfl, rfl⟩
theorem ne127 (c : UInt8) (x : Nat) (hx : c.toNat = x) : ((x : Int) == 127) = decide (c = 127) := byte_is c x hx 127 (by decide)
theorem isAtom_any (c : UInt8) (x : Nat) (hx : c.toNat = x) (w : World) :
    Calls Tryd.prog 69 #[.int .u8 x] w fun e w' => e = .returned (.bool (TokP.atomB c)) ∧ w = w' := by
  have cS := isSpecial_any c x hx
  have e1 := ne127 c x hx
  unfold TokP.atomB
  rw [hx]
  by_cases h1 : 32 < x
  · have h1' : (32 : Int) < x := by omega
    by_cases h2 : c = 127
    · have hx2 : x = 127 := by rw [← hx, h2]; rfl
      rw [decide_eq_true h1, show (c != 127) = false by rw [h2]; rfl]
      clear hx cS h2 e1
      subst hx2
      go_enter Tryd.func69, Tryd.ntmps69
      go_wp2_with fail
      go_ret
      exact ⟨rfl, rfl⟩
    · have hx2 : ¬ (x : Int) = 127 := by
        rw [decide_eq_false h2] at e1
        exact beq_eq_false_iff_ne.1 e1
      rw [decide_eq_true h1, show (c != 127) = true by simpa using h2]
      clear hx h2 e1
      go_enter Tryd.func69, Tryd.ntmps69
      go_wp2_with (go_at_call 68; refine (cS _).mono ?_; rintro e w' ⟨rfl, rfl⟩)
      go_ret
      exact ⟨by simp; exact fun _ => hx2, rfl⟩
  · have h1' : ¬ (32 : Int) < x := by omega
    rw [decide_eq_false h1]
    clear hx cS e1
    go_enter Tryd.func69, Tryd.ntmps69
    go_wp2_with fail
    go_ret
    exact ⟨rfl, rfl⟩
theorem eq_byte (b c : UInt8) (y x : Nat) (hy : b.toNat = y) (hx : c.toNat = x) : ((y : Int) == (x : Int)) = decide (b = c) := by
  rw [Bool.eq_iff_iff, beq_iff_eq, decide_eq_true_iff]
  constructor
  · intro h; exact UInt8.toNat_inj.1 (by omega)
  · intro h; rw [← hy, ← hx, h]
/-! ### A byte of a string, as a list has it -/
theorem byte_at (s : ByteArray) (k : Nat) (h : k < s.size) : ∃ c : UInt8, s.data.toList[k]? = some c ∧ (s[k]'h) = c := by
  refine ⟨s[k]'h, ?_, rfl⟩
  rw [List.getElem?_eq_getElem (by rw [← size_list]; exact h)]; rfl
/-- The k-th byte as the walk reads it. -/
theorem run_byte (s : ByteArray) (k : Nat) (h : k < s.size) : ∃ (c : UInt8) (x : Nat), s.data.toList[k]? = some c ∧ c.toNat = x ∧ x < 256 ∧ ∀ W : World, (Instr.index 9 (.string s) (.int .i64 k)).run Tryd.prog W = .ok (.int .u8 x) W := by
  obtain ⟨c, h1, h2⟩ := byte_at s k h
  refine ⟨c, c.toNat, h1, rfl, c.toNat_lt, fun W => ?_⟩
  rw [← h2]
  exact run_index_str s k k rfl h W
theorem run_byte0 (s : ByteArray) (h : 0 < s.size) : ∃ (c : UInt8) (x : Nat) (t : List UInt8), s.data.toList = c :: t ∧ c.toNat = x ∧ x < 256 ∧ ∀ W : World, (Instr.index 9 (.string s) (.int .i64 0)).run Tryd.prog W = .ok (.int .u8 x) W := by
  obtain ⟨c, x, h1, h2, h3, h4⟩ := run_byte s 0 h
  cases hl : s.data.toList with
  | nil => rw [hl] at h1; simp at h1
  | cons d t =>
    rw [hl] at h1
    obtain rfl : d = c := by simpa using h1
    exact ⟨d, x, t, rfl, h2, h3, h4⟩
theorem cons_at (l : List UInt8) (i : Nat) (c : UInt8) (h : l[i]? = some c) : l.drop i = c :: l.drop (i + 1) := by
  obtain ⟨h1, h2⟩ := List.getElem?_eq_some_iff.1 h
  rw [List.drop_eq_getElem_cons h1, h2]
end Go.Proofs.YtgponokcigapaaaDoor
namespace Go.Proofs.YtgponokcigapaaaDoor
open Go.ChangeShapes Go.WideShapes Go.ChangeAt Go.RowKit
open TokP

/-- Up to byte i nothing has closed; d: the depth there. -/
def Cl (q : UInt8) (nest : Bool) (l : List UInt8) (i d : Nat) : Prop := 1 ≤ i ∧ closeS q nest false 0 (l.drop 1) = (closeS q nest false d (l.drop i)).map (· + (i - 1))
theorem cl_start (q : UInt8) (nest : Bool) (l : List UInt8) : Cl q nest l 1 0 := ⟨Nat.le_refl _, by simp⟩
theorem map_more (o : Option Nat) (i k : Nat) (h : 1 ≤ i) : (o.map (· + k)).map (· + (i - 1)) = o.map (· + (i + k - 1)) := by
  cases o with
  | none => rfl
  | some m => simp only [Option.map_some]; congr 1; omega
theorem cl_esc {q : UInt8} {nest : Bool} {l : List UInt8} {i d : Nat} (h : Cl q nest l i d) (hc : l[i]? = some 92) : Cl q nest l (i + 2) d := by
  refine ⟨by have := h.1; omega, ?_⟩
  rw [h.2, cons_at l i 92 hc, closeS, if_pos rfl]
  have key : closeS q nest true d (l.drop (i + 1)) = (closeS q nest false d (l.drop (i + 2))).map (· + 1) := by
    cases h2 : l.drop (i + 1) with
    | nil =>
      have : l.drop (i + 2) = [] := by
        rw [← List.drop_drop (i := 1) (j := i + 1), h2]; rfl
      rw [this, closeS, closeS]; rfl
    | cons x t =>
      have : l.drop (i + 2) = t := by
        rw [← List.drop_drop (i := 1) (j := i + 1), h2]; rfl
      rw [this, closeS]
  rw [key]
  have e : ∀ o : Option Nat, (o.map (· + 1)).map (· + 1) = o.map (· + 2) := by intro o; cases o <;> rfl
  rw [e, map_more _ _ _ h.1]
theorem cl_up {q : UInt8} {l : List UInt8} {i d : Nat} (h : Cl q true l i d) (hc : l[i]? = some 40) (hq : q ≠ 40) : Cl q true l (i + 1) (d + 1) := by
  refine ⟨by omega, ?_⟩
  rw [h.2, cons_at l i 40 hc, closeS, if_neg (by decide), if_neg (fun e => hq e.symm), if_pos ⟨rfl, rfl⟩, map_more _ _ _ h.1]
theorem cl_down {q : UInt8} {nest : Bool} {l : List UInt8} {i d : Nat} (h : Cl q nest l i (d + 1)) (hc : l[i]? = some q) (hq : q ≠ 92) : Cl q nest l (i + 1) d := by
  refine ⟨by omega, ?_⟩
  rw [h.2, cons_at l i q hc, closeS, if_neg hq, if_pos rfl, if_neg (by omega), map_more _ _ _ h.1]
  rfl
theorem cl_done {q : UInt8} {nest : Bool} {l : List UInt8} {i : Nat} (h : Cl q nest l i 0) (hc : l[i]? = some q) (hq : q ≠ 92) : closeS q nest false 0 (l.drop 1) = some i := by
  rw [h.2, cons_at l i q hc, closeS, if_neg hq, if_pos rfl, if_pos rfl]
  have := h.1
  show some (1 + (i - 1)) = _
  congr 1; omega
theorem cl_next {q : UInt8} {nest : Bool} {l : List UInt8} {i d : Nat} {c : UInt8} (h : Cl q nest l i d) (hc : l[i]? = some c) (h1 : c ≠ 92) (h2 : c ≠ q) (h3 : ¬ (nest = true ∧ c = 40)) : Cl q nest l (i + 1) d := by
  refine ⟨by omega, ?_⟩
  rw [h.2, cons_at l i c hc, closeS, if_neg h1, if_neg h2, if_neg h3, map_more _ _ _ h.1]
theorem cl_end {q : UInt8} {nest : Bool} {l : List UInt8} {i d : Nat} (h : Cl q nest l i d) (hl : l.length ≤ i) : closeS q nest false 0 (l.drop 1) = none := by
  rw [h.2, List.drop_eq_nil_of_le hl, closeS]; rfl
/-- What enclosed hands back. -/
def enclV (K : Int) (n : Nat) : Option Nat → Value
  | none => .tuple #[.int .i64 7, .int .i64 n]
  | some m => .tuple #[.int .i64 K, .int .i64 ((m : Int) + 1)]
set_option maxHeartbeats 2000000 in
theorem encl_any (s : ByteArray) (hs : s.size ≤ 1000000) (K : Int) (q : UInt8) (y : Nat) (nest : Bool) (hy : q.toNat = y) (hK : (K == 3) = nest) (hq : nest = true → q ≠ 40) (hq2 : q ≠ 92) (R : Option Nat) (hR : closeS q nest false 0 (s.data.toList.drop 1) = R) (w : World) :
    Calls Tryd.prog 67 #[.string s, .int .i64 K, .int .u8 y] w fun e w' => e = .returned (enclV K s.size R) ∧ w = w' := by
  obtain ⟨n, hn⟩ : ∃ n, s.size = n := ⟨_, rfl⟩
  have HL := Lib.hid (size_list s)
  rw [hn] at hs
  have HN := Lib.hid hn
  have HQ := Lib.hid hq
  have HQ2 := Lib.hid hq2
  have HY := Lib.hid hy
  have HK := Lib.hid hK
  have HR := Lib.hid hR
  clear hn hq hq2 hy hK hR
  go_enter Tryd.func67, Tryd.ntmps67
  go_wp2_with fail
  go_loopw [8, 9] (fun d i wr => ∃ (k e : Nat), k ≤ n + 1 ∧ e < k ∧ d = .int .i64 e ∧ i = .int .i64 k ∧ wr = w ∧ Hid (Cl q nest s.data.toList k e)) (fun _ i _ => n + 1 - (intOf i).toNat)
  case atStart => exact ⟨1, 0, by omega, by omega, rfl, rfl, rfl, cl_start _ _ _⟩
  case round =>
    obtain ⟨k, d, hk, hd, rfl, rfl, rfl, HC⟩ := hrel
    have F1 : IntKind.i64.wrap ((k : Int) + 1) = (k : Int) + 1 := by rw [IntKind.wrap_i64]; omega
    have F2 : IntKind.i64.wrap ((k : Int) + 1 + 1) = (k : Int) + 1 + 1 := by rw [IntKind.wrap_i64]; omega
    have F3 : IntKind.i64.wrap ((d : Int) + 1) = (d : Int) + 1 := by rw [IntKind.wrap_i64]; omega
    have hn : s.size = n := HN.out
    by_cases hlt : k < n
    · have hlt' : (k : Int) < (n : Int) := by omega
      obtain ⟨c, x, hc, hx, hx2, S1⟩ := run_byte s k (by rw [hn]; exact hlt)
      have e92 := byte_is c x hx 92 (by decide)
      have e40 := byte_is c x hx 40 (by decide)
      have eq := eq_byte c q x y hx HY.out
      rw [show ((92 : Nat) : Int) = 92 from rfl] at e92
      rw [show ((40 : Nat) : Int) = 40 from rfl] at e40
      clear hx hx2
      by_cases h92 : c = 92
      · rw [show decide (c = UInt8.ofNat 92) = true from decide_eq_true h92] at e92
        have HC2 := Lib.hid (cl_esc HC.out (by rw [hc, h92]))
        clear h92 e40 eq hc HC
        go_wp2_with fail
        go_roundw
        case rel => exact ⟨k + 2, d, by omega, by omega, rfl, by go_num, trivial, HC2⟩
        case measure => simp [intOf]; omega
      · rw [show decide (c = UInt8.ofNat 92) = false from decide_eq_false h92] at e92
        by_cases h40 : c = 40 ∧ nest = true
        · obtain ⟨h40, rfl⟩ := h40
          rw [show decide (c = UInt8.ofNat 40) = true from decide_eq_true h40] at e40
          have hK := HK.out
          have HC2 := Lib.hid (cl_up HC.out (by rw [hc, h40]) (HQ.out rfl))
          clear h92 h40 eq hc HC
          go_wp2_with fail
          go_roundw
          case rel => exact ⟨k + 1, d + 1, by omega, by omega, by go_num, by go_num, trivial, HC2⟩
          case measure => simp [intOf]; omega
        · by_cases hcq : c = q
          · rw [decide_eq_true hcq] at eq
            by_cases hd0 : d = 0
            · subst hd0
              have HC2 := Lib.hid (cl_done HC.out (by rw [hc, hcq]) HQ2.out)
              by_cases hc40 : c = 40
              · rw [show decide (c = UInt8.ofNat 40) = true from decide_eq_true hc40] at e40
                have hK := HK.out
                have hnest : nest = false := by
                  cases nest with
                  | false => rfl
                  | true => exact absurd ⟨hc40, rfl⟩ h40
                rw [hnest] at hK
                clear h92 h40 hcq hc40 hc HC hnest
                go_wp2_with fail
                go_ret2
                exact ⟨by rw [HR.out.symm.trans HC2.out]; rfl, rfl⟩
              · rw [show decide (c = UInt8.ofNat 40) = false from decide_eq_false hc40] at e40
                clear h92 h40 hcq hc40 hc HC
                go_wp2_with fail
                go_ret2
                exact ⟨by rw [HR.out.symm.trans HC2.out]; rfl, rfl⟩
            · obtain ⟨f, rfl⟩ : ∃ f, d = f + 1 := ⟨d - 1, by omega⟩
              have HC2 := Lib.hid (cl_down HC.out (by rw [hc, hcq]) HQ2.out)
              have F4 : IntKind.i64.wrap ((f : Int) + 1 - 1) = (f : Int) := by rw [IntKind.wrap_i64]; omega
              have F5 : IntKind.i64.wrap (f : Int) = (f : Int) := by rw [IntKind.wrap_i64]; omega
              have hf0 : (0 : Int) < (f : Int) + 1 := by omega
              have hf1 : (0 : Int) < ((f + 1 : Nat) : Int) := by omega
              by_cases hc40 : c = 40
              · rw [show decide (c = UInt8.ofNat 40) = true from decide_eq_true hc40] at e40
                have hK := HK.out
                have hnest : nest = false := by
                  cases nest with
                  | false => rfl
                  | true => exact absurd ⟨hc40, rfl⟩ h40
                rw [hnest] at hK
                clear h92 h40 hcq hc40 hc HC hnest F3 hd0
                go_wp2_with fail
                go_roundw
                case rel => exact ⟨k + 1, f, by omega, by omega, by go_num, by go_num, trivial, HC2⟩
                case measure => simp [intOf]; omega
              · rw [show decide (c = UInt8.ofNat 40) = false from decide_eq_false hc40] at e40
                clear h92 h40 hcq hc40 hc HC F3 hd0
                go_wp2_with fail
                go_roundw
                case rel => exact ⟨k + 1, f, by omega, by omega, by go_num, by go_num, trivial, HC2⟩
                case measure => simp [intOf]; omega
          · rw [decide_eq_false hcq] at eq
            have HC2 := Lib.hid (cl_next HC.out hc h92 hcq (fun e => h40 ⟨e.2, e.1⟩))
            by_cases hc40 : c = 40
            · rw [show decide (c = UInt8.ofNat 40) = true from decide_eq_true hc40] at e40
              have hK := HK.out
              have hnest : nest = false := by
                cases nest with
                | false => rfl
                | true => exact absurd ⟨hc40, rfl⟩ h40
              rw [hnest] at hK
              clear h92 h40 hcq hc40 hc HC hnest
              go_wp2_with fail
              go_roundw
              case rel => exact ⟨k + 1, d, by omega, by omega, rfl, by go_num, trivial, HC2⟩
              case measure => simp [intOf]; omega
            · rw [show decide (c = UInt8.ofNat 40) = false from decide_eq_false hc40] at e40
              clear h92 h40 hcq hc40 hc HC
              go_wp2_with fail
              go_roundw
              case rel => exact ⟨k + 1, d, by omega, by omega, rfl, by go_num, trivial, HC2⟩
              case measure => simp [intOf]; omega
    · have HC2 := Lib.hid (cl_end HC.out (by rw [← HL.out, hn]; omega))
      have hlt' : ¬ (k : Int) < (n : Int) := by omega
      clear HC
      go_wp2_with fail
      go_ret2
      exact ⟨by rw [HR.out.symm.trans HC2.out]; rfl, rfl⟩
end Go.Proofs.YtgponokcigapaaaDoor
namespace Go.Proofs.YtgponokcigapaaaDoor
open Go.ChangeShapes Go.WideShapes Go.ChangeAt Go.RowKit

theorem while_at (p : UInt8 → Bool) (l : List UInt8) (k : Nat) (c : UInt8) (h : l[k]? = some c) : (l.drop k).takeWhile p = if p c = true then c :: (l.drop (k + 1)).takeWhile p else [] := by
  obtain ⟨h1, h2⟩ := List.getElem?_eq_some_iff.1 h
  rw [List.drop_eq_getElem_cons h1, h2, List.takeWhile_cons]
theorem while_more (p : UInt8 → Bool) (l : List UInt8) (k : Nat) (c : UInt8) (h : l[k]? = some c) (hp : p c = true) (he : (l.takeWhile p).length = k + ((l.drop k).takeWhile p).length) :
    (l.takeWhile p).length = k + 1 + ((l.drop (k + 1)).takeWhile p).length := by
  rw [while_at p l k c h, if_pos hp, List.length_cons] at he
  omega
theorem while_stop (p : UInt8 → Bool) (l : List UInt8) (k : Nat) (c : UInt8) (h : l[k]? = some c) (hp : p c = false) (he : (l.takeWhile p).length = k + ((l.drop k).takeWhile p).length) : (l.takeWhile p).length = k := by
  rw [while_at p l k c h, if_neg (by rw [hp]; exact Bool.false_ne_true), List.length_nil] at he
  omega
theorem while_end (p : UInt8 → Bool) (l : List UInt8) (k : Nat) (h : l.length ≤ k) (he : (l.takeWhile p).length = k + ((l.drop k).takeWhile p).length) : (l.takeWhile p).length = k := by
  rw [List.drop_eq_nil_of_le h, List.takeWhile_nil, List.length_nil] at he
  omega
set_option maxHeartbeats 1000000 in
theorem pre_white (s : ByteArray) (hs : s.size ≤ 1000000) (w : World) :
    Calls Tryd.prog 66 #[.string s, .func (.func 65) #[] #[]] w fun e w' => e = .returned (.int .i64 ((s.data.toList.takeWhile TokP.blank).length : Nat)) ∧ w = w' := by
  obtain ⟨n, hn⟩ : ∃ n, s.size = n := ⟨_, rfl⟩
  have HL := Lib.hid (size_list s)
  rw [hn] at hs
  have HN := Lib.hid hn
  clear hn
  go_enter Tryd.func66, Tryd.ntmps66
  have hn : s.size = n := HN.out
  go_wp2_with fail
  clear hn
  go_loopw [8] (fun i wr => ∃ k : Nat, k ≤ n ∧ i = .int .i64 k ∧ wr = w ∧ Hid ((s.data.toList.takeWhile TokP.blank).length = k + ((s.data.toList.drop k).takeWhile TokP.blank).length)) (fun i _ => n - (intOf i).toNat)
  case atStart => exact ⟨0, Nat.zero_le _, rfl, rfl, by show _ = _; rw [List.drop_zero, Nat.zero_add]⟩
  case round =>
    obtain ⟨k, hk, rfl, rfl, HS⟩ := hrel
    have F1 : IntKind.i64.wrap ((k : Int) + 1) = (k : Int) + 1 := by rw [IntKind.wrap_i64]; omega
    by_cases hlt : k < n
    · have hlt' : (k : Int) < (n : Int) := by omega
      obtain ⟨c, x, hc, hx, hx2, S1⟩ := run_byte s k (by rw [HN.out]; exact hlt)
      have cB := isWhite_any c x hx
      by_cases hp : TokP.blank c = true
      · have HS2 := Lib.hid (while_more _ _ k c hc hp HS.out)
        rw [hp] at cB
        clear hp hc hx hx2 HS HL HN
        go_wp2_with (go_at_call 65; refine (cB _).mono ?_; rintro e w' ⟨rfl, rfl⟩)
        go_roundw
        case rel => exact ⟨k + 1, by omega, by go_num, trivial, HS2⟩
        case measure => simp [intOf]; omega
      · have hp' : TokP.blank c = false := by simpa using hp
        have HS2 := Lib.hid (while_stop _ _ k c hc hp' HS.out)
        rw [hp'] at cB
        clear hp hp' hc hx hx2 HS HL HN
        go_wp2_with (go_at_call 65; refine (cB _).mono ?_; rintro e w' ⟨rfl, rfl⟩)
        go_ret
        exact ⟨by rw [HS2.out]; rfl, rfl⟩
    · have HS2 := Lib.hid (while_end _ _ k (by rw [← HL.out, HN.out]; omega) HS.out)
      obtain rfl : k = n := by omega
      have hlt' : ¬ (k : Int) < (k : Int) := by omega
      have hn : s.size = k := HN.out
      clear HS HL HN
      go_wp2_with fail
      go_ret
      exact ⟨by rw [HS2.out]; rfl, rfl⟩
set_option maxHeartbeats 1000000 in
theorem pre_atom (s : ByteArray) (hs : s.size ≤ 1000000) (w : World) :
    Calls Tryd.prog 66 #[.string s, .func (.func 69) #[] #[]] w fun e w' => e = .returned (.int .i64 ((s.data.toList.takeWhile TokP.atomB).length : Nat)) ∧ w = w' := by
  obtain ⟨n, hn⟩ : ∃ n, s.size = n := ⟨_, rfl⟩
  have HL := Lib.hid (size_list s)
  rw [hn] at hs
  have HN := Lib.hid hn
  clear hn
  go_enter Tryd.func66, Tryd.ntmps66
  have hn : s.size = n := HN.out
  go_wp2_with fail
  clear hn
  go_loopw [8] (fun i wr => ∃ k : Nat, k ≤ n ∧ i = .int .i64 k ∧ wr = w ∧ Hid ((s.data.toList.takeWhile TokP.atomB).length = k + ((s.data.toList.drop k).takeWhile TokP.atomB).length)) (fun i _ => n - (intOf i).toNat)
  case atStart => exact ⟨0, Nat.zero_le _, rfl, rfl, by show _ = _; rw [List.drop_zero, Nat.zero_add]⟩
  case round =>
    obtain ⟨k, hk, rfl, rfl, HS⟩ := hrel
    have F1 : IntKind.i64.wrap ((k : Int) + 1) = (k : Int) + 1 := by rw [IntKind.wrap_i64]; omega
    by_cases hlt : k < n
    · have hlt' : (k : Int) < (n : Int) := by omega
      obtain ⟨c, x, hc, hx, hx2, S1⟩ := run_byte s k (by rw [HN.out]; exact hlt)
      have cB := isAtom_any c x hx
      by_cases hp : TokP.atomB c = true
      · have HS2 := Lib.hid (while_more _ _ k c hc hp HS.out)
        rw [hp] at cB
        clear hp hc hx hx2 HS HL HN
        go_wp2_with (go_at_call 69; refine (cB _).mono ?_; rintro e w' ⟨rfl, rfl⟩)
        go_roundw
        case rel => exact ⟨k + 1, by omega, by go_num, trivial, HS2⟩
        case measure => simp [intOf]; omega
      · have hp' : TokP.atomB c = false := by simpa using hp
        have HS2 := Lib.hid (while_stop _ _ k c hc hp' HS.out)
        rw [hp'] at cB
        clear hp hp' hc hx hx2 HS HL HN
        go_wp2_with (go_at_call 69; refine (cB _).mono ?_; rintro e w' ⟨rfl, rfl⟩)
        go_ret
        exact ⟨by rw [HS2.out]; rfl, rfl⟩
    · have HS2 := Lib.hid (while_end _ _ k (by rw [← HL.out, HN.out]; omega) HS.out)
      obtain rfl : k = n := by omega
      have hlt' : ¬ (k : Int) < (k : Int) := by omega
      have hn : s.size = k := HN.out
      clear HS HL HN
      go_wp2_with fail
      go_ret
      exact ⟨by rw [HS2.out]; rfl, rfl⟩
end Go.Proofs.YtgponokcigapaaaDoor
namespace Go.Proofs.YtgponokcigapaaaDoor
open Go.ChangeShapes Go.WideShapes Go.ChangeAt Go.RowKit
open TokP

theorem encl_len (K : Int) (c : UInt8) (t : List UInt8) (n : Nat) (hn : n = (c :: t).length) (hK : (kindO c : Int) = K) (hb : ¬ TokP.blank c = true) (ho : opens c = true) :
    enclV K n (closeS (closer c) (c == 40) false 0 t) = .tuple #[.int .i64 ((frontL (c :: t)).kind : Nat), .int .i64 ((frontL (c :: t)).text.length : Nat)] := by
  rw [frontL, if_neg hb, if_pos ho]
  unfold closeL
  cases h : closeS (closer c) (c == 40) false 0 t with
  | none => rw [hn]; rfl
  | some m =>
    have := (close_le _ _ t _ _ m h).2
    show Value.tuple #[.int .i64 K, .int .i64 ((m : Int) + 1)] = .tuple #[.int .i64 (kindO c : Nat), .int .i64 ((c :: t.take m).length : Nat)]
    rw [hK, List.length_cons, List.length_take, Nat.min_eq_left this]
    rfl
theorem opens_cases (c : UInt8) : opens c = true → c = 40 ∨ c = 34 ∨ c = 91 := by
  unfold opens
  simp only [Bool.or_eq_true, beq_iff_eq]
  rintro ((h | h) | h)
  · exact .inl h
  · exact .inr (.inl h)
  · exact .inr (.inr h)
set_option maxHeartbeats 2000000 in
theorem first_any (s : ByteArray) (hs : s.size ≤ 1000000) (h0 : 0 < s.size) (w : World) :
    Calls Tryd.prog 43 #[.string s] w fun e w' => e = .returned (.tuple #[.int .i64 ((frontL s.data.toList).kind : Nat), .int .i64 ((frontL s.data.toList).text.length : Nat)]) ∧ w = w' := by
  obtain ⟨c, x, t, hl, hx, hx2, S1⟩ := run_byte0 s h0
  have cW := isWhite_any c x hx
  have cS := isSpecial_any c x hx
  have cA := isAtom_any c x hx
  have e40 := byte_is c x hx 40 (by decide)
  have e34 := byte_is c x hx 34 (by decide)
  have e91 := byte_is c x hx 91 (by decide)
  rw [show ((40 : Nat) : Int) = 40 from rfl] at e40
  rw [show ((34 : Nat) : Int) = 34 from rfl] at e34
  rw [show ((91 : Nat) : Int) = 91 from rfl] at e91
  have hsz : s.size = (c :: t).length := by rw [size_list, hl]
  by_cases hw : TokP.blank c = true
  · have cP := pre_white s hs
    rw [hl] at cP
    have HF : Hid (frontL s.data.toList = ⟨6, (c :: t).takeWhile TokP.blank⟩) := by
      show _ = _
      rw [hl, frontL, if_pos hw]
    generalize ((c :: t).takeWhile TokP.blank) = u at cP HF
    rw [hw] at cW
    clear hw hsz hl hx hx2 cS cA e40 e34 e91 hs h0
    go_enter Tryd.func43, Tryd.ntmps43
    go_wp2_with (first
      | (go_at_call 65; refine (cW _).mono ?_; rintro e w1 ⟨rfl, rfl⟩)
      | (go_at_call 66; refine (cP _).mono ?_; rintro e w2 ⟨rfl, rfl⟩))
    go_ret2
    exact ⟨by rw [HF.out]; rfl, rfl⟩
  · have hw' : TokP.blank c = false := by simpa using hw
    rw [hw'] at cW
    by_cases h40 : c = 40
    · rw [show decide (c = UInt8.ofNat 40) = true from decide_eq_true h40] at e40
      have cE := encl_any s hs 3 41 41 true rfl rfl (by decide) (by decide) _ rfl
      rw [hl, show (c :: t).drop 1 = t from rfl] at cE
      have HF := Lib.hid (encl_len 3 c t _ hsz (by rw [h40]; rfl) hw (by rw [h40]; rfl))
      rw [show (c == 40) = true by rw [h40]; rfl, show closer c = 41 by rw [h40]; rfl, ← hl] at HF
      have HE : ∀ w, Calls Tryd.prog 67 #[.string s, .int .i64 3, .int .u8 41] w fun e w' => e = .returned (.tuple #[.int .i64 ((frontL s.data.toList).kind : Nat), .int .i64 ((frontL s.data.toList).text.length : Nat)]) ∧ w = w' := by
        intro w
        rw [← HF.out]
        exact cE w
      clear cE HF hsz hl hx hx2 cS cA h40 e34 e91 hs h0 hw hw'
      generalize frontL s.data.toList = T at HE ⊢
      go_enter Tryd.func43, Tryd.ntmps43
      go_wp2_with (first
        | (go_at_call 65; refine (cW _).mono ?_; rintro e w1 ⟨rfl, rfl⟩)
        | (go_at_call 67; refine (HE _).mono ?_; rintro e w2 ⟨rfl, rfl⟩))
      go_ret2
      exact ⟨rfl, rfl⟩
    · rw [show decide (c = UInt8.ofNat 40) = false from decide_eq_false h40] at e40
      by_cases h34 : c = 34
      · rw [show decide (c = UInt8.ofNat 34) = true from decide_eq_true h34] at e34
        have cE := encl_any s hs 2 34 34 false rfl rfl (by decide) (by decide) _ rfl
        rw [hl, show (c :: t).drop 1 = t from rfl] at cE
        have HF := Lib.hid (encl_len 2 c t _ hsz (by rw [h34]; rfl) hw (by rw [h34]; rfl))
        rw [show (c == 40) = false by rw [h34]; rfl, show closer c = 34 by rw [h34]; rfl, ← hl] at HF
        have HE : ∀ w, Calls Tryd.prog 67 #[.string s, .int .i64 2, .int .u8 34] w fun e w' => e = .returned (.tuple #[.int .i64 ((frontL s.data.toList).kind : Nat), .int .i64 ((frontL s.data.toList).text.length : Nat)]) ∧ w = w' := by
          intro w
          rw [← HF.out]
          exact cE w
        clear cE HF hsz hl hx hx2 cS cA h40 h34 e91 hs h0 hw hw'
        generalize frontL s.data.toList = T at HE ⊢
        go_enter Tryd.func43, Tryd.ntmps43
        go_wp2_with (first
          | (go_at_call 65; refine (cW _).mono ?_; rintro e w1 ⟨rfl, rfl⟩)
          | (go_at_call 67; refine (HE _).mono ?_; rintro e w2 ⟨rfl, rfl⟩))
        go_ret2
        exact ⟨rfl, rfl⟩
      · rw [show decide (c = UInt8.ofNat 34) = false from decide_eq_false h34] at e34
        by_cases h91 : c = 91
        · rw [show decide (c = UInt8.ofNat 91) = true from decide_eq_true h91] at e91
          have cE := encl_any s hs 5 93 93 false rfl rfl (by decide) (by decide) _ rfl
          rw [hl, show (c :: t).drop 1 = t from rfl] at cE
          have HF := Lib.hid (encl_len 5 c t _ hsz (by rw [h91]; rfl) hw (by rw [h91]; rfl))
          rw [show (c == 40) = false by rw [h91]; rfl, show closer c = 93 by rw [h91]; rfl, ← hl] at HF
          have HE : ∀ w, Calls Tryd.prog 67 #[.string s, .int .i64 5, .int .u8 93] w fun e w' => e = .returned (.tuple #[.int .i64 ((frontL s.data.toList).kind : Nat), .int .i64 ((frontL s.data.toList).text.length : Nat)]) ∧ w = w' := by
            intro w
            rw [← HF.out]
            exact cE w
          clear cE HF hsz hl hx hx2 cS cA h40 h34 h91 hs h0 hw hw'
          generalize frontL s.data.toList = T at HE ⊢
          go_enter Tryd.func43, Tryd.ntmps43
          go_wp2_with (first
            | (go_at_call 65; refine (cW _).mono ?_; rintro e w1 ⟨rfl, rfl⟩)
            | (go_at_call 67; refine (HE _).mono ?_; rintro e w2 ⟨rfl, rfl⟩))
          go_ret2
          exact ⟨rfl, rfl⟩
        · rw [show decide (c = UInt8.ofNat 91) = false from decide_eq_false h91] at e91
          have ho : ¬ opens c = true := fun e => by
            rcases opens_cases c e with e | e | e
            · exact h40 e
            · exact h34 e
            · exact h91 e
          by_cases hsp : special c = true
          · have HF : Hid (frontL s.data.toList = ⟨4, [c]⟩) := by
              show _ = _
              rw [hl, frontL, if_neg hw, if_neg ho, if_pos hsp]
            rw [hsp] at cS
            clear hsz hl hx hx2 cA h40 h34 h91 hs h0 hw hw' ho hsp
            go_enter Tryd.func43, Tryd.ntmps43
            go_wp2_with (first
              | (go_at_call 65; refine (cW _).mono ?_; rintro e w1 ⟨rfl, rfl⟩)
              | (go_at_call 68; refine (cS _).mono ?_; rintro e w2 ⟨rfl, rfl⟩))
            go_ret2
            exact ⟨by rw [HF.out]; rfl, rfl⟩
          · have hsp' : special c = false := by simpa using hsp
            rw [hsp'] at cS
            by_cases ha : atomB c = true
            · have cP := pre_atom s hs
              rw [hl] at cP
              have HF : Hid (frontL s.data.toList = ⟨1, (c :: t).takeWhile atomB⟩) := by
                show _ = _
                rw [hl, frontL, if_neg hw, if_neg ho, if_neg hsp, if_pos ha]
              generalize ((c :: t).takeWhile atomB) = u at cP HF
              rw [ha] at cA
              clear hsz hl hx hx2 h40 h34 h91 hs h0 hw hw' ho hsp hsp' ha
              go_enter Tryd.func43, Tryd.ntmps43
              go_wp2_with (first
                | (go_at_call 65; refine (cW _).mono ?_; rintro e w1 ⟨rfl, rfl⟩)
                | (go_at_call 68; refine (cS _).mono ?_; rintro e w2 ⟨rfl, rfl⟩)
                | (go_at_call 69; refine (cA _).mono ?_; rintro e w2 ⟨rfl, rfl⟩)
                | (go_at_call 66; refine (cP _).mono ?_; rintro e w2 ⟨rfl, rfl⟩))
              go_ret2
              exact ⟨by rw [HF.out]; rfl, rfl⟩
            · have ha' : atomB c = false := by simpa using ha
              have HF : Hid (frontL s.data.toList = ⟨7, [c]⟩) := by
                show _ = _
                rw [hl, frontL, if_neg hw, if_neg ho, if_neg hsp, if_neg ha]
              rw [ha'] at cA
              clear hsz hl hx hx2 h40 h34 h91 hs h0 hw hw' ho hsp hsp' ha ha'
              go_enter Tryd.func43, Tryd.ntmps43
              go_wp2_with (first
                | (go_at_call 65; refine (cW _).mono ?_; rintro e w1 ⟨rfl, rfl⟩)
                | (go_at_call 68; refine (cS _).mono ?_; rintro e w2 ⟨rfl, rfl⟩)
                | (go_at_call 69; refine (cA _).mono ?_; rintro e w2 ⟨rfl, rfl⟩))
              go_ret2
              exact ⟨by rw [HF.out]; rfl, rfl⟩
end Go.Proofs.YtgponokcigapaaaDoor
namespace Go.Proofs.YtgponokcigapaaaDoor
open Go.ChangeShapes Go.WideShapes Go.ChangeAt Go.RowKit
open TokP

theorem add_none (g o j : Nat) : (⟨g, o, none⟩ : Addr).add j = ⟨g, o + j, none⟩ := by unfold Addr.add; split <;> simp_all
def tokV (t : Tok) : List Value := [.int .i64 (t.kind : Nat), .string (strL t.text)]
def toksV (l : List Tok) : List Value := l.flatMap tokV
theorem toksV_len (l : List Tok) : (toksV l).length = l.length * 2 := by
  unfold toksV
  induction l with
  | nil => rfl
  | cons m l ih => rw [List.flatMap_cons, List.length_append, ih, List.length_cons]; simp [tokV]; omega
theorem toksV_app (a b : List Tok) : toksV a ++ toksV b = toksV (a ++ b) := by unfold toksV; rw [List.flatMap_append]
theorem toksV_one (f : Tok) : toksV [f] = tokV f := by unfold toksV; simp
theorem toksV_at : ∀ (l : List Tok) (i : Nat) (f : Tok), l[i]? = some f → ∀ j, j < 2 → (toksV l)[i * 2 + j]? = (tokV f)[j]?
  | [], i, m, h => by simp at h
  | x :: l, 0, m, h => by
    simp at h
    subst h
    intro j hj
    rw [show toksV (x :: l) = tokV x ++ toksV l by unfold toksV; rw [List.flatMap_cons], Nat.zero_mul, Nat.zero_add, List.getElem?_append_left (by simp [tokV]; exact hj)]
  | x :: l, i + 1, m, h => by
    intro j hj
    have ih := toksV_at l i m (by simpa using h) j hj
    rw [show toksV (x :: l) = tokV x ++ toksV l by unfold toksV; rw [List.flatMap_cons], List.getElem?_append_right (by simp [tokV]; omega)]
    have e1 : (i + 1) * 2 + j - (tokV x).length = i * 2 + j := by simp [tokV]; omega
    rw [e1]
    exact ih
theorem tokV_one (f : Tok) : ∀ u ∈ tokV f, u.oneCell' = true := by
  intro u hu
  simp [tokV] at hu
  rcases hu with rfl | rfl <;> rfl
theorem toksV_ones (l : List Tok) : ∀ u ∈ toksV l, u.oneCell' = true := by
  intro u hu
  obtain ⟨f, _, hf⟩ := List.mem_flatMap.1 hu
  exact tokV_one f u hf
/-- The tokens l lie at g, from cell o on. -/
def FAt (w : World) (g o : Nat) (l : List Tok) : Prop := ∀ i f, l[i]? = some f → w.cell? ⟨g, o + i * 2, none⟩ = some (.int .i64 (f.kind : Nat)) ∧ w.cell? ⟨g, o + i * 2 + 1, none⟩ = some (.string (strL f.text))
def OwnF (w : World) (v : Value) (l : List Tok) : Prop := ∃ base, w.ownsRow base 43 2 v l.length (toksV l)
/-- The slice v reads as l. -/
def HasF (w : World) (v : Value) (l : List Tok) : Prop := (v = .slice none 0 0 ∧ l = []) ∨ ∃ g o c, v = .slice (some ⟨g, o, none⟩) l.length c ∧ FAt w g o l
theorem OwnF.step {w w' : World} {v : Value} {xs : List Tok} (h : OwnF w v xs) (hb : Below w.heap.size w w') : OwnF w' v xs := by
  obtain ⟨b, ho⟩ := h; exact ⟨b, own_below ho hb⟩
theorem OwnF.shape {w : World} {v : Value} {xs : List Tok} (h : OwnF w v xs) : ∃ a c, v = .slice a xs.length c := by
  obtain ⟨b, ho⟩ := h
  rcases ho.2 with ⟨rfl, h0⟩ | ⟨g, cap, cur, rfl, _⟩
  · exact ⟨none, 0, by rw [h0]⟩
  · exact ⟨_, _, rfl⟩
theorem OwnF.at {w : World} {a : Option Addr} {n c : Nat} {xs : List Tok} (h : OwnF w (.slice a n c) xs) (hn : 0 < n) : ∃ g, a = some ⟨g, 0, none⟩ ∧ FAt w g 0 xs := by
  obtain ⟨b, ho⟩ := h
  rcases ho.2 with ⟨e, h0⟩ | ⟨g, cap, cur, e, _⟩
  · injection e with _ e2 _; omega
  · have e' := e
    injection e with e1 _ _
    subst e1
    refine ⟨g, rfl, fun i f hf => ?_⟩
    have key : ∀ j u, j < 2 → (tokV f)[j]? = some u → w.cell? ⟨g, 0 + i * 2 + j, none⟩ = some u := fun j u hj hu => by
      have := ho.cells (g := g) rfl (i * 2 + j) u (by rw [toksV_at xs i f hf j hj]; exact hu)
      rwa [add_none, ← Nat.add_assoc] at this
    exact ⟨key 0 _ (by decide) rfl, key 1 _ (by decide) rfl⟩
theorem OwnF.has {w : World} {v : Value} {xs : List Tok} (h : OwnF w v xs) : HasF w v xs := by
  obtain ⟨a, c, rfl⟩ := h.shape
  by_cases hn : 0 < xs.length
  · obtain ⟨g, rfl, hf⟩ := h.at hn
    exact .inr ⟨g, 0, c, rfl, hf⟩
  · obtain rfl : xs = [] := List.eq_nil_of_length_eq_zero (by omega)
    obtain ⟨b, ho⟩ := h
    rcases ho.2 with ⟨e, _⟩ | ⟨g, cap, cur, e, _⟩
    · exact .inl ⟨e, rfl⟩
    · exact .inr ⟨g, 0, _, e, fun i f hf => by simp at hf⟩
theorem FAt.drop {w : World} {g o : Nat} {f : Tok} {l : List Tok} (h : FAt w g o (f :: l)) : FAt w g (o + 2) l := by
  intro i x hx
  have := h (i + 1) x (by simpa using hx)
  rwa [show o + (i + 1) * 2 = o + 2 + i * 2 by omega] at this
theorem FAt.lt {w : World} {g o : Nat} {l : List Tok} (h : FAt w g o l) (hl : l ≠ []) : g < w.heap.size := by
  cases l with
  | nil => exact absurd rfl hl
  | cons f r => exact World.block_lt_of_cell? w _ (h 0 f rfl).1
theorem FAt.keep {w w' : World} {g o : Nat} {l : List Tok} (h : FAt w g o l) (hk : w'.heap[g]? = w.heap[g]?) : FAt w' g o l := by
  intro i f hf
  obtain ⟨h1, h2⟩ := h i f hf
  exact ⟨by rw [World.cell?_of_block (by exact hk)]; exact h1, by rw [World.cell?_of_block (by exact hk)]; exact h2⟩
theorem FAt.step {w w' : World} {g o : Nat} {l : List Tok} (h : FAt w g o l) (hb : Below w.heap.size w w') : FAt w' g o l := by
  by_cases hl : l = []
  · subst hl; intro i f hf; simp at hf
  · exact h.keep (hb.block g (h.lt hl))
theorem HasF.step {w w' : World} {v : Value} {l : List Tok} (h : HasF w v l) (hb : Below w.heap.size w w') : HasF w' v l := by
  rcases h with h | ⟨g, o, c, rfl, h⟩
  · exact .inl h
  · exact .inr ⟨g, o, c, rfl, h.step hb⟩
theorem news_tok (w : World) (f : Tok) : ∀ j u, (tokV f)[j]? = some u → (w.alloc (.cells (tokV f).toArray 43)).cell? ((⟨w.heap.size, 0, none⟩ : Addr).add j) = some u := by
  intro j u h
  have := World.cell?_alloc_mark w (tokV f).toArray 43 (0, 0) j
  rw [add_none, Nat.zero_add, this, List.getElem?_toArray]; exact h
theorem info23 : (Tryd.prog.info? 43).map (fun i => (i.zero, i.size, i.bytes)) = some (some (.agg #[.int .i64 0, .string ⟨#[]⟩]), 2, 24) := by kernel_rfl
/-- A token is appended. -/
theorem run_appF {w : World} (base : Nat) {v : Value} {xs : List Tok} (f : Tok) (hown : w.ownsRow base 43 2 v xs.length (toksV xs)) (hb : base ≤ w.heap.size) (hl : xs.length ≤ 1000000) :
    ∃ a c w', (Builtin.append_ #[38, 38] 38 #[v, .slice (some ⟨w.heap.size, 0, none⟩) 1 1]).run Tryd.prog (w.alloc (.cells #[.int .i64 (f.kind : Nat), .string (strL f.text)] 43)) = .ok (.slice a (xs.length + 1) c) w' ∧
      w'.ownsRow base 43 2 (.slice a (xs.length + 1) c) (xs ++ [f]).length (toksV (xs ++ [f])) ∧ (w.alloc (.cells #[.int .i64 (f.kind : Nat), .string (strL f.text)] 43)).grownBy w' v.ownBlock := by
  obtain ⟨i0, hi, hz0, hz1, hz2⟩ := info_parts info23
  obtain ⟨v', w', hr, h1, h2, _⟩ := run_append_own (P := Tryd.prog) (w.alloc (.cells (tokV f).toArray 43)) base 38 38 43 i0 _ 2 24 Tryd.underlying38 hi hz0 hz1 hz2 rfl (by decide) v xs.length _ (World.ownsRow.alloc hown _) ⟨w.heap.size, 0, none⟩ 1 1 (tokV f) rfl (news_tok w f) (tokV_one f) (by unfold maxLen; omega) (by omega) (by rw [World.size_alloc]; omega)
  rw [← toksV_one, toksV_app, ← List.length_singleton (a := f), ← List.length_append] at h1
  obtain ⟨a, c, rfl⟩ : ∃ a c, v' = .slice a (xs.length + 1) c := by
    rcases h1.2 with ⟨rfl, h0⟩ | ⟨g, cap, cur, rfl, _⟩
    · simp at h0
    · exact ⟨_, _, by rw [List.length_append]; rfl⟩
  exact ⟨a, c, w', hr, h1, h2⟩
theorem wpList_appF {ops : Array Oper} {rest : List Oper} {o : Oper} {a : Act} {w : World} {Q : Exit → Act → World → Prop} (hw : Region.wanted o (yielded ops a.tmps) = true) (s x : Operand)
    (ho : o.op = .call { callee := .builtin .append, args := #[s, x], argTypes := #[38, 38] }) (hty : o.type = 38) (base : Nat) {v : Value} {xs : List Tok} {n : Nat} (f : Tok) (hs : a.eval s = v) (hx : a.eval x = .slice (some ⟨w.heap.size, 0, none⟩) 1 1)
    (hown : w.ownsRow base 43 2 v xs.length (toksV xs)) (hn : xs.length = n) (hb : base ≤ w.heap.size) (hl : n ≤ 1000000)
    (h : ∀ a' c' w', w'.ownsRow base 43 2 (.slice a' (n + 1) c') (xs ++ [f]).length (toksV (xs ++ [f])) → (w.alloc (.cells #[.int .i64 (f.kind : Nat), .string (strL f.text)] 43)).grownBy w' v.ownBlock → wpList Tryd.prog ops Q rest (a.put o.dst (.slice a' (n + 1) c')) w') :
    wpList Tryd.prog ops Q (o :: rest) a (w.alloc (.cells #[.int .i64 (f.kind : Nat), .string (strL f.text)] 43)) := by
  subst hn
  obtain ⟨a', c', w', hr, h1, h2⟩ := run_appF base f hown hb hl
  unfold wpList
  rw [if_pos hw]
  left
  unfold Oper.wp
  simp [execOp, ho, hty, resolve, invoke, builtin, hs, hx, hr, Result.andThen]
  exact h a' c' w' h1 h2
/-- Tokens are compared part by part. -/
theorem tok_ext {f g : Tok} (h1 : f.kind = g.kind) (h2 : f.text = g.text) : f = g := by
  cases f; cases g; simp_all
theorem tok_iff (f g : Tok) : (decide (f = g)) = (((f.kind : Nat) : Int) == (g.kind : Nat) && (strL f.text).toList == (strL g.text).toList) := by
  rw [eq_strL, Bool.eq_iff_iff]
  simp only [Bool.and_eq_true, decide_eq_true_iff, beq_iff_eq]
  exact ⟨fun h => by rw [h]; exact ⟨rfl, rfl⟩, fun h => tok_ext (by omega) h.2⟩
theorem run_equal_tok (f g : Tok) (W : World) : (Op.equalIn 10000 43 (.agg #[.int .i64 (f.kind : Nat), .string (strL f.text)]) (.agg #[.int .i64 (g.kind : Nat), .string (strL g.text)])).run Tryd.prog W = .ok (decide (f = g)) W := by
  rw [tok_iff]
  generalize strL f.text = a1
  generalize strL g.text = b1
  generalize ((f.kind : Nat) : Int) = a2
  generalize ((g.kind : Nat) : Int) = b2
  go_simp
  cases h1 : (a1.toList == b1.toList) <;> cases h2 : (a2 == b2) <;> simp_all
theorem run_neq_tok (f g : Tok) (W : World) : (binOp .neq 43 (.agg #[.int .i64 (f.kind : Nat), .string (strL f.text)]) (.agg #[.int .i64 (g.kind : Nat), .string (strL g.text)])).run Tryd.prog W = .ok (.bool (!decide (f = g))) W := by
  rw [run_neq_struct, run_equal_tok]; rfl
theorem join_step (l : List Tok) (k : Nat) (f : Tok) (h : l[k]? = some f) : joinL (l.take (k + 1)) = joinL (l.take k) ++ f.text := by
  unfold joinL
  rw [List.take_add_one, h]; simp
theorem join_le (l : List Tok) (k : Nat) : (joinL (l.take k)).length ≤ (joinL l).length := by
  have : joinL l = joinL (l.take k) ++ joinL (l.drop k) := by unfold joinL; rw [← List.flatten_append, ← List.map_append, List.take_append_drop]
  rw [this, List.length_append]; omega
theorem text_le (l : List Tok) (k : Nat) (f : Tok) (h : l[k]? = some f) : (joinL (l.take k)).length + f.text.length ≤ (joinL l).length := by
  rw [← List.length_append, ← join_step l k f h]; exact join_le l (k + 1)
end Go.Proofs.YtgponokcigapaaaDoor
namespace Go.Proofs.YtgponokcigapaaaDoor
open Go.ChangeShapes Go.WideShapes Go.ChangeAt Go.RowKit
open TokP

set_option maxHeartbeats 1000000 in
theorem clone_any (s : ByteArray) (w : World) (hs : s.size ≤ 1000000) : Calls Tryd.prog 34 #[.string s] w fun e w' => e = .returned (.string s) ∧ Below w.heap.size w w' := by
  have cC := Tryd.stringslite_Clone s w (by omega)
  go_enter Tryd.func34, Tryd.ntmps34
  go_wp2_with (go_at_call 57; refine cC.mono ?_; rintro e w' ⟨rfl, hb⟩)
  go_ret
  exact ⟨rfl, hb⟩
theorem front_take (l : List UInt8) : l.take (frontL l).text.length = (frontL l).text := by
  have h := front_pre l
  have h2 : l.take (frontL l).text.length = ((frontL l).text ++ l.drop (frontL l).text.length).take (frontL l).text.length := by rw [h]
  rw [h2, List.take_left' rfl]
/-- What is left of the string, and the tokens that have been read. -/
structure Sc (w0 w : World) (L S : List UInt8) (d : List Tok) (v : Value) (m : Nat) : Prop where
  all : d ++ scanL S = scanL L
  few : d.length + S.length ≤ m
  bel : Below w0.heap.size w0 w
  own : w.ownsRow w0.heap.size 43 2 v d.length (toksV d)
theorem Sc.step {w0 w w' : World} {L S : List UInt8} {d : List Tok} {v : Value} {m : Nat} (h : Sc w0 w L S d v m) (hb : Below w.heap.size w w') : Sc w0 w' L S d v m :=
  ⟨h.all, h.few, h.bel.trans (hb.mono h.bel.size), own_below h.own hb⟩
theorem Sc.next {w0 w w' : World} {L S : List UInt8} {d : List Tok} {v v' : Value} {m : Nat} (h : Sc w0 w L S d v m) (hS : S ≠ []) (o : Obj) (hg : (w.alloc o).grownBy w' v.ownBlock) (ho : w'.ownsRow w0.heap.size 43 2 v' (d ++ [frontL S]).length (toksV (d ++ [frontL S]))) :
    Sc w0 w' L (S.drop (frontL S).text.length) (d ++ [frontL S]) v' m := by
  refine ⟨?_, ?_, ?_, ho⟩
  · rw [List.append_assoc, List.singleton_append, ← scan_cons S hS]; exact h.all
  · have := h.few
    have := List.length_pos_iff.2 (front_pos S hS)
    have := front_le S
    rw [List.length_append, List.length_drop, List.length_singleton]
    omega
  · exact (h.bel.alloc h.bel.size o).grown hg (by have := h.bel.size; rw [World.size_alloc]; omega) (fun k e => (h.own.lt k e).1)
def strSize : Value → Nat
  | .string s => s.size
  | _ => 0
theorem front_parts (A : ByteArray) : (A.extract 0 (frontL A.data.toList).text.length) = strL (frontL A.data.toList).text ∧ (A.extract (frontL A.data.toList).text.length A.size) = strL (A.data.toList.drop (frontL A.data.toList).text.length) := by
  have h := front_le A.data.toList
  rw [← size_list] at h
  refine ⟨bytes_is ?_, bytes_is ?_⟩
  · rw [part_start A _ h, front_take]; rfl
  · rw [part_rest A _ h]; rfl
set_option maxRecDepth 100000 in
set_option maxHeartbeats 2000000 in
theorem scan_any (s : ByteArray) (hs : s.size ≤ 1000000) (w : World) :
    Calls Tryd.prog 26 #[.string s] w fun e w' => ∃ a c, e = .returned (.slice a (scanL s.data.toList).length c) ∧ OwnF w' (.slice a (scanL s.data.toList).length c) (scanL s.data.toList) ∧ Below w.heap.size w w' := by
  have cC := clone_any s w hs
  have HZ := Lib.hid (size_list s)
  go_enter Tryd.func26, Tryd.ntmps26
  go_wp2_with (go_at_call 34; with_reducible refine cC.mono ?_; rintro e w1 ⟨rfl, hb1⟩; clear cC)
  have HST := Lib.hid (show Sc w w1 s.data.toList s.data.toList [] (.slice none 0 0) s.size from ⟨rfl, by rw [← HZ.out]; simp, hb1, ⟨rfl, .inl ⟨rfl, rfl⟩⟩⟩)
  clear hb1
  go_loopw [3, 4] (fun x fs wr => ∃ (d : List Tok) (A : ByteArray) (m : Nat), x = .string A ∧ d.length = m ∧ A.size ≤ s.size ∧ ∃ a c, fs = .slice a m c ∧ Hid (Sc w wr s.data.toList A.data.toList d fs s.size)) (fun x _ _ => strSize x)
  case atStart => exact ⟨[], s, 0, rfl, rfl, Nat.le_refl _, none, 0, rfl, HST⟩
  case round =>
    obtain ⟨d, A, m, rfl, hm, hsz, a, c, rfl, hst⟩ := hrel
    have hA := size_list A
    by_cases h0 : A.data.toList = []
    · have hall := Lib.hid (show d = scanL s.data.toList by rw [← hst.out.all, h0, scan_nil, List.append_nil])
      obtain rfl : A = ⟨#[]⟩ := bytes_is h0
      clear hA h0
      go_wp2_with fail
      go_ret
      have h := hall.out
      rw [← h]
      subst hm
      exact ⟨a, c, rfl, ⟨_, hst.out.own⟩, hst.out.bel⟩
    · have hne : A.toList.isEmpty = false := by
        rw [ByteArray.toList_eq]
        cases hl : A.data.toList with
        | nil => exact absurd hl h0
        | cons _ _ => rfl
      have hpos : 0 < A.size := by rw [hA]; exact List.length_pos_iff.2 h0
      have cF := first_any A (by omega) hpos
      obtain ⟨e1, e2⟩ := front_parts A
      have hle := front_le A.data.toList
      have hfp := List.length_pos_iff.2 (front_pos _ h0)
      rw [← hA] at hle
      have hdm : m ≤ 1000000 := by have := hst.out.few; rw [hm] at this; omega
      have hbz := hst.out.bel.size
      have HN := Lib.hid (fun (v' : Value) (w' : World) => hst.out.next (v' := v') (w' := w') h0)
      generalize hr : A.data.toList.drop (frontL A.data.toList).text.length = r at e2 HN
      have hrl : r.length < A.size := by rw [← hr, List.length_drop, ← hA]; omega
      generalize frontL A.data.toList = f at cF e1 e2 hle HN hr hfp
      generalize hn : f.text.length = n at cF e1 e2 hle hr hfp
      have R1 := run_slice_to A n (n : Int) rfl hle
      have R2 := run_slice_from A n (n : Int) rfl hle
      rw [e1] at R1
      rw [e2] at R2
      have hT : (strL r).size < A.size := by rw [strL_size]; exact hrl
      have HT : Hid ((strL r).data.toList = r) := rfl
      generalize strL r = T at R2 hT HT
      have HM := Lib.hid hm
      clear e1 e2 hr hn hle hA hpos hrl h0 hfp hm
      go_wp2_with (first
        | (go_at_call 43; with_reducible refine (cF _).mono ?_; rintro e w2 ⟨rfl, rfl⟩; clear cF)
        | (at_builtin; refine wpList_appF (by rfl) (.tmp 16) (.tmp 22) rfl rfl w.heap.size f rfl rfl hst.out.own HM.out hbz hdm ?_; intro a2 c2 w5 h2 g2; replace h2 := Lib.hid h2; replace g2 := Lib.hid g2))
      go_roundw
      case rel =>
        have hn := HN.out _ _ _ g2.out h2.out
        rw [← HT.out] at hn
        exact ⟨d ++ [f], T, m + 1, rfl, by rw [List.length_append, HM.out]; rfl, by omega, a2, c2, rfl, Lib.hid hn⟩
      case measure => exact hT
end Go.Proofs.YtgponokcigapaaaDoor
namespace Go.Proofs.YtgponokcigapaaaDoor.TokP

/-- No byte that p holds of stands first. -/
def HeadNot (p : UInt8 → Bool) (b : List UInt8) : Prop := ∀ c r, b = c :: r → p c = false
/-- A comment, a quoted string or a literal that is not closed. -/
def Unclosed (t : Tok) : Prop := t.kind = 7 ∧ ∃ c r, t.text = c :: r ∧ opens c = true
theorem headNot_nil (p : UInt8 → Bool) : HeadNot p [] := fun _ _ h => absurd h (by simp)
theorem headNot_cons {p : UInt8 → Bool} {c : UInt8} (r : List UInt8) (h : p c = false) : HeadNot p (c :: r) := fun d s e => by
  obtain ⟨rfl, _⟩ := List.cons.inj e
  exact h
theorem while_all {p : UInt8 → Bool} {a b : List UInt8} (h : a.takeWhile p = a) (hb : HeadNot p b) : (a ++ b).takeWhile p = a := by
  induction a with
  | nil =>
    cases b with
    | nil => rfl
    | cons c r => rw [List.nil_append, List.takeWhile_cons_of_neg (by rw [hb c r rfl]; exact Bool.false_ne_true)]
  | cons c t ih =>
    by_cases hc : p c = true
    · rw [List.takeWhile_cons_of_pos hc] at h
      rw [List.cons_append, List.takeWhile_cons_of_pos hc, ih (List.cons.inj h).2]
    · rw [List.takeWhile_cons_of_neg hc] at h
      exact absurd h (by simp)
theorem front_app2 (a b : List UInt8) (ha : a ≠ []) (h6 : (frontL a).kind = 6 → HeadNot blank b) (h1 : (frontL a).kind = 1 → HeadNot atomB b) (h7 : ¬ Unclosed (frontL a)) : frontL (a ++ b) = frontL a := by
  by_cases hlt : (frontL a).text.length < a.length
  · exact front_app a b ha (.inl hlt)
  · have hle := front_le a
    have htx : (frontL a).text = a := by
      have h := front_pre a
      rw [List.drop_eq_nil_of_le (by omega), List.append_nil] at h
      exact h
    cases a with
    | nil => exact absurd rfl ha
    | cons c t =>
      by_cases hb : blank c = true
      · have e : frontL (c :: t) = ⟨6, (c :: t).takeWhile blank⟩ := by rw [frontL, if_pos hb]
        rw [e] at htx h6
        have h6 := h6 rfl
        have : frontL (c :: t ++ b) = ⟨6, (c :: t ++ b).takeWhile blank⟩ := by rw [List.cons_append, frontL, if_pos hb]
        rw [this, e, while_all htx h6]
        exact congrArg (Tok.mk 6) htx.symm
      · by_cases ho : opens c = true
        · cases hc : closeL c t with
          | none =>
            have e : frontL (c :: t) = ⟨7, c :: t⟩ := by rw [frontL, if_neg hb, if_pos ho, hc]
            rw [e] at h7
            exact absurd ⟨rfl, c, t, rfl, ho⟩ h7
          | some n =>
            have e : frontL (c :: t) = ⟨kindO c, c :: t.take n⟩ := by rw [frontL, if_neg hb, if_pos ho, hc]
            refine front_app _ b ha (.inr ?_)
            rw [e]
            show kindO c ≠ 6 ∧ kindO c ≠ 1 ∧ kindO c ≠ 7
            unfold kindO
            repeat' split
            all_goals decide
        · by_cases hs : special c = true
          · rw [List.cons_append, frontL, frontL, if_neg hb, if_neg ho, if_pos hs, if_neg hb, if_neg ho, if_pos hs]
          · by_cases h4 : atomB c = true
            · have e : frontL (c :: t) = ⟨1, (c :: t).takeWhile atomB⟩ := by rw [frontL, if_neg hb, if_neg ho, if_neg hs, if_pos h4]
              rw [e] at htx h1
              have h1 := h1 rfl
              have : frontL (c :: t ++ b) = ⟨1, (c :: t ++ b).takeWhile atomB⟩ := by rw [List.cons_append, frontL, if_neg hb, if_neg ho, if_neg hs, if_pos h4]
              rw [this, e, while_all htx h1]
              exact congrArg (Tok.mk 1) htx.symm
            · rw [List.cons_append, frontL, frontL, if_neg hb, if_neg ho, if_neg hs, if_neg h4, if_neg hb, if_neg ho, if_neg hs, if_neg h4]
/-- What follows a string whose last token cannot go on. -/
def Ends (t : Tok) (b : List UInt8) : Prop := (t.kind = 6 → HeadNot blank b) ∧ (t.kind = 1 → HeadNot atomB b) ∧ ¬ Unclosed t
theorem scan_app (a b : List UInt8) (h : ∀ t, (scanL a).getLast? = some t → Ends t b) : scanL (a ++ b) = scanL a ++ scanL b := by
  induction a using scan_ind with
  | h0 => rfl
  | h1 a ha ih =>
    have hl := front_le a
    have hf : frontL (a ++ b) = frontL a := by
      by_cases hr : a.drop (frontL a).text.length = []
      · obtain ⟨e1, e2, e3⟩ := h (frontL a) (by rw [scan_cons a ha, hr]; rfl)
        exact front_app2 a b ha e1 e2 e3
      · have h1 := List.length_pos_iff.2 hr
        rw [List.length_drop] at h1
        exact front_app a b ha (.inl (by omega))
    have hd : (a ++ b).drop (frontL a).text.length = a.drop (frontL a).text.length ++ b := List.drop_append_of_le_length hl
    rw [scan_cons (a ++ b) (by simp [ha]), hf, hd, scan_cons a ha, ih ?_, List.cons_append]
    intro t ht
    refine h t ?_
    rw [scan_cons a ha, List.getLast?_cons, ht]; rfl
/-- An unclosed token is the last. -/
def LastU : List Tok → Prop
  | [] => True
  | t :: r => (Unclosed t → r = []) ∧ LastU r
theorem front_unclosed (s : List UInt8) (h : Unclosed (frontL s)) : s.drop (frontL s).text.length = [] := by
  cases s with
  | nil => rfl
  | cons c t =>
    obtain ⟨h7, d, r, hd, ho⟩ := h
    by_cases hb : blank c = true
    · rw [frontL, if_pos hb] at h7; simp at h7
    · by_cases hoc : opens c = true
      · cases hc : closeL c t with
        | none =>
          have e : frontL (c :: t) = ⟨7, c :: t⟩ := by rw [frontL, if_neg hb, if_pos hoc, hc]
          rw [e, List.drop_length]
        | some n =>
          have e : frontL (c :: t) = ⟨kindO c, c :: t.take n⟩ := by rw [frontL, if_neg hb, if_pos hoc, hc]
          rw [e] at h7
          unfold kindO at h7
          dsimp only at h7
          repeat' split at h7
          all_goals exact absurd h7 (by decide)
      · by_cases hs : special c = true
        · rw [frontL, if_neg hb, if_neg hoc, if_pos hs] at h7; simp at h7
        · by_cases h4 : atomB c = true
          · rw [frontL, if_neg hb, if_neg hoc, if_neg hs, if_pos h4] at h7; simp at h7
          · have e : frontL (c :: t) = ⟨7, [c]⟩ := by rw [frontL, if_neg hb, if_neg hoc, if_neg hs, if_neg h4]
            rw [e] at hd
            obtain ⟨rfl, _⟩ := List.cons.inj hd
            exact absurd ho hoc
theorem scan_last (s : List UInt8) : LastU (scanL s) := by
  induction s using scan_ind with
  | h0 => trivial
  | h1 s hs ih =>
    rw [scan_cons s hs]
    exact ⟨fun h => by rw [front_unclosed s h]; rfl, ih⟩
theorem last_filter (p : Tok → Bool) : ∀ l : List Tok, LastU l → LastU (l.filter p)
  | [], _ => trivial
  | t :: r, h => by
    rw [List.filter_cons]
    split
    · exact ⟨fun hu => by rw [h.1 hu]; rfl, last_filter p r h.2⟩
    · exact last_filter p r h.2
end Go.Proofs.YtgponokcigapaaaDoor.TokP
namespace Go.Proofs.YtgponokcigapaaaDoor.AdrP
open TokP

structure Adr where
  name : List UInt8
  loc : List UInt8
  dom : List UInt8
deriving DecidableEq
/-- The token is the special c. -/
def isS (t : Tok) (c : UInt8) : Bool := t.kind == 4 && t.text == [c]
theorem isS_iff (t : Tok) (c : UInt8) : isS t c = true ↔ t = ⟨4, [c]⟩ := by
  unfold isS
  rw [Bool.and_eq_true, beq_iff_eq, beq_iff_eq]
  constructor
  · rintro ⟨h1, h2⟩; cases t; simp_all
  · rintro rfl; exact ⟨rfl, rfl⟩
theorem isS_ne {t : Tok} {c d : UInt8} (h : isS t c = true) (hd : c ≠ d) : isS t d = false := by
  rw [isS_iff] at h
  rw [← Bool.not_eq_true, isS_iff, h]
  intro e
  injection e with _ e
  exact hd (List.cons.inj e).1
/-- The tokens that are neither white space nor comments. -/
def bareT (l : List Tok) : List Tok := l.filter (fun t => t.kind != 6 && t.kind != 3)
theorem bare_app (a b : List Tok) : bareT (a ++ b) = bareT a ++ bareT b := List.filter_append ..
/-- Pieces; inside: inside angle brackets; now: the piece that has begun. -/
def pcs : Bool → List Tok → List Tok → List (List Tok)
  | _, now, [] => [now]
  | true, now, t :: r => pcs (!isS t 62) (now ++ [t]) r
  | false, now, t :: r =>
    if isS t 44 = true ∨ isS t 59 = true then now :: pcs false [] r
    else pcs (isS t 60) (if isS t 58 = true then [] else now ++ [t]) r
/-- Whether an angle bracket is open at the end. -/
def ins : Bool → List Tok → Bool
  | b, [] => b
  | true, t :: r => ins (!isS t 62) r
  | false, t :: r => ins (isS t 60) r
theorem ins_bare : ∀ (l : List Tok) (b : Bool), ins b (bareT l) = ins b l
  | [], _ => rfl
  | t :: r, b => by
    have key : ∀ c, t.kind ≠ 4 → isS t c = false := fun c h => by unfold isS; rw [beq_eq_false_iff_ne.2 h]; rfl
    unfold bareT
    rw [List.filter_cons]
    have ih := fun b => ins_bare r b
    unfold bareT at ih
    by_cases h : (t.kind != 6 && t.kind != 3) = true
    · rw [if_pos h]
      cases b with
      | true => rw [ins, ins, ih]
      | false => rw [ins, ins, ih]
    · rw [if_neg h, ih]
      have hk : t.kind ≠ 4 := fun e => h (by rw [e]; rfl)
      cases b with
      | true => rw [ins, key 62 hk]; rfl
      | false => rw [ins, key 60 hk]
theorem pcs_app : ∀ (a b : List Tok) (i : Bool) (now : List Tok) (t : Tok), (isS t 44 = true ∨ isS t 59 = true) → ins i a = false → pcs i now (a ++ t :: b) = pcs i now a ++ pcs false [] b
  | [], b, i, now, t, ht, hi => by
    have : i = false := hi
    subst this
    have e : pcs false now (t :: b) = if isS t 44 = true ∨ isS t 59 = true then now :: pcs false [] b else pcs (isS t 60) (if isS t 58 = true then [] else now ++ [t]) b := by rw [pcs]
    rw [List.nil_append, e, if_pos ht]; rfl
  | x :: a, b, i, now, t, ht, hi => by
    cases i with
    | true =>
      rw [List.cons_append, pcs, pcs, pcs_app a b _ _ t ht (by rw [ins] at hi; exact hi)]
    | false =>
      rw [ins] at hi
      rw [List.cons_append, pcs, pcs]
      by_cases hx : isS x 44 = true ∨ isS x 59 = true
      · have h60 : isS x 60 = false := hx.elim (fun h => isS_ne h (by decide)) (fun h => isS_ne h (by decide))
        rw [h60] at hi
        rw [if_pos hx, if_pos hx, pcs_app a b _ _ t ht hi]; rfl
      · rw [if_neg hx, if_neg hx, pcs_app a b _ _ t ht hi]
/-! ### Addr-specs and addresses -/
def wordT (t : Tok) : Bool := t.kind == 1 || t.kind == 2
def atomT (t : Tok) : Bool := t.kind == 1
/-- Words separated by dots: what they say; w: a word must follow. -/
def dotsT (ok : Tok → Bool) : Bool → List Tok → Option (List UInt8)
  | true, [] => none
  | false, [] => some []
  | true, t :: r => if ok t = true then (dotsT ok false r).map (valueL t ++ ·) else none
  | false, t :: r => if isS t 46 = true then (dotsT ok true r).map (46 :: ·) else none
def domT (l : List Tok) : Option (List UInt8) := match l with
  | [t] => if t.kind = 5 then some (t.text.filter (fun c => !TokP.blank c)) else dotsT atomT true l
  | _ => dotsT atomT true l
def upToS (c : UInt8) (l : List Tok) : List Tok := l.takeWhile (fun t => !isS t c)
def fromS (c : UInt8) (l : List Tok) : List Tok := l.dropWhile (fun t => !isS t c)
def specT (l : List Tok) : Option Adr := match fromS 64 l with
  | [] => none
  | _ :: d => match dotsT wordT true (upToS 64 l), domT d with
    | some x, some y => some ⟨[], x, y⟩
    | _, _ => none
def nameT (t : Tok) : Bool := wordT t || isS t 46
def nameR : List Tok → List UInt8
  | [] => []
  | t :: r => (if isS t 46 = true then [] else [32]) ++ valueL t ++ nameR r
def nameL : List Tok → List UInt8
  | [] => []
  | t :: r => valueL t ++ nameR r
/-- Behind a route, if there is one. -/
def routed (m : List Tok) : List Tok := match m with
  | [] => []
  | t :: _ => if isS t 64 = true then (match fromS 58 m with
    | [] => m
    | _ :: r => r) else m
def oneT (l : List Tok) : Option Adr := match fromS 60 l with
  | [] => specT l
  | _ :: r => if (upToS 60 l).all nameT = true ∧ (fromS 62 r).length = 1 then (specT (routed (upToS 62 r))).map (fun a => { a with name := nameL (upToS 60 l) }) else none
def parseP (p : List (List Tok)) : List Adr × Bool := (p.filterMap oneT, p.all (fun x => x.isEmpty || (oneT x).isSome))
def parseA (s : List UInt8) : List Adr × Bool := parseP (pcs false [] (bareT (scanL s)))
theorem parse_app (p q : List (List Tok)) : parseP (p ++ q) = ((parseP p).1 ++ (parseP q).1, (parseP p).2 && (parseP q).2) := by
  unfold parseP
  rw [List.filterMap_append, List.all_append]
/-! ### AddrBoth -/
/-- Something is open at the end. -/
def openL (s : List UInt8) : Prop := (∃ t ∈ scanL s, Unclosed t) ∨ ins false (scanL s) = true
theorem scan_comma (s t : List UInt8) (h : ∀ u ∈ scanL s, ¬ Unclosed u) : scanL (s ++ 44 :: t) = scanL s ++ ⟨4, [44]⟩ :: scanL t := by
  rw [scan_app s (44 :: t) (fun u hu => ⟨fun _ => headNot_cons t (by decide), fun _ => headNot_cons t (by decide), h u (List.mem_of_getLast? hu)⟩)]
  rw [scan_cons (44 :: t) (by simp)]
  rfl
theorem parse_both (s t : List UInt8) (h : ¬ openL s) : parseA (s ++ 44 :: t) = ((parseA s).1 ++ (parseA t).1, (parseA s).2 && (parseA t).2) := by
  have h1 : ∀ u ∈ scanL s, ¬ Unclosed u := fun u hu hn => h (.inl ⟨u, hu, hn⟩)
  have h2 : ins false (scanL s) = false := by rw [← Bool.not_eq_true]; exact fun e => h (.inr e)
  unfold parseA
  rw [scan_comma s t h1, bare_app]
  have e : bareT ((⟨4, [44]⟩ : Tok) :: scanL t) = ⟨4, [44]⟩ :: bareT (scanL t) := rfl
  rw [e, pcs_app _ _ _ _ _ (.inl rfl) (by rw [ins_bare]; exact h2), parse_app]
/-! ### AddrBlanks -/
/-- A comment that is put between tokens. -/
def cmt : List UInt8 := [40, 120, 32, 34, 121, 41]
def blanksL : List (Bool × Tok) → List UInt8
  | [] => []
  | (c, t) :: r => (if c = true then cmt else []) ++ (32 :: (t.text ++ blanksL r))
theorem blanks_head (l : List (Bool × Tok)) : HeadNot atomB (blanksL l) := by
  cases l with
  | nil => exact headNot_nil _
  | cons x r =>
    obtain ⟨c, t⟩ := x
    cases c with
    | true => exact headNot_cons _ (by decide)
    | false => exact headNot_cons _ (by decide)
theorem scan_blanks : ∀ l : List (Bool × Tok), (∀ x ∈ l, x.2.text ≠ [] ∧ scanL x.2.text = [x.2] ∧ x.2.kind ≠ 6 ∧ x.2.kind ≠ 3) → LastU (l.map Prod.snd) → bareT (scanL (blanksL l)) = l.map Prod.snd
  | [], _, _ => rfl
  | (c, t) :: r, h, hu => by
    obtain ⟨h1, h2, h3, h4⟩ := h (c, t) (by simp)
    have h1 : t.text ≠ [] := h1
    have h2 : scanL t.text = [t] := h2
    have h3 : t.kind ≠ 6 := h3
    have h4 : t.kind ≠ 3 := h4
    have ih := scan_blanks r (fun x hx => h x (by simp [hx])) hu.2
    have hb : HeadNot TokP.blank (t.text ++ blanksL r) := by
      cases ht : t.text with
      | nil => exact absurd ht h1
      | cons d u =>
        refine headNot_cons _ ?_
        rw [← Bool.not_eq_true]
        intro hd
        have hk := ((front_kind d u).1).2 hd
        rw [ht, scan_cons (d :: u) (by simp)] at h2
        have := (List.cons.inj h2).1
        rw [this] at hk
        exact h3 hk
    have e1 : scanL (t.text ++ blanksL r) = t :: scanL (blanksL r) := by
      by_cases hn : Unclosed t
      · have hr : r = [] := by
          have := hu.1 hn
          simpa using this
        subst hr
        rw [show blanksL [] = [] from rfl, List.append_nil, h2]; rfl
      · rw [scan_app _ _ (fun u hu' => by
          rw [h2] at hu'
          obtain rfl : t = u := by simpa using hu'
          exact ⟨fun e => absurd e h3, fun _ => blanks_head r, hn⟩), h2]
        rfl
    have e2 : scanL (32 :: (t.text ++ blanksL r)) = ⟨6, [32]⟩ :: t :: scanL (blanksL r) := by
      have : scanL ([32] ++ (t.text ++ blanksL r)) = scanL [32] ++ scanL (t.text ++ blanksL r) := scan_app [32] _ (fun u hu' => by
        obtain rfl : (⟨6, [32]⟩ : Tok) = u := by simpa [show scanL [32] = [⟨6, [32]⟩] from by decide] using hu'
        exact ⟨fun _ => hb, fun e => absurd e (by decide), fun e => absurd e.1 (by decide)⟩)
      rw [e1] at this
      exact this
    have e3 : bareT (⟨6, [32]⟩ :: t :: scanL (blanksL r)) = t :: bareT (scanL (blanksL r)) := by
      unfold bareT
      rw [List.filter_cons, if_neg (by decide), List.filter_cons, if_pos (by simp [h3, h4])]
    have e4 : bareT (scanL (blanksL ((c, t) :: r))) = t :: bareT (scanL (blanksL r)) := by
      cases c with
      | false =>
        show bareT (scanL (32 :: (t.text ++ blanksL r))) = _
        rw [e2, e3]
      | true =>
        show bareT (scanL (cmt ++ (32 :: (t.text ++ blanksL r)))) = _
        rw [scan_app cmt _ (fun u hu' => by
          obtain rfl : (⟨3, cmt⟩ : Tok) = u := by simpa [show scanL cmt = [⟨3, cmt⟩] from by decide] using hu'
          exact ⟨fun e => absurd e (by decide), fun e => absurd e (by decide), fun e => absurd e.1 (by decide)⟩), e2, bare_app, e3]
        rfl
    rw [e4, ih]
    rfl
theorem parse_blanks (s : List UInt8) (l : List (Bool × Tok)) (hl : l.map Prod.snd = bareT (scanL s)) : parseA (blanksL l) = parseA s := by
  unfold parseA
  rw [scan_blanks l (fun x hx => ?_) (by rw [hl]; exact last_filter _ _ (scan_last s)), hl]
  have hm : x.2 ∈ bareT (scanL s) := by rw [← hl]; exact List.mem_map_of_mem hx
  unfold bareT at hm
  obtain ⟨hm, hk⟩ := List.mem_filter.1 hm
  obtain ⟨a1, a2, _⟩ := scan_mem s x.2 hm
  simp only [Bool.and_eq_true, bne_iff_ne] at hk
  exact ⟨a1, a2, hk.1, hk.2⟩
end Go.Proofs.YtgponokcigapaaaDoor.AdrP
namespace Go.Proofs.YtgponokcigapaaaDoor.AdrP
open TokP

/-! ### Message ids -/
/-- Message ids; o: what stands behind the last angle bracket, if an id may still come of it. -/
def idsF : Option (List UInt8) → List UInt8 → List (List UInt8)
  | _, [] => []
  | none, c :: t => if c = 60 then idsF (some []) t else idsF none t
  | some x, c :: t =>
    if c = 60 then idsF (some []) t
    else if c = 62 then (if 0 < x.length ∧ x.length ≤ 250 then x :: idsF none t else idsF none t)
    else if c.toNat ≤ 32 ∨ c = 127 then idsF none t
    else idsF (some (x ++ [c])) t
def idsL (s : List UInt8) : List (List UInt8) := idsF none s
def idOk (i : List UInt8) : Prop := 0 < i.length ∧ i.length ≤ 250 ∧ ∀ c ∈ i, 32 < c.toNat ∧ c ≠ 127 ∧ c ≠ 60 ∧ c ≠ 62
def idText : List (List UInt8 × List UInt8) → List UInt8 → List UInt8
  | [], z => z
  | (b, i) :: r, z => b ++ (60 :: (i ++ (62 :: idText r z)))
theorem ids_skip : ∀ (b x : List UInt8), 60 ∉ b → idsF none (b ++ x) = idsF none x
  | [], _, _ => rfl
  | c :: b, x, h => by
    simp only [List.mem_cons, not_or] at h
    rw [List.cons_append, idsF, if_neg (fun e => h.1 e.symm), ids_skip b x h.2]
theorem ids_in : ∀ (i acc x : List UInt8), (∀ c ∈ i, 32 < c.toNat ∧ c ≠ 127 ∧ c ≠ 60 ∧ c ≠ 62) → 0 < (acc ++ i).length → (acc ++ i).length ≤ 250 → idsF (some acc) (i ++ 62 :: x) = (acc ++ i) :: idsF none x
  | [], acc, x, _, h1, h2 => by
    rw [List.append_nil] at h1 h2 ⊢
    rw [List.nil_append, idsF, if_neg (by decide), if_pos rfl, if_pos ⟨h1, h2⟩]
  | c :: i, acc, x, h, h1, h2 => by
    obtain ⟨a1, a2, a3, a4⟩ := h c (by simp)
    rw [List.cons_append, idsF, if_neg a3, if_neg a4, if_neg (by rintro (e | e); omega; exact a2 e)]
    have e : acc ++ c :: i = (acc ++ [c]) ++ i := by simp
    rw [e] at h1 h2 ⊢
    exact ids_in i (acc ++ [c]) x (fun d hd => h d (by simp [hd])) h1 h2
/-- AddrIds. -/
theorem ids_text : ∀ (l : List (List UInt8 × List UInt8)) (z : List UInt8), (∀ x ∈ l, 60 ∉ x.1 ∧ idOk x.2) → 60 ∉ z → idsL (idText l z) = l.map Prod.snd
  | [], z, _, hz => by
    show idsF none z = []
    have := ids_skip z [] hz
    rw [List.append_nil] at this
    exact this
  | (b, i) :: r, z, h, hz => by
    obtain ⟨h1, h2, h3, h4⟩ := h (b, i) (by simp)
    show idsF none (b ++ (60 :: (i ++ (62 :: idText r z)))) = _
    rw [ids_skip _ _ h1, idsF, if_pos rfl, ids_in i [] _ h4 h2 h3]
    exact congrArg (i :: ·) (ids_text r z (fun x hx => h x (by simp [hx])) hz)
/-! ### Dot-atoms, quoted strings, literals -/
/-- Atoms separated by dots; b: a byte of an atom stands before. -/
def dotA : Bool → List UInt8 → Bool
  | b, [] => b
  | b, c :: t => if atomB c = true then dotA true t else if c = 46 ∧ b = true then dotA false t else false
theorem dot_head (s : List UInt8) (h : dotA false s = true) : ∃ c t, s = c :: t ∧ atomB c = true ∧ dotA true t = true := by
  cases s with
  | nil => exact absurd h (by decide)
  | cons c t =>
    rw [dotA] at h
    split at h
    · rename_i ha; exact ⟨c, t, rfl, ha, h⟩
    · split at h
      · rename_i hb; exact absurd hb.2 Bool.false_ne_true
      · exact absurd h Bool.false_ne_true
theorem dot_skip (s : List UInt8) (h : dotA true s = true) : dotA true (s.drop (s.takeWhile atomB).length) = true := by
  induction s with
  | nil => exact h
  | cons c t ih =>
    by_cases hc : atomB c = true
    · rw [dotA, if_pos hc] at h
      rw [List.takeWhile_cons_of_pos hc, List.length_cons, List.drop_succ_cons]
      exact ih h
    · rw [List.takeWhile_cons_of_neg hc]; exact h
/-- Tokens that stand in an addr-spec. -/
def Fine (t : Tok) : Prop := t.kind = 1 ∨ t.kind = 2 ∨ t.kind = 5 ∨ t = ⟨4, [46]⟩ ∨ t = ⟨4, [64]⟩
theorem fine_not {t : Tok} (h : Fine t) {c : UInt8} (h1 : c ≠ 46) (h2 : c ≠ 64) : isS t c = false := by
  rw [← Bool.not_eq_true, isS_iff]
  rintro rfl
  rcases h with h | h | h | h | h
  · exact absurd h (by simp)
  · exact absurd h (by simp)
  · exact absurd h (by simp)
  · injection h with _ e; exact h1 (List.cons.inj e).1
  · injection h with _ e; exact h2 (List.cons.inj e).1
theorem fine_bare {t : Tok} (h : Fine t) : (t.kind != 6 && t.kind != 3) = true := by
  rcases h with h | h | h | rfl | rfl
  · rw [h]; rfl
  · rw [h]; rfl
  · rw [h]; rfl
  · rfl
  · rfl
theorem bare_fine (l : List Tok) (h : ∀ t ∈ l, Fine t) : bareT l = l := List.filter_eq_self.2 fun t ht => fine_bare (h t ht)
theorem fine_ends {t : Tok} (h : Fine t) {b : List UInt8} (hb : HeadNot atomB b) : TokP.Ends t b := by
  refine ⟨fun e => ?_, fun _ => hb, fun e => ?_⟩
  · rcases h with h | h | h | rfl | rfl
    · rw [h] at e; exact absurd e (by decide)
    · rw [h] at e; exact absurd e (by decide)
    · rw [h] at e; exact absurd e (by decide)
    · exact absurd e (by decide)
    · exact absurd e (by decide)
  · have e := e.1
    rcases h with h | h | h | rfl | rfl
    · rw [h] at e; exact absurd e (by decide)
    · rw [h] at e; exact absurd e (by decide)
    · rw [h] at e; exact absurd e (by decide)
    · exact absurd e (by decide)
    · exact absurd e (by decide)
/-- What a string of an addr-spec scans to. -/
def Good (ok : Tok → Bool) (s : List UInt8) : Prop := dotsT ok true (scanL s) = some s ∧ (∀ t ∈ scanL s, Fine t ∧ isS t 64 = false) ∧ s ≠ []
theorem dot_scan (ok : Tok → Bool) (hok : ∀ t : Tok, t.kind = 1 → ok t = true) : ∀ (n : Nat) (s : List UInt8), s.length ≤ n → dotA false s = true → Good ok s := by
  intro n
  induction n with
  | zero =>
    intro s h hp
    obtain rfl : s = [] := List.eq_nil_of_length_eq_zero (by omega)
    exact absurd hp (by decide)
  | succ n ih =>
    intro s h hp
    obtain ⟨c, t, rfl, hc, ht⟩ := dot_head s hp
    have hr := dot_skip t ht
    have hpre := front_pre (c :: t)
    unfold Good
    rw [scan_cons _ (by simp), front_atom c t hc] at *
    have hn : ∀ x, (t.drop (t.takeWhile atomB).length).head? = some x → atomB x = false := fun x hx => head_drop atomB t x hx
    have hl : (t.drop (t.takeWhile atomB).length).length ≤ t.length := by rw [List.length_drop]; omega
    have hd : (c :: t).drop ((c :: t).takeWhile atomB).length = t.drop (t.takeWhile atomB).length := by
      rw [List.takeWhile_cons_of_pos hc, List.length_cons, List.drop_succ_cons]
    dsimp only at hpre ⊢
    rw [hd] at hpre ⊢
    generalize (c :: t).takeWhile atomB = A at hpre ⊢
    generalize t.drop (t.takeWhile atomB).length = r at hr hn hl hpre ⊢
    have hv : valueL ⟨1, A⟩ = A := rfl
    have hfa : Fine (⟨1, A⟩ : Tok) ∧ isS (⟨1, A⟩ : Tok) 64 = false := ⟨.inl rfl, rfl⟩
    cases r with
    | nil =>
      rw [List.append_nil] at hpre
      refine ⟨?_, ?_, by simp⟩
      · rw [scan_nil, dotsT, if_pos (hok _ rfl), dotsT, hv, hpre]; simp
      · intro u hu
        rw [scan_nil] at hu
        obtain rfl := List.mem_singleton.1 hu
        exact hfa
    | cons x r =>
      have hx := hn x rfl
      rw [dotA, if_neg (by rw [hx]; exact Bool.false_ne_true)] at hr
      split at hr
      · rename_i hx2
        obtain rfl := hx2.1
        have hs : scanL (46 :: r) = ⟨4, [46]⟩ :: scanL r := by rw [scan_cons (46 :: r) (by simp)]; rfl
        obtain ⟨i1, i2, _⟩ := ih r (by rw [List.length_cons] at h hl; omega) hr
        rw [hs]
        refine ⟨?_, ?_, by simp⟩
        · rw [dotsT, if_pos (hok _ rfl), dotsT, if_pos (show isS (⟨4, [46]⟩ : Tok) 46 = true from rfl), i1, hv, ← hpre]; simp
        · intro u hu
          rcases List.mem_cons.1 hu with rfl | hu
          · exact hfa
          · rcases List.mem_cons.1 hu with rfl | hu
            · exact ⟨.inr (.inr (.inr (.inl rfl))), rfl⟩
            · exact i2 u hu
      · exact absurd hr Bool.false_ne_true
/-- Between quotes. -/
theorem quoted_one (s : List UInt8) : scanL (34 :: (escL s ++ [34])) = [⟨2, 34 :: (escL s ++ [34])⟩] ∧ valueL ⟨2, 34 :: (escL s ++ [34])⟩ = s := by
  have hc : closeL 34 (escL s ++ [34]) = some ((escL s).length + 1) := close_esc s
  have hf : frontL (34 :: (escL s ++ [34])) = ⟨2, 34 :: (escL s ++ [34])⟩ := by
    rw [frontL, if_neg (by decide), if_pos (by decide), hc]
    show (⟨kindO 34, 34 :: (escL s ++ [34]).take ((escL s).length + 1)⟩ : Tok) = _
    rw [List.take_of_length_le (by simp)]; rfl
  refine ⟨?_, ?_⟩
  · rw [scan_cons _ (by simp), hf, List.drop_length]; rfl
  · unfold valueL
    rw [if_pos ⟨.inl rfl, by simp⟩]
    show unescS false (escL s ++ [34]).dropLast = s
    rw [List.dropLast_concat, unesc_esc]
/-- How a local part is written. -/
def locW (s : List UInt8) : List UInt8 := if dotA false s = true then s else 34 :: (escL s ++ [34])
theorem loc_good (s : List UInt8) : dotsT wordT true (scanL (locW s)) = some s ∧ (∀ t ∈ scanL (locW s), Fine t ∧ isS t 64 = false) ∧ locW s ≠ [] ∧ scanL (locW s) ≠ [] := by
  by_cases h : dotA false s = true
  · obtain ⟨h1, h2, h3⟩ := dot_scan wordT (fun t ht => by unfold wordT; rw [ht]; rfl) s.length s (Nat.le_refl _) h
    unfold locW
    rw [if_pos h]
    exact ⟨h1, h2, h3, by rw [scan_cons s h3]; simp⟩
  · obtain ⟨h1, h2⟩ := quoted_one s
    unfold locW
    rw [if_neg h, h1]
    refine ⟨?_, ?_, by simp, by simp⟩
    · rw [dotsT, if_pos (show wordT (⟨2, 34 :: (escL s ++ [34])⟩ : Tok) = true from rfl), dotsT, h2]; simp
    · intro t ht
      obtain rfl := List.mem_singleton.1 ht
      exact ⟨.inr (.inl rfl), rfl⟩
/-- A literal. -/
def litOk (s : List UInt8) : Prop := ∃ b, s = 91 :: (b ++ [93]) ∧ ∀ c ∈ b, 32 < c.toNat ∧ c ≠ 127 ∧ c ≠ 91 ∧ c ≠ 93 ∧ c ≠ 92
theorem close_lit (b : List UInt8) (h : ∀ c ∈ b, 32 < c.toNat ∧ c ≠ 127 ∧ c ≠ 91 ∧ c ≠ 93 ∧ c ≠ 92) : closeS 93 false false 0 (b ++ [93]) = some (b.length + 1) := by
  induction b with
  | nil => rfl
  | cons c t ih =>
    obtain ⟨_, _, _, h4, h5⟩ := h c (by simp)
    rw [List.cons_append, closeS, if_neg h5, if_neg h4, if_neg (by simp), ih (fun d hd => h d (by simp [hd]))]
    simp
theorem lit_scan (s : List UInt8) (h : litOk s) : scanL s = [⟨5, s⟩] ∧ s.filter (fun c => !TokP.blank c) = s := by
  obtain ⟨b, rfl, hb⟩ := h
  have hc : closeL 91 (b ++ [93]) = some (b.length + 1) := close_lit b hb
  have hf : frontL (91 :: (b ++ [93])) = ⟨5, 91 :: (b ++ [93])⟩ := by
    rw [frontL, if_neg (by decide), if_pos (by decide), hc]
    show (⟨kindO 91, 91 :: (b ++ [93]).take (b.length + 1)⟩ : Tok) = _
    rw [List.take_of_length_le (by simp)]; rfl
  refine ⟨by rw [scan_cons _ (by simp), hf, List.drop_length]; rfl, ?_⟩
  rw [List.filter_eq_self]
  intro c hcm
  rcases List.mem_cons.1 hcm with rfl | hcm
  · decide
  · rcases List.mem_append.1 hcm with hcm | hcm
    · have h32 := (hb c hcm).1
      unfold TokP.blank
      simp only [Bool.not_eq_true', Bool.or_eq_false_iff, beq_eq_false_iff_ne]
      refine ⟨⟨⟨?_, ?_⟩, ?_⟩, ?_⟩
      all_goals
        rintro rfl
        exact absurd h32 (by decide)
    · obtain rfl := List.mem_singleton.1 hcm
      decide
/-- A domain. -/
def domOk (s : List UInt8) : Prop := dotA false s = true ∨ litOk s
theorem dom_good (s : List UInt8) (h : domOk s) : domT (scanL s) = some s ∧ (∀ t ∈ scanL s, Fine t) ∧ s ≠ [] ∧ scanL s ≠ [] := by
  rcases h with h | h
  · obtain ⟨h1, h2, h3⟩ := dot_scan atomT (fun t ht => by unfold atomT; rw [ht]; rfl) s.length s (Nat.le_refl _) h
    refine ⟨?_, fun t ht => (h2 t ht).1, h3, by rw [scan_cons s h3]; simp⟩
    unfold domT
    split
    · rename_i t he
      rw [if_neg ?_]
      · exact h1
      · intro e5
        rw [he, dotsT] at h1
        unfold atomT at h1
        rw [e5] at h1
        simp at h1
    · exact h1
  · obtain ⟨h1, h2⟩ := lit_scan s h
    have hne : s ≠ [] := by obtain ⟨b, rfl, _⟩ := h; simp
    rw [h1]
    refine ⟨?_, ?_, hne, by simp⟩
    · show (if (5 : Nat) = 5 then some (s.filter (fun c => !TokP.blank c)) else dotsT atomT true [⟨5, s⟩]) = some s
      rw [if_pos rfl, h2]
    · intro t ht
      obtain rfl := List.mem_singleton.1 ht
      exact .inr (.inr (.inl rfl))
end Go.Proofs.YtgponokcigapaaaDoor.AdrP
namespace Go.Proofs.YtgponokcigapaaaDoor.AdrP
open TokP

def specW (a : Adr) : List UInt8 := locW a.loc ++ 64 :: a.dom
def oneW (a : Adr) : List UInt8 := if a.name = [] then specW a else quoteL a.name ++ 32 :: 60 :: (specW a ++ [62])
def writeL : List Adr → List UInt8
  | [] => []
  | [a] => oneW a
  | a :: b :: r => oneW a ++ 44 :: 32 :: writeL (b :: r)
theorem upTo_at (c : UInt8) : ∀ (X : List Tok) (u : Tok) (D : List Tok), (∀ t ∈ X, isS t c = false) → isS u c = true → upToS c (X ++ u :: D) = X ∧ fromS c (X ++ u :: D) = u :: D
  | [], u, D, _, hu => by
    unfold upToS fromS
    rw [List.nil_append, List.takeWhile_cons_of_neg (by rw [hu]; simp), List.dropWhile_cons_of_neg (by rw [hu]; simp)]
    exact ⟨rfl, rfl⟩
  | t :: X, u, D, h, hu => by
    have ht := h t (by simp)
    obtain ⟨i1, i2⟩ := upTo_at c X u D (fun x hx => h x (by simp [hx])) hu
    unfold upToS at i1
    unfold fromS at i2
    unfold upToS fromS
    rw [List.cons_append, List.takeWhile_cons_of_pos (by rw [ht]; rfl), List.dropWhile_cons_of_pos (by rw [ht]; rfl), i1, i2]
    exact ⟨rfl, rfl⟩
theorem upTo_no (c : UInt8) : ∀ (X : List Tok), (∀ t ∈ X, isS t c = false) → fromS c X = []
  | [], _ => rfl
  | t :: X, h => by
    unfold fromS
    rw [List.dropWhile_cons_of_pos (by rw [h t (by simp)]; rfl)]
    exact upTo_no c X (fun x hx => h x (by simp [hx]))
theorem spec_scan (a : Adr) (h : domOk a.dom) : (∀ t ∈ scanL (specW a), Fine t) ∧ specT (scanL (specW a)) = some ⟨[], a.loc, a.dom⟩ ∧ (∃ t r, scanL (specW a) = t :: r ∧ isS t 64 = false) ∧ (∀ c r, specW a = c :: r → TokP.blank c = false) := by
  obtain ⟨l1, l2, l3, l4⟩ := loc_good a.loc
  obtain ⟨d1, d2, d3, d4⟩ := dom_good a.dom h
  have hs : scanL (specW a) = scanL (locW a.loc) ++ ⟨4, [64]⟩ :: scanL a.dom := by
    unfold specW
    rw [scan_app (locW a.loc) (64 :: a.dom) (fun t ht => fine_ends (l2 t (List.mem_of_getLast? ht)).1 (headNot_cons _ (by decide)))]
    rw [scan_cons (64 :: a.dom) (by simp)]
    rfl
  refine ⟨?_, ?_, ?_, ?_⟩
  · intro t ht
    rw [hs] at ht
    rcases List.mem_append.1 ht with ht | ht
    · exact (l2 t ht).1
    · rcases List.mem_cons.1 ht with rfl | ht
      · exact .inr (.inr (.inr (.inr rfl)))
      · exact d2 t ht
  · obtain ⟨u1, u2⟩ := upTo_at 64 (scanL (locW a.loc)) ⟨4, [64]⟩ (scanL a.dom) (fun t ht => (l2 t ht).2) rfl
    unfold specT
    rw [hs, u2, u1]
    dsimp only
    rw [l1, d1]
  · rw [hs]
    obtain ⟨t, r, he⟩ := List.exists_cons_of_ne_nil l4
    rw [he]
    exact ⟨t, _, rfl, (l2 t (by rw [he]; simp)).2⟩
  · intro c r hc
    unfold specW locW at hc
    split at hc
    · rename_i hd
      obtain ⟨d, t, he, ha, _⟩ := dot_head a.loc hd
      rw [he] at hc
      obtain ⟨rfl, _⟩ := List.cons.inj hc
      exact (atom_not d ha).1
    · obtain ⟨rfl, _⟩ := List.cons.inj hc
      decide
/-! ### Names -/
theorem nameR_cons (l : List Tok) (t : Tok) (h : isS t 46 = false) : nameR (t :: l) = 32 :: nameL (t :: l) := by
  rw [nameR, nameL, h]
  rfl
/-- What a name scans to. -/
def NameOk (w s : List UInt8) : Prop := nameL (bareT (scanL w)) = s ∧ (∀ t ∈ bareT (scanL w), t.kind = 1 ∨ t.kind = 2) ∧ bareT (scanL w) ≠ [] ∧ ∀ t, (scanL w).getLast? = some t → t.kind = 1 ∨ t.kind = 2
theorem kind_isS {t : Tok} (h : t.kind = 1 ∨ t.kind = 2) (c : UInt8) : isS t c = false := by
  unfold isS
  rcases h with h | h
  · rw [h]; rfl
  · rw [h]; rfl
theorem plain_name : ∀ (n : Nat) (s : List UInt8), s.length ≤ n → plainA false s = true → NameOk s s := by
  intro n
  induction n with
  | zero =>
    intro s h hp
    obtain rfl : s = [] := List.eq_nil_of_length_eq_zero (by omega)
    exact absurd hp (by decide)
  | succ n ih =>
    intro s h hp
    obtain ⟨c, t, rfl, hc, ht⟩ := plain_head s hp
    have hr := plain_skip t ht
    have hpre := front_pre (c :: t)
    unfold NameOk
    rw [scan_cons _ (by simp), front_atom c t hc] at *
    have hn : ∀ x, (t.drop (t.takeWhile atomB).length).head? = some x → atomB x = false := fun x hx => head_drop atomB t x hx
    have hl : (t.drop (t.takeWhile atomB).length).length ≤ t.length := by rw [List.length_drop]; omega
    have hd : (c :: t).drop ((c :: t).takeWhile atomB).length = t.drop (t.takeWhile atomB).length := by
      rw [List.takeWhile_cons_of_pos hc, List.length_cons, List.drop_succ_cons]
    dsimp only at hpre ⊢
    rw [hd] at hpre ⊢
    generalize (c :: t).takeWhile atomB = A at hpre ⊢
    generalize t.drop (t.takeWhile atomB).length = r at hr hn hl hpre ⊢
    have hv : valueL ⟨1, A⟩ = A := rfl
    cases r with
    | nil =>
      rw [List.append_nil] at hpre
      have e : bareT ((⟨1, A⟩ : Tok) :: scanL []) = [⟨1, A⟩] := rfl
      rw [e]
      refine ⟨?_, ?_, by simp, ?_⟩
      · rw [nameL, hv, nameR, List.append_nil, hpre]
      · intro u hu
        obtain rfl := List.mem_singleton.1 hu
        exact .inl rfl
      · intro u hu
        obtain rfl : (⟨1, A⟩ : Tok) = u := by simpa [scan_nil] using hu
        exact .inl rfl
    | cons x r =>
      have hx := hn x rfl
      rw [plainA, if_neg (by rw [hx]; exact Bool.false_ne_true)] at hr
      split at hr
      · rename_i hx2
        obtain rfl := hx2.1
        obtain ⟨y, u, hru, hy, _⟩ := plain_head r hr
        have hs : scanL (32 :: r) = ⟨6, [32]⟩ :: scanL r := by
          have hf : frontL (32 :: r) = ⟨6, [32]⟩ := by
            rw [hru, frontL, if_pos (by decide), List.takeWhile_cons_of_pos (by decide), List.takeWhile_cons_of_neg (by rw [(atom_not y hy).1]; exact Bool.false_ne_true)]
          rw [scan_cons (32 :: r) (by simp), hf]; rfl
        obtain ⟨i1, i2, i3, i4⟩ := ih r (by rw [List.length_cons] at h hl; omega) hr
        have e : bareT ((⟨1, A⟩ : Tok) :: scanL (32 :: r)) = ⟨1, A⟩ :: bareT (scanL r) := by rw [hs]; rfl
        rw [e]
        refine ⟨?_, ?_, by simp, ?_⟩
        · obtain ⟨v, q, hq⟩ := List.exists_cons_of_ne_nil i3
          rw [nameL, hv, hq, nameR_cons q v (kind_isS (i2 v (by rw [hq]; simp)) 46), ← hq, i1, hpre]
        · intro v hv'
          rcases List.mem_cons.1 hv' with rfl | hv'
          · exact .inl rfl
          · exact i2 v hv'
        · intro v hv'
          rw [hs] at hv'
          have hne : scanL r ≠ [] := by intro e'; rw [e'] at i3; exact i3 rfl
          refine i4 v ?_
          rw [List.getLast?_cons_cons, List.getLast?_cons] at hv'
          cases hlast : (scanL r).getLast? with
          | none => rw [List.getLast?_eq_none_iff] at hlast; exact absurd hlast hne
          | some z => rw [hlast] at hv'; exact hv'
      · exact absurd hr Bool.false_ne_true
theorem name_ok (s : List UInt8) : NameOk (quoteL s) s := by
  by_cases h : plainA false s = true
  · rw [(plain_alt s h).1]
    exact plain_name s.length s (Nat.le_refl _) h
  · obtain ⟨e, h1, h2, _⟩ := quote_one s (by simpa using h)
    unfold NameOk
    rw [h1]
    have eb : bareT [(⟨2, quoteL s⟩ : Tok)] = [⟨2, quoteL s⟩] := rfl
    rw [eb]
    refine ⟨?_, ?_, by simp, ?_⟩
    · rw [nameL, nameR, List.append_nil, h2]
    · intro u hu
      obtain rfl := List.mem_singleton.1 hu
      exact .inr rfl
    · intro u hu
      obtain rfl : (⟨2, quoteL s⟩ : Tok) = u := by simpa using hu
      exact .inr rfl
/-! ### One address -/
theorem pcs_plain : ∀ (T r now : List Tok), (∀ t ∈ T, isS t 44 = false ∧ isS t 59 = false ∧ isS t 58 = false ∧ isS t 60 = false) → pcs false now (T ++ r) = pcs false (now ++ T) r
  | [], r, now, _ => by rw [List.nil_append, List.append_nil]
  | t :: T, r, now, h => by
    obtain ⟨h1, h2, h3, h4⟩ := h t (by simp)
    rw [List.cons_append, pcs, if_neg (by rw [h1, h2]; simp), h4, h3, if_neg Bool.false_ne_true, pcs_plain T r (now ++ [t]) (fun x hx => h x (by simp [hx])), List.append_assoc]
    rfl
theorem pcs_in : ∀ (S r now : List Tok), (∀ t ∈ S, isS t 62 = false) → pcs true now (S ++ ⟨4, [62]⟩ :: r) = pcs false (now ++ (S ++ [⟨4, [62]⟩])) r
  | [], r, now, _ => by
    rw [List.nil_append, pcs, show isS ⟨4, [62]⟩ 62 = true from rfl]; rfl
  | t :: S, r, now, h => by
    rw [List.cons_append, pcs, h t (by simp), Bool.not_false, pcs_in S r (now ++ [t]) (fun x hx => h x (by simp [hx])), List.append_assoc]
    rfl
theorem ins_plain : ∀ (T r : List Tok), (∀ t ∈ T, isS t 60 = false) → ins false (T ++ r) = ins false r
  | [], _, _ => rfl
  | t :: T, r, h => by rw [List.cons_append, ins, h t (by simp), ins_plain T r (fun x hx => h x (by simp [hx]))]
theorem ins_in : ∀ (S r : List Tok), (∀ t ∈ S, isS t 62 = false) → ins true (S ++ ⟨4, [62]⟩ :: r) = ins false r
  | [], r, _ => by rw [List.nil_append, ins, show isS ⟨4, [62]⟩ 62 = true from rfl]; rfl
  | t :: S, r, h => by rw [List.cons_append, ins, h t (by simp), Bool.not_false, ins_in S r (fun x hx => h x (by simp [hx]))]
/-- All that is wanted of an address that is written. -/
theorem one_write (a : Adr) (h : domOk a.dom) : oneT (bareT (scanL (oneW a))) = some a ∧ pcs false [] (bareT (scanL (oneW a))) = [bareT (scanL (oneW a))] ∧ ins false (bareT (scanL (oneW a))) = false ∧ bareT (scanL (oneW a)) ≠ [] ∧
    (∀ t, (scanL (oneW a)).getLast? = some t → ∀ b, HeadNot atomB b → TokP.Ends t b) ∧ (∀ c r, oneW a = c :: r → TokP.blank c = false) ∧ oneW a ≠ [] := by
  obtain ⟨s1, s2, ⟨s3, s4, s5, s6⟩, s7⟩ := spec_scan a h
  have hsw : specW a ≠ [] := by unfold specW; simp
  by_cases hn : a.name = []
  · unfold oneW
    rw [if_pos hn, bare_fine _ s1]
    refine ⟨?_, ?_, ?_, by rw [s5]; simp, fun t ht b hb => fine_ends (s1 t (List.mem_of_getLast? ht)) hb, s7, hsw⟩
    · unfold oneT
      rw [upTo_no 60 _ (fun t ht => fine_not (s1 t ht) (by decide) (by decide))]
      show specT _ = _
      rw [s2]
      cases a
      simp only at hn ⊢
      rw [hn]
    · have := pcs_plain (scanL (specW a)) [] [] (fun t ht => ⟨fine_not (s1 t ht) (by decide) (by decide), fine_not (s1 t ht) (by decide) (by decide), fine_not (s1 t ht) (by decide) (by decide), fine_not (s1 t ht) (by decide) (by decide)⟩)
      rw [List.append_nil, List.nil_append] at this
      rw [this]; rfl
    · have := ins_plain (scanL (specW a)) [] (fun t ht => fine_not (s1 t ht) (by decide) (by decide))
      rw [List.append_nil] at this
      rw [this]; rfl
  · obtain ⟨n1, n2, n3, n4⟩ := name_ok a.name
    have hq : quoteL a.name ≠ [] := by
      intro e
      rw [e] at n3
      exact n3 rfl
    have e1 : scanL (specW a ++ [62]) = scanL (specW a) ++ [⟨4, [62]⟩] := scan_app _ _ (fun t ht => fine_ends (s1 t (List.mem_of_getLast? ht)) (headNot_cons _ (by decide)))
    have e2 : scanL (60 :: (specW a ++ [62])) = ⟨4, [60]⟩ :: (scanL (specW a) ++ [⟨4, [62]⟩]) := by
      rw [scan_cons (60 :: (specW a ++ [62])) (by simp)]
      exact congrArg (⟨4, [60]⟩ :: ·) e1
    have e3 : scanL (32 :: 60 :: (specW a ++ [62])) = ⟨6, [32]⟩ :: ⟨4, [60]⟩ :: (scanL (specW a) ++ [⟨4, [62]⟩]) := by
      rw [← e2]
      exact scan_app [32] (60 :: (specW a ++ [62])) (fun u hu => by
        obtain rfl : (⟨6, [32]⟩ : Tok) = u := by simpa [show scanL [32] = [⟨6, [32]⟩] from by decide] using hu
        exact ⟨fun _ => headNot_cons _ (by decide), fun e => absurd e (by decide), fun e => absurd e.1 (by decide)⟩)
    have e4 : scanL (quoteL a.name ++ 32 :: 60 :: (specW a ++ [62])) = scanL (quoteL a.name) ++ ⟨6, [32]⟩ :: ⟨4, [60]⟩ :: (scanL (specW a) ++ [⟨4, [62]⟩]) := by
      rw [← e3]
      refine scan_app _ _ (fun t ht => ⟨fun e => ?_, fun _ => headNot_cons _ (by decide), fun e => ?_⟩)
      · rcases n4 t ht with k | k
        · rw [k] at e; exact absurd e (by decide)
        · rw [k] at e; exact absurd e (by decide)
      · have e := e.1
        rcases n4 t ht with k | k
        · rw [k] at e; exact absurd e (by decide)
        · rw [k] at e; exact absurd e (by decide)
    have e5 : bareT (scanL (oneW a)) = bareT (scanL (quoteL a.name)) ++ ⟨4, [60]⟩ :: (scanL (specW a) ++ [⟨4, [62]⟩]) := by
      unfold oneW
      rw [if_neg hn, e4, bare_app]
      have : bareT ((⟨6, [32]⟩ : Tok) :: ⟨4, [60]⟩ :: (scanL (specW a) ++ [⟨4, [62]⟩])) = ⟨4, [60]⟩ :: (bareT (scanL (specW a)) ++ [⟨4, [62]⟩]) := by
        show ⟨4, [60]⟩ :: bareT (scanL (specW a) ++ [⟨4, [62]⟩]) = _
        rw [bare_app]; rfl
      rw [this, bare_fine _ s1]
    have k60 : ∀ t ∈ bareT (scanL (quoteL a.name)), isS t 60 = false := fun t ht => kind_isS (n2 t ht) 60
    have k62 : ∀ t ∈ scanL (specW a), isS t 62 = false := fun t ht => fine_not (s1 t ht) (by decide) (by decide)
    obtain ⟨u1, u2⟩ := upTo_at 60 _ ⟨4, [60]⟩ (scanL (specW a) ++ [⟨4, [62]⟩]) k60 rfl
    obtain ⟨v1, v2⟩ := upTo_at 62 _ ⟨4, [62]⟩ [] k62 rfl
    have hall : (bareT (scanL (quoteL a.name))).all nameT = true := by
      rw [List.all_eq_true]
      intro t ht
      unfold nameT wordT
      rcases n2 t ht with k | k
      · rw [k]; rfl
      · rw [k]; rfl
    have hro : routed (scanL (specW a)) = scanL (specW a) := by
      unfold routed
      rw [s5]
      dsimp only
      rw [s6, if_neg Bool.false_ne_true]
    refine ⟨?_, ?_, ?_, by rw [e5]; simp, ?_, ?_, ?_⟩
    · unfold oneT
      rw [e5, u2]
      dsimp only
      rw [u1, v2, v1, if_pos ⟨hall, rfl⟩, hro, s2, n1]
      rfl
    · rw [e5]
      have p1 := pcs_plain (bareT (scanL (quoteL a.name))) (⟨4, [60]⟩ :: (scanL (specW a) ++ [⟨4, [62]⟩])) [] (fun t ht => ⟨kind_isS (n2 t ht) _, kind_isS (n2 t ht) _, kind_isS (n2 t ht) _, kind_isS (n2 t ht) _⟩)
      have p2 := pcs_in (scanL (specW a)) [] (bareT (scanL (quoteL a.name)) ++ [⟨4, [60]⟩]) k62
      rw [p1, List.nil_append, pcs, if_neg (by decide), show isS ⟨4, [60]⟩ 60 = true from rfl, show isS ⟨4, [60]⟩ 58 = false from rfl, if_neg Bool.false_ne_true, p2, pcs, List.append_assoc]
      rfl
    · rw [e5, ins_plain _ _ k60, ins, show isS ⟨4, [60]⟩ 60 = true from rfl, ins_in _ _ k62]
      rfl
    · intro t ht b hb
      unfold oneW at ht
      rw [if_neg hn, e4] at ht
      have : (scanL (quoteL a.name) ++ (⟨6, [32]⟩ : Tok) :: (⟨4, [60]⟩ : Tok) :: (scanL (specW a) ++ [(⟨4, [62]⟩ : Tok)])).getLast? = some (⟨4, [62]⟩ : Tok) := by
        rw [show scanL (quoteL a.name) ++ (⟨6, [32]⟩ : Tok) :: (⟨4, [60]⟩ : Tok) :: (scanL (specW a) ++ [(⟨4, [62]⟩ : Tok)]) = (scanL (quoteL a.name) ++ (⟨6, [32]⟩ : Tok) :: (⟨4, [60]⟩ : Tok) :: scanL (specW a)) ++ [(⟨4, [62]⟩ : Tok)] by simp]
        exact List.getLast?_concat ..
      rw [this] at ht
      obtain rfl := Option.some.inj ht
      exact ⟨fun e => absurd e (by decide), fun e => absurd e (by decide), fun e => absurd e.1 (by decide)⟩
    · intro c r hc
      unfold oneW at hc
      rw [if_neg hn] at hc
      by_cases hpl : plainA false a.name = true
      · obtain ⟨d, t, he, ha, _⟩ := plain_head a.name hpl
        rw [(plain_alt _ hpl).1, he] at hc
        obtain ⟨rfl, _⟩ := List.cons.inj hc
        exact (atom_not d ha).1
      · rw [(quote_one a.name (by simpa using hpl)).1] at hc
        obtain ⟨rfl, _⟩ := List.cons.inj hc
        decide
    · unfold oneW
      rw [if_neg hn]
      simp
theorem write_head : ∀ (l : List Adr), (∀ a ∈ l, domOk a.dom) → HeadNot TokP.blank (writeL l)
  | [], _ => headNot_nil _
  | [a], h => (one_write a (h a (by simp))).2.2.2.2.2.1
  | a :: b :: r, h => by
    obtain ⟨_, _, _, _, _, h6, h7⟩ := one_write a (h a (by simp))
    intro c x hc
    obtain ⟨d, y, hd⟩ := List.exists_cons_of_ne_nil h7
    have e : writeL (a :: b :: r) = oneW a ++ 44 :: 32 :: writeL (b :: r) := rfl
    rw [e, hd, List.cons_append] at hc
    obtain ⟨rfl, _⟩ := List.cons.inj hc
    exact h6 d y hd
/-- AddrBack. -/
theorem parse_write : ∀ (l : List Adr), (∀ a ∈ l, domOk a.dom) → parseA (writeL l) = (l, true)
  | [], _ => rfl
  | [a], h => by
    obtain ⟨h1, h2, _, h4, _⟩ := one_write a (h a (by simp))
    show parseP (pcs false [] (bareT (scanL (oneW a)))) = _
    rw [h2]
    unfold parseP
    rw [List.filterMap_cons, h1]
    simp [h1]
  | a :: b :: r, h => by
    obtain ⟨h1, h2, h3, h4, h5, _⟩ := one_write a (h a (by simp))
    have ih := parse_write (b :: r) (fun x hx => h x (by simp [hx]))
    have hw := write_head (b :: r) (fun x hx => h x (by simp [hx]))
    have e1 : scanL (32 :: writeL (b :: r)) = ⟨6, [32]⟩ :: scanL (writeL (b :: r)) := scan_app [32] (writeL (b :: r)) (fun u hu => by
      obtain rfl : (⟨6, [32]⟩ : Tok) = u := by simpa [show scanL [32] = [⟨6, [32]⟩] from by decide] using hu
      exact ⟨fun _ => hw, fun e => absurd e (by decide), fun e => absurd e.1 (by decide)⟩)
    have e2 : scanL (44 :: 32 :: writeL (b :: r)) = ⟨4, [44]⟩ :: ⟨6, [32]⟩ :: scanL (writeL (b :: r)) := by
      rw [scan_cons (44 :: 32 :: writeL (b :: r)) (by simp)]
      exact congrArg (⟨4, [44]⟩ :: ·) e1
    have e3 : scanL (writeL (a :: b :: r)) = scanL (oneW a) ++ ⟨4, [44]⟩ :: ⟨6, [32]⟩ :: scanL (writeL (b :: r)) := by
      rw [← e2]
      exact scan_app (oneW a) _ (fun t ht => h5 t ht _ (headNot_cons _ (by decide)))
    have e4 : bareT (scanL (writeL (a :: b :: r))) = bareT (scanL (oneW a)) ++ ⟨4, [44]⟩ :: bareT (scanL (writeL (b :: r))) := by
      rw [e3, bare_app]; rfl
    unfold parseA at ih ⊢
    rw [e4, pcs_app _ _ _ _ _ (.inl rfl) h3, parse_app, ih, h2]
    unfold parseP
    rw [List.filterMap_cons, h1]
    simp [h1]
end Go.Proofs.YtgponokcigapaaaDoor.AdrP
namespace Go.Proofs.YtgponokcigapaaaDoor
open Go.ChangeShapes Go.WideShapes Go.ChangeAt Go.RowKit

/-! ### The builder that a call has made -/
theorem below_own {w w' : World} {base : Nat} {e : TypeId} {size : Nat} {v : Value} {n : Nat} {xs : List Value} (h : w.ownsRow base e size v n xs) (hb : Below w.heap.size w w') : w'.ownsRow base e size v n xs := by
  refine ⟨h.1, ?_⟩
  rcases h.2 with h1 | ⟨g, cap, cur, rfl, hbg, hg, rest⟩
  · exact .inl h1
  · refine .inr ⟨g, cap, cur, rfl, hbg, ?_, rest⟩
    rw [hb.block g (Array.getElem?_eq_some_iff.1 hg).1]
    exact hg
/-- The strings.Builder in block b holds l. -/
def Bd (w : World) (b : Nat) (l : List UInt8) : Prop := Lib.IsBuilder 59 5 b b (Lib.byteCells l) w
theorem Bd.lt {w : World} {b : Nat} {l : List UInt8} (h : Bd w b l) : b < w.heap.size := h.elim (fun x => x.lt) (fun x => x.lt)
theorem built_below {T e : TypeId} {B b : Nat} {p : Value} {bs : List Value} {w w' : World} (h : Lib.BuilderAt T e B b p bs w) (hb : Below w.heap.size w w') : Lib.BuilderAt T e B b p bs w' := by
  have hlt := h.lt
  obtain ⟨hB, v, hk, hown, hne⟩ := h
  exact ⟨hB, v, by rw [hb.block b hlt]; exact hk, below_own hown hb, hne⟩
theorem Bd.below {w w' : World} {b : Nat} {l : List UInt8} (h : Bd w b l) (hb : Below w.heap.size w w') : Bd w' b l := h.elim (fun x => .inl (built_below x hb)) (fun x => .inr (built_below x hb))
theorem Bd.alloc {w : World} {b : Nat} {l : List UInt8} (h : Bd w b l) (o : Obj) : Bd (w.alloc o) b l := h.below ((Below.refl _ _).alloc (Nat.le_refl _) _)
theorem Bd.drew {w : World} {b : Nat} {l : List UInt8} (h : Bd w b l) : Bd w.drew b l := h.below (Below.refl _ _).drew
theorem bd_new {w : World} {b : Nat} (h : w.heap[b]? = some (.cells #[.pointer none, .slice none 0 0] 59 (0, 0))) : Bd w b [] :=
  .inl ⟨Nat.le_refl _, .slice none 0 0, h, ⟨rfl, .inl ⟨rfl, rfl⟩⟩, by simp [Value.ownBlock]⟩
theorem byteCells_str (s : ByteArray) : Lib.strCells s = Lib.byteCells s.data.toList := rfl
theorem bd_str (s : ByteArray) (b : Nat) (l : List UInt8) (w : World) (h : Bd w b l) (hlen : l.length + s.size ≤ 140737488355328) :
    Calls Tryd.prog 39 #[.pointer (some ⟨b, 0, none⟩), .string s] w fun e w' => e = .returned (.tuple #[.int .i64 s.size, .nilIface]) ∧ Bd w' b (l ++ s.data.toList) ∧ Below b w w' := by
  refine (Tryd.Builder_WriteString b b (Lib.byteCells l) s w h (by rw [Lib.byteCells_length]; exact hlen) (Nat.le_of_lt h.lt)).mono fun e w' hh => ⟨hh.1, ?_, hh.2.2⟩
  have := hh.2.1
  rw [byteCells_str, ← Lib.byteCells_append] at this
  exact .inr this
theorem bd_byte (c : UInt8) (b : Nat) (l : List UInt8) (w : World) (h : Bd w b l) (hlen : l.length + 1 ≤ 140737488355328) :
    Calls Tryd.prog 72 #[.pointer (some ⟨b, 0, none⟩), .int .u8 c.toNat] w fun e w' => e = .returned .nilIface ∧ Bd w' b (l ++ [c]) ∧ Below b w w' := by
  refine (Tryd.Builder_WriteByte b b (Lib.byteCells l) c.toNat w h (by rw [Lib.byteCells_length]; exact hlen) (Nat.le_of_lt h.lt)).mono fun e w' hh => ⟨hh.1, ?_, hh.2.2⟩
  have := hh.2.1
  rw [show [Value.int .u8 (c.toNat : Int)] = Lib.byteCells [c] from rfl, ← Lib.byteCells_append] at this
  exact .inr this
theorem bd_out (b : Nat) (l : List UInt8) (w : World) (h : Bd w b l) :
    Calls Tryd.prog 41 #[.pointer (some ⟨b, 0, none⟩)] w fun e w' => e = .returned (.string (strL l)) ∧ Below b w w' :=
  (Tryd.Builder_String_any b b l w h (Nat.le_of_lt h.lt)).mono fun _ _ hh => ⟨hh.1, hh.2⟩
end Go.Proofs.YtgponokcigapaaaDoor
