/- Further contracts of the library, in this translation's numbers. strings.Cut at one byte, strings.LastIndexByte of an asterisk. Parameters by the program's way: the parts under their places, names in their order; of no program. Parameters as they were written (the reference's One) as values; slices of them: in a block of their own, or read at an address. A parameter in a box; the reference's first. What the contracts of package num and of its reference share: the package-level variables that the library reads, kept by every call that only makes new memory. The canonical decimal form: num.canonical, by a range over a string. Parsing a decimal integer: num.Parse. The program's placed: the place that a name denotes. How many bytes the parts of a name hold: no more than the rows; of no program. Parts of a value (a string and whether it is encoded) as values; slices of parts. -/
import Derived.Test.YtdinachiiimngaaGreatDoorK3
import Derived.Shelf.Unicode.ValidAny
import Derived.Shelf.Strings.SlTrimAscii
import Derived.Shelf.Strings.Builder1
import Derived.Shelf.Strings.Builder2
import Derived.Shelf.Strings.OnBuilder
import Derived.Shelf.Strings.Trim
import Derived.Shelf.Small.Utf8
import Derived.Shelf.Small.Strs
import Derived.Shelf.Small.Wraps
import Derived.Shelf.Strings.BuilderF
import Derived.Shelf.Strings.BuilderK
import Derived.Shelf.Strings.BuilderRune
import Derived.Shelf.Utf8.RuneCount
import Derived.Shelf.Strings.Builder2Cap
import Derived.Shelf.Strconv.Atoi
import Derived.Shelf.Strconv.Itoa0
import Derived.Shelf.Strconv.Itoa1
import Derived.Shelf.LaysM
import Derived.Shelf.Strconv.Itoa2
import Derived.Shelf.Strconv.Itoa3
import Derived.Shelf.Strconv.AtoiErrFast
import Derived.Shelf.Strconv.ParseIntEmpty
import Derived.Shelf.Strconv.AtoiFail
import Derived.Shelf.Strconv.Clone
import Derived.Shelf.Strconv.SyntaxError
import Derived.Shelf.LaysC
import Derived.Shelf.Strconv.ToError
import Derived.Shelf.Strconv.Lower
import Derived.Shelf.Strconv.ParseUint10
import Derived.Shelf.Strconv.ParseUint10Empty
import Derived.Shelf.Strconv.ParseUint10Any
import Derived.Shelf.Strconv.ParseInt10
import Derived.Shelf.Strconv.AtoiLong
import Derived.Shelf.Strconv.AtoiInnerAll
import Derived.Shelf.Strconv.RangeError
import Derived.Shelf.Strconv.ToErrorRange
import Derived.Shelf.Strconv.AtoiAll
import Derived.Shelf.Strconv.ErrVarAll
import Derived.Shelf.Strings.Search1
import Derived.Shelf.Strings.Search2
import Derived.Shelf.Strings.Search3
import Derived.Shelf.Strings.Cut
import Derived.Shelf.Strings.Count
import Derived.Shelf.Strings.Shaped
import Derived.Shelf.Strings.LastIndex
import Derived.Shelf.Strings.Prefix
import Derived.Shelf.Strings.Split
import Derived.Shelf.Strings.Replace
import Derived.Shelf.Unicode.Latin
import Derived.Shelf.Strings.Runes
import Derived.Shelf.Strings.IndexAny
import Derived.Shelf.Strings.AsciiSet
import Derived.Shelf.Strings.IndexAnyAll
import Derived.Shelf.Unicode.DecodeSlow
import Derived.Shelf.Unicode.DecodeAny
import Derived.Shelf.Unicode.CaseLookup
import Derived.Shelf.Unicode.CaseConvert
import Derived.Shelf.Unicode.CaseTo
import Derived.Shelf.Unicode.CaseLaid
import Derived.Shelf.Strings.MapAny
import Derived.Shelf.Strings.BuilderCap
import Derived.Test.YtdinachiiimngaaGreatDoorProg
import Derived.Lib.LastIndexByte
import Derived.Deep.RegionHeld3
import Derived.BigQuiet
import Derived.Test.YtdinachiiimngaaGreatDoorK2
import Derived.Laws.ResultCell
import Derived.Test.YtdinachiiimngaaGreatDoorK1
import Derived.WalkKit
import Derived.ProofKit
import Derived.Lib.Hide
import Derived.Lib.AtoiErrMem
import Derived.Laws.RangeString
import Derived.Lib.AtoiBound
namespace Go.Proofs
open Go.Shelf
def Tryz.lays219_ren : Go.Shelf.Ren := ⟨fun | 219 => 97 | 217 => 98 | 225 => 141 | 224 => 142 | 267 => 143 | 266 => 144 | 314 => 177 | n => n, fun | 9 => 9 | 20 => 20 | 3 => 3 | 4 => 4 | 5 => 5 | 46 => 111 | 146 => 165 | 51 => 136 | n => n, fun | 1 => 2 | n => n⟩
theorem Tryz.lays219 : Go.Proofs.Lays.n219 Tryz.prog Tryz.lays219_ren := {
  mixed := by kernel_rfl
  f217 := Tryz.func98.trans (congrArg some (by kernel_rfl))
  f219 := Tryz.func97.trans (congrArg some (by kernel_rfl))
  f224 := Tryz.func142.trans (congrArg some (by kernel_rfl))
  f225 := Tryz.func141.trans (congrArg some (by kernel_rfl))
  f266 := Tryz.func144.trans (congrArg some (by kernel_rfl))
  f267 := Tryz.func143.trans (congrArg some (by kernel_rfl))
  f314 := Tryz.func177.trans (congrArg some (by kernel_rfl))
  t3 := Tryz.underlying3
  a3 := Tryz.isAgg3
  z3 := Tryz.sizeOf3
  v3 := Tryz.zeroValue3
  t4 := Tryz.underlying4
  a4 := Tryz.isAgg4
  z4 := Tryz.sizeOf4
  v4 := Tryz.zeroValue4
  t5 := Tryz.underlying5
  a5 := Tryz.isAgg5
  z5 := Tryz.sizeOf5
  v5 := Tryz.zeroValue5
  t9 := Tryz.underlying9
  a9 := Tryz.isAgg9
  z9 := Tryz.sizeOf9
  v9 := Tryz.zeroValue9
  t46 := Tryz.underlying111
  a46 := Tryz.isAgg111
  z46 := Tryz.sizeOf111
  v46 := Tryz.zeroValue111
  t51 := Tryz.underlying136
  a51 := Tryz.isAgg136
  z51 := Tryz.sizeOf136
  v51 := Tryz.zeroValue136
  t146 := Tryz.underlying165
  a146 := Tryz.isAgg165
  z146 := Tryz.sizeOf165
  v146 := Tryz.zeroValue165
  g1 := by kernel_rfl }
open Go.RowKit Go.Lib in
theorem Tryz.stringslite_Index_one (s : ByteArray) (c : UInt8) (w : World) :
    Calls Tryz.prog 97 #[.string s, .string ⟨#[c]⟩] w fun e w' => e = .returned (.int .i64 (Lib.indexByte s.data.toList c)) ∧ w' = w := Any.stringslite_Index_one Tryz.lays219 s c w
def Tryz.lays150_ren : Go.Shelf.Ren := ⟨fun | 150 => 79 | 153 => 118 | 152 => 162 | 226 => 163 | 227 => 128 | 228 => 164 | 137 => 67 | 119 => 192 | 224 => 142 | 225 => 141 | 217 => 98 | 266 => 144 | n => n, fun | 9 => 9 | 20 => 20 | 4 => 4 | 3 => 3 | 5 => 5 | 21 => 21 | 117 => 140 | 116 => 139 | 0 => 0 | 46 => 111 | 124 => 143 | n => n, fun | n => n⟩
theorem Tryz.lays150 : Go.Proofs.Lays.n150 Tryz.prog Tryz.lays150_ren := {
  mixed := by kernel_rfl
  f119 := Tryz.func192.trans (congrArg some (by kernel_rfl))
  f137 := Tryz.func67.trans (congrArg some (by kernel_rfl))
  f150 := Tryz.func79.trans (congrArg some (by kernel_rfl))
  f152 := Tryz.func162.trans (congrArg some (by kernel_rfl))
  f153 := Tryz.func118.trans (congrArg some (by kernel_rfl))
  f217 := Tryz.func98.trans (congrArg some (by kernel_rfl))
  f224 := Tryz.func142.trans (congrArg some (by kernel_rfl))
  f225 := Tryz.func141.trans (congrArg some (by kernel_rfl))
  f226 := Tryz.func163.trans (congrArg some (by kernel_rfl))
  f227 := Tryz.func128.trans (congrArg some (by kernel_rfl))
  f228 := Tryz.func164.trans (congrArg some (by kernel_rfl))
  f266 := Tryz.func144.trans (congrArg some (by kernel_rfl))
  t0 := Tryz.underlying0
  a0 := Tryz.isAgg0
  z0 := Tryz.sizeOf0
  v0 := Tryz.zeroValue0
  t3 := Tryz.underlying3
  a3 := Tryz.isAgg3
  z3 := Tryz.sizeOf3
  v3 := Tryz.zeroValue3
  t4 := Tryz.underlying4
  a4 := Tryz.isAgg4
  z4 := Tryz.sizeOf4
  v4 := Tryz.zeroValue4
  t5 := Tryz.underlying5
  a5 := Tryz.isAgg5
  z5 := Tryz.sizeOf5
  v5 := Tryz.zeroValue5
  t9 := Tryz.underlying9
  a9 := Tryz.isAgg9
  z9 := Tryz.sizeOf9
  v9 := Tryz.zeroValue9
  t21 := Tryz.underlying21
  a21 := Tryz.isAgg21
  z21 := Tryz.sizeOf21
  v21 := Tryz.zeroValue21
  t46 := Tryz.underlying111
  a46 := Tryz.isAgg111
  z46 := Tryz.sizeOf111
  v46 := Tryz.zeroValue111
  t116 := Tryz.underlying139
  a116 := Tryz.isAgg139
  z116 := Tryz.sizeOf139
  t117 := Tryz.underlying140
  a117 := Tryz.isAgg140
  z117 := Tryz.sizeOf140
  v117 := Tryz.zeroValue140
  t124 := Tryz.underlying143
  a124 := Tryz.isAgg143
  z124 := Tryz.sizeOf143
  v124 := Tryz.zeroValue143 }
open Go.RowKit Go.Lib in
theorem Tryz.strings_ContainsAny_laid (s chars : ByteArray) (w : World) (hs : s.size < 4294967281) (hcs : chars.size < 4294967281) (has : ∀ (j : Nat) b, s.data.toList[j]? = some b → b.toNat < 128) (hac : ∀ (j : Nat) b, chars.data.toList[j]? = some b → b.toNat < 128) :
    Calls Tryz.prog 79 #[.string s, .string chars] w fun e w' => e = .returned (.bool (Lib.containsAny s.data.toList chars.data.toList)) ∧ Below w.heap.size w w' := Any.strings_ContainsAny_laid Tryz.lays150 (by kernel_rfl) s chars w hs hcs has hac
def Tryz.lays196_ren : Go.Shelf.Ren := ⟨fun | 196 => 83 | 259 => 120 | n => n, fun | 9 => 9 | 20 => 20 | 4 => 4 | 3 => 3 | 5 => 5 | 12 => 12 | 119 => 130 | 0 => 0 | 46 => 111 | 139 => 133 | 138 => 132 | 53 => 156 | n => n, fun | 3 => 0 | 4 => 1 | n => n⟩
theorem Tryz.lays196 : Go.Proofs.Lays.n196 Tryz.prog Tryz.lays196_ren := {
  mixed := by kernel_rfl
  f196 := Tryz.func83.trans (congrArg some (by kernel_rfl))
  f259 := Tryz.func120.trans (congrArg some (by kernel_rfl))
  t0 := Tryz.underlying0
  a0 := Tryz.isAgg0
  z0 := Tryz.sizeOf0
  v0 := Tryz.zeroValue0
  t3 := Tryz.underlying3
  a3 := Tryz.isAgg3
  z3 := Tryz.sizeOf3
  v3 := Tryz.zeroValue3
  t4 := Tryz.underlying4
  a4 := Tryz.isAgg4
  z4 := Tryz.sizeOf4
  v4 := Tryz.zeroValue4
  t5 := Tryz.underlying5
  a5 := Tryz.isAgg5
  z5 := Tryz.sizeOf5
  v5 := Tryz.zeroValue5
  t9 := Tryz.underlying9
  a9 := Tryz.isAgg9
  z9 := Tryz.sizeOf9
  v9 := Tryz.zeroValue9
  t12 := Tryz.underlying12
  a12 := Tryz.isAgg12
  z12 := Tryz.sizeOf12
  v12 := Tryz.zeroValue12
  t46 := Tryz.underlying111
  a46 := Tryz.isAgg111
  z46 := Tryz.sizeOf111
  v46 := Tryz.zeroValue111
  t53 := Tryz.underlying156
  a53 := Tryz.isAgg156
  z53 := Tryz.sizeOf156
  v53 := Tryz.zeroValue156
  t119 := Tryz.underlying130
  a119 := Tryz.isAgg130
  z119 := Tryz.sizeOf130
  t138 := Tryz.underlying132
  a138 := Tryz.isAgg132
  z138 := Tryz.sizeOf132
  v138 := Tryz.zeroValue132
  t139 := Tryz.underlying133
  a139 := Tryz.isAgg133
  z139 := Tryz.sizeOf133
  v139 := Tryz.zeroValue133
  g3 := by kernel_rfl
  g4 := by kernel_rfl }
open Go.RowKit in
theorem Tryz.utf8_ValidString (s : ByteArray) (w : World) (hs : s.size ≤ 9223372036854775807) (hT : Lib.Utf8Tabs 0 1 w) :
    Calls Tryz.prog 83 #[.string s] w fun e w' => e = .returned (.bool (Lib.validD s.data.toList)) ∧ Below w.heap.size w w' := Any.utf8_ValidString Tryz.lays196 s w hs hT
end Go.Proofs
namespace Go.Proofs.YtdinachiiimngaaGreatDoor
open Go.ChangeShapes Go.WideShapes Go.ChangeAt Go.RowKit
open TokP AdrP CtP

theorem index_first : ∀ (b r : List UInt8) (c : UInt8), c ∉ b → Lib.indexByte (b ++ c :: r) c = b.length
  | [], r, c, _ => by rw [List.nil_append, Lib.indexByte, if_pos (beq_self_eq_true c)]; rfl
  | d :: b, r, c, h => by
    simp only [List.mem_cons, not_or] at h
    rw [List.cons_append, Lib.indexByte, if_neg (by rw [beq_iff_eq]; exact fun e => h.1 e.symm), index_first b r c h.2]
    rw [if_neg (by rw [beq_iff_eq]; omega), List.length_cons]
    omega
theorem index_not : ∀ (b : List UInt8) (c : UInt8), c ∉ b → Lib.indexByte b c = -1
  | [], c, _ => rfl
  | d :: b, c, h => by
    simp only [List.mem_cons, not_or] at h
    rw [Lib.indexByte, if_neg (by rw [beq_iff_eq]; exact fun e => h.1 e.symm), index_not b c h.2]
    rfl
theorem split_first (l : List UInt8) (c : UInt8) (h : c ∈ l) : ∃ b r, l = b ++ c :: r ∧ c ∉ b := by
  induction l with
  | nil => exact absurd h (by simp)
  | cons d t ih =>
    by_cases e : d = c
    · exact ⟨[], t, by rw [e]; rfl, by simp⟩
    · obtain ⟨b, r, h1, h2⟩ := ih (by rcases List.mem_cons.1 h with h | h; exact absurd h.symm e; exact h)
      exact ⟨d :: b, r, by rw [h1]; rfl, by simp only [List.mem_cons, not_or]; exact ⟨fun x => e x.symm, h2⟩⟩
theorem drew_below (w : World) (n : Nat) : Below w.heap.size w (w.drewN n) := ⟨rfl, rfl, rfl, Nat.le_refl _, fun _ _ => rfl⟩
theorem cutlite_no (ch : UInt8) (s : ByteArray) (h : ch ∉ s.data.toList) (w : World) :
    Calls Tryz.prog 65 #[.string s, .string ⟨#[ch]⟩] w fun e w' => e = .returned (.tuple #[.string s, .string ⟨#[]⟩, .bool false]) ∧ Below w.heap.size w w' := by
  have cI := fun W => Tryz.stringslite_Index_one s ch W
  rw [index_not _ _ h] at cI
  clear h
  go_enter Tryz.func65, Tryz.ntmps65
  go_wp2_with (go_at_call 97; (refine (cI _).mono ?_); rintro e w1 ⟨rfl, rfl⟩)
  go_ret3
  exact ⟨rfl, Below.refl _ _⟩
theorem cutlite_yes (ch : UInt8) (s : ByteArray) (b r : List UInt8) (hs : s.data.toList = b ++ ch :: r) (h : ch ∉ b) (hz : s.size ≤ 4000000) (w : World) :
    Calls Tryz.prog 65 #[.string s, .string ⟨#[ch]⟩] w fun e w' => e = .returned (.tuple #[.string (strL b), .string (strL r), .bool true]) ∧ Below w.heap.size w w' := by
  have cI := fun W => Tryz.stringslite_Index_one s ch W
  rw [hs, index_first b r ch h] at cI
  have hsz := size_list s
  rw [hs, List.length_append, List.length_cons] at hsz
  obtain ⟨n, hn⟩ : ∃ n, b.length = n := ⟨_, rfl⟩
  rw [hn] at cI hsz
  have R1 := run_slice_to s n n rfl (by omega)
  have R2 := run_slice_from s (n + 1) ((n : Int) + 1) (by omega) (by omega)
  have e1 : s.extract 0 n = strL b := bytes_is (by rw [part_start s n (by omega), hs, strL_list, List.take_left' hn])
  have e2 : s.extract (n + 1) s.size = strL r := bytes_is (by rw [part_rest s (n + 1) (by omega), hs, strL_list, ← List.drop_drop, List.drop_left' hn]; rfl)
  rw [e1] at R1
  rw [e2] at R2
  have F1 : IntKind.i64.wrap ((n : Int) + 1) = (n : Int) + 1 := by rw [IntKind.wrap_i64]; omega
  have g0 : (0 : Int) ≤ (n : Int) := by omega
  generalize strL b = B at R1 ⊢
  generalize strL r = R at R2 ⊢
  clear h hs hn e1 e2 hsz hz
  go_enter Tryz.func65, Tryz.ntmps65
  go_wp2_with (go_at_call 97; (refine (cI _).mono ?_); rintro e w1 ⟨rfl, rfl⟩)
  go_quiet (fail)
  go_wp2_with fail
  go_ret3
  exact ⟨rfl, drew_below _ _⟩
theorem cut_no (ch : UInt8) (s : ByteArray) (h : ch ∉ s.data.toList) (w : World) :
    Calls Tryz.prog 30 #[.string s, .string ⟨#[ch]⟩] w fun e w' => e = .returned (.tuple #[.string s, .string ⟨#[]⟩, .bool false]) ∧ Below w.heap.size w w' := by
  have cI := fun W => cutlite_no ch s h W
  clear h
  go_enter Tryz.func30, Tryz.ntmps30
  go_wp2_with (go_at_call 65; (with_reducible refine (cI _).mono ?_); rintro e w1 ⟨rfl, hb1⟩)
  go_ret3
  exact ⟨rfl, hb1⟩
theorem cut_yes (ch : UInt8) (s : ByteArray) (b r : List UInt8) (hs : s.data.toList = b ++ ch :: r) (h : ch ∉ b) (hz : s.size ≤ 4000000) (w : World) :
    Calls Tryz.prog 30 #[.string s, .string ⟨#[ch]⟩] w fun e w' => e = .returned (.tuple #[.string (strL b), .string (strL r), .bool true]) ∧ Below w.heap.size w w' := by
  have cI := fun W => cutlite_yes ch s b r hs h hz W
  clear h hs
  go_enter Tryz.func30, Tryz.ntmps30
  go_wp2_with (go_at_call 65; (with_reducible refine (cI _).mono ?_); rintro e w1 ⟨rfl, hb1⟩)
  go_ret3
  exact ⟨rfl, hb1⟩
/-- strings.Cut in the words of the lists. -/
theorem cut_all (ch : UInt8) (s : ByteArray) (hz : s.size ≤ 4000000) (w : World) :
    Calls Tryz.prog 30 #[.string s, .string ⟨#[ch]⟩] w fun e w' => e = .returned (.tuple #[.string (strL (upC ch s.data.toList)), .string (strL (behind ch s.data.toList)), .bool (s.data.toList.contains ch)]) ∧ Below w.heap.size w w' := by
  by_cases h : ch ∈ s.data.toList
  · obtain ⟨b, r, hs, hb⟩ := split_first _ _ h
    obtain ⟨h1, h2⟩ := upC_at hb r
    rw [List.contains_iff_mem.2 h, hs, h1, h2]
    exact cut_yes ch s b r hs hb hz w
  · have h1 : upC ch s.data.toList = s.data.toList := by
      unfold upC
      have := List.takeWhile_append_of_pos (p := fun c => c != ch) (l₁ := s.data.toList) (l₂ := []) (fun c hc => by
        rw [bne_iff_ne]
        rintro rfl
        exact h hc)
      rw [List.append_nil, List.takeWhile_nil, List.append_nil] at this
      exact this
    have h2 : behind ch s.data.toList = [] := by
      unfold behind
      rw [h1, List.drop_eq_nil_of_le (by omega)]
    have h3 : s.data.toList.contains ch = false := by rw [← Bool.not_eq_true, List.contains_iff_mem]; exact h
    rw [h1, h2, h3, strL_of]
    exact cut_no ch s h w
/-! ### LastIndexByte -/
theorem at_bang (s : ByteArray) (j : Nat) (h : j < s.size) : s.data.toList[j]? = some (s.data[j]!) := by
  have hj : j < s.data.size := h
  rw [List.getElem?_eq_getElem (by rw [Array.length_toList]; exact hj), Array.getElem_toList, getElem!_pos s.data j hj]
theorem last_no (l : List UInt8) (h : 42 ∉ l) : Lib.lastIndexByte (strL l) 42 = -1 := by
  rcases Lib.lastIndexByte_spec (strL l) 42 with ⟨e, _⟩ | ⟨i, hi, _, hc, _⟩
  · exact e
  · have := at_bang (strL l) i hi
    rw [strL_list] at this
    have hm := List.mem_of_getElem? this
    rw [show ((strL l).data[i]!) = 42 from UInt8.toNat_inj.1 (by rw [show (42 : UInt8).toNat = 42 from rfl]; omega)] at hm
    exact absurd hm h
theorem last_yes (l : List UInt8) (h : 42 ∈ l) : ∃ x y, l = x ++ 42 :: y ∧ 42 ∉ y ∧ Lib.lastIndexByte (strL l) 42 = x.length := by
  rcases Lib.lastIndexByte_spec (strL l) 42 with ⟨_, hn⟩ | ⟨i, hi, e, hc, hn⟩
  · obtain ⟨i, hi, he⟩ := List.getElem_of_mem h
    have hiz : i < (strL l).size := by rw [strL_size]; exact hi
    have h1 := at_bang (strL l) i hiz
    rw [strL_list, List.getElem?_eq_getElem hi, he] at h1
    have := hn i hiz
    rw [← Option.some.inj h1] at this
    exact absurd rfl this
  · have h1 := at_bang (strL l) i hi
    rw [strL_list] at h1
    have h60 : (strL l).data[i]! = 42 := UInt8.toNat_inj.1 (by rw [show (42 : UInt8).toNat = 42 from rfl]; omega)
    rw [h60] at h1
    have hil : i < l.length := by rw [← strL_size l]; exact hi
    refine ⟨l.take i, l.drop (i + 1), ?_, ?_, ?_⟩
    · rw [← cons_at l i 42 h1, List.take_append_drop]
    · intro hm
      obtain ⟨j, hj, he⟩ := List.getElem_of_mem hm
      rw [List.getElem_drop] at he
      rw [List.length_drop] at hj
      have hjz : i + 1 + j < (strL l).size := by rw [strL_size]; omega
      have h2 := at_bang (strL l) (i + 1 + j) hjz
      rw [strL_list, List.getElem?_eq_getElem (by omega), he] at h2
      have := hn (i + 1 + j) (by omega) hjz
      rw [← Option.some.inj h2] at this
      exact this rfl
    · rw [e, List.length_take]; omega
end Go.Proofs.YtdinachiiimngaaGreatDoor
namespace Go.Proofs.YtdinachiiimngaaGreatDoor.CtP
open TokP AdrP

/-- The place of a part: its name and its section's number; -1 and -2 tell of those that are none. -/
def plcZ (p : Par) : Int := match p.sec with
  | some k => k
  | none => if p.wide = true then -1 else -2
abbrev Ent := (List UInt8 × Int) × (List UInt8 × Bool)
def getE (L : List Ent) (n : List UInt8) (z : Int) : Option (List UInt8 × Bool) := (L.find? (fun e => e.1.1 == n && e.1.2 == z)).map Prod.snd
def entP (p : Par) : Ent := ((p.name, plcZ p), (p.value, p.wide))
def putE (L : List Ent) (p : Par) : List Ent := if (getE L p.name (plcZ p)).isSome = true then L else L ++ [entP p]
def putN (l : List (List UInt8)) (p : Par) : List (List UInt8) := if p.name ∈ l then l else l ++ [p.name]
def entsL (all : List Par) : List Ent := all.foldl putE []
def namesL (all : List Par) : List (List UInt8) := all.foldl putN []
def getA (all : List Par) (n : List UInt8) (z : Int) : Option (List UInt8 × Bool) := (all.find? (fun p => p.name == n && plcZ p == z)).map (fun p => (p.value, p.wide))
theorem get_app (L : List Ent) (e : Ent) (n : List UInt8) (z : Int) : getE (L ++ [e]) n z = match getE L n z with
    | some x => some x
    | none => if (e.1.1 == n && e.1.2 == z) = true then some e.2 else none := by
  unfold getE
  rw [List.find?_append]
  cases h : L.find? (fun e => e.1.1 == n && e.1.2 == z) with
  | some x => rfl
  | none =>
    simp only [Option.none_or, Option.map_none, List.find?_cons, List.find?_nil]
    by_cases hc : (e.1.1 == n && e.1.2 == z) = true
    · rw [hc]; rfl
    · rw [Bool.not_eq_true] at hc; rw [hc]; rfl
theorem get_put (L : List Ent) (p : Par) (n : List UInt8) (z : Int) : getE (putE L p) n z = match getE L n z with
    | some x => some x
    | none => if (p.name == n && plcZ p == z) = true then some (p.value, p.wide) else none := by
  unfold putE
  by_cases h : (getE L p.name (plcZ p)).isSome = true
  · rw [if_pos h]
    cases hg : getE L n z with
    | some x => rfl
    | none =>
      show none = _
      rw [if_neg (fun hc => ?_)]
      rw [Bool.and_eq_true, beq_iff_eq, beq_iff_eq] at hc
      rw [← hc.1, ← hc.2] at hg
      rw [hg] at h
      exact absurd h (by simp)
  · rw [if_neg h, get_app]
    rfl
theorem get_fold : ∀ (all : List Par) (L : List Ent) (n : List UInt8) (z : Int), getE (all.foldl putE L) n z = match getE L n z with
    | some x => some x
    | none => getA all n z
  | [], L, n, z => by
    rw [List.foldl_nil]
    cases getE L n z <;> rfl
  | p :: all, L, n, z => by
    rw [List.foldl_cons, get_fold all, get_put]
    cases hg : getE L n z with
    | some x => rfl
    | none =>
      show (match (if (p.name == n && plcZ p == z) = true then some (p.value, p.wide) else none) with
        | some x => some x
        | none => getA all n z) = getA (p :: all) n z
      unfold getA
      rw [List.find?_cons]
      by_cases hc : (p.name == n && plcZ p == z) = true
      · rw [if_pos hc, hc]; rfl
      · rw [if_neg hc]
        rw [Bool.not_eq_true] at hc
        rw [hc]
theorem get_ents (all : List Par) (n : List UInt8) (z : Int) : getE (entsL all) n z = getA all n z := get_fold all [] n z
/-- The parts of a name: its sections up to a gap, or the one that is the whole. -/
def secsF (G : Int → Option (List UInt8 × Bool)) : Nat → Nat → List (List UInt8 × Bool)
  | 0, _ => []
  | f + 1, k => match G k with
    | none => []
    | some p => p :: secsF G f (k + 1)
def orL (l : List (List UInt8 × Bool)) (o : Option (List UInt8 × Bool)) : List (List UInt8 × Bool) := if l = [] then o.toList else l
def partsL (G : Int → Option (List UInt8 × Bool)) : List (List UInt8 × Bool) := orL (orL (secsF G 64 0) (G (-1))) (G (-2))
def bytesL (l : List (List UInt8 × Bool)) : List UInt8 := l.flatMap (fun p => if p.2 = true then pctL p.1 else p.1)
def joinedL (rep : List UInt8 → List UInt8) (dec : List UInt8 → List UInt8 → List UInt8) : List (List UInt8 × Bool) → List UInt8
  | [] => []
  | p :: r => if p.2 = true then meantP rep dec (splitQ p.1).1 (pctL (splitQ p.1).2 ++ bytesL r) else bytesL (p :: r)
theorem orL_cons (p : List UInt8 × Bool) (l : List (List UInt8 × Bool)) (o : Option (List UInt8 × Bool)) : orL (p :: l) o = p :: l := if_neg (by simp)
theorem orL_nil (o : Option (List UInt8 × Bool)) : orL [] o = o.toList := if_pos rfl
theorem joinedL_cons (rep : List UInt8 → List UInt8) (dec : List UInt8 → List UInt8 → List UInt8) (p : List UInt8 × Bool) (r : List (List UInt8 × Bool)) : joinedL rep dec (p :: r) = if p.2 = true then meantP rep dec (splitQ p.1).1 (pctL (splitQ p.1).2 ++ bytesL r) else bytesL (p :: r) := rfl
theorem bytesL_cons (p : List UInt8 × Bool) (r : List (List UInt8 × Bool)) : bytesL (p :: r) = (if p.2 = true then pctL p.1 else p.1) ++ bytesL r := by unfold bytesL; rw [List.flatMap_cons]
theorem getA_sec (all : List Par) (n : List UInt8) (k : Nat) : getA all n k = (firstP all n (some k)).map (fun p => (p.value, p.wide)) := by
  unfold getA firstP
  congr 2
  funext p
  congr 1
  unfold plcZ
  cases h : p.sec with
  | none => 
    rw [Bool.eq_iff_iff, beq_iff_eq, beq_iff_eq]
    constructor
    · intro e
      simp only at e
      split at e <;> omega
    · intro e; exact absurd e (by simp)
  | some j =>
    rw [Bool.eq_iff_iff, beq_iff_eq, beq_iff_eq]
    constructor
    · intro e
      simp only at e
      rw [show j = k by omega]
    · intro e
      rw [Option.some.inj e]
theorem getA_wide (all : List Par) (n : List UInt8) : getA all n (-1) = (all.find? (fun x => x.name == n && x.sec == none && x.wide)).map (fun p => (p.value, p.wide)) := by
  unfold getA
  congr 2
  funext p
  rw [Bool.and_assoc]
  congr 1
  unfold plcZ
  cases h : p.sec with
  | none => cases hw : p.wide <;> simp
  | some j =>
    rw [Bool.eq_iff_iff, beq_iff_eq]
    constructor
    · intro e
      simp only at e
      omega
    · intro e; exact absurd e (by simp)
theorem find_no_wide {all : List Par} {n : List UInt8} (h : all.find? (fun x => x.name == n && x.sec == none && x.wide) = none) : getA all n (-2) = (firstP all n none).map (fun p => (p.value, p.wide)) := by
  unfold getA firstP
  rw [List.find?_eq_none] at h
  induction all with
  | nil => rfl
  | cons p all ih =>
    have hp := h p (by simp)
    rw [List.find?_cons, List.find?_cons]
    have e : (p.name == n && plcZ p == -2) = (p.name == n && p.sec == none) := by
      unfold plcZ
      cases hs : p.sec with
      | none =>
        cases hw : p.wide with
        | false => simp
        | true =>
          rw [hs, hw] at hp
          cases hn : p.name == n with
          | false => simp
          | true => rw [hn] at hp; exact absurd rfl hp
      | some j =>
        have : ((j : Int) == -2) = false := by rw [beq_eq_false_iff_ne]; omega
        simp only [this]
        rfl
    rw [e]
    cases p.name == n && p.sec == none with
    | true => rfl
    | false => exact ih (fun x hx => h x (by simp [hx]))
theorem more_parts (all : List Par) (n : List UInt8) : ∀ (f k : Nat), moreP all n f k = bytesL (secsF (fun z => getA all n z) f k)
  | 0, _ => rfl
  | f + 1, k => by
    rw [moreP, secsF, getA_sec]
    cases h : firstP all n (some k) with
    | none => rfl
    | some y =>
      show (if y.wide = true then pctL y.value else y.value) ++ moreP all n f (k + 1) = bytesL ((y.value, y.wide) :: secsF _ f (k + 1))
      rw [more_parts all n f (k + 1)]
      unfold bytesL
      rw [List.flatMap_cons]
theorem value_parts (rep : List UInt8 → List UInt8) (dec : List UInt8 → List UInt8 → List UInt8) (all : List Par) (n : List UInt8) (PL : List (List UInt8 × Bool)) (hPL : partsL (fun z => getA all n z) = PL) :
    valueP rep dec all n = if PL = [] then none else some (joinedL rep dec PL) := by
  subst hPL
  unfold valueP partsL
  rw [show secsF (fun z => getA all n z) 64 0 = (match getA all n (0 : Nat) with
    | none => []
    | some p => p :: secsF (fun z => getA all n z) 63 1) from rfl, getA_sec]
  cases h0 : firstP all n (some 0) with
  | some x =>
    show some _ = if orL (orL ((x.value, x.wide) :: secsF (fun z => getA all n z) 63 1) _) _ = [] then none else some (joinedL rep dec (orL (orL ((x.value, x.wide) :: secsF (fun z => getA all n z) 63 1) _) _))
    rw [orL_cons, orL_cons, if_neg (List.cons_ne_nil _ _), joinedL_cons, bytesL_cons, more_parts]
    simp only []
    cases hw : x.wide with
    | true => simp only [if_true]
    | false => simp only [Bool.false_eq_true, if_false]
  | none =>
    have e1 := getA_wide all n
    cases h1 : all.find? (fun x => x.name == n && x.sec == none && x.wide) with
    | some x =>
      have hw : x.wide = true := by
        have := List.find?_some h1
        simp only [Bool.and_eq_true] at this
        exact this.2
      rw [h1] at e1
      show some _ = if orL (orL [] (getA all n (-1))) (getA all n (-2)) = [] then none else some (joinedL rep dec (orL (orL [] (getA all n (-1))) (getA all n (-2))))
      rw [e1]
      show some _ = if orL (orL [] (some (x.value, x.wide))) (getA all n (-2)) = [] then none else some (joinedL rep dec (orL (orL [] (some (x.value, x.wide))) (getA all n (-2))))
      rw [orL_nil]
      show some _ = if orL [(x.value, x.wide)] (getA all n (-2)) = [] then none else some (joinedL rep dec (orL [(x.value, x.wide)] (getA all n (-2))))
      rw [orL_cons, if_neg (List.cons_ne_nil _ _), joinedL_cons]
      simp only [hw, if_true]
      unfold bytesL
      rw [List.flatMap_nil, List.append_nil]
    | none =>
      rw [h1] at e1
      have e2 := find_no_wide h1
      show (firstP all n none).map Par.value = if orL (orL [] (getA all n (-1))) (getA all n (-2)) = [] then none else some (joinedL rep dec (orL (orL [] (getA all n (-1))) (getA all n (-2))))
      rw [e1, e2]
      cases h2 : firstP all n none with
      | none => rfl
      | some x =>
        have hx := List.find?_some h2
        have hw : x.wide = false := by
          rw [List.find?_eq_none] at h1
          have := h1 x (List.mem_of_find?_eq_some h2)
          rw [hx, Bool.true_and, Bool.not_eq_true] at this
          exact this
        show some x.value = if orL (orL [] none) (some (x.value, x.wide)) = [] then none else some (joinedL rep dec (orL (orL [] none) (some (x.value, x.wide))))
        rw [orL_nil]
        show some x.value = if orL [] (some (x.value, x.wide)) = [] then none else some (joinedL rep dec (orL [] (some (x.value, x.wide))))
        rw [orL_nil]
        show some x.value = if [(x.value, x.wide)] = [] then none else some (joinedL rep dec [(x.value, x.wide)])
        rw [if_neg (List.cons_ne_nil _ _), joinedL_cons, bytesL_cons]
        simp only [hw, Bool.false_eq_true, if_false]
        unfold bytesL
        rw [List.flatMap_nil, List.append_nil]
/-- The list of parameters by the names. -/
def outL (rep : List UInt8 → List UInt8) (dec : List UInt8 → List UInt8 → List UInt8) (E : List Ent) (ns : List (List UInt8)) : List (List UInt8 × List UInt8) :=
  ns.flatMap (fun n => if partsL (getE E n) = [] then [] else [(n, joinedL rep dec (partsL (getE E n)))])
theorem names_fold (V : List UInt8 → Option (List UInt8)) : ∀ (all : List Par) (ns seen : List (List UInt8)) (F : List UInt8 → List (List UInt8 × List UInt8)) (_ : ∀ n, F n = match V n with
      | some v => [(n, v)]
      | none => []) (_ : ∀ n, n ∈ ns ↔ n ∈ seen) (LG : List (List UInt8) → List Par → List (List UInt8 × List UInt8)) (_ : ∀ s, LG s [] = []) (_ : ∀ s x r, LG s (x :: r) = (if x.name ∈ s then [] else F x.name) ++ LG (x.name :: s) r),
      (all.foldl putN ns).flatMap F = ns.flatMap F ++ LG seen all
  | [], ns, seen, F, _, _, LG, h0, _ => by rw [List.foldl_nil, h0, List.append_nil]
  | p :: all, ns, seen, F, hF, hs, LG, h0, h1 => by
    rw [List.foldl_cons, h1]
    by_cases hm : p.name ∈ ns
    · have e : putN ns p = ns := if_pos hm
      rw [e, if_pos ((hs _).1 hm), List.nil_append]
      refine names_fold V all ns (p.name :: seen) F hF (fun n => ?_) LG h0 h1
      rw [List.mem_cons, ← hs]
      exact ⟨.inr, fun h => h.elim (fun e => e ▸ hm) id⟩
    · have e : putN ns p = ns ++ [p.name] := if_neg hm
      rw [e, if_neg (fun h => hm ((hs _).2 h)), names_fold V all (ns ++ [p.name]) (p.name :: seen) F hF (fun n => by rw [List.mem_append, List.mem_singleton, List.mem_cons, ← hs, or_comm]) LG h0 h1, List.flatMap_append, List.append_assoc]
      simp
theorem list_out (rep : List UInt8 → List UInt8) (dec : List UInt8 → List UInt8 → List UInt8) (all : List Par) : listG rep dec all [] all = outL rep dec (entsL all) (namesL all) := by
  have hv : ∀ n, (if partsL (getE (entsL all) n) = [] then [] else [(n, joinedL rep dec (partsL (getE (entsL all) n)))]) = (match valueP rep dec all n with
      | some v => [(n, v)]
      | none => []) := by
    intro n
    have hg : getE (entsL all) n = fun z => getA all n z := funext fun z => get_ents all n z
    rw [hg, value_parts rep dec all n _ rfl]
    by_cases h : partsL (fun z => getA all n z) = []
    · rw [if_pos h, if_pos h]
    · rw [if_neg h, if_neg h]
  have := names_fold (valueP rep dec all) all [] [] (fun n => if partsL (getE (entsL all) n) = [] then [] else [(n, joinedL rep dec (partsL (getE (entsL all) n)))]) hv (fun n => Iff.rfl) (fun s r => listG rep dec all s r) (fun s => rfl) (fun s x r => by rw [hv]; rfl)
  rw [List.flatMap_nil, List.nil_append] at this
  exact this.symm
end Go.Proofs.YtdinachiiimngaaGreatDoor.CtP
namespace Go.Proofs.YtdinachiiimngaaGreatDoor
open Go.ChangeShapes Go.WideShapes Go.ChangeAt Go.RowKit
open TokP AdrP CtP

/-- A section's number as the reference bears it. -/
def secZ (o : Option Nat) : Int := match o with
  | some k => k
  | none => -1
def oneV (t : Par) : List Value := [.string (strL t.name), .int .i64 (secZ t.sec), .bool t.wide, .string (strL t.value)]
def onesV (l : List Par) : List Value := l.flatMap oneV
theorem onesV_len (l : List Par) : (onesV l).length = l.length * 4 := by
  unfold onesV
  induction l with
  | nil => rfl
  | cons m l ih => rw [List.flatMap_cons, List.length_append, ih, List.length_cons]; simp [oneV]; omega
theorem onesV_app (a b : List Par) : onesV a ++ onesV b = onesV (a ++ b) := by unfold onesV; rw [List.flatMap_append]
theorem onesV_one (f : Par) : onesV [f] = oneV f := by unfold onesV; simp
theorem onesV_at : ∀ (l : List Par) (i : Nat) (f : Par), l[i]? = some f → ∀ j, j < 4 → (onesV l)[i * 4 + j]? = (oneV f)[j]?
  | [], i, m, h => by simp at h
  | x :: l, 0, m, h => by
    simp at h
    subst h
    intro j hj
    rw [show onesV (x :: l) = oneV x ++ onesV l by unfold onesV; rw [List.flatMap_cons], Nat.zero_mul, Nat.zero_add, List.getElem?_append_left (by simp [oneV]; exact hj)]
  | x :: l, i + 1, m, h => by
    intro j hj
    have ih := onesV_at l i m (by simpa using h) j hj
    rw [show onesV (x :: l) = oneV x ++ onesV l by unfold onesV; rw [List.flatMap_cons], List.getElem?_append_right (by simp [oneV]; omega)]
    have e1 : (i + 1) * 4 + j - (oneV x).length = i * 4 + j := by simp [oneV]; omega
    rw [e1]
    exact ih
theorem oneV_one (f : Par) : ∀ u ∈ oneV f, u.oneCell' = true := by
  intro u hu
  simp [oneV] at hu
  rcases hu with rfl | rfl | rfl | rfl <;> rfl
theorem onesV_ones (l : List Par) : ∀ u ∈ onesV l, u.oneCell' = true := by
  intro u hu
  obtain ⟨f, _, hf⟩ := List.mem_flatMap.1 hu
  exact oneV_one f u hf
/-- The addresses l lie at g, from cell o on. -/
def OAt (w : World) (g o : Nat) (l : List Par) : Prop := ∀ i f, l[i]? = some f → w.cell? ⟨g, o + i * 4, none⟩ = some (.string (strL f.name)) ∧ w.cell? ⟨g, o + i * 4 + 1, none⟩ = some (.int .i64 (secZ f.sec)) ∧ w.cell? ⟨g, o + i * 4 + 2, none⟩ = some (.bool f.wide) ∧ w.cell? ⟨g, o + i * 4 + 3, none⟩ = some (.string (strL f.value))
def OwnO (w : World) (v : Value) (l : List Par) : Prop := ∃ base, w.ownsRow base 105 4 v l.length (onesV l)
/-- The slice v reads as l. -/
def HasO (w : World) (v : Value) (l : List Par) : Prop := ((∃ a c, v = .slice a 0 c) ∧ l = []) ∨ ∃ g o c, v = .slice (some ⟨g, o, none⟩) l.length c ∧ OAt w g o l
theorem OwnO.step {w w' : World} {v : Value} {xs : List Par} (h : OwnO w v xs) (hb : Below w.heap.size w w') : OwnO w' v xs := by
  obtain ⟨b, ho⟩ := h; exact ⟨b, own_below ho hb⟩
theorem OwnO.shape {w : World} {v : Value} {xs : List Par} (h : OwnO w v xs) : ∃ a c, v = .slice a xs.length c := by
  obtain ⟨b, ho⟩ := h
  rcases ho.2 with ⟨rfl, h0⟩ | ⟨g, cap, cur, rfl, _⟩
  · exact ⟨none, 0, by rw [h0]⟩
  · exact ⟨_, _, rfl⟩
theorem OwnO.at {w : World} {a : Option Addr} {n c : Nat} {xs : List Par} (h : OwnO w (.slice a n c) xs) (hn : 0 < n) : ∃ g, a = some ⟨g, 0, none⟩ ∧ OAt w g 0 xs := by
  obtain ⟨b, ho⟩ := h
  rcases ho.2 with ⟨e, h0⟩ | ⟨g, cap, cur, e, _⟩
  · injection e with _ e2 _; omega
  · have e' := e
    injection e with e1 _ _
    subst e1
    refine ⟨g, rfl, fun i f hf => ?_⟩
    have key : ∀ j u, j < 4 → (oneV f)[j]? = some u → w.cell? ⟨g, 0 + i * 4 + j, none⟩ = some u := fun j u hj hu => by
      have := ho.cells (g := g) rfl (i * 4 + j) u (by rw [onesV_at xs i f hf j hj]; exact hu)
      rwa [add_none, ← Nat.add_assoc] at this
    exact ⟨key 0 _ (by decide) rfl, key 1 _ (by decide) rfl, key 2 _ (by decide) rfl, key 3 _ (by decide) rfl⟩
theorem OwnO.has {w : World} {v : Value} {xs : List Par} (h : OwnO w v xs) : HasO w v xs := by
  obtain ⟨a, c, rfl⟩ := h.shape
  by_cases hn : 0 < xs.length
  · obtain ⟨g, rfl, hf⟩ := h.at hn
    exact .inr ⟨g, 0, c, rfl, hf⟩
  · obtain rfl : xs = [] := List.eq_nil_of_length_eq_zero (by omega)
    obtain ⟨b, ho⟩ := h
    rcases ho.2 with ⟨e, _⟩ | ⟨g, cap, cur, e, _⟩
    · exact .inl ⟨⟨_, _, e⟩, rfl⟩
    · exact .inr ⟨g, 0, _, e, fun i f hf => by simp at hf⟩
theorem OAt.lt {w : World} {g o : Nat} {l : List Par} (h : OAt w g o l) (hl : l ≠ []) : g < w.heap.size := by
  cases l with
  | nil => exact absurd rfl hl
  | cons f r => exact World.block_lt_of_cell? w _ (h 0 f rfl).1
theorem OAt.keep {w w' : World} {g o : Nat} {l : List Par} (h : OAt w g o l) (hk : w'.heap[g]? = w.heap[g]?) : OAt w' g o l := by
  intro i f hf
  obtain ⟨h1, h2, h3, h4⟩ := h i f hf
  exact ⟨by rw [World.cell?_of_block (by exact hk)]; exact h1, by rw [World.cell?_of_block (by exact hk)]; exact h2, by rw [World.cell?_of_block (by exact hk)]; exact h3, by rw [World.cell?_of_block (by exact hk)]; exact h4⟩
theorem OAt.step {w w' : World} {g o : Nat} {l : List Par} (h : OAt w g o l) (hb : Below w.heap.size w w') : OAt w' g o l := by
  by_cases hl : l = []
  · subst hl; intro i f hf; simp at hf
  · exact h.keep (hb.block g (h.lt hl))
theorem HasO.step {w w' : World} {v : Value} {l : List Par} (h : HasO w v l) (hb : Below w.heap.size w w') : HasO w' v l := by
  rcases h with h | ⟨g, o, c, rfl, h⟩
  · exact .inl h
  · exact .inr ⟨g, o, c, rfl, h.step hb⟩
theorem HasO.form {w : World} {v : Value} {l : List Par} (h : HasO w v l) : ∃ a c, v = .slice a l.length c := by
  rcases h with ⟨⟨a, c, rfl⟩, rfl⟩ | ⟨g, o, c, rfl, _⟩
  · exact ⟨a, c, rfl⟩
  · exact ⟨_, _, rfl⟩
theorem HasO.at {w : World} {a : Option Addr} {n c : Nat} {l : List Par} (h : HasO w (.slice a n c) l) (hn : 0 < n) : ∃ g o, a = some ⟨g, o, none⟩ ∧ OAt w g o l := by
  rcases h with ⟨⟨a', c', e⟩, _⟩ | ⟨g, o, c', e, h⟩
  · injection e with _ e _; omega
  · injection e with e _ _; exact ⟨g, o, e, h⟩
theorem news_one (w : World) (f : Par) : ∀ j u, (oneV f)[j]? = some u → (w.alloc (.cells (oneV f).toArray 105)).cell? ((⟨w.heap.size, 0, none⟩ : Addr).add j) = some u := by
  intro j u h
  have := World.cell?_alloc_mark w (oneV f).toArray 105 (0, 0) j
  rw [add_none, Nat.zero_add, this, List.getElem?_toArray]; exact h
theorem infoOne : (Tryz.prog.info? 105).map (fun i => (i.zero, i.size, i.bytes)) = some (some (.agg #[.string ⟨#[]⟩, .int .i64 0, .bool false, .string ⟨#[]⟩]), 4, 48) := by kernel_rfl
/-- An address is appended. -/
theorem run_appO {w : World} (base : Nat) {v : Value} {xs : List Par} (f : Par) (hown : w.ownsRow base 105 4 v xs.length (onesV xs)) (hb : base ≤ w.heap.size) (hl : xs.length ≤ 4000000) :
    ∃ a c w', (Builtin.append_ #[103, 103] 103 #[v, .slice (some ⟨w.heap.size, 0, none⟩) 1 1]).run Tryz.prog (w.alloc (.cells #[.string (strL f.name), .int .i64 (secZ f.sec), .bool f.wide, .string (strL f.value)] 105)) = .ok (.slice a (xs.length + 1) c) w' ∧
      w'.ownsRow base 105 4 (.slice a (xs.length + 1) c) (xs ++ [f]).length (onesV (xs ++ [f])) ∧ (w.alloc (.cells #[.string (strL f.name), .int .i64 (secZ f.sec), .bool f.wide, .string (strL f.value)] 105)).grownBy w' v.ownBlock := by
  obtain ⟨i0, hi, hz0, hz1, hz2⟩ := info_parts infoOne
  obtain ⟨v', w', hr, h1, h2, _⟩ := run_append_own (P := Tryz.prog) (w.alloc (.cells (oneV f).toArray 105)) base 103 103 105 i0 _ 4 48 Tryz.underlying103 hi hz0 hz1 hz2 rfl (by decide) v xs.length _ (World.ownsRow.alloc hown _) ⟨w.heap.size, 0, none⟩ 1 1 (oneV f) rfl (news_one w f) (oneV_one f) (by unfold maxLen; omega) (by omega) (by rw [World.size_alloc]; omega)
  rw [← onesV_one, onesV_app, ← List.length_singleton (a := f), ← List.length_append] at h1
  obtain ⟨a, c, rfl⟩ : ∃ a c, v' = .slice a (xs.length + 1) c := by
    rcases h1.2 with ⟨rfl, h0⟩ | ⟨g, cap, cur, rfl, _⟩
    · simp at h0
    · exact ⟨_, _, by rw [List.length_append]; rfl⟩
  exact ⟨a, c, w', hr, h1, h2⟩
theorem wpList_appO {ops : Array Oper} {rest : List Oper} {o : Oper} {a : Act} {w : World} {Q : Exit → Act → World → Prop} (hw : Region.wanted o (yielded ops a.tmps) = true) (s x : Operand)
    (ho : o.op = .call { callee := .builtin .append, args := #[s, x], argTypes := #[103, 103] }) (hty : o.type = 103) (base : Nat) {v : Value} {xs : List Par} {n : Nat} (f : Par) (hs : a.eval s = v) (hx : a.eval x = .slice (some ⟨w.heap.size, 0, none⟩) 1 1)
    (hown : w.ownsRow base 105 4 v xs.length (onesV xs)) (hn : xs.length = n) (hb : base ≤ w.heap.size) (hl : n ≤ 4000000)
    (h : ∀ a' c' w', w'.ownsRow base 105 4 (.slice a' (n + 1) c') (xs ++ [f]).length (onesV (xs ++ [f])) → (w.alloc (.cells #[.string (strL f.name), .int .i64 (secZ f.sec), .bool f.wide, .string (strL f.value)] 105)).grownBy w' v.ownBlock → wpList Tryz.prog ops Q rest (a.put o.dst (.slice a' (n + 1) c')) w') :
    wpList Tryz.prog ops Q (o :: rest) a (w.alloc (.cells #[.string (strL f.name), .int .i64 (secZ f.sec), .bool f.wide, .string (strL f.value)] 105)) := by
  subst hn
  obtain ⟨a', c', w', hr, h1, h2⟩ := run_appO base f hown hb hl
  unfold wpList
  rw [if_pos hw]
  left
  unfold Oper.wp
  simp [execOp, ho, hty, resolve, invoke, builtin, hs, hx, hr, Result.andThen]
  exact h a' c' w' h1 h2
end Go.Proofs.YtdinachiiimngaaGreatDoor
namespace Go.Proofs.YtdinachiiimngaaGreatDoor
open Go.ChangeShapes Go.WideShapes Go.ChangeAt Go.RowKit
open TokP AdrP CtP

/-- A parameter in the box g. -/
def Ox (w : World) (g : Nat) (N : ByteArray) (S : Int) (I : Bool) (V : ByteArray) : Prop := w.heap[g]? = some (.cells #[.string N, .int .i64 S, .bool I, .string V] 105 (0, 0))
theorem Ox.lt {w : World} {g : Nat} {N V : ByteArray} {S : Int} {I : Bool} (h : Ox w g N S I V) : g < w.heap.size := (Array.getElem?_eq_some_iff.1 h).1
theorem Ox.step {w w' : World} {g : Nat} {N V : ByteArray} {S : Int} {I : Bool} (h : Ox w g N S I V) (hb : Below w.heap.size w w') : Ox w' g N S I V := (hb.block _ h.lt).trans h
theorem ox_new (w : World) (N V : ByteArray) (S : Int) (I : Bool) : Ox (w.alloc (.cells #[.string N, .int .i64 S, .bool I, .string V] 105)) w.heap.size N S I V := World.alloc_heap_new w _
theorem Ox.c0 {w : World} {g : Nat} {N V : ByteArray} {S : Int} {I : Bool} (h : Ox w g N S I V) : w.cell? ⟨g, 0, none⟩ = some (.string N) := by rw [Lib.cell_of_heap h]; rfl
theorem Ox.c1 {w : World} {g : Nat} {N V : ByteArray} {S : Int} {I : Bool} (h : Ox w g N S I V) : w.cell? ⟨g, 1, none⟩ = some (.int .i64 S) := by rw [Lib.cell_of_heap h]; rfl
theorem Ox.c2 {w : World} {g : Nat} {N V : ByteArray} {S : Int} {I : Bool} (h : Ox w g N S I V) : w.cell? ⟨g, 2, none⟩ = some (.bool I) := by rw [Lib.cell_of_heap h]; rfl
theorem Ox.c3 {w : World} {g : Nat} {N V : ByteArray} {S : Int} {I : Bool} (h : Ox w g N S I V) : w.cell? ⟨g, 3, none⟩ = some (.string V) := by rw [Lib.cell_of_heap h]; rfl
theorem Ox.fr {w : World} {g : Nat} {N V : ByteArray} {S : Int} {I : Bool} (h : Ox w g N S I V) (i : Nat) : w.frozen? ⟨g, i, none⟩ = false := Lib.frozen_of_heap h i
theorem set_four {w : World} {g : Nat} {N V N' V' : ByteArray} {S S' : Int} {I I' : Bool} (h : Ox w g N S I V) :
    Ox ((((w.setCell ⟨g, 0, none⟩ (.string N')).setCell ⟨g, 1, none⟩ (.int .i64 S')).setCell ⟨g, 2, none⟩ (.bool I')).setCell ⟨g, 3, none⟩ (.string V')) g N' S' I' V' := by
  have h' : w.heap[g]? = some (.cells #[.string N, .int .i64 S, .bool I, .string V] 105 (0, 0)) := h
  obtain ⟨hlt, hk⟩ := Array.getElem?_eq_some_iff.1 h'
  show ((((w.setCell ⟨g, 0, none⟩ (.string N')).setCell ⟨g, 1, none⟩ (.int .i64 S')).setCell ⟨g, 2, none⟩ (.bool I')).setCell ⟨g, 3, none⟩ (.string V')).heap[g]? = _
  simp [World.setCell, Array.getElem?_modify, h']
theorem below_at {w W : World} {C : Nat} (h : Below C w W) (a : Addr) (hb : C ≤ a.block) (v : Value) : Below C w (W.setCell a v) :=
  ⟨h.os, h.tape, h.output, by simpa using h.size, fun k hk => by rw [Below.heap_setCell W a v k (by omega)]; exact h.block k hk⟩
theorem below_four {w W : World} {C g : Nat} (h : Below C w W) (hg : C ≤ g) (v0 v1 v2 v3 : Value) : Below C w ((((W.setCell ⟨g, 0, none⟩ v0).setCell ⟨g, 1, none⟩ v1).setCell ⟨g, 2, none⟩ v2).setCell ⟨g, 3, none⟩ v3) :=
  below_at (below_at (below_at (below_at h _ hg _) _ hg _) _ hg _) _ hg _
theorem rowsOne : (Tryz.prog.info? 105).map (·.size) = some 4 := by kernel_rfl
theorem results_one {fn : Func} {p u : Tmp} (h : fn.results = #[.cell p 105, .tmp u]) (tmps : Array Value) (w : World) (g : Nat) (N V : ByteArray) (S : Int) (I : Bool) (hp : tmps.getD p undef = .pointer (some ⟨g, 0, none⟩)) (hg : Ox w g N S I V) :
    (results fn tmps).run Tryz.prog w = .ok (.tuple #[.agg #[.string N, .int .i64 S, .bool I, .string V], tmps.getD u undef]) w := by
  rw [results_cell_tmp h, hp]
  have := run_loadVar_row (P := Tryz.prog) w g 105 105 #[.string N, .int .i64 S, .bool I, .string V] (0, 0) _ hg Tryz.underlying105 rfl rowsOne
  simp [asAddr, Result.andThen, this]
/-- A parameter as a value; none is the zero one. -/
def oneA (o : Option Par) : Value := match o with
  | some t => .agg #[.string (strL t.name), .int .i64 (secZ t.sec), .bool t.wide, .string (strL t.value)]
  | none => .agg #[.string ⟨#[]⟩, .int .i64 0, .bool false, .string ⟨#[]⟩]
theorem secZ_inj {a b : Option Nat} (h : secZ a = secZ b) : a = b := by
  unfold secZ at h
  split at h <;> split at h
  · congr 1; omega
  · omega
  · omega
  · rfl
theorem first_hit {l : List Par} {n : List UInt8} {z : Option Nat} {k : Nat} {p : Par} (hk : l[k]? = some p) (h1 : p.name = n) (h2 : p.sec = z) (h : ∀ (i : Nat) (q : Par), i < k → l[i]? = some q → ¬ (q.name = n ∧ q.sec = z)) : firstP l n z = some p := by
  unfold firstP
  induction l generalizing k with
  | nil => simp at hk
  | cons a r ih =>
    rw [List.find?_cons]
    cases k with
    | zero =>
      obtain rfl : a = p := by simpa using hk
      rw [show (a.name == n && a.sec == z) = true by simp [h1, h2]]
    | succ k =>
      rw [show (a.name == n && a.sec == z) = false by
        have := h 0 a (by omega) rfl
        rw [← Bool.not_eq_true]
        simpa using this]
      exact ih (k := k) (by simpa using hk) (fun i q hi hq => h (i + 1) q (by omega) (by simpa using hq))
theorem first_none {l : List Par} {n : List UInt8} {z : Option Nat} (h : ∀ (i : Nat) (q : Par), l[i]? = some q → ¬ (q.name = n ∧ q.sec = z)) : firstP l n z = none := by
  unfold firstP
  rw [List.find?_eq_none]
  intro q hq
  obtain ⟨i, hi, rfl⟩ := List.mem_iff_getElem.1 hq
  simpa using h i _ (List.getElem?_eq_getElem hi)
set_option maxRecDepth 100000 in
set_option maxHeartbeats 4000000 in
theorem rfirst_any (v : Value) (l : List Par) (n : List UInt8) (z : Option Nat) (hl : l.length ≤ 4000000) (R : Option Par) (hR : firstP l n z = R) (w : World) (h : Hid (HasO w v l)) :
    Calls Tryz.prog 113 #[v, .string (strL n), .int .i64 (secZ z)] w fun e w' => e = .returned (.tuple #[oneA R, .bool R.isSome]) ∧ Below w.heap.size w w' := by
  have HB0 := Lib.hid (show Below w.heap.size w (w.alloc (.cells #[.string ⟨#[]⟩, .int .i64 0, .bool false, .string ⟨#[]⟩] 105)) from (Below.refl _ w).alloc (Nat.le_refl _) _)
  have HX0 := Lib.hid (ox_new w ⟨#[]⟩ ⟨#[]⟩ 0 false)
  obtain ⟨a, c, rfl⟩ := h.out.form
  obtain ⟨m, hm⟩ : ∃ m, l.length = m := ⟨_, rfl⟩
  rw [hm] at h hl ⊢
  have HN := Lib.hid hm
  have HR := Lib.hid hR
  obtain ⟨Z, hZ⟩ : ∃ Z, secZ z = Z := ⟨_, rfl⟩
  rw [hZ]
  have HZ := Lib.hid hZ
  clear hm hR hZ
  go_enter Tryz.func113, Tryz.ntmps113
  go_wp2_with fail
  go_loopw [8] (fun i wr => ∃ k : Nat, k ≤ m ∧ i = .int .i64 k ∧ Hid (Below w.heap.size w wr) ∧ Hid (Ox wr w.heap.size ⟨#[]⟩ 0 false ⟨#[]⟩) ∧ Hid (∀ (i : Nat) (q : Par), i < k → l[i]? = some q → ¬ (q.name = n ∧ q.sec = z))) (fun i _ => m - (intOf i).toNat)
  case atStart => exact ⟨0, Nat.zero_le _, rfl, HB0, HX0, fun i _ hi => absurd hi (Nat.not_lt_zero _)⟩
  case round =>
    obtain ⟨k, hk, rfl, HB, HX, HF⟩ := hrel
    have F1 : IntKind.i64.wrap ((k : Int) + 1) = (k : Int) + 1 := by rw [IntKind.wrap_i64]; omega
    by_cases hlt : k < m
    · have hlt' : (k : Int) < (m : Int) := by omega
      obtain ⟨g, o, rfl, hfa⟩ := h.out.at (by omega)
      obtain ⟨p, hp⟩ : ∃ p, l[k]? = some p := ⟨_, List.getElem?_eq_getElem (by rw [HN.out]; exact hlt)⟩
      obtain ⟨p0, p1, p2, p3⟩ := hfa.step HB.out k p hp
      have e1 := eq_strL p.name n
      have HNX := Lib.hid (fun (h : ¬ (p.name = n ∧ p.sec = z)) => show ∀ (i : Nat) (q : Par), i < k + 1 → l[i]? = some q → ¬ (q.name = n ∧ q.sec = z) from fun i q hi hq => by
        rcases (show i < k ∨ i = k by omega) with h' | rfl
        · exact HF.out i q h' hq
        · rw [hp] at hq; rw [← Option.some.inj hq]; exact h)
      by_cases hn : p.name = n
      · rw [decide_eq_true hn] at e1
        by_cases hz : p.sec = z
        · have e2 : (secZ p.sec == Z) = true := beq_iff_eq.2 (by rw [hz, HZ.out])
          obtain rfl : some p = R := by rw [← HR.out]; exact (first_hit hp hn hz HF.out).symm
          have HV := Lib.hid (show oneA (some p) = .agg #[.string (strL p.name), .int .i64 (secZ p.sec), .bool p.wide, .string (strL p.value)] from rfl)
          generalize strL p.name = x0 at p0 e1 HV
          generalize secZ p.sec = x1 at p1 e2 HV
          generalize p.wide = x2 at p2 HV
          generalize strL p.value = x3 at p3 HV
          have b0 := HX.out.c0
          have b1 := HX.out.c1
          have b2 := HX.out.c2
          have b3 := HX.out.c3
          have bf := HX.out.fr
          clear hp hn hz HF HR hfa HNX
          go_wp2_with fail
          rw [HV.out]
          exact bodyPost_ret (results_one rfl _ _ w.heap.size _ _ _ _ rfl (set_four HX.out)) rfl ⟨rfl, below_four HB.out (Nat.le_refl _) _ _ _ _⟩
        · have e2 : (secZ p.sec == Z) = false := beq_eq_false_iff_ne.2 (fun e => hz (secZ_inj (e.trans HZ.out.symm)))
          have HF2 := Lib.hid (HNX.out (fun h => hz h.2))
          generalize strL p.name = x0 at p0 e1
          generalize secZ p.sec = x1 at p1 e2
          clear hp hn hz HF HR hfa HNX
          go_wp2_with fail
          go_roundw
          case rel => exact ⟨k + 1, by omega, by go_num, HB, HX, HF2⟩
          case measure => simp [intOf]; omega
      · rw [decide_eq_false hn] at e1
        have HF2 := Lib.hid (HNX.out (fun h => hn h.1))
        generalize strL p.name = x0 at p0 e1
        clear hp hn HF HR hfa HNX
        go_wp2_with fail
        go_roundw
        case rel => exact ⟨k + 1, by omega, by go_num, HB, HX, HF2⟩
        case measure => simp [intOf]; omega
    · obtain rfl : k = m := by omega
      have hlt' : ¬ (k : Int) < (k : Int) := by omega
      obtain rfl : none = R := by
        rw [← HR.out]
        exact (first_none (fun i q hq => HF.out i q (by have := (List.getElem?_eq_some_iff.1 hq).1; rw [HN.out] at this; exact this) hq)).symm
      have b0 := HX.out.c0
      have b1 := HX.out.c1
      have b2 := HX.out.c2
      have b3 := HX.out.c3
      have bf := HX.out.fr
      clear HF HR
      go_wp2_with fail
      exact bodyPost_ret (results_one rfl _ _ w.heap.size _ _ _ _ rfl (set_four HX.out)) rfl ⟨rfl, below_four HB.out (Nat.le_refl _) _ _ _ _⟩
end Go.Proofs.YtdinachiiimngaaGreatDoor
namespace Go.Proofs.YtdinachiiimngaaGreatDoor.Nu
open Go.ChangeShapes Go.WideShapes Go.ChangeAt Go.RowKit

theorem var_below {w w' : World} (hb : Below w.heap.size w w') {name : String} {v : Array Value} (h : w.var? Tryz.prog name = some v) : w'.var? Tryz.prog name = some v := by
  unfold World.var? at *
  cases hg : Tryz.prog.globalNamed name with
  | none => simp [hg] at h
  | some g =>
    simp only [hg, Option.bind_some] at h ⊢
    have hlt : g < w.heap.size := by
      rcases Nat.lt_or_ge g w.heap.size with h' | h'
      · exact h'
      · rw [Array.getElem?_eq_none h'] at h; simp at h
    rw [hb.block g hlt]
    exact h

theorem below_grow (B : Nat) (w : World) (hB : B ≤ w.heap.size) (k : Nat) (os : Array Obj) : Below B w (Sort.grow (w.drewN k) os) :=
  ⟨rfl, rfl, rfl, by simp, fun j hj => (Sort.heap_grow_old (w.drewN k) os (by simpa using Nat.lt_of_lt_of_le hj hB))⟩

/-- What the library reads of its package-level variables. -/
structure Vars (w : World) : Prop where
  tab : Lib.TabIs Tryz.prog w "internal/strconv.uint64pow10" .u64 Lib.pow10Tab
  syn : ∃ tp p, w.var? Tryz.prog "strconv.ErrSyntax" = some #[.iface tp p]
  rng : ∃ tp p, w.var? Tryz.prog "strconv.ErrRange" = some #[.iface tp p]

theorem Vars.below {w w' : World} (h : Vars w) (hb : Below w.heap.size w w') : Vars w' := by
  obtain ⟨t, ⟨a, b, s⟩, ⟨c, d, r⟩⟩ := h
  exact ⟨var_below hb t, ⟨a, b, var_below hb s⟩, ⟨c, d, var_below hb r⟩⟩


theorem text_any (n : Int) (h0 : -9223372036854775808 ≤ n) (h1 : n ≤ 9223372036854775807) (w : World) (hv : Vars w) :
    Calls Tryz.prog 23 #[.int .i64 n] w fun e w' => e = .returned (.string ⟨(Lib.itoa n).toArray⟩) ∧ Below w.heap.size w w' := by
  have ht := hv.tab
  go_enter Tryz.func23, Tryz.ntmps23
  go_wp2_with (go_at_call 51; refine (Tryz.strconv_Itoa n h0 h1 _ ht).mono ?_; rintro e w' ⟨rfl, k, os, rfl⟩)
  go_ret
  exact ⟨rfl, below_grow _ _ (Nat.le_refl _) _ _⟩
end Go.Proofs.YtdinachiiimngaaGreatDoor.Nu
namespace Go.Proofs.YtdinachiiimngaaGreatDoor.Nu
open Go.ChangeShapes Go.WideShapes Go.ChangeAt Go.RowKit

def isDig (c : UInt8) : Bool := decide (48 ≤ c.toNat ∧ c.toNat ≤ 57)
/-- Is l the canonical decimal form of an integer of any size? -/
def canL (l : List UInt8) : Bool :=
  let d := Lib.trimPrefix l [45]
  if d = [] then false else if d.head? = some 48 then decide (l = [48]) else d.all isDig

theorem run_next_any {P : Program} (w : World) (s : ByteArray) (pos : Nat) (ty : TypeId) (h : pos < s.size) :
    (Instr.next (.pointer (some ⟨w.heap.size, 0, none⟩)) true ty).run P (w.iter s pos) =
      .ok (.tuple #[.bool true, .int .i64 pos, .int .i32 ((Utf8.decode s pos).1 : Int)]) (w.iter s (pos + (Utf8.decode s pos).2)) := by
  simp only [Instr.next, getObj, setObj, Sem.run_bind, Sem.run, World.iter_heap, Result.andThen, h, if_true, World.iter_set]
  simp [goInt]

theorem decode_big (s : ByteArray) (pos : Nat) (h : pos < s.size) (ha : ¬ (s[pos]'h).toNat < 128) : 128 ≤ (Utf8.decode s pos).1 := by
  have e : s.get! (pos + 0) = s[pos]'h := by
    show s.get! pos = _
    simp [ByteArray.get!, getElem!_pos, h]
    rfl
  simp only [Utf8.decode, e, ha, if_false]
  (repeat' split) <;> first | (simp only [Utf8.runeError]; omega) | (dsimp only; omega) | (rename_i h1; simp only [Bool.and_eq_true, decide_eq_true_eq] at h1; dsimp only; omega)

/-- Where an iterator stands. -/
def iterPos (w : World) (b : Nat) : Nat := match w.heap[b]? with | some (.stringIter _ p) => p | _ => 0
theorem iterPos_iter (w : World) (s : ByteArray) (p : Nat) : iterPos (w.iter s p) w.heap.size = p := by
  unfold iterPos; rw [World.iter_heap]
theorem below_iter (w : World) (s : ByteArray) (p : Nat) : Below w.heap.size w (w.iter s p) := (Below.refl _ _).alloc (Nat.le_refl _) _
theorem mem_byte (s : ByteArray) (k : Nat) (h : k < s.size) : s[k] ∈ s.data.toList := by
  have := List.getElem_mem (l := s.data.toList) (n := k) (by simpa using h)
  exact this

theorem NH {d : ByteArray} (hpos : 0 < d.size) (hh : d.data.toList.head? = some d[0]) (h : ¬ d[0].toNat = 48) : ¬ d.data.toList.head? = some 48 := by
  rw [hh]; intro e; injection e with e; rw [e] at h; exact h rfl
theorem all_false {d : ByteArray} {p : Nat} (h : p < d.size) (hb : isDig d[p] = false) : d.data.toList.all isDig = false := by
  rw [Bool.eq_false_iff]
  intro hh
  have := List.all_eq_true.1 hh _ (mem_byte d p h)
  rw [hb] at this; cases this
theorem all_true {d : ByteArray} (hb : ∀ k (_ : k < d.size) (h : k < d.size), isDig d[k] = true) : d.data.toList.all isDig = true := by
  rw [List.all_eq_true]
  intro x hx
  obtain ⟨k, hk, rfl⟩ := List.getElem_of_mem hx
  have hk' : k < d.size := by rw [Array.length_toList] at hk; exact hk
  exact hb k hk' hk'

theorem canonical_any (s : ByteArray) (_hs : s.size ≤ 4000000) (w : World) :
    Calls Tryz.prog 149 #[.string s] w fun e w' => e = .returned (.bool (canL s.data.toList)) ∧ Below w.heap.size w w' := by
  obtain ⟨d, hd⟩ : ∃ d : ByteArray, d = ⟨(Lib.trimPrefix s.data.toList [45]).toArray⟩ := ⟨_, rfl⟩
  have hT := Tryz.strings_TrimPrefix s ⟨#[45]⟩ w
  rw [show ((⟨#[45]⟩ : ByteArray).data.toList) = [45] from rfl, ← hd] at hT
  have HT := Lib.hid hT
  have HD := Lib.hid hd
  clear hT hd
  have hcan : canL s.data.toList = if d.data.toList = [] then false else if d.data.toList.head? = some 48 then decide (s.data.toList = [48]) else d.data.toList.all isDig := by
    rw [HD.out]; rfl
  have HC := Lib.hid hcan
  clear hcan
  by_cases h0 : d.size = 0
  · have e0 : d.data.toList = [] := List.eq_nil_of_length_eq_zero (by rw [Array.length_toList]; exact h0)
    have e1 : d.toList.isEmpty = true := by rw [ByteArray.toList_eq, e0]; rfl
    have HE := Lib.hid e0
    clear e0 h0
    go_enter Tryz.func149, Tryz.ntmps149
    go_wp2_with (go_at_call 178; refine HT.out.mono ?_; rintro e w1 ⟨rfl, rfl⟩)
    go_ret
    exact ⟨by rw [HC.out, if_pos HE.out]; rfl, Below.refl _ _⟩
  · have hpos : 0 < d.size := by omega
    have hne : d.data.toList ≠ [] := List.ne_nil_of_length_pos (by rw [Array.length_toList]; exact hpos)
    have e1 : d.toList.isEmpty = false := by rw [ByteArray.toList_eq, List.isEmpty_eq_false_iff]; exact hne
    have hhd : d.data.toList.head? = some d[0] := by
      rw [List.head?_eq_getElem?, List.getElem?_eq_getElem (by rw [Array.length_toList]; exact hpos)]; rfl
    have HN := Lib.hid hne
    have HH := Lib.hid hhd
    clear hne hhd
    by_cases h48 : d[0].toNat = 48
    · have e2 : ((d[0].toNat : Int) == 48) = true := beq_iff_eq.2 (by omega)
      have H48 := Lib.hid h48
      clear h48
      go_enter Tryz.func149, Tryz.ntmps149
      go_wp2_with (go_at_call 178; refine HT.out.mono ?_; rintro e w1 ⟨rfl, rfl⟩)
      go_ret
      refine ⟨?_, Below.refl _ _⟩
      rw [HC.out, if_neg HN.out, if_pos (by rw [HH.out]; congr 1; exact UInt8.toNat_inj.1 H48.out)]
      refine congrArg (fun b => Ending.returned (.bool b)) ?_
      show (s.toList == [48]) = _
      rw [ByteArray.toList_eq, Bool.eq_iff_iff]; simp
    · have e2 : ((d[0].toNat : Int) == 48) = false := beq_eq_false_iff_ne.2 (by omega)
      have H48 := Lib.hid h48
      clear h48
      go_enter Tryz.func149, Tryz.ntmps149
      go_wp2_with (go_at_call 178; refine HT.out.mono ?_; rintro e w1 ⟨rfl, rfl⟩)
      go_loopw [5] (fun c wr => ∃ p : Nat, p ≤ d.size ∧ wr = w1.iter d p ∧ Hid (∀ k (hk : k < p) (h : k < d.size), isDig d[k] = true)) (fun c wr => d.size - iterPos wr w1.heap.size)
      case atStart => exact ⟨0, Nat.zero_le _, rfl, fun k hk => by omega⟩
      case round =>
        obtain ⟨p, hp, rfl, hall⟩ := hrel
        by_cases hlt : p < d.size
        · by_cases h128 : d[p].toNat < 128
          · have hnx := fun ty => run_next_ascii (P := Tryz.prog) w1 d p ty hlt h128
            by_cases hdig : 48 ≤ (d[p].toNat : Int) ∧ (d[p].toNat : Int) ≤ 57
            · obtain ⟨ha, hb⟩ := hdig
              go_wp2_with fail
              refine ⟨⟨p + 1, by omega, rfl, ?_⟩, by rw [iterPos_iter, iterPos_iter]; omega⟩
              intro k hk h
              by_cases he : k = p
              · subst he; simp only [isDig, decide_eq_true_eq]; omega
              · exact hall.out k (by omega) h
            · have hbad : isDig d[p] = false := by simp only [isDig, decide_eq_false_iff_not]; omega
              have HB := Lib.hid (all_false hlt hbad)
              clear hbad
              rcases (show (d[p].toNat : Int) < 48 ∨ (48 ≤ (d[p].toNat : Int) ∧ 57 < (d[p].toNat : Int)) by omega) with hx | ⟨hx, hy⟩
              all_goals
                go_wp2_with fail
                go_ret
                exact ⟨by rw [HC.out, if_neg HN.out, if_neg (NH hpos HH.out H48.out), HB.out]; rfl, below_iter _ _ _⟩
          · have hnx := fun ty => run_next_any (P := Tryz.prog) w1 d p ty hlt
            have h57 : 57 < ((Utf8.decode d p).1 : Int) := by have := decode_big d p hlt h128; omega
            have HB := Lib.hid (all_false hlt (by simp only [isDig, decide_eq_false_iff_not]; omega))
            go_wp2_with fail
            go_ret
            exact ⟨by rw [HC.out, if_neg HN.out, if_neg (NH hpos HH.out H48.out), HB.out]; rfl, below_iter _ _ _⟩
        · have hnx := fun ty => run_next_end (P := Tryz.prog) w1 d p ty hlt
          have HB := Lib.hid (all_true (d := d) (fun k _ h => hall.out k (by omega) h))
          go_wp2_with fail
          go_ret
          exact ⟨by rw [HC.out, if_neg HN.out, if_neg (NH hpos HH.out H48.out), HB.out]; rfl, below_iter _ _ _⟩
end Go.Proofs.YtdinachiiimngaaGreatDoor.Nu
namespace Go.Proofs.YtdinachiiimngaaGreatDoor.Nu
open Go.ChangeShapes Go.WideShapes Go.ChangeAt Go.RowKit

/-- The integer that l spells in canonical form. -/
def parseV (l : List UInt8) : Option Int := if canL l = true then (match Lib.atoiAll l with | .ok v => some v | _ => none) else none
/-- The same, within bounds. -/
def parseIn (l : List UInt8) (lo hi : Int) : Option Int := match parseV l with | some v => if lo ≤ v ∧ v ≤ hi then some v else none | none => none
theorem parseIn_none {l : List UInt8} {lo hi : Int} (h : parseV l = none) : parseIn l lo hi = none := by rw [parseIn, h]
theorem parseIn_some {l : List UInt8} {lo hi v : Int} (h : parseV l = some v) (h1 : lo ≤ v) (h2 : v ≤ hi) : parseIn l lo hi = some v := by
  simp only [parseIn, h]; rw [if_pos ⟨h1, h2⟩]
theorem parseIn_out {l : List UInt8} {lo hi v : Int} (h : parseV l = some v) (h1 : v < lo ∨ hi < v) : parseIn l lo hi = none := by
  simp only [parseIn, h]; rw [if_neg (by omega)]

/-- What a parse answers. -/
def Ans (o : Option Int) (e : Ending) : Prop := e = .returned (.tuple #[.int .i64 (o.getD 0), .bool o.isSome])

theorem parse_no (s : ByteArray) (lo hi : Int) (hs : s.size ≤ 4000000) (w : World) (hc : canL s.data.toList = false) :
    Calls Tryz.prog 105 #[.string s, .int .i64 lo, .int .i64 hi] w fun e w' => Ans (parseIn s.data.toList lo hi) e ∧ Below w.heap.size w w' := by
  have hp : parseIn s.data.toList lo hi = none := parseIn_none (by rw [parseV, hc]; rfl)
  rw [hp]
  have hT := canonical_any s hs w
  rw [hc] at hT
  have HT := Lib.hid hT
  clear hT hp hc
  go_enter Tryz.func105, Tryz.ntmps105
  go_wp2_with (go_at_call 149; refine HT.out.mono ?_; rintro e w1 ⟨rfl, hb⟩)
  go_ret2
  exact ⟨rfl, hb⟩
theorem bytes_below (w w' : World) (e : TypeId) (h : w' = w ∨ ∃ t, w' = Lib.bytesWorld w e t) : Below w.heap.size w w' := by
  rcases h with rfl | ⟨t, rfl⟩
  · exact Below.refl _ _
  · exact Lib.bytesWorld_below _ _ _
theorem parse_ok (s : ByteArray) (lo hi v : Int) (hs : s.size ≤ 4000000) (w : World) (hc : canL s.data.toList = true) (ha : Lib.atoiAll s.data.toList = .ok v) :
    Calls Tryz.prog 105 #[.string s, .int .i64 lo, .int .i64 hi] w fun e w' => Ans (parseIn s.data.toList lo hi) e ∧ Below w.heap.size w w' := by
  have hV : parseV s.data.toList = some v := by simp only [parseV, hc, ha, if_true]
  have hT := canonical_any s hs w
  rw [hc] at hT
  have HT := Lib.hid hT
  have HA := Lib.hid (fun W => Tryz.strconv_Atoi_ok s (by omega) v ha W)
  have HV := Lib.hid hV
  clear hT hc ha hV
  by_cases h1 : v < lo
  · have HP := Lib.hid (parseIn_out (hi := hi) HV.out (.inl h1))
    go_enter Tryz.func105, Tryz.ntmps105
    go_wp2_with (first
      | (go_at_call 149; refine HT.out.mono ?_; rintro e w1 ⟨rfl, hb⟩)
      | (go_at_call 150; refine (HA.out _).mono ?_; rintro e w2 ⟨rfl, hb2⟩))
    go_ret2
    rw [HP.out]
    exact ⟨rfl, hb.trans ((bytes_below _ _ _ hb2).mono hb.size)⟩
  · by_cases h2 : hi < v
    · have HP := Lib.hid (parseIn_out (lo := lo) HV.out (.inr h2))
      go_enter Tryz.func105, Tryz.ntmps105
      go_wp2_with (first
        | (go_at_call 149; refine HT.out.mono ?_; rintro e w1 ⟨rfl, hb⟩)
        | (go_at_call 150; refine (HA.out _).mono ?_; rintro e w2 ⟨rfl, hb2⟩))
      go_ret2
      rw [HP.out]
      exact ⟨rfl, hb.trans ((bytes_below _ _ _ hb2).mono hb.size)⟩
    · have h1' : lo ≤ v := by omega
      have h2' : v ≤ hi := by omega
      have HP := Lib.hid (parseIn_some HV.out h1' h2')
      go_enter Tryz.func105, Tryz.ntmps105
      go_wp2_with (first
        | (go_at_call 149; refine HT.out.mono ?_; rintro e w1 ⟨rfl, hb⟩)
        | (go_at_call 150; refine (HA.out _).mono ?_; rintro e w2 ⟨rfl, hb2⟩))
      go_ret2
      rw [HP.out]
      exact ⟨rfl, hb.trans ((bytes_below _ _ _ hb2).mono hb.size)⟩
theorem parse_wrong (s : ByteArray) (lo hi : Int) (hs : s.size ≤ 4000000) (w : World) (hv : Vars w) (hc : canL s.data.toList = true) (ha : Lib.atoiAll s.data.toList = Lib.atoiAll []) :
    Calls Tryz.prog 105 #[.string s, .int .i64 lo, .int .i64 hi] w fun e w' => Ans (parseIn s.data.toList lo hi) e ∧ Below w.heap.size w w' := by
  have hV : parseV s.data.toList = none := by simp only [parseV, hc, ha, if_true]; rfl
  have HP := Lib.hid (parseIn_none (lo := lo) (hi := hi) hV)
  have hT := canonical_any s hs w
  rw [hc] at hT
  have HT := Lib.hid hT
  obtain ⟨tp, p, hs2⟩ := hv.syn
  have HA := Lib.hid (fun W hW => Tryz.strconv_Atoi_syntax_var s (by omega) ha tp p W hW)
  have HS := Lib.hid hs2
  clear hT hc ha hV hs2 hv
  go_enter Tryz.func105, Tryz.ntmps105
  go_wp2_with (first
    | (go_at_call 149; refine HT.out.mono ?_; rintro e w1 ⟨rfl, hb⟩)
    | (go_at_call 150; refine (HA.out _ (var_below hb HS.out)).mono ?_; rintro e w2 ⟨N, rfl, _, _, hb2⟩))
  go_ret2
  rw [HP.out]
  exact ⟨rfl, hb.trans (hb2.mono hb.size)⟩
theorem parse_range (s : ByteArray) (lo hi : Int) (hs : s.size ≤ 4000000) (w : World) (hv : Vars w) (hc : canL s.data.toList = true) (ha : Lib.atoiAll s.data.toList = .range) :
    Calls Tryz.prog 105 #[.string s, .int .i64 lo, .int .i64 hi] w fun e w' => Ans (parseIn s.data.toList lo hi) e ∧ Below w.heap.size w w' := by
  have hV : parseV s.data.toList = none := by simp only [parseV, hc, ha, if_true]
  have HP := Lib.hid (parseIn_none (lo := lo) (hi := hi) hV)
  have hT := canonical_any s hs w
  rw [hc] at hT
  have HT := Lib.hid hT
  obtain ⟨tp, p, hs2⟩ := hv.rng
  have HA := Lib.hid (fun W hW => Tryz.strconv_Atoi_range_var s (by omega) ha tp p W hW)
  have HS := Lib.hid hs2
  clear hT hc ha hV hs2 hv
  go_enter Tryz.func105, Tryz.ntmps105
  go_wp2_with (first
    | (go_at_call 149; refine HT.out.mono ?_; rintro e w1 ⟨rfl, hb⟩)
    | (go_at_call 150; refine (HA.out _ (var_below hb HS.out)).mono ?_; rintro e w2 ⟨N, rfl, _, _, hb2⟩))
  go_ret2
  rw [HP.out]
  exact ⟨rfl, hb.trans (hb2.mono hb.size)⟩
theorem parse_any (s : ByteArray) (lo hi : Int) (hs : s.size ≤ 4000000) (w : World) (hv : Vars w) :
    Calls Tryz.prog 105 #[.string s, .int .i64 lo, .int .i64 hi] w fun e w' => Ans (parseIn s.data.toList lo hi) e ∧ Below w.heap.size w w' := by
  cases hc : canL s.data.toList with
  | false => exact parse_no s lo hi hs w hc
  | true =>
    cases ha : Lib.atoiAll s.data.toList with
    | ok v => exact parse_ok s lo hi v hs w hc ha
    | range => exact parse_range s lo hi hs w hv hc ha
    | _ => exact parse_wrong s lo hi hs w hv hc ha
end Go.Proofs.YtdinachiiimngaaGreatDoor.Nu
namespace Go.Proofs.YtdinachiiimngaaGreatDoor
open Go.ChangeShapes Go.WideShapes Go.ChangeAt Go.RowKit
open TokP AdrP CtP

/-- A place in the box g. -/
def Plx (w : World) (g : Nat) (N : ByteArray) (S : Int) : Prop := w.heap[g]? = some (.cells #[.string N, .int .i64 S] 94 (0, 0))
theorem Plx.lt {w : World} {g : Nat} {N : ByteArray} {S : Int} (h : Plx w g N S) : g < w.heap.size := (Array.getElem?_eq_some_iff.1 h).1
theorem Plx.step {w w' : World} {g : Nat} {N : ByteArray} {S : Int} (h : Plx w g N S) (hb : Below w.heap.size w w') : Plx w' g N S := (hb.block _ h.lt).trans h
theorem plx_new (w : World) (N : ByteArray) (S : Int) : Plx (w.alloc (.cells #[.string N, .int .i64 S] 94)) w.heap.size N S := World.alloc_heap_new w _
theorem Plx.c0 {w : World} {g : Nat} {N : ByteArray} {S : Int} (h : Plx w g N S) : w.cell? ⟨g, 0, none⟩ = some (.string N) := by rw [Lib.cell_of_heap h]; rfl
theorem Plx.c1 {w : World} {g : Nat} {N : ByteArray} {S : Int} (h : Plx w g N S) : w.cell? ⟨g, 1, none⟩ = some (.int .i64 S) := by rw [Lib.cell_of_heap h]; rfl
theorem Plx.fr {w : World} {g : Nat} {N : ByteArray} {S : Int} (h : Plx w g N S) (i : Nat) : w.frozen? ⟨g, i, none⟩ = false := Lib.frozen_of_heap h i
theorem set_two {w : World} {g : Nat} {N N' : ByteArray} {S S' : Int} (h : Plx w g N S) : Plx ((w.setCell ⟨g, 0, none⟩ (.string N')).setCell ⟨g, 1, none⟩ (.int .i64 S')) g N' S' := by
  have h' : w.heap[g]? = some (.cells #[.string N, .int .i64 S] 94 (0, 0)) := h
  show ((w.setCell ⟨g, 0, none⟩ (.string N')).setCell ⟨g, 1, none⟩ (.int .i64 S')).heap[g]? = _
  simp [World.setCell, Array.getElem?_modify, h']
theorem below_two {w W : World} {C g : Nat} (h : Below C w W) (hg : C ≤ g) (v0 v1 : Value) : Below C w ((W.setCell ⟨g, 0, none⟩ v0).setCell ⟨g, 1, none⟩ v1) :=
  below_at (below_at h _ hg _) _ hg _
theorem rowsPlc : (Tryz.prog.info? 94).map (·.size) = some 2 := by kernel_rfl
theorem results_plc {fn : Func} {p u : Tmp} (h : fn.results = #[.cell p 94, .tmp u]) (tmps : Array Value) (w : World) (g : Nat) (N : ByteArray) (S : Int) (hp : tmps.getD p undef = .pointer (some ⟨g, 0, none⟩)) (hg : Plx w g N S) :
    (results fn tmps).run Tryz.prog w = .ok (.tuple #[.agg #[.string N, .int .i64 S], tmps.getD u undef]) w := by
  rw [results_cell_tmp h, hp]
  have := run_loadVar_row (P := Tryz.prog) w g 94 94 #[.string N, .int .i64 S] (0, 0) _ hg Tryz.underlying94 rfl rowsPlc
  simp [asAddr, Result.andThen, this]
/-- The number of a section. -/
def numF (l : List UInt8) : Option Nat := (Nu.parseIn l 0 63).map Int.toNat
theorem parseIn_range {l : List UInt8} {z : Int} (h : Nu.parseIn l 0 63 = some z) : 0 ≤ z ∧ z ≤ 63 := by
  unfold Nu.parseIn at h
  split at h
  · split at h
    · obtain rfl := Option.some.inj h; assumption
    · exact absurd h (by simp)
  · exact absurd h (by simp)
theorem suffix_ast (l : List UInt8) : Lib.hasSuffix l [42] = (l.getLast? == some 42) := by
  unfold Lib.hasSuffix List.isSuffixOf
  rcases List.eq_nil_or_concat l with rfl | ⟨m, d, rfl⟩
  · rfl
  · rw [List.concat_eq_append, List.reverse_append, List.getLast?_append]
    show (42 == d && List.isPrefixOf [] m.reverse) = _
    simp only [List.isPrefixOf, Bool.and_true, List.getLast?_singleton, Option.some_or]
    rw [Bool.eq_iff_iff]
    simp only [beq_iff_eq, Option.some.injEq]
    exact ⟨fun h => h.symm, fun h => h.symm⟩
theorem told_star (num : List UInt8 → Option Nat) (name value x y : List UInt8) (n : List UInt8) (hn : (if wideB name = true then name.dropLast else name) = n) (hxy : n = x ++ 42 :: y) (hy : 42 ∉ y) :
    toldP num name value = match num y with
      | some k => ⟨x, some k, wideB name, value⟩
      | none => ⟨n, none, wideB name, value⟩ := by
  unfold toldP
  rw [hn]
  have hm : 42 ∈ n := by rw [hxy]; simp
  rw [if_pos hm]
  have hr : upC 42 n.reverse = y.reverse := by
    rw [hxy, List.reverse_append, List.reverse_cons, List.append_assoc]
    exact (upC_at (by rw [List.mem_reverse]; exact hy) x.reverse).1
  simp only [hr, List.reverse_reverse]
  have ht : n.take (n.length - y.length - 1) = x := by
    rw [hxy]
    refine List.take_left' ?_
    rw [List.length_append, List.length_cons]; omega
  rw [ht]
  cases num y <;> rfl
theorem told_no (num : List UInt8 → Option Nat) (name value : List UInt8) (n : List UInt8) (hn : (if wideB name = true then name.dropLast else name) = n) (h : 42 ∉ n) : toldP num name value = ⟨n, none, wideB name, value⟩ := by
  unfold toldP
  rw [hn, if_neg h]
/-- What placed answers: the place, and whether the value is encoded. -/
def plcV (p : Par) : Value := .tuple #[.agg #[.string (strL p.name), .int .i64 (plcZ p)], .bool p.wide]
set_option maxRecDepth 100000 in
set_option maxHeartbeats 8000000 in
theorem placed_true (s : ByteArray) (hs : s.size ≤ 4000000) (hw : wideB s.data.toList = true) (w : World) (hv : Nu.Vars w) :
    Calls Tryz.prog 69 #[.string s] w fun e w' => e = .returned (plcV (toldP numF s.data.toList [])) ∧ Below w.heap.size w w' := by
  have hz := size_list s
  have hbox := plx_new w ⟨#[]⟩ 0
  have HB0 := Lib.hid (show Below w.heap.size w (w.alloc (.cells #[.string ⟨#[]⟩, .int .i64 0] 94)) from (Below.refl _ w).alloc (Nat.le_refl _) _)
  have HV0 := Lib.hid (hv.below HB0.out)
  have HX0 := Lib.hid hbox
  have x0 := hbox.c0
  have x1 := hbox.c1
  have xf := hbox.fr
  have HBOX := Lib.hid (fun (W : World) (hb : Hid (Below (w.alloc (.cells #[.string ⟨#[]⟩, .int .i64 0] 94)).heap.size (w.alloc (.cells #[.string ⟨#[]⟩, .int .i64 0] 94)) W)) => show W.cell? ⟨w.heap.size, 0, none⟩ = some (.string ⟨#[]⟩) ∧ W.cell? ⟨w.heap.size, 1, none⟩ = some (.int .i64 0) ∧ ∀ i, W.frozen? ⟨w.heap.size, i, none⟩ = false from ⟨(hbox.step hb.out).c0, (hbox.step hb.out).c1, (hbox.step hb.out).fr⟩)
  have cH := fun W => Tryz.strings_HasSuffix s ⟨#[42]⟩ W (by omega)
  rw [show (⟨#[42]⟩ : ByteArray).data.toList = [42] from rfl, suffix_ast] at cH
  obtain ⟨n, hn⟩ : ∃ n, (if wideB s.data.toList = true then s.data.toList.dropLast else s.data.toList) = n := ⟨_, rfl⟩
  have hw2 : 2 ≤ s.data.toList.length ∧ s.data.toList.getLast? = some 42 := by
    unfold wideB at hw
    rw [Bool.and_eq_true, decide_eq_true_eq, beq_iff_eq] at hw
    exact hw
  have hl1 : (1 : Int) < (s.size : Int) := by omega
  rw [show (s.data.toList.getLast? == some 42) = true from beq_iff_eq.2 hw2.2] at cH
  have hn2 : s.data.toList.dropLast = n := by rw [← hn, if_pos hw]
  have FS : IntKind.i64.wrap ((s.size : Int) - 1) = (s.size : Int) - 1 := by rw [IntKind.wrap_i64]; omega
  have RS := run_slice_to s (s.size - 1) ((s.size : Int) - 1) (by omega) (by omega)
  have eS : s.extract 0 (s.size - 1) = strL n := bytes_is (by rw [part_start s (s.size - 1) (by omega), strL_list, ← hn2, List.dropLast_eq_take, ← hz])
  rw [eS] at RS
  have hnz : n.length ≤ 4000000 := by rw [← hn2, List.length_dropLast]; omega
  have cI := fun W => Tryz.strings_LastIndexByte (strL n) 42 (by rw [strL_size]; omega) W
  by_cases hst : 42 ∈ n
  · obtain ⟨x, y, hxy, hy, hli⟩ := last_yes n hst
    rw [hli] at cI
    have hlen : n.length = x.length + 1 + y.length := by rw [hxy, List.length_append, List.length_cons]; omega
    have hts := told_star numF s.data.toList [] x y n hn hxy hy
    have F1 : IntKind.i64.wrap ((x.length : Int) + 1) = (x.length : Int) + 1 := by rw [IntKind.wrap_i64]; omega
    have R1 := run_slice_from (strL n) (x.length + 1) ((x.length : Int) + 1) (by omega) (by rw [strL_size]; omega)
    have R2 := run_slice_to (strL n) x.length (x.length : Int) rfl (by rw [strL_size]; omega)
    have e1 : (strL n).extract (x.length + 1) (strL n).size = strL y := bytes_is (by rw [part_rest (strL n) (x.length + 1) (by rw [strL_size]; omega), strL_list, strL_list, hxy, ← List.drop_drop, List.drop_left' rfl]; rfl)
    have e2 : (strL n).extract 0 x.length = strL x := bytes_is (by rw [part_start (strL n) x.length (by rw [strL_size]; omega), strL_list, strL_list, hxy, List.take_left' rfl])
    rw [e1] at R1
    rw [e2] at R2
    have cP := fun W (hv : Hid (Nu.Vars W)) => Nu.parse_any (strL y) 0 63 (by rw [strL_size]; omega) W hv.out
    rw [strL_list] at cP
    unfold Nu.Ans at cP
    have hx0 : (0 : Int) ≤ (x.length : Int) := by omega
    cases hp : Nu.parseIn y 0 63 with
    | some z =>
      have hrz := parseIn_range hp
      rw [hp] at cP
      have hq : toldP numF s.data.toList [] = ⟨x, some z.toNat, true, []⟩ := by rw [hts]; unfold numF; rw [hp, hw]; rfl
      have HA := Lib.hid (show plcV (toldP numF s.data.toList []) = .tuple #[.agg #[.string (strL x), .int .i64 z], .bool true] by rw [hq]; unfold plcV plcZ; simp only []; rw [show ((z.toNat : Nat) : Int) = z by omega])
      simp only [Option.getD_some, Option.isSome_some] at cP
      have HN := Lib.hid hlen
      generalize strL n = ns at RS R1 R2 cI
      generalize strL y = ys at R1 cP
      generalize strL x = xs at R2 HA
      generalize (x.length : Int) = p at R1 R2 cI F1 hx0
      clear hv hbox hn hn2 hw hst hnz hz eS hw2 hxy hy hli hts e1 e2 hp hq hrz hlen
      go_enter Tryz.func69, Tryz.ntmps69
      go_wp2_with (first
        | (go_at_call 103; refine (cH _).mono ?_; rintro e w1 ⟨rfl, rfl⟩)
        | (go_at_call 104; refine (cI _).mono ?_; rintro e w2 ⟨rfl, rfl⟩)
        | (go_at_call 105; (with_reducible refine (cP _ HV0).mono ?_); rintro e w3 ⟨rfl, hb3⟩; have HB3 := Lib.hid (HB0.out.trans (hb3.mono HB0.out.size)); obtain ⟨y0, y1, yf⟩ := HBOX.out w3 (Lib.hid hb3); have HX3 := Lib.hid (HX0.out.step hb3); clear hb3 cP))
      rw [HA.out]
      exact bodyPost_ret (results_plc rfl _ _ w.heap.size _ _ rfl (set_two HX3.out)) rfl ⟨rfl, below_two HB3.out (Nat.le_refl _) _ _⟩
    | none =>
      rw [hp] at cP
      have hq : toldP numF s.data.toList [] = ⟨n, none, true, []⟩ := by rw [hts]; unfold numF; rw [hp, hw]; rfl
      have HA := Lib.hid (show plcV (toldP numF s.data.toList []) = .tuple #[.agg #[.string (strL n), .int .i64 (-1)], .bool true] by rw [hq]; rfl)
      simp only [Option.getD_none, Option.isSome_none] at cP
      generalize strL n = ns at RS R1 R2 cI HA
      generalize strL y = ys at R1 cP
      generalize (x.length : Int) = p at R1 R2 cI F1 hx0
      clear hv hbox hn hn2 hw hst hnz hz eS hw2 hxy hy hli hts e1 e2 hp hq hlen R2
      go_enter Tryz.func69, Tryz.ntmps69
      go_wp2_with (first
        | (go_at_call 103; refine (cH _).mono ?_; rintro e w1 ⟨rfl, rfl⟩)
        | (go_at_call 104; refine (cI _).mono ?_; rintro e w2 ⟨rfl, rfl⟩)
        | (go_at_call 105; (with_reducible refine (cP _ HV0).mono ?_); rintro e w3 ⟨rfl, hb3⟩; have HB3 := Lib.hid (HB0.out.trans (hb3.mono HB0.out.size)); obtain ⟨y0, y1, yf⟩ := HBOX.out w3 (Lib.hid hb3); have HX3 := Lib.hid (HX0.out.step hb3); clear hb3 cP))
      rw [HA.out]
      exact bodyPost_ret (results_plc rfl _ _ w.heap.size _ _ rfl (set_two HX3.out)) rfl ⟨rfl, below_two HB3.out (Nat.le_refl _) _ _⟩
  · rw [last_no n hst] at cI
    have hq : toldP numF s.data.toList [] = ⟨n, none, true, []⟩ := by rw [told_no numF s.data.toList [] n hn hst, hw]
    have HA := Lib.hid (show plcV (toldP numF s.data.toList []) = .tuple #[.agg #[.string (strL n), .int .i64 (-1)], .bool true] by rw [hq]; rfl)
    generalize strL n = ns at RS cI HA
    clear hv hbox hn hn2 hw hst hnz hz eS hw2 hq
    go_enter Tryz.func69, Tryz.ntmps69
    go_wp2_with (first
        | (go_at_call 103; refine (cH _).mono ?_; rintro e w1 ⟨rfl, rfl⟩)
        | (go_at_call 104; refine (cI _).mono ?_; rintro e w2 ⟨rfl, rfl⟩))
    rw [HA.out]
    exact bodyPost_ret (results_plc rfl _ _ w.heap.size _ _ rfl (plx_new w _ _)) rfl ⟨rfl, (Below.refl _ w).alloc (Nat.le_refl _) _⟩
set_option maxRecDepth 100000 in
set_option maxHeartbeats 8000000 in
theorem placed_false (s : ByteArray) (hs : s.size ≤ 4000000) (hw : wideB s.data.toList = false) (w : World) (hv : Nu.Vars w) :
    Calls Tryz.prog 69 #[.string s] w fun e w' => e = .returned (plcV (toldP numF s.data.toList [])) ∧ Below w.heap.size w w' := by
  have hz := size_list s
  have hbox := plx_new w ⟨#[]⟩ 0
  have HB0 := Lib.hid (show Below w.heap.size w (w.alloc (.cells #[.string ⟨#[]⟩, .int .i64 0] 94)) from (Below.refl _ w).alloc (Nat.le_refl _) _)
  have HV0 := Lib.hid (hv.below HB0.out)
  have HX0 := Lib.hid hbox
  have x0 := hbox.c0
  have x1 := hbox.c1
  have xf := hbox.fr
  have HBOX := Lib.hid (fun (W : World) (hb : Hid (Below (w.alloc (.cells #[.string ⟨#[]⟩, .int .i64 0] 94)).heap.size (w.alloc (.cells #[.string ⟨#[]⟩, .int .i64 0] 94)) W)) => show W.cell? ⟨w.heap.size, 0, none⟩ = some (.string ⟨#[]⟩) ∧ W.cell? ⟨w.heap.size, 1, none⟩ = some (.int .i64 0) ∧ ∀ i, W.frozen? ⟨w.heap.size, i, none⟩ = false from ⟨(hbox.step hb.out).c0, (hbox.step hb.out).c1, (hbox.step hb.out).fr⟩)
  have cH := fun W => Tryz.strings_HasSuffix s ⟨#[42]⟩ W (by omega)
  rw [show (⟨#[42]⟩ : ByteArray).data.toList = [42] from rfl, suffix_ast] at cH
  obtain ⟨n, hn⟩ : ∃ n, (if wideB s.data.toList = true then s.data.toList.dropLast else s.data.toList) = n := ⟨_, rfl⟩
  have hn2 : s.data.toList = n := by rw [← hn, if_neg (by rw [hw]; decide)]
  have hnz : n.length ≤ 4000000 := by rw [← hn2]; omega
  have eS : s = strL n := by rw [← hn2, strL_of]
  have hw2 : (s.data.toList.length < 2) ∨ (s.data.toList.getLast? == some 42) = false := by
    unfold wideB at hw
    rw [Bool.and_eq_false_iff, decide_eq_false_iff_not] at hw
    exact hw.imp (fun h => by omega) id
  by_cases hl1 : (1 : Int) < (s.size : Int)
  · rw [hw2.resolve_left (by omega)] at cH
    clear hw2
    obtain ⟨D, hD⟩ : ∃ D, plcV (toldP numF s.data.toList []) = D := ⟨_, rfl⟩
    rw [hD]
    have HD := Lib.hid hD
    clear hD
    subst eS
    have cI := fun W => Tryz.strings_LastIndexByte (strL n) 42 (by rw [strL_size]; omega) W
    by_cases hst : 42 ∈ n
    · obtain ⟨x, y, hxy, hy, hli⟩ := last_yes n hst
      rw [hli] at cI
      have hlen : n.length = x.length + 1 + y.length := by rw [hxy, List.length_append, List.length_cons]; omega
      have hts := told_star numF (strL n).data.toList [] x y n hn hxy hy
      have F1 : IntKind.i64.wrap ((x.length : Int) + 1) = (x.length : Int) + 1 := by rw [IntKind.wrap_i64]; omega
      have R1 := run_slice_from (strL n) (x.length + 1) ((x.length : Int) + 1) (by omega) (by rw [strL_size]; omega)
      have R2 := run_slice_to (strL n) x.length (x.length : Int) rfl (by rw [strL_size]; omega)
      have e1 : (strL n).extract (x.length + 1) (strL n).size = strL y := bytes_is (by rw [part_rest (strL n) (x.length + 1) (by rw [strL_size]; omega), strL_list, strL_list, hxy, ← List.drop_drop, List.drop_left' rfl]; rfl)
      have e2 : (strL n).extract 0 x.length = strL x := bytes_is (by rw [part_start (strL n) x.length (by rw [strL_size]; omega), strL_list, strL_list, hxy, List.take_left' rfl])
      rw [e1] at R1
      rw [e2] at R2
      have cP := fun W (hv : Hid (Nu.Vars W)) => Nu.parse_any (strL y) 0 63 (by rw [strL_size]; omega) W hv.out
      rw [strL_list] at cP
      unfold Nu.Ans at cP
      have hx0 : (0 : Int) ≤ (x.length : Int) := by omega
      cases hp : Nu.parseIn y 0 63 with
      | some z =>
        have hrz := parseIn_range hp
        rw [hp] at cP
        have hq : toldP numF (strL n).data.toList [] = ⟨x, some z.toNat, false, []⟩ := by rw [hts]; unfold numF; rw [hp, hw]; rfl
        have HA := Lib.hid (show plcV (toldP numF (strL n).data.toList []) = .tuple #[.agg #[.string (strL x), .int .i64 z], .bool false] by rw [hq]; unfold plcV plcZ; simp only []; rw [show ((z.toNat : Nat) : Int) = z by omega])
        simp only [Option.getD_some, Option.isSome_some] at cP
        have HN := Lib.hid hlen
        generalize strL n = ns at R1 R2 cI HA hl1 cH HD
        generalize strL y = ys at R1 cP
        generalize strL x = xs at R2 HA
        generalize (x.length : Int) = p at R1 R2 cI F1 hx0
        clear hv hbox hn hn2 hw hst hnz hz hs hxy hy hli hts e1 e2 hp hq hrz hlen
        go_enter Tryz.func69, Tryz.ntmps69
        go_wp2_with (first
          | (go_at_call 103; refine (cH _).mono ?_; rintro e w1 ⟨rfl, rfl⟩)
          | (go_at_call 104; refine (cI _).mono ?_; rintro e w2 ⟨rfl, rfl⟩)
          | (go_at_call 105; (with_reducible refine (cP _ HV0).mono ?_); rintro e w3 ⟨rfl, hb3⟩; have HB3 := Lib.hid (HB0.out.trans (hb3.mono HB0.out.size)); obtain ⟨y0, y1, yf⟩ := HBOX.out w3 (Lib.hid hb3); have HX3 := Lib.hid (HX0.out.step hb3); clear hb3 cP))
        rw [← HD.out, HA.out]
        exact bodyPost_ret (results_plc rfl _ _ w.heap.size _ _ rfl (set_two HX3.out)) rfl ⟨rfl, below_two HB3.out (Nat.le_refl _) _ _⟩
      | none =>
        rw [hp] at cP
        have hq : toldP numF (strL n).data.toList [] = ⟨n, none, false, []⟩ := by rw [hts]; unfold numF; rw [hp, hw]; rfl
        have HA := Lib.hid (show plcV (toldP numF (strL n).data.toList []) = .tuple #[.agg #[.string (strL n), .int .i64 (-2)], .bool false] by rw [hq]; rfl)
        simp only [Option.getD_none, Option.isSome_none] at cP
        generalize strL n = ns at R1 R2 cI HA hl1 cH HD
        generalize strL y = ys at R1 cP
        generalize (x.length : Int) = p at R1 R2 cI F1 hx0
        clear hv hbox hn hn2 hw hst hnz hz hs hxy hy hli hts e1 e2 hp hq hlen R2
        go_enter Tryz.func69, Tryz.ntmps69
        go_wp2_with (first
          | (go_at_call 103; refine (cH _).mono ?_; rintro e w1 ⟨rfl, rfl⟩)
          | (go_at_call 104; refine (cI _).mono ?_; rintro e w2 ⟨rfl, rfl⟩)
          | (go_at_call 105; (with_reducible refine (cP _ HV0).mono ?_); rintro e w3 ⟨rfl, hb3⟩; have HB3 := Lib.hid (HB0.out.trans (hb3.mono HB0.out.size)); obtain ⟨y0, y1, yf⟩ := HBOX.out w3 (Lib.hid hb3); have HX3 := Lib.hid (HX0.out.step hb3); clear hb3 cP))
        rw [← HD.out, HA.out]
        exact bodyPost_ret (results_plc rfl _ _ w.heap.size _ _ rfl (set_two HX3.out)) rfl ⟨rfl, below_two HB3.out (Nat.le_refl _) _ _⟩
    · rw [last_no n hst] at cI
      have hq : toldP numF (strL n).data.toList [] = ⟨n, none, false, []⟩ := by rw [told_no numF (strL n).data.toList [] n hn hst, hw]
      have HA := Lib.hid (show plcV (toldP numF (strL n).data.toList []) = .tuple #[.agg #[.string (strL n), .int .i64 (-2)], .bool false] by rw [hq]; rfl)
      generalize strL n = ns at cI HA hl1 cH HD
      clear hv hbox hn hn2 hw hst hnz hz hs hq
      go_enter Tryz.func69, Tryz.ntmps69
      go_wp2_with (first
          | (go_at_call 103; refine (cH _).mono ?_; rintro e w1 ⟨rfl, rfl⟩)
          | (go_at_call 104; refine (cI _).mono ?_; rintro e w2 ⟨rfl, rfl⟩))
      rw [← HD.out, HA.out]
      exact bodyPost_ret (results_plc rfl _ _ w.heap.size _ _ rfl (plx_new w _ _)) rfl ⟨rfl, (Below.refl _ w).alloc (Nat.le_refl _) _⟩
  · clear hw2 cH
    obtain ⟨D, hD⟩ : ∃ D, plcV (toldP numF s.data.toList []) = D := ⟨_, rfl⟩
    rw [hD]
    have HD := Lib.hid hD
    clear hD
    subst eS
    have cI := fun W => Tryz.strings_LastIndexByte (strL n) 42 (by rw [strL_size]; omega) W
    by_cases hst : 42 ∈ n
    · obtain ⟨x, y, hxy, hy, hli⟩ := last_yes n hst
      rw [hli] at cI
      have hlen : n.length = x.length + 1 + y.length := by rw [hxy, List.length_append, List.length_cons]; omega
      have hts := told_star numF (strL n).data.toList [] x y n hn hxy hy
      have F1 : IntKind.i64.wrap ((x.length : Int) + 1) = (x.length : Int) + 1 := by rw [IntKind.wrap_i64]; omega
      have R1 := run_slice_from (strL n) (x.length + 1) ((x.length : Int) + 1) (by omega) (by rw [strL_size]; omega)
      have R2 := run_slice_to (strL n) x.length (x.length : Int) rfl (by rw [strL_size]; omega)
      have e1 : (strL n).extract (x.length + 1) (strL n).size = strL y := bytes_is (by rw [part_rest (strL n) (x.length + 1) (by rw [strL_size]; omega), strL_list, strL_list, hxy, ← List.drop_drop, List.drop_left' rfl]; rfl)
      have e2 : (strL n).extract 0 x.length = strL x := bytes_is (by rw [part_start (strL n) x.length (by rw [strL_size]; omega), strL_list, strL_list, hxy, List.take_left' rfl])
      rw [e1] at R1
      rw [e2] at R2
      have cP := fun W (hv : Hid (Nu.Vars W)) => Nu.parse_any (strL y) 0 63 (by rw [strL_size]; omega) W hv.out
      rw [strL_list] at cP
      unfold Nu.Ans at cP
      have hx0 : (0 : Int) ≤ (x.length : Int) := by omega
      cases hp : Nu.parseIn y 0 63 with
      | some z =>
        have hrz := parseIn_range hp
        rw [hp] at cP
        have hq : toldP numF (strL n).data.toList [] = ⟨x, some z.toNat, false, []⟩ := by rw [hts]; unfold numF; rw [hp, hw]; rfl
        have HA := Lib.hid (show plcV (toldP numF (strL n).data.toList []) = .tuple #[.agg #[.string (strL x), .int .i64 z], .bool false] by rw [hq]; unfold plcV plcZ; simp only []; rw [show ((z.toNat : Nat) : Int) = z by omega])
        simp only [Option.getD_some, Option.isSome_some] at cP
        have HN := Lib.hid hlen
        generalize strL n = ns at R1 R2 cI HA hl1 HD
        generalize strL y = ys at R1 cP
        generalize strL x = xs at R2 HA
        generalize (x.length : Int) = p at R1 R2 cI F1 hx0
        clear hv hbox hn hn2 hw hst hnz hz hs hxy hy hli hts e1 e2 hp hq hrz hlen
        go_enter Tryz.func69, Tryz.ntmps69
        go_wp2_with (first
          | (go_at_call 103; refine (cH _).mono ?_; rintro e w1 ⟨rfl, rfl⟩)
          | (go_at_call 104; refine (cI _).mono ?_; rintro e w2 ⟨rfl, rfl⟩)
          | (go_at_call 105; (with_reducible refine (cP _ HV0).mono ?_); rintro e w3 ⟨rfl, hb3⟩; have HB3 := Lib.hid (HB0.out.trans (hb3.mono HB0.out.size)); obtain ⟨y0, y1, yf⟩ := HBOX.out w3 (Lib.hid hb3); have HX3 := Lib.hid (HX0.out.step hb3); clear hb3 cP))
        rw [← HD.out, HA.out]
        exact bodyPost_ret (results_plc rfl _ _ w.heap.size _ _ rfl (set_two HX3.out)) rfl ⟨rfl, below_two HB3.out (Nat.le_refl _) _ _⟩
      | none =>
        rw [hp] at cP
        have hq : toldP numF (strL n).data.toList [] = ⟨n, none, false, []⟩ := by rw [hts]; unfold numF; rw [hp, hw]; rfl
        have HA := Lib.hid (show plcV (toldP numF (strL n).data.toList []) = .tuple #[.agg #[.string (strL n), .int .i64 (-2)], .bool false] by rw [hq]; rfl)
        simp only [Option.getD_none, Option.isSome_none] at cP
        generalize strL n = ns at R1 R2 cI HA hl1 HD
        generalize strL y = ys at R1 cP
        generalize (x.length : Int) = p at R1 R2 cI F1 hx0
        clear hv hbox hn hn2 hw hst hnz hz hs hxy hy hli hts e1 e2 hp hq hlen R2
        go_enter Tryz.func69, Tryz.ntmps69
        go_wp2_with (first
          | (go_at_call 103; refine (cH _).mono ?_; rintro e w1 ⟨rfl, rfl⟩)
          | (go_at_call 104; refine (cI _).mono ?_; rintro e w2 ⟨rfl, rfl⟩)
          | (go_at_call 105; (with_reducible refine (cP _ HV0).mono ?_); rintro e w3 ⟨rfl, hb3⟩; have HB3 := Lib.hid (HB0.out.trans (hb3.mono HB0.out.size)); obtain ⟨y0, y1, yf⟩ := HBOX.out w3 (Lib.hid hb3); have HX3 := Lib.hid (HX0.out.step hb3); clear hb3 cP))
        rw [← HD.out, HA.out]
        exact bodyPost_ret (results_plc rfl _ _ w.heap.size _ _ rfl (set_two HX3.out)) rfl ⟨rfl, below_two HB3.out (Nat.le_refl _) _ _⟩
    · rw [last_no n hst] at cI
      have hq : toldP numF (strL n).data.toList [] = ⟨n, none, false, []⟩ := by rw [told_no numF (strL n).data.toList [] n hn hst, hw]
      have HA := Lib.hid (show plcV (toldP numF (strL n).data.toList []) = .tuple #[.agg #[.string (strL n), .int .i64 (-2)], .bool false] by rw [hq]; rfl)
      generalize strL n = ns at cI HA hl1 HD
      clear hv hbox hn hn2 hw hst hnz hz hs hq
      go_enter Tryz.func69, Tryz.ntmps69
      go_wp2_with (first
          | (go_at_call 103; refine (cH _).mono ?_; rintro e w1 ⟨rfl, rfl⟩)
          | (go_at_call 104; refine (cI _).mono ?_; rintro e w2 ⟨rfl, rfl⟩))
      rw [← HD.out, HA.out]
      exact bodyPost_ret (results_plc rfl _ _ w.heap.size _ _ rfl (plx_new w _ _)) rfl ⟨rfl, (Below.refl _ w).alloc (Nat.le_refl _) _⟩
theorem placed_any (s : ByteArray) (hs : s.size ≤ 4000000) (w : World) (hv : Nu.Vars w) :
    Calls Tryz.prog 69 #[.string s] w fun e w' => e = .returned (plcV (toldP numF s.data.toList [])) ∧ Below w.heap.size w w' := by
  cases hw : wideB s.data.toList with
  | true => exact placed_true s hs hw w hv
  | false => exact placed_false s hs hw w hv
end Go.Proofs.YtdinachiiimngaaGreatDoor
namespace Go.Proofs.YtdinachiiimngaaGreatDoor.CtP
open TokP AdrP

def szP (l : List (List UInt8 × Bool)) : Nat := (l.map (fun p => p.1.length)).sum
def lenO : Option (List UInt8 × Bool) → Nat
  | some p => p.1.length
  | none => 0
def sumZ (G : Int → Option (List UInt8 × Bool)) (Z : List Int) : Nat := (Z.map (fun z => lenO (G z))).sum
theorem sumZ_cons (G : Int → Option (List UInt8 × Bool)) (z : Int) (Z : List Int) : sumZ G (z :: Z) = lenO (G z) + sumZ G Z := by unfold sumZ; rw [List.map_cons, List.sum_cons]
def szE (E : List Ent) : Nat := (E.map (fun e => e.2.1.length)).sum
theorem szE_cons (e : Ent) (E : List Ent) : szE (e :: E) = e.2.1.length + szE E := by unfold szE; rw [List.map_cons, List.sum_cons]
theorem getE_cons (e : Ent) (E : List Ent) (n : List UInt8) (z : Int) : getE (e :: E) n z = if (e.1.1 == n && e.1.2 == z) = true then some e.2 else getE E n z := by
  unfold getE
  rw [List.find?_cons]
  cases (e.1.1 == n && e.1.2 == z) <;> rfl
theorem sum_none (n : List UInt8) : ∀ Z : List Int, sumZ (getE [] n) Z = 0
  | [] => rfl
  | z :: Z => by rw [sumZ_cons, sum_none n Z]; rfl
theorem sum_off (e : Ent) (E : List Ent) (n : List UInt8) : ∀ Z : List Int, e.1.2 ∉ Z → sumZ (getE (e :: E) n) Z = sumZ (getE E n) Z
  | [], _ => rfl
  | z :: Z, h => by
    rw [sumZ_cons, sumZ_cons, sum_off e E n Z (fun hc => h (by simp [hc])), getE_cons, if_neg (fun hc => ?_)]
    rw [Bool.and_eq_true, beq_iff_eq, beq_iff_eq] at hc
    exact h (by simp [hc.2])
theorem sum_one (e : Ent) (E : List Ent) (n : List UInt8) : ∀ Z : List Int, Z.Nodup → sumZ (getE (e :: E) n) Z ≤ e.2.1.length + sumZ (getE E n) Z
  | [], _ => Nat.zero_le _
  | z :: Z, h => by
    rw [List.nodup_cons] at h
    rw [sumZ_cons, sumZ_cons, getE_cons]
    by_cases hc : (e.1.1 == n && e.1.2 == z) = true
    · rw [if_pos hc]
      rw [Bool.and_eq_true, beq_iff_eq, beq_iff_eq] at hc
      rw [sum_off e E n Z (by rw [hc.2]; exact h.1)]
      show e.2.1.length + _ ≤ _
      omega
    · rw [if_neg hc]
      have := sum_one e E n Z h.2
      omega
theorem sum_ents (n : List UInt8) (Z : List Int) (hZ : Z.Nodup) : ∀ E : List Ent, sumZ (getE E n) Z ≤ szE E
  | [] => by rw [sum_none]; exact Nat.zero_le _
  | e :: E => by
    have h1 := sum_one e E n Z hZ
    have h2 := sum_ents n Z hZ E
    rw [szE_cons]
    omega
def upZ : Nat → Nat → List Int
  | 0, _ => []
  | f + 1, k => (k : Int) :: upZ f (k + 1)
theorem upZ_ge : ∀ (f k : Nat) (z : Int), z ∈ upZ f k → (k : Int) ≤ z
  | 0, _, _, h => absurd h (by simp [upZ])
  | f + 1, k, z, h => by
    rw [upZ, List.mem_cons] at h
    rcases h with rfl | h
    · exact Int.le_refl _
    · have := upZ_ge f (k + 1) z h
      omega
theorem upZ_nodup : ∀ f k : Nat, (upZ f k).Nodup
  | 0, _ => List.nodup_nil
  | f + 1, k => by
    rw [upZ, List.nodup_cons]
    exact ⟨fun h => by have := upZ_ge f (k + 1) _ h; omega, upZ_nodup f (k + 1)⟩
theorem secs_sum (G : Int → Option (List UInt8 × Bool)) : ∀ f k : Nat, szP (secsF G f k) ≤ sumZ G (upZ f k)
  | 0, _ => Nat.zero_le _
  | f + 1, k => by
    rw [secsF, upZ, sumZ_cons]
    cases G k with
    | none => exact Nat.zero_le _
    | some p =>
      have := secs_sum G f (k + 1)
      show szP (p :: secsF G f (k + 1)) ≤ _
      unfold szP at this ⊢
      rw [List.map_cons, List.sum_cons]
      show p.1.length + _ ≤ p.1.length + _
      omega
theorem or_sum (l : List (List UInt8 × Bool)) (o : Option (List UInt8 × Bool)) : szP (orL l o) ≤ szP l + lenO o := by
  unfold orL
  split
  · cases o with
    | none => exact Nat.zero_le _
    | some p => unfold szP; simp [lenO]
  · omega
theorem parts_sum (E : List Ent) (n : List UInt8) : szP (partsL (getE E n)) ≤ szE E := by
  have h1 := secs_sum (getE E n) 64 0
  have h2 := or_sum (secsF (getE E n) 64 0) (getE E n (-1))
  have h3 := or_sum (orL (secsF (getE E n) 64 0) (getE E n (-1))) (getE E n (-2))
  have h4 := sum_ents n (-2 :: -1 :: upZ 64 0) (by
    rw [List.nodup_cons, List.nodup_cons, List.mem_cons]
    refine ⟨fun h => ?_, fun h => ?_, upZ_nodup 64 0⟩
    · rcases h with h | h
      · exact absurd h (by decide)
      · have := upZ_ge 64 0 _ h; omega
    · have := upZ_ge 64 0 _ h; omega) E
  rw [sumZ_cons, sumZ_cons] at h4
  unfold partsL
  omega
def szA (all : List Par) : Nat := (all.map (fun p => p.value.length)).sum
theorem put_sum (L : List Ent) (p : Par) : szE (putE L p) ≤ szE L + p.value.length := by
  unfold putE
  split
  · omega
  · unfold szE; rw [List.map_append, List.sum_append]
    show _ + ([p.value.length] : List Nat).sum ≤ _
    simp
theorem fold_sum : ∀ (all : List Par) (L : List Ent), szE (all.foldl putE L) ≤ szE L + szA all
  | [], L => by rw [List.foldl_nil]; exact Nat.le_add_right _ _
  | p :: all, L => by
    have h1 := fold_sum all (putE L p)
    have h2 := put_sum L p
    have h3 : szA (p :: all) = p.value.length + szA all := by unfold szA; rw [List.map_cons, List.sum_cons]
    rw [List.foldl_cons, h3]
    omega
theorem ents_sum (all : List Par) : szE (entsL all) ≤ szA all := by
  have := fold_sum all []
  unfold entsL
  have h0 : szE [] = 0 := rfl
  omega
def szR (rows : List (List Tok)) : Nat := (rows.map (fun r => (joinL r).length)).sum
theorem told_value (num : List UInt8 → Option Nat) (n v : List UInt8) : (toldP num n v).value = v := by
  unfold toldP
  split <;> simp only []
  · split <;> (try split) <;> rfl
  · split <;> (try split) <;> rfl
theorem join_cons (t : Tok) (l : List Tok) : joinL (t :: l) = t.text ++ joinL l := by unfold joinL; simp
theorem valueL_le (t : Tok) : (valueL t).length ≤ t.text.length := by
  unfold valueL
  split
  · have := unesc_le false (t.text.drop 1).dropLast
    rw [List.length_dropLast, List.length_drop] at this
    omega
  · exact Nat.le_refl _
theorem pairV_le (rest : List UInt8) (l : List Tok) : (pairV rest l).length ≤ rest.length + (joinL l).length := by
  cases l with
  | nil => rw [pairV]; exact Nat.le_add_right _ _
  | cons u r =>
    rw [pairV, join_cons]
    split
    · have := valueL_le u
      rw [List.length_append]; omega
    · exact Nat.le_of_eq (List.length_append)
theorem pair_le (num : List UInt8 → Option Nat) : ∀ (l : List Tok) (pre : List UInt8) (p : Par), pairP num pre l = some p → p.value.length ≤ (joinL l).length
  | [], _, p, h => absurd h (by simp [pairP])
  | t :: r, pre, p, h => by
    rw [pairP] at h
    rw [join_cons, List.length_append]
    split at h
    · split at h
      · exact absurd h (by simp)
      · have := Option.some.inj h
        rw [← this, told_value]
        have h1 := pairV_le (behind 61 t.text) r
        have h2 : (behind 61 t.text).length ≤ t.text.length := by unfold behind; rw [List.length_drop]; omega
        omega
    · have := pair_le num r _ p h
      omega
theorem all_sum (num : List UInt8 → Option Nat) : ∀ rows : List (List Tok), szA (rows.filterMap (pairP num [])) ≤ szR rows
  | [] => Nat.zero_le _
  | r :: rows => by
    have ih := all_sum num rows
    have h3 : szR (r :: rows) = (joinL r).length + szR rows := by unfold szR; rw [List.map_cons, List.sum_cons]
    rw [List.filterMap_cons, h3]
    cases h : pairP num [] r with
    | none => simp only []; omega
    | some p =>
      have := pair_le num r [] p h
      simp only []
      have h4 : szA (p :: rows.filterMap (pairP num [])) = p.value.length + szA (rows.filterMap (pairP num [])) := by unfold szA; rw [List.map_cons, List.sum_cons]
      rw [h4]; omega
theorem rows_sum : ∀ (l now : List Tok), szR (rowsT now l) ≤ (joinL now).length + (joinL l).length
  | [], now => by rw [rowsT]; unfold szR; simp
  | t :: l, now => by
    rw [rowsT, join_cons, List.length_append]
    split
    · have ih := rows_sum l []
      have h3 : szR (now :: rowsT [] l) = (joinL now).length + szR (rowsT [] l) := by unfold szR; rw [List.map_cons, List.sum_cons]
      rw [h3]
      have h0 : (joinL ([] : List Tok)).length = 0 := rfl
      omega
    · have ih := rows_sum l (now ++ [t])
      have hj : joinL (now ++ [t]) = joinL now ++ t.text := by unfold joinL; simp
      rw [hj, List.length_append] at ih
      omega
theorem row_le {rows : List (List Tok)} {r : List Tok} (h : r ∈ rows) : (joinL r).length ≤ szR rows := by
  unfold szR
  induction rows with
  | nil => exact absurd h (by simp)
  | cons a rows ih =>
    rw [List.map_cons, List.sum_cons]
    rcases List.mem_cons.1 h with rfl | h
    · omega
    · have := ih h; omega
end Go.Proofs.YtdinachiiimngaaGreatDoor.CtP
namespace Go.Proofs.YtdinachiiimngaaGreatDoor
open Go.ChangeShapes Go.WideShapes Go.ChangeAt Go.RowKit
open TokP AdrP CtP

def ptV (t : (List UInt8 × Bool)) : List Value := [.string (strL t.1), .bool t.2]
def ptsV (l : List (List UInt8 × Bool)) : List Value := l.flatMap ptV
theorem ptsV_len (l : List (List UInt8 × Bool)) : (ptsV l).length = l.length * 2 := by
  unfold ptsV
  induction l with
  | nil => rfl
  | cons m l ih => rw [List.flatMap_cons, List.length_append, ih, List.length_cons]; simp [ptV]; omega
theorem ptsV_app (a b : List (List UInt8 × Bool)) : ptsV a ++ ptsV b = ptsV (a ++ b) := by unfold ptsV; rw [List.flatMap_append]
theorem ptsV_one (f : (List UInt8 × Bool)) : ptsV [f] = ptV f := by unfold ptsV; simp
theorem ptsV_at : ∀ (l : List (List UInt8 × Bool)) (i : Nat) (f : (List UInt8 × Bool)), l[i]? = some f → ∀ j, j < 2 → (ptsV l)[i * 2 + j]? = (ptV f)[j]?
  | [], i, m, h => by simp at h
  | x :: l, 0, m, h => by
    simp at h
    subst h
    intro j hj
    rw [show ptsV (x :: l) = ptV x ++ ptsV l by unfold ptsV; rw [List.flatMap_cons], Nat.zero_mul, Nat.zero_add, List.getElem?_append_left (by simp [ptV]; exact hj)]
  | x :: l, i + 1, m, h => by
    intro j hj
    have ih := ptsV_at l i m (by simpa using h) j hj
    rw [show ptsV (x :: l) = ptV x ++ ptsV l by unfold ptsV; rw [List.flatMap_cons], List.getElem?_append_right (by simp [ptV]; omega)]
    have e1 : (i + 1) * 2 + j - (ptV x).length = i * 2 + j := by simp [ptV]; omega
    rw [e1]
    exact ih
theorem ptV_one (f : (List UInt8 × Bool)) : ∀ u ∈ ptV f, u.oneCell' = true := by
  intro u hu
  simp [ptV] at hu
  rcases hu with rfl | rfl <;> rfl
theorem ptsV_ones (l : List (List UInt8 × Bool)) : ∀ u ∈ ptsV l, u.oneCell' = true := by
  intro u hu
  obtain ⟨f, _, hf⟩ := List.mem_flatMap.1 hu
  exact ptV_one f u hf
/-- The addresses l lie at g, from cell o on. -/
def TAt (w : World) (g o : Nat) (l : List (List UInt8 × Bool)) : Prop := ∀ i f, l[i]? = some f → w.cell? ⟨g, o + i * 2, none⟩ = some (.string (strL f.1)) ∧ w.cell? ⟨g, o + i * 2 + 1, none⟩ = some (.bool f.2)
def OwnQ (w : World) (v : Value) (l : List (List UInt8 × Bool)) : Prop := ∃ base, w.ownsRow base 98 2 v l.length (ptsV l)
/-- The slice v reads as l. -/
def HasQ (w : World) (v : Value) (l : List (List UInt8 × Bool)) : Prop := ((∃ a c, v = .slice a 0 c) ∧ l = []) ∨ ∃ g o c, v = .slice (some ⟨g, o, none⟩) l.length c ∧ TAt w g o l
theorem OwnQ.step {w w' : World} {v : Value} {xs : List (List UInt8 × Bool)} (h : OwnQ w v xs) (hb : Below w.heap.size w w') : OwnQ w' v xs := by
  obtain ⟨b, ho⟩ := h; exact ⟨b, own_below ho hb⟩
theorem OwnQ.shape {w : World} {v : Value} {xs : List (List UInt8 × Bool)} (h : OwnQ w v xs) : ∃ a c, v = .slice a xs.length c := by
  obtain ⟨b, ho⟩ := h
  rcases ho.2 with ⟨rfl, h0⟩ | ⟨g, cap, cur, rfl, _⟩
  · exact ⟨none, 0, by rw [h0]⟩
  · exact ⟨_, _, rfl⟩
theorem OwnQ.at {w : World} {a : Option Addr} {n c : Nat} {xs : List (List UInt8 × Bool)} (h : OwnQ w (.slice a n c) xs) (hn : 0 < n) : ∃ g, a = some ⟨g, 0, none⟩ ∧ TAt w g 0 xs := by
  obtain ⟨b, ho⟩ := h
  rcases ho.2 with ⟨e, h0⟩ | ⟨g, cap, cur, e, _⟩
  · injection e with _ e2 _; omega
  · have e' := e
    injection e with e1 _ _
    subst e1
    refine ⟨g, rfl, fun i f hf => ?_⟩
    have key : ∀ j u, j < 2 → (ptV f)[j]? = some u → w.cell? ⟨g, 0 + i * 2 + j, none⟩ = some u := fun j u hj hu => by
      have := ho.cells (g := g) rfl (i * 2 + j) u (by rw [ptsV_at xs i f hf j hj]; exact hu)
      rwa [add_none, ← Nat.add_assoc] at this
    exact ⟨key 0 _ (by decide) rfl, key 1 _ (by decide) rfl⟩
theorem OwnQ.has {w : World} {v : Value} {xs : List (List UInt8 × Bool)} (h : OwnQ w v xs) : HasQ w v xs := by
  obtain ⟨a, c, rfl⟩ := h.shape
  by_cases hn : 0 < xs.length
  · obtain ⟨g, rfl, hf⟩ := h.at hn
    exact .inr ⟨g, 0, c, rfl, hf⟩
  · obtain rfl : xs = [] := List.eq_nil_of_length_eq_zero (by omega)
    obtain ⟨b, ho⟩ := h
    rcases ho.2 with ⟨e, _⟩ | ⟨g, cap, cur, e, _⟩
    · exact .inl ⟨⟨_, _, e⟩, rfl⟩
    · exact .inr ⟨g, 0, _, e, fun i f hf => by simp at hf⟩
theorem TAt.lt {w : World} {g o : Nat} {l : List (List UInt8 × Bool)} (h : TAt w g o l) (hl : l ≠ []) : g < w.heap.size := by
  cases l with
  | nil => exact absurd rfl hl
  | cons f r => exact World.block_lt_of_cell? w _ (h 0 f rfl).1
theorem TAt.keep {w w' : World} {g o : Nat} {l : List (List UInt8 × Bool)} (h : TAt w g o l) (hk : w'.heap[g]? = w.heap[g]?) : TAt w' g o l := by
  intro i f hf
  obtain ⟨h1, h2⟩ := h i f hf
  exact ⟨by rw [World.cell?_of_block (by exact hk)]; exact h1, by rw [World.cell?_of_block (by exact hk)]; exact h2⟩
theorem TAt.step {w w' : World} {g o : Nat} {l : List (List UInt8 × Bool)} (h : TAt w g o l) (hb : Below w.heap.size w w') : TAt w' g o l := by
  by_cases hl : l = []
  · subst hl; intro i f hf; simp at hf
  · exact h.keep (hb.block g (h.lt hl))
theorem HasQ.step {w w' : World} {v : Value} {l : List (List UInt8 × Bool)} (h : HasQ w v l) (hb : Below w.heap.size w w') : HasQ w' v l := by
  rcases h with h | ⟨g, o, c, rfl, h⟩
  · exact .inl h
  · exact .inr ⟨g, o, c, rfl, h.step hb⟩
theorem HasQ.form {w : World} {v : Value} {l : List (List UInt8 × Bool)} (h : HasQ w v l) : ∃ a c, v = .slice a l.length c := by
  rcases h with ⟨⟨a, c, rfl⟩, rfl⟩ | ⟨g, o, c, rfl, _⟩
  · exact ⟨a, c, rfl⟩
  · exact ⟨_, _, rfl⟩
theorem HasQ.at {w : World} {a : Option Addr} {n c : Nat} {l : List (List UInt8 × Bool)} (h : HasQ w (.slice a n c) l) (hn : 0 < n) : ∃ g o, a = some ⟨g, o, none⟩ ∧ TAt w g o l := by
  rcases h with ⟨⟨a', c', e⟩, _⟩ | ⟨g, o, c', e, h⟩
  · injection e with _ e _; omega
  · injection e with e _ _; exact ⟨g, o, e, h⟩
theorem news_pt (w : World) (f : (List UInt8 × Bool)) : ∀ j u, (ptV f)[j]? = some u → (w.alloc (.cells (ptV f).toArray 98)).cell? ((⟨w.heap.size, 0, none⟩ : Addr).add j) = some u := by
  intro j u h
  have := World.cell?_alloc_mark w (ptV f).toArray 98 (0, 0) j
  rw [add_none, Nat.zero_add, this, List.getElem?_toArray]; exact h
theorem infoPt : (Tryz.prog.info? 98).map (fun i => (i.zero, i.size, i.bytes)) = some (some (.agg #[.string ⟨#[]⟩, .bool false]), 2, 24) := by kernel_rfl
/-- An address is appended. -/
theorem run_appQ {w : World} (base : Nat) {v : Value} {xs : List (List UInt8 × Bool)} (f : (List UInt8 × Bool)) (hown : w.ownsRow base 98 2 v xs.length (ptsV xs)) (hb : base ≤ w.heap.size) (hl : xs.length ≤ 4000000) :
    ∃ a c w', (Builtin.append_ #[100, 100] 100 #[v, .slice (some ⟨w.heap.size, 0, none⟩) 1 1]).run Tryz.prog (w.alloc (.cells #[.string (strL f.1), .bool f.2] 98)) = .ok (.slice a (xs.length + 1) c) w' ∧
      w'.ownsRow base 98 2 (.slice a (xs.length + 1) c) (xs ++ [f]).length (ptsV (xs ++ [f])) ∧ (w.alloc (.cells #[.string (strL f.1), .bool f.2] 98)).grownBy w' v.ownBlock := by
  obtain ⟨i0, hi, hz0, hz1, hz2⟩ := info_parts infoPt
  obtain ⟨v', w', hr, h1, h2, _⟩ := run_append_own (P := Tryz.prog) (w.alloc (.cells (ptV f).toArray 98)) base 100 100 98 i0 _ 2 24 Tryz.underlying100 hi hz0 hz1 hz2 rfl (by decide) v xs.length _ (World.ownsRow.alloc hown _) ⟨w.heap.size, 0, none⟩ 1 1 (ptV f) rfl (news_pt w f) (ptV_one f) (by unfold maxLen; omega) (by omega) (by rw [World.size_alloc]; omega)
  rw [← ptsV_one, ptsV_app, ← List.length_singleton (a := f), ← List.length_append] at h1
  obtain ⟨a, c, rfl⟩ : ∃ a c, v' = .slice a (xs.length + 1) c := by
    rcases h1.2 with ⟨rfl, h0⟩ | ⟨g, cap, cur, rfl, _⟩
    · simp at h0
    · exact ⟨_, _, by rw [List.length_append]; rfl⟩
  exact ⟨a, c, w', hr, h1, h2⟩
theorem wpList_appQ {ops : Array Oper} {rest : List Oper} {o : Oper} {a : Act} {w : World} {Q : Exit → Act → World → Prop} (hw : Region.wanted o (yielded ops a.tmps) = true) (s x : Operand)
    (ho : o.op = .call { callee := .builtin .append, args := #[s, x], argTypes := #[100, 100] }) (hty : o.type = 100) (base : Nat) {v : Value} {xs : List (List UInt8 × Bool)} {n : Nat} (f : (List UInt8 × Bool)) (hs : a.eval s = v) (hx : a.eval x = .slice (some ⟨w.heap.size, 0, none⟩) 1 1)
    (hown : w.ownsRow base 98 2 v xs.length (ptsV xs)) (hn : xs.length = n) (hb : base ≤ w.heap.size) (hl : n ≤ 4000000)
    (h : ∀ a' c' w', w'.ownsRow base 98 2 (.slice a' (n + 1) c') (xs ++ [f]).length (ptsV (xs ++ [f])) → (w.alloc (.cells #[.string (strL f.1), .bool f.2] 98)).grownBy w' v.ownBlock → wpList Tryz.prog ops Q rest (a.put o.dst (.slice a' (n + 1) c')) w') :
    wpList Tryz.prog ops Q (o :: rest) a (w.alloc (.cells #[.string (strL f.1), .bool f.2] 98)) := by
  subst hn
  obtain ⟨a', c', w', hr, h1, h2⟩ := run_appQ base f hown hb hl
  unfold wpList
  rw [if_pos hw]
  left
  unfold Oper.wp
  simp [execOp, ho, hty, resolve, invoke, builtin, hs, hx, hr, Result.andThen]
  exact h a' c' w' h1 h2
/-- A slice of parts with room for them. -/
def HasR (w : World) (v : Value) (l : List (List UInt8 × Bool)) : Prop := ∃ a c, v = .slice a l.length c ∧ l.length ≤ c ∧ HasQ w v l
theorem HasR.step {w w' : World} {v : Value} {l : List (List UInt8 × Bool)} (h : HasR w v l) (hb : Below w.heap.size w w') : HasR w' v l := by
  obtain ⟨a, c, e, h1, h2⟩ := h
  exact ⟨a, c, e, h1, h2.step hb⟩
theorem HasR.has {w : World} {v : Value} {l : List (List UInt8 × Bool)} (h : HasR w v l) : HasQ w v l := by
  obtain ⟨_, _, _, _, h⟩ := h; exact h
theorem HasR.cap {w : World} {a : Option Addr} {n c : Nat} {l : List (List UInt8 × Bool)} (h : HasR w (.slice a n c) l) : n = l.length ∧ n ≤ c ∧ HasQ w (.slice a n c) l := by
  obtain ⟨a', c', e, h1, h2⟩ := h
  injection e with _ e1 e2
  subst e2
  exact ⟨e1, by omega, h2⟩
theorem OwnQ.hasR {w : World} {v : Value} {l : List (List UInt8 × Bool)} (h : OwnQ w v l) : HasR w v l := by
  have h2 := h.has
  obtain ⟨b, ho⟩ := h
  rcases ho.2 with ⟨rfl, h0⟩ | ⟨g, cap, cur, rfl, _, _, hc, _⟩
  · exact ⟨none, 0, by rw [h0], by omega, h2⟩
  · exact ⟨_, _, rfl, hc, h2⟩
theorem elemQ : Tryz.prog.elem 100 = 98 := by
  unfold Program.elem
  rw [Tryz.underlying100]
theorem underQ : Tryz.prog.underlying 100 = some (.slice (Tryz.prog.elem 100)) := by
  rw [elemQ]
  exact Tryz.underlying100
theorem sizeQ (W : World) : (sizeOf (Tryz.prog.elem 100)).run Tryz.prog W = .ok 2 W := by
  rw [elemQ]
  exact Tryz.sizeOf98 W
theorem run_restQ {w : World} {a : Option Addr} {n c : Nat} {l : List (List UInt8 × Bool)} (h : HasR w (.slice a n c) l) (hn : 0 < n) :
    ∃ A C, (∀ W : World, (Instr.slice 100 (.slice a n c) (some (.int .i64 1)) none none).run Tryz.prog W = .ok (.slice A (n - 1) C) W) ∧ HasR w (.slice A (n - 1) C) (l.drop 1) := by
  obtain ⟨rfl, hc, hf⟩ := h.cap
  obtain ⟨g, o, rfl, hfa⟩ := hf.at hn
  have hr := fun W : World => run_slice_l W 100 (some ⟨g, o, none⟩) l.length c underQ .i64 1 (by omega) (by omega)
  simp only [sizeQ, Result.andThen] at hr
  have hl : (l.drop 1).length = l.length - 1 := List.length_drop
  by_cases hc1 : c = 1
  · refine ⟨_, _, hr, _, _, by first | (rw [hl]; done) | (rw [hl]; rfl), by rw [hl]; simp only [Int.toNat_one]; omega, ?_⟩
    subst hc1
    have : l.drop 1 = [] := List.eq_nil_of_length_eq_zero (by rw [hl]; omega)
    rw [this]
    refine .inl ⟨⟨_, _, by rw [show l.length - 1 = 0 by omega]⟩, rfl⟩
  · refine ⟨some ⟨g, o + 2, none⟩, c - 1, fun W => ?_, _, _, by rw [hl], by rw [hl]; omega, .inr ⟨g, o + 2, _, by rw [hl], fun i f hf => ?_⟩⟩
    · rw [hr W]
      unfold sliced
      simp only [Int.toNat_one]
      rw [if_neg hc1, Option.map_some, add_none]
    · rw [List.getElem?_drop, Nat.add_comm] at hf
      have := hfa (i + 1) f hf
      rw [show o + (i + 1) * 2 = o + 2 + i * 2 by omega] at this
      exact this
end Go.Proofs.YtdinachiiimngaaGreatDoor
