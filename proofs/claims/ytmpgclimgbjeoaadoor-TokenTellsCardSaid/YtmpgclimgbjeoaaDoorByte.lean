/- Single bytes: white space, specials, atom bytes, the program's and the reference's. -/
import Derived.Test.YtmpgclimgbjeoaaDoorBase
import Derived.Test.YtmpgclimgbjeoaaDoorTokPlain
namespace Go.Proofs.YtmpgclimgbjeoaaDoor
open Go.ChangeShapes Go.WideShapes Go.ChangeAt Go.RowKit

theorem byte_is (c : UInt8) (x : Nat) (hx : c.toNat = x) (n : Nat) (hn : n < 256) : ((x : Int) == (n : Int)) = decide (c = UInt8.ofNat n) := by
  rw [Bool.eq_iff_iff, beq_iff_eq, decide_eq_true_iff]
  constructor
  · intro h
    refine UInt8.toNat_inj.1 ?_
    rw [hx, UInt8.toNat_ofNat']; omega
  · intro h
    rw [h, UInt8.toNat_ofNat'] at hx
    omega
theorem byte_back (c : UInt8) (x : Nat) (hx : c.toNat = x) : ((x : Int).toNat).toUInt8 = c := by
  subst hx
  simp
theorem index_in (l : List UInt8) (c : UInt8) : decide (0 ≤ Lib.indexByte l c) = l.contains c := by
  induction l with
  | nil => rfl
  | cons b t ih =>
    rw [Lib.indexByte, List.contains_cons]
    have hg := Lib.indexByte_ge t c
    by_cases hb : b = c
    · subst hb; simp
    · have h1 : (b == c) = false := beq_eq_false_iff_ne.2 hb
      have h2 : (c == b) = false := beq_eq_false_iff_ne.2 (fun e => hb e.symm)
      rw [h1, h2, if_neg (by simp), Bool.false_or, ← ih]
      by_cases h3 : Lib.indexByte t c = -1
      · rw [h3]; simp
      · have : (Lib.indexByte t c == -1) = false := beq_eq_false_iff_ne.2 h3
        rw [this, if_neg (by simp), Bool.eq_iff_iff, decide_eq_true_iff, decide_eq_true_iff]
        omega
theorem blank_in (c : UInt8) : ([9, 10, 13, 32] : List UInt8).contains c = TokP.blank c := by
  unfold TokP.blank
  simp only [List.contains_cons, List.contains_nil, Bool.or_false, Bool.or_assoc]
theorem white_list : (⟨#[9, 10, 13, 32]⟩ : ByteArray).data.toList = [9, 10, 13, 32] := rfl
theorem spec_list : (⟨#[40, 41, 60, 62, 91, 93, 58, 59, 64, 92, 44, 46, 34]⟩ : ByteArray).data.toList = [40, 41, 60, 62, 91, 93, 58, 59, 64, 92, 44, 46, 34] := rfl
theorem isWhite_any (c : UInt8) (x : Nat) (hx : c.toNat = x) (w : World) :
    Calls Tryd.prog 30 #[.int .u8 x] w fun e w' => e = .returned (.bool (TokP.blank c)) ∧ w = w' := by
  have cI := Tryd.strings_IndexByte ⟨#[9, 10, 13, 32]⟩ x
  rw [byte_back c x hx, white_list] at cI
  have hi := index_in [9, 10, 13, 32] c
  rw [blank_in] at hi
  generalize Lib.indexByte [9, 10, 13, 32] c = i at cI hi
  generalize TokP.blank c = r at hi ⊢
  clear hx
  subst hi
  go_enter Tryd.func30, Tryd.ntmps30
  go_wp2_with (go_at_call 40; refine (cI _).mono ?_; rintro e w' ⟨rfl, rfl⟩)
  go_ret
  exact ⟨rfl, rfl⟩
theorem isSpecial_any (c : UInt8) (x : Nat) (hx : c.toNat = x) (w : World) :
    Calls Tryd.prog 33 #[.int .u8 x] w fun e w' => e = .returned (.bool (TokP.special c)) ∧ w = w' := by
  have cI := Tryd.strings_IndexByte ⟨#[40, 41, 60, 62, 91, 93, 58, 59, 64, 92, 44, 46, 34]⟩ x
  rw [byte_back c x hx, spec_list] at cI
  have hi : decide (0 ≤ Lib.indexByte [40, 41, 60, 62, 91, 93, 58, 59, 64, 92, 44, 46, 34] c) = TokP.special c := index_in [40, 41, 60, 62, 91, 93, 58, 59, 64, 92, 44, 46, 34] c
  generalize Lib.indexByte [40, 41, 60, 62, 91, 93, 58, 59, 64, 92, 44, 46, 34] c = i at cI hi
  generalize TokP.special c = r at hi ⊢
  clear hx
  subst hi
  go_enter Tryd.func33, Tryd.ntmps33
  go_wp2_with (go_at_call 40; refine (cI _).mono ?_; rintro e w' ⟨rfl, rfl⟩)
  go_ret
  exact ⟨rfl, rfl⟩
theorem ne127 (c : UInt8) (x : Nat) (hx : c.toNat = x) : ((x : Int) == 127) = decide (c = 127) := byte_is c x hx 127 (by decide)
theorem isAtom_any (c : UInt8) (x : Nat) (hx : c.toNat = x) (w : World) :
    Calls Tryd.prog 34 #[.int .u8 x] w fun e w' => e = .returned (.bool (TokP.atomB c)) ∧ w = w' := by
  have cS := isSpecial_any c x hx
  have e1 := ne127 c x hx
  unfold TokP.atomB
  rw [hx]
  by_cases h1 : 32 < x
  · have h1' : (32 : Int) < x := by omega
    by_cases h2 : c = 127
    · have hx2 : x = 127 := by rw [← hx, h2]; rfl
      rw [decide_eq_true h1, show (c != 127) = false by rw [h2]; rfl]
      clear hx cS h2 e1
      subst hx2
      go_enter Tryd.func34, Tryd.ntmps34
      go_wp2_with fail
      go_ret
      exact ⟨rfl, rfl⟩
    · have hx2 : ¬ (x : Int) = 127 := by
        rw [decide_eq_false h2] at e1
        exact beq_eq_false_iff_ne.1 e1
      rw [decide_eq_true h1, show (c != 127) = true by simpa using h2]
      clear hx h2 e1
      go_enter Tryd.func34, Tryd.ntmps34
      go_wp2_with (go_at_call 33; refine (cS _).mono ?_; rintro e w' ⟨rfl, rfl⟩)
      go_ret
      exact ⟨by simp; exact fun _ => hx2, rfl⟩
  · have h1' : ¬ (32 : Int) < x := by omega
    rw [decide_eq_false h1]
    clear hx cS e1
    go_enter Tryd.func34, Tryd.ntmps34
    go_wp2_with fail
    go_ret
    exact ⟨rfl, rfl⟩
/-! ### The reference's -/
theorem blank_or (c : UInt8) : TokP.blank c = (decide (c = UInt8.ofNat 9) || (decide (c = UInt8.ofNat 10) || (decide (c = UInt8.ofNat 13) || decide (c = UInt8.ofNat 32)))) := by
  unfold TokP.blank
  rw [Bool.eq_iff_iff]
  simp only [Bool.or_eq_true, beq_iff_eq, decide_eq_true_iff, or_assoc]
  exact Iff.rfl
theorem rblank_any (c : UInt8) (x : Nat) (hx : c.toNat = x) (w : World) :
    Calls Tryd.prog 35 #[.int .u8 x] w fun e w' => e = .returned (.bool (TokP.blank c)) ∧ w = w' := by
  have e1 := byte_is c x hx 9 (by decide)
  have e2 := byte_is c x hx 10 (by decide)
  have e3 := byte_is c x hx 13 (by decide)
  have e4 := byte_is c x hx 32 (by decide)
  rw [blank_or]
  generalize decide (c = UInt8.ofNat 9) = d1 at e1 ⊢
  generalize decide (c = UInt8.ofNat 10) = d2 at e2 ⊢
  generalize decide (c = UInt8.ofNat 13) = d3 at e3 ⊢
  generalize decide (c = UInt8.ofNat 32) = d4 at e4 ⊢
  clear hx
  rw [show ((9 : Nat) : Int) = 9 from rfl] at e1
  rw [show ((10 : Nat) : Int) = 10 from rfl] at e2
  rw [show ((13 : Nat) : Int) = 13 from rfl] at e3
  rw [show ((32 : Nat) : Int) = 32 from rfl] at e4
  have fin : ∀ r, (d1 || (d2 || (d3 || d4))) = r → Calls Tryd.prog 35 #[.int .u8 x] w fun e w' => e = .returned (.bool r) ∧ w = w' := by
    intro r hr
    cases d1
    · cases d2
      · cases d3
        · have : d4 = r := hr
          subst this
          go_enter Tryd.func35, Tryd.ntmps35
          go_wp2_with fail
          go_ret
          exact ⟨by simp, rfl⟩
        · have : true = r := hr
          subst this
          go_enter Tryd.func35, Tryd.ntmps35
          go_wp2_with fail
          go_ret
          exact ⟨rfl, rfl⟩
      · have : true = r := hr
        subst this
        go_enter Tryd.func35, Tryd.ntmps35
        go_wp2_with fail
        go_ret
        exact ⟨rfl, rfl⟩
    · have : true = r := hr
      subst this
      go_enter Tryd.func35, Tryd.ntmps35
      go_wp2_with fail
      go_ret
      exact ⟨rfl, rfl⟩
  exact fin _ rfl
theorem eq_byte (b c : UInt8) (y x : Nat) (hy : b.toNat = y) (hx : c.toNat = x) : ((y : Int) == (x : Int)) = decide (b = c) := by
  rw [Bool.eq_iff_iff, beq_iff_eq, decide_eq_true_iff]
  constructor
  · intro h; exact UInt8.toNat_inj.1 (by omega)
  · intro h; rw [← hy, ← hx, h]
theorem at_step (l : List UInt8) (k : Nat) (b c : UInt8) (h : l[k]? = some b) : (l.drop k).contains c = (decide (b = c) || (l.drop (k + 1)).contains c) := by
  obtain ⟨h1, h2⟩ := List.getElem?_eq_some_iff.1 h
  rw [List.drop_eq_getElem_cons h1, h2, List.contains_cons]
  congr 1
  rw [Bool.eq_iff_iff, beq_iff_eq, decide_eq_true_iff]
  exact eq_comm
set_option maxHeartbeats 1000000 in
theorem rspecial_any (c : UInt8) (x : Nat) (hx : c.toNat = x) (w : World) :
    Calls Tryd.prog 37 #[.int .u8 x] w fun e w' => e = .returned (.bool (TokP.special c)) ∧ w = w' := by
  have HX := Lib.hid hx
  clear hx
  go_enter Tryd.func37, Tryd.ntmps37
  go_wp2_with fail
  go_loopw [3] (fun i wr => ∃ k : Nat, k ≤ 13 ∧ i = .int .i64 k ∧ wr = w ∧ Hid (TokP.special c = (([40, 41, 60, 62, 91, 93, 58, 59, 64, 92, 44, 46, 34] : List UInt8).drop k).contains c)) (fun i _ => 13 - (intOf i).toNat)
  case atStart => exact ⟨0, by omega, rfl, rfl, rfl⟩
  case round =>
    obtain ⟨k, hk, rfl, rfl, HS⟩ := hrel
    have F1 : IntKind.i64.wrap ((k : Int) + 1) = (k : Int) + 1 := by rw [IntKind.wrap_i64]; omega
    by_cases hlt : k < 13
    · have hlt' : (k : Int) < 13 := by omega
      obtain ⟨b, hb⟩ : ∃ b, ([40, 41, 60, 62, 91, 93, 58, 59, 64, 92, 44, 46, 34] : List UInt8)[k]? = some b := ⟨_, List.getElem?_eq_getElem hlt⟩
      obtain ⟨y, hy⟩ : ∃ y, b.toNat = y := ⟨_, rfl⟩
      have S1 : ∀ W : World, (Instr.index 9 (.string ⟨#[40, 41, 60, 62, 91, 93, 58, 59, 64, 92, 44, 46, 34]⟩) (.int .i64 k)).run Tryd.prog W = .ok (.int .u8 (y : Int)) W := by
        intro W
        rw [run_index_str ⟨#[40, 41, 60, 62, 91, 93, 58, 59, 64, 92, 44, 46, 34]⟩ k k rfl hlt W, ← hy]
        congr 3
        exact congrArg _ (List.getElem?_eq_some_iff.1 hb).2
      have e1 := eq_byte b c y x hy HX.out
      have hs := at_step _ k b c hb
      rw [← HS.out] at hs
      by_cases hbc : b = c
      · rw [decide_eq_true hbc] at e1
        rw [decide_eq_true hbc, Bool.true_or] at hs
        have HS2 := Lib.hid hs
        clear hs hbc hy hb HX HS
        go_wp2_with fail
        go_ret
        exact ⟨by rw [HS2.out]; rfl, rfl⟩
      · rw [decide_eq_false hbc] at e1
        rw [decide_eq_false hbc, Bool.false_or] at hs
        have HS2 := Lib.hid hs
        clear hs hbc hy hb HX HS
        go_wp2_with fail
        go_roundw
        case rel => exact ⟨k + 1, by omega, by go_num, trivial, HS2⟩
        case measure => simp [intOf]; omega
    · obtain rfl : k = 13 := by omega
      have HS2 : Hid (TokP.special c = false) := HS.out
      go_wp2_with fail
      go_ret
      exact ⟨by rw [HS2.out]; rfl, rfl⟩
theorem ratom_any (c : UInt8) (x : Nat) (hx : c.toNat = x) (w : World) :
    Calls Tryd.prog 27 #[.int .u8 x] w fun e w' => e = .returned (.bool (TokP.atomB c)) ∧ w = w' := by
  have cS := rspecial_any c x hx
  have e1 := ne127 c x hx
  unfold TokP.atomB
  rw [hx]
  by_cases h1 : 32 < x
  · have h1' : (32 : Int) < x := by omega
    by_cases h2 : c = 127
    · have hx2 : x = 127 := by rw [← hx, h2]; rfl
      rw [decide_eq_true h1, show (c != 127) = false by rw [h2]; rfl]
      clear hx cS h2 e1
      subst hx2
      go_enter Tryd.func27, Tryd.ntmps27
      go_wp2_with fail
      go_ret
      exact ⟨rfl, rfl⟩
    · have hx2 : ¬ (x : Int) = 127 := by
        rw [decide_eq_false h2] at e1
        exact beq_eq_false_iff_ne.1 e1
      rw [decide_eq_true h1, show (c != 127) = true by simpa using h2]
      clear hx h2 e1
      go_enter Tryd.func27, Tryd.ntmps27
      go_wp2_with (go_at_call 37; refine (cS _).mono ?_; rintro e w' ⟨rfl, rfl⟩)
      go_ret
      exact ⟨by simp; exact fun _ => hx2, rfl⟩
  · have h1' : ¬ (32 : Int) < x := by omega
    rw [decide_eq_false h1]
    clear hx cS e1
    go_enter Tryd.func27, Tryd.ntmps27
    go_wp2_with fail
    go_ret
    exact ⟨rfl, rfl⟩
/-! ### A byte of a string, as a list has it -/
theorem byte_at (s : ByteArray) (k : Nat) (h : k < s.size) : ∃ c : UInt8, s.data.toList[k]? = some c ∧ (s[k]'h) = c := by
  refine ⟨s[k]'h, ?_, rfl⟩
  rw [List.getElem?_eq_getElem (by rw [← size_list]; exact h)]; rfl
/-- The k-th byte as the walk reads it. -/
theorem run_byte (s : ByteArray) (k : Nat) (h : k < s.size) : ∃ (c : UInt8) (x : Nat), s.data.toList[k]? = some c ∧ c.toNat = x ∧ x < 256 ∧ ∀ W : World, (Instr.index 9 (.string s) (.int .i64 k)).run Tryd.prog W = .ok (.int .u8 x) W := by
  obtain ⟨c, h1, h2⟩ := byte_at s k h
  refine ⟨c, c.toNat, h1, rfl, c.toNat_lt, fun W => ?_⟩
  rw [← h2]
  exact run_index_str s k k rfl h W
theorem run_byte0 (s : ByteArray) (h : 0 < s.size) : ∃ (c : UInt8) (x : Nat) (t : List UInt8), s.data.toList = c :: t ∧ c.toNat = x ∧ x < 256 ∧ ∀ W : World, (Instr.index 9 (.string s) (.int .i64 0)).run Tryd.prog W = .ok (.int .u8 x) W := by
  obtain ⟨c, x, h1, h2, h3, h4⟩ := run_byte s 0 h
  cases hl : s.data.toList with
  | nil => rw [hl] at h1; simp at h1
  | cons d t =>
    rw [hl] at h1
    obtain rfl : d = c := by simpa using h1
    exact ⟨d, x, t, rfl, h2, h3, h4⟩
end Go.Proofs.YtmpgclimgbjeoaaDoor
