/- Comments and blanks: commentLength, gapLength. -/
import Derived.Test.YtnmdljadnlddeaaGreatDoorBase
import Derived.Test.YtnmdljadnlddeaaGreatDoorCal
import Derived.Lib.IndexLaws
namespace Go.Proofs.YtnmdljadnlddeaaGreatDoor
open Go.ChangeShapes Go.WideShapes Go.ChangeAt Go.RowKit
open DateP (wd white flush)

/-- The length of the rest of a comment, within so many open ones. -/
def comF (d : Nat) : List UInt8 → Nat
  | [] => 0
  | [_] => 1
  | c :: x :: t => if c = 92 then 2 + comF d t else if c = 40 then 1 + comF (d + 1) (x :: t) else if c = 41 then (if d = 1 then 1 else 1 + comF (d - 1) (x :: t)) else 1 + comF d (x :: t)
theorem wd_two (k : Nat) (cur : List UInt8) (c x : UInt8) (t : List UInt8) :
    wd (k + 1) cur (c :: x :: t) = if c = 92 then wd (k + 1) [] t else if c = 40 then wd (k + 2) [] (x :: t) else if c = 41 then wd k [] (x :: t) else wd (k + 1) [] (x :: t) := by rw [wd]
theorem wd_one (k : Nat) (cur : List UInt8) (c : UInt8) : wd (k + 1) cur [c] = if c = 41 then wd k [] [] else [] := by rw [wd]
theorem wd_end (k : Nat) (cur : List UInt8) : wd (k + 1) cur [] = [] := by rw [wd]
theorem wd_nil : wd 0 [] [] = [] := by rw [wd]; rfl
theorem wd_com : ∀ (n : Nat) (l : List UInt8), l.length ≤ n → ∀ (k : Nat) (cur : List UInt8), wd (k + 1) cur l = wd 0 [] (l.drop (comF (k + 1) l))
  | _, [], _, k, cur => by
    show wd (k + 1) cur [] = wd 0 [] []
    rw [wd_end, wd_nil]
  | _, [c], _, k, cur => by
    show wd (k + 1) cur [c] = wd 0 [] []
    rw [wd_one, wd_nil]
    split
    · cases k with
      | zero => exact wd_nil
      | succ k => exact wd_end _ _
    · rfl
  | n + 2, c :: x :: t, h, k, cur => by
    rw [wd_two]
    simp only [comF]
    simp only [List.length_cons] at h
    by_cases h1 : c = 92
    · rw [if_pos h1, if_pos h1, wd_com n t (by omega) k []]
      rw [show 2 + comF (k + 1) t = (comF (k + 1) t + 1) + 1 by omega]
      rfl
    · rw [if_neg h1, if_neg h1]
      by_cases h2 : c = 40
      · rw [if_pos h2, if_pos h2, wd_com (n + 1) (x :: t) (by simp; omega) (k + 1) [], Nat.add_comm 1]
        rfl
      · rw [if_neg h2, if_neg h2]
        by_cases h3 : c = 41
        · rw [if_pos h3, if_pos h3]
          cases k with
          | zero => rfl
          | succ k =>
            rw [if_neg (by omega), wd_com (n + 1) (x :: t) (by simp; omega) k [], Nat.add_comm 1]
            rfl
        · rw [if_neg h3, if_neg h3, wd_com (n + 1) (x :: t) (by simp; omega) k [], Nat.add_comm 1]
          rfl
  | 1, _ :: _ :: _, h, _, _ => by simp at h
  | 0, _ :: _, h, _, _ => by simp at h
theorem comF_esc (d : Nat) (x : UInt8) (t : List UInt8) : comF d (92 :: x :: t) = 2 + comF d t := by
  simp only [comF, if_true]
theorem comF_close (t : List UInt8) : comF 1 (41 :: t) = 1 := by
  cases t with
  | nil => rfl
  | cons x t => simp only [comF]; rw [if_neg (by decide), if_neg (by decide), if_pos trivial, if_pos trivial]
theorem comF_open (d : Nat) (t : List UInt8) : comF d (40 :: t) = 1 + comF (d + 1) t := by
  cases t with
  | nil => rfl
  | cons x t => simp only [comF]; rw [if_neg (by decide), if_pos trivial]
theorem comF_shut (d : Nat) (t : List UInt8) (h : d ≠ 1) : comF d (41 :: t) = 1 + comF (d - 1) t := by
  cases t with
  | nil => rfl
  | cons x t => simp only [comF]; rw [if_neg (by decide), if_neg (by decide), if_pos trivial, if_neg h]
theorem comF_any (d : Nat) (c : UInt8) (t : List UInt8) (h1 : c ≠ 92) (h2 : c ≠ 40) (h3 : c ≠ 41) : comF d (c :: t) = 1 + comF d t := by
  cases t with
  | nil => rfl
  | cons x t => simp only [comF]; rw [if_neg h1, if_neg h2, if_neg h3]
theorem comF_le : ∀ (n : Nat) (l : List UInt8), l.length ≤ n → ∀ d, comF d l ≤ l.length
  | _, [], _, _ => Nat.le_refl _
  | _, [_], _, _ => Nat.le_refl _
  | n + 2, c :: x :: t, h, d => by
    simp only [List.length_cons] at h ⊢
    have i1 := comF_le n t (by omega) d
    have i2 := fun d => comF_le (n + 1) (x :: t) (by simp; omega) d
    simp only [List.length_cons] at i2
    simp only [comF]
    have a := i2 (d + 1)
    have b := i2 (d - 1)
    have e := i2 d
    (repeat' split) <;> omega
  | 1, _ :: _ :: _, h, _ => by simp at h
  | 0, _ :: _, h, _ => by simp at h
set_option maxHeartbeats 1000000 in
theorem comment_any (s : ByteArray) (hs : s.size ≤ 100000) (t : List UInt8) (ht : s.data.toList = 40 :: t) (w : World) :
    Calls Tryz.prog 49 #[.string s] w fun e w' => e = .returned (.int .i64 ((1 + comF 1 t : Nat) : Int)) ∧ w = w' := by
  obtain ⟨R, hR⟩ : ∃ R, 1 + comF 1 t = R := ⟨_, rfl⟩
  have hlen : s.size = t.length + 1 := by rw [size_list, ht]; rfl
  have hpos : 0 < s.size := by omega
  have h0 : s[0]'hpos = 40 := by
    have := drop_cons s 0 hpos
    rw [List.drop_zero, ht] at this
    injection this with e _
    exact e.symm
  have H0 := Lib.hid h0
  have HD := Lib.hid (show 1 + comF 1 (s.data.toList.drop 1) = R by rw [ht]; exact hR)
  rw [hR]
  clear hR ht h0 hlen
  go_enter Tryz.func49, Tryz.ntmps49
  go_wp2_with fail
  go_loop [3, 4] (fun a b => ∃ d p : Nat, p ≤ s.size + 1 ∧ a = .int .i64 d ∧ b = .int .i64 p ∧ Hid (d ≤ p ∧ ((p = 0 ∧ d = 0) ∨ (1 ≤ d ∧ p ≤ s.size ∧ p + comF d (s.data.toList.drop p) = R) ∨ (p = s.size + 1 ∧ R = s.size))))
    (fun _ b => s.size + 1 - (intOf b).toNat)
  case atStart => exact ⟨0, 0, Nat.zero_le _, rfl, rfl, Nat.le_refl _, .inl ⟨rfl, rfl⟩⟩
  case round =>
    obtain ⟨d, p, hp, rfl, rfl, hinv⟩ := hrel
    by_cases hlt : p < s.size
    · obtain ⟨hdp, hI⟩ := hinv.out
      have hdr := drop_cons s p hlt
      obtain ⟨c, hc⟩ : ∃ c, s[p] = c := ⟨_, rfl⟩
      have hix : ∀ W, (Instr.index 9 (.string s) (.int .i64 p)).run Tryz.prog W = .ok (.int .u8 (c.toNat : Int)) W := fun W => by rw [← hc]; exact run_index_str s p p rfl hlt W
      rw [hc] at hdr
      -- within a comment, or at its first byte
      have hin : (p = 0 ∧ d = 0 ∧ c = 40) ∨ (1 ≤ d ∧ p + comF d (c :: s.data.toList.drop (p + 1)) = R) := by
        rcases hI with ⟨h1, h2⟩ | ⟨h1, h2, h3⟩ | ⟨h1, _⟩
        · subst h1
          exact .inl ⟨rfl, h2, by rw [← hc]; exact H0.out⟩
        · rw [hdr] at h3
          exact .inr ⟨h1, h3⟩
        · omega
      clear hI hinv hdr hc
      by_cases h92 : c = 92
      · subst h92
        have hfin := Lib.hid (show p + 2 ≤ s.size + 1 ∧ d ≤ p + 2 ∧ ((p + 2 = 0 ∧ d = 0) ∨ (1 ≤ d ∧ p + 2 ≤ s.size ∧ p + 2 + comF d (s.data.toList.drop (p + 2)) = R) ∨ (p + 2 = s.size + 1 ∧ R = s.size)) from by
          rcases hin with ⟨_, _, h⟩ | ⟨h1, h2⟩
          · exact absurd h (by decide)
          · refine ⟨by omega, by omega, ?_⟩
            rcases (show p + 1 = s.size ∨ p + 1 < s.size by omega) with h | h
            · rw [List.drop_eq_nil_of_le (by rw [← size_list]; omega)] at h2
              have e : comF d [92] = 1 := rfl
              rw [e] at h2
              exact .inr (.inr ⟨by omega, by omega⟩)
            · rw [drop_cons s (p + 1) h, comF_esc, show p + 1 + 1 = p + 2 from rfl] at h2
              exact .inr (.inl ⟨h1, by omega, by omega⟩))
        clear hin
        go_wp2_with fail
        go_roundw
        case rel => exact ⟨d, p + 2, hfin.out.1, rfl, by go_num, hfin.out.2⟩
        case measure => simp [intOf]; omega
      · have n92 : ((c.toNat : Int) == 92) = false := beq_eq_false_iff_ne.2 (fun e => h92 (UInt8.toNat_inj.1 (by have : (92 : UInt8).toNat = 92 := rfl; omega)))
        by_cases h40 : c = 40
        · subst h40
          have hfin := Lib.hid (show p + 1 ≤ s.size + 1 ∧ d + 1 ≤ p + 1 ∧ ((p + 1 = 0 ∧ d + 1 = 0) ∨ (1 ≤ d + 1 ∧ p + 1 ≤ s.size ∧ p + 1 + comF (d + 1) (s.data.toList.drop (p + 1)) = R) ∨ (p + 1 = s.size + 1 ∧ R = s.size)) from by
            refine ⟨by omega, by omega, .inr (.inl ⟨by omega, by omega, ?_⟩)⟩
            rcases hin with ⟨h1, h2, _⟩ | ⟨h1, h2⟩
            · subst h1 h2; exact HD.out
            · rw [comF_open] at h2; omega)
          clear hin h92
          go_wp2_with fail
          go_roundw
          case rel => exact ⟨d + 1, p + 1, hfin.out.1, by go_num, by go_num, hfin.out.2⟩
          case measure => simp [intOf]; omega
        · have n40 : ((c.toNat : Int) == 40) = false := beq_eq_false_iff_ne.2 (fun e => h40 (UInt8.toNat_inj.1 (by have : (40 : UInt8).toNat = 40 := rfl; omega)))
          have hin2 : 1 ≤ d ∧ p + comF d (c :: s.data.toList.drop (p + 1)) = R := by
            rcases hin with ⟨_, _, h⟩ | h
            · exact absurd h h40
            · exact h
          clear hin
          by_cases h41 : c = 41
          · subst h41
            by_cases hd1 : d = 1
            · subst hd1
              have hfin := Lib.hid (show p + 1 = R by have := hin2.2; rw [comF_close] at this; exact this)
              clear hin2 h92 h40
              go_wp2_with fail
              go_ret
              exact ⟨by rw [← hfin.out]; rfl, rfl⟩
            · obtain ⟨k, rfl⟩ : ∃ k, d = k + 2 := ⟨d - 2, by omega⟩
              have hfin := Lib.hid (show p + 1 ≤ s.size + 1 ∧ k + 1 ≤ p + 1 ∧ ((p + 1 = 0 ∧ k + 1 = 0) ∨ (1 ≤ k + 1 ∧ p + 1 ≤ s.size ∧ p + 1 + comF (k + 1) (s.data.toList.drop (p + 1)) = R) ∨ (p + 1 = s.size + 1 ∧ R = s.size)) from by
                refine ⟨by omega, by omega, .inr (.inl ⟨by omega, by omega, ?_⟩)⟩
                have h2 := hin2.2
                rw [comF_shut _ _ (by omega), show k + 2 - 1 = k + 1 by omega] at h2
                omega)
              have hk0 : (((k + 1 : Nat) : Int) == 0) = false := beq_eq_false_iff_ne.2 (by omega)
              clear hin2 h92 h40 hd1
              go_wp2_with fail
              refine ⟨⟨k + 1, p + 1, hfin.out.1, congrArg (Value.int .i64) (by omega), by go_num, hfin.out.2⟩, ?_⟩
              simp [intOf]; omega
          · have n41 : ((c.toNat : Int) == 41) = false := beq_eq_false_iff_ne.2 (fun e => h41 (UInt8.toNat_inj.1 (by have : (41 : UInt8).toNat = 41 := rfl; omega)))
            have hfin := Lib.hid (show p + 1 ≤ s.size + 1 ∧ d ≤ p + 1 ∧ ((p + 1 = 0 ∧ d = 0) ∨ (1 ≤ d ∧ p + 1 ≤ s.size ∧ p + 1 + comF d (s.data.toList.drop (p + 1)) = R) ∨ (p + 1 = s.size + 1 ∧ R = s.size)) from by
              refine ⟨by omega, by omega, .inr (.inl ⟨hin2.1, by omega, ?_⟩)⟩
              have h2 := hin2.2
              rw [comF_any _ _ _ h92 h40 h41] at h2
              omega)
            clear hin2 h92 h40 h41
            go_wp2_with fail
            go_roundw
            case rel => exact ⟨d, p + 1, hfin.out.1, rfl, by go_num, hfin.out.2⟩
            case measure => simp [intOf]; omega
    · have hfin := Lib.hid (show R = s.size from by
        rcases hinv.out.2 with ⟨h1, _⟩ | ⟨_, h2, h3⟩ | ⟨_, h⟩
        · omega
        · rw [List.drop_eq_nil_of_le (by rw [← size_list]; omega)] at h3
          have e : comF d [] = 0 := rfl
          rw [e] at h3
          omega
        · exact h)
      clear hinv
      go_wp2_with fail
      go_ret
      exact ⟨by rw [hfin.out]; rfl, rfl⟩

/-- Blanks. -/
def blankB : ByteArray := ⟨#[9, 10, 13, 32, 44]⟩
theorem blank_has (c : UInt8) : 0 ≤ Lib.indexByte blankB.data.toList c ↔ white c = true := by
  have hge := Lib.indexByte_ge blankB.data.toList c
  have hw : white c = true ↔ c ∈ blankB.data.toList := by
    have e : blankB.data.toList = [9, 10, 13, 32, 44] := rfl
    rw [e]
    unfold white
    simp only [Bool.or_eq_true, beq_iff_eq, List.mem_cons, List.not_mem_nil, or_false]
    constructor
    · rintro ((((h | h) | h) | h) | h) <;> simp [h]
    · rintro (h | h | h | h | h) <;> simp [h]
  rw [hw]
  constructor
  · intro h
    obtain ⟨o, ho⟩ : ∃ o : Nat, Lib.indexByte blankB.data.toList c = o := ⟨(Lib.indexByte blankB.data.toList c).toNat, by omega⟩
    exact List.mem_of_getElem? (Lib.indexByte_some ho).1
  · intro h
    rcases (show Lib.indexByte blankB.data.toList c = -1 ∨ 0 ≤ Lib.indexByte blankB.data.toList c by omega) with e | e
    · obtain ⟨k, hk, he⟩ := List.getElem_of_mem h
      exact absurd (by rw [List.getElem?_eq_getElem hk, he]) (Lib.indexByte_none e k)
    · exact e
/-- So many bytes ahead are blanks and comments, and no more. -/
def GapP (l : List UInt8) (n : Nat) : Prop := n ≤ l.length ∧ wd 0 [] l = wd 0 [] (l.drop n) ∧ ∀ c t, l.drop n = c :: t → white c = false ∧ c ≠ 40
theorem wd_white (c : UInt8) (t : List UInt8) (h : white c = true) : wd 0 [] (c :: t) = wd 0 [] t := DateP.wd_blank h
theorem wd_open (t : List UInt8) : wd 0 [] (40 :: t) = wd 0 [] (t.drop (comF 1 t)) := by
  rw [wd, if_neg (by decide), if_pos rfl]
  unfold flush
  rw [if_pos rfl]
  exact wd_com t.length t (Nat.le_refl _) 0 []
set_option maxHeartbeats 1000000 in
theorem gap_any (s : ByteArray) (hs : s.size ≤ 100000) (w : World) :
    Calls Tryz.prog 30 #[.string s] w fun e w' => ∃ n : Nat, e = .returned (.int .i64 (n : Int)) ∧ GapP s.data.toList n ∧ w = w' := by
  have HI := Lib.hid (fun (c : UInt8) W => (Tryz.strings_IndexByte blankB (c.toNat : Int) W).mono fun e w' (h : e = .returned (.int .i64 (Lib.indexByte blankB.data.toList ((c.toNat : Int)).toNat.toUInt8)) ∧ w' = W) => (⟨h.1, h.2.symm⟩ : e = .returned (.int .i64 (Lib.indexByte blankB.data.toList ((c.toNat : Int)).toNat.toUInt8)) ∧ W = w'))
  have HB := Lib.hid blank_has
  have HC := Lib.hid comment_any
  obtain ⟨B, hB⟩ : ∃ B, blankB = B := ⟨_, rfl⟩
  rw [hB] at HI HB
  have hB2 : (⟨#[9, 10, 13, 32, 44]⟩ : ByteArray) = B := hB
  clear hB
  go_enter Tryz.func30, Tryz.ntmps30
  go_wp2_with fail
  go_loop [3] (fun a => ∃ p : Nat, p ≤ s.size ∧ a = .int .i64 p ∧ Hid (wd 0 [] s.data.toList = wd 0 [] (s.data.toList.drop p))) (fun a => s.size - (intOf a).toNat)
  case atStart => exact ⟨0, Nat.zero_le _, rfl, by rfl⟩
  case round =>
    obtain ⟨p, hp, rfl, hw⟩ := hrel
    by_cases hlt : p < s.size
    · have hdr := drop_cons s p hlt
      obtain ⟨c, hc⟩ : ∃ c, s[p] = c := ⟨_, rfl⟩
      have hix : ∀ W, (Instr.index 9 (.string s) (.int .i64 p)).run Tryz.prog W = .ok (.int .u8 (c.toNat : Int)) W := fun W => by rw [← hc]; exact run_index_str s p p rfl hlt W
      rw [hc] at hdr
      have HIc := Lib.hid (HI.out c)
      rw [show ((c.toNat : Int)).toNat.toUInt8 = c by simp] at HIc
      have hbc := HB.out c
      obtain ⟨o, ho⟩ : ∃ o, Lib.indexByte B.data.toList c = o := ⟨_, rfl⟩
      rw [ho] at HIc hbc
      clear hc ho
      cases hwc : white c with
      | true =>
        have h0 : 0 ≤ o := hbc.2 hwc
        have hfin := Lib.hid (show wd 0 [] s.data.toList = wd 0 [] (s.data.toList.drop (p + 1)) by rw [hw.out, hdr, wd_white c _ hwc])
        clear hdr hbc hwc hw
        go_wp2_with (go_at_call 48; refine (HIc.out _).mono ?_; rintro e w2 ⟨rfl, rfl⟩)
        go_roundw
        case rel => exact ⟨p + 1, by omega, by go_num, hfin.out⟩
        case measure => simp [intOf]; omega
      | false =>
        have h0 : ¬ 0 ≤ o := fun h => by rw [hbc.1 h] at hwc; cases hwc
        by_cases h40 : c = 40
        · subst h40
          obtain ⟨t, ht⟩ : ∃ t, s.data.toList.drop (p + 1) = t := ⟨_, rfl⟩
          rw [ht] at hdr
          have htl : p + 1 + t.length = s.size := by rw [← ht, List.length_drop, ← size_list]; omega
          obtain ⟨S, hS⟩ : ∃ S, s.extract p s.size = S := ⟨_, rfl⟩
          have hSl : S.data.toList = 40 :: t := by rw [← hS, part_rest s p (by omega)]; exact hdr
          have hSz : S.size ≤ 100000 := by rw [← hS, ByteArray.size_extract]; omega
          have rs : ∀ W, (Instr.slice 9 (.string s) (some (.int .i64 p)) none none).run Tryz.prog W = .ok (.string S) W := fun W => by rw [← hS]; exact run_slice_from s p (by omega) W
          have hcl := comF_le t.length t (Nat.le_refl _) 1
          have HCc := Lib.hid (HC.out S hSz t hSl)
          obtain ⟨K, hK⟩ : ∃ K, 1 + comF 1 t = K := ⟨_, rfl⟩
          have hfin := Lib.hid (show wd 0 [] s.data.toList = wd 0 [] (s.data.toList.drop (p + K)) by
            rw [hw.out, hdr, wd_open, ← hK, ← ht, List.drop_drop, Nat.add_assoc])
          rw [hK] at HCc
          have hKb : 1 ≤ K ∧ p + K ≤ s.size := by omega
          clear hdr hbc hwc hw hS hSl hcl hK ht htl
          go_wp2_with (first
            | (go_at_call 48; refine (HIc.out _).mono ?_; rintro e w2 ⟨rfl, rfl⟩)
            | (go_at_call 49; refine (HCc.out _).mono ?_; rintro e w2 ⟨rfl, rfl⟩))
          go_roundw
          case rel => exact ⟨p + K, hKb.2, by go_num, hfin.out⟩
          case measure => simp [intOf]; omega
        · have n40 : ((c.toNat : Int) == 40) = false := beq_eq_false_iff_ne.2 (fun e => h40 (UInt8.toNat_inj.1 (by have : (40 : UInt8).toNat = 40 := rfl; omega)))
          have hfin := Lib.hid (show GapP s.data.toList p from ⟨by rw [← size_list]; exact hp, hw.out, fun c' t' e => by
            rw [hdr] at e
            injection e with e1 _
            subst e1
            exact ⟨hwc, h40⟩⟩)
          clear hdr hbc hwc hw h40
          go_wp2_with (go_at_call 48; refine (HIc.out _).mono ?_; rintro e w2 ⟨rfl, rfl⟩)
          go_ret
          exact ⟨p, rfl, hfin.out, rfl⟩
    · have hfin := Lib.hid (show GapP s.data.toList p from ⟨by rw [← size_list]; exact hp, hw.out, fun c' t' e => by
        rw [List.drop_eq_nil_of_le (by rw [← size_list]; omega)] at e
        cases e⟩)
      clear hw
      go_wp2_with fail
      go_ret
      exact ⟨p, rfl, hfin.out, rfl⟩
end Go.Proofs.YtnmdljadnlddeaaGreatDoor
