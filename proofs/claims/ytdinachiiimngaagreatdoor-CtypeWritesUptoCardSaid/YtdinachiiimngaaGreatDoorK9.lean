/- Package charset: the variables that it reads; validity, the encoding of a code point, the code points of single bytes. charset.Repair: the code points of a string, encoded anew. charset.Valid. CtypeSections' core, of no program: a value in sections, in any order, is read back as a whole; what is written is printable. What a written type begins and ends with, of no program: no blank at either end (for CtypeFolds, with the header's cleanL). CtypeFolds' core, of no program: what is written holds no blank at its ends and no line ending, so a header's field gives it back whole. -/
import Derived.Test.YtdinachiiimngaaGreatDoorKShelf2
import Derived.Test.YtdinachiiimngaaGreatDoorK7
import Derived.WalkKit
import Derived.ProofKit
import Derived.Lib.Hide
import Derived.BigCall
import Derived.Test.YtdinachiiimngaaGreatDoorKShelf3
import Derived.Test.YtdinachiiimngaaGreatDoorK1
import Derived.Test.YtdinachiiimngaaGreatDoorK13
namespace Go.Proofs.YtdinachiiimngaaGreatDoor.Cs
open Go.ChangeShapes Go.WideShapes Go.ChangeAt Go.RowKit

/-- The code points of the bytes 128 to 159 in windows-1252. -/
def winL : List Nat := [8364, 129, 8218, 402, 8222, 8230, 8224, 8225, 710, 8240, 352, 8249, 338, 141, 381, 143, 144, 8216, 8217, 8220, 8221, 8226, 8211, 8212, 732, 8482, 353, 8250, 339, 157, 382, 376]
/-- What the package and the library read of their variables. -/
structure Vars (w : World) : Prop where
  tabs : Lib.Utf8Tabs 0 1 w
  win : ∀ i, i < 32 → w.cell? ⟨4, i, none⟩ = some (.int .u16 (winL.getD i 0 : Nat))
theorem Vars.lt {w : World} (h : Vars w) : 4 < w.heap.size := by
  rcases Nat.lt_or_ge 4 w.heap.size with h' | h'
  · exact h'
  · have := h.win 0 (by omega)
    simp [World.cell?, Array.getElem?_eq_none h'] at this
theorem Vars.below {w w' : World} (h : Vars w) (hb : Below w.heap.size w w') : Vars w' :=
  ⟨Utf8Tabs_below h.tabs hb, fun i hi => by rw [hb.cell (p := ⟨4, i, none⟩) h.lt]; exact h.win i hi⟩

/-- What Rune makes of an integer. -/
def runeL (n : Int) : List UInt8 := if 0 ≤ n ∧ cpB n.toNat = true then encL n.toNat else encL 65533
theorem encode_cp {n : Nat} (h : cpB n = true) : Utf8.encode (n : Int) = ⟨(encL n).toArray⟩ := by
  have hc := (cp_iff n).1 h
  have hv : Utf8.valid (n : Int) = true := by
    unfold Utf8.valid
    simp only [Bool.or_eq_true, Bool.and_eq_true, decide_eq_true_eq]
    omega
  unfold Utf8.encode encL
  simp only [hv, if_true, Int.toNat_natCast]
  by_cases c1 : n < 128
  · rw [if_pos c1, if_pos c1]
  · rw [if_neg c1, if_neg c1]
    by_cases c2 : n < 2048
    · rw [if_pos c2, if_pos c2]
    · rw [if_neg c2, if_neg c2]
      by_cases c3 : n < 65536
      · rw [if_pos c3, if_pos c3]
      · rw [if_neg c3, if_neg c3]
theorem encode_bad {n : Int} (h : ¬ (0 ≤ n ∧ cpB n.toNat = true)) : Utf8.encode n = ⟨(encL 65533).toArray⟩ := by
  have hv : Utf8.valid n = false := by
    rw [Bool.eq_false_iff]
    intro hv
    unfold Utf8.valid at hv
    simp only [Bool.or_eq_true, Bool.and_eq_true, decide_eq_true_eq] at hv
    exact h ⟨by omega, (cp_iff _).2 (by omega)⟩
  unfold Utf8.encode
  simp only [hv, Bool.false_eq_true, if_false]
  decide
theorem encode_any (n : Int) : Utf8.encode n = ⟨(runeL n).toArray⟩ := by
  unfold runeL
  split
  · rename_i h
    rw [← encode_cp h.2, Int.toNat_of_nonneg h.1]
  · rename_i h
    exact encode_bad h
/-- The code points of a single byte. -/
def asciiP (b : Nat) : Nat := if b ≥ 128 then 65533 else b
def winP (b : Nat) : Nat := if b < 128 ∨ b ≥ 160 then b else winL.getD (b - 128) 0
theorem ascii_any (b : Nat) (hb : b < 256) (w : World) :
    Calls Tryz.prog 183 #[.int .u8 b] w fun e w' => e = .returned (.int .i32 (asciiP b : Nat)) ∧ w = w' := by
  unfold asciiP
  by_cases h : b ≥ 128
  · rw [if_pos h]
    have h' : (128 : Int) ≤ (b : Int) := by omega
    go_enter Tryz.func183, Tryz.ntmps183
    go_wp2
    go_ret
    exact ⟨rfl, rfl⟩
  · rw [if_neg h]
    have h' : ¬ (128 : Int) ≤ (b : Int) := by omega
    go_enter Tryz.func183, Tryz.ntmps183
    go_wp2
    go_ret
    exact ⟨rfl, rfl⟩
theorem latin_any (b : Nat) (hb : b < 256) (w : World) :
    Calls Tryz.prog 184 #[.int .u8 b] w fun e w' => e = .returned (.int .i32 b) ∧ w = w' := by
  go_enter Tryz.func184, Tryz.ntmps184
  go_wp2
  go_ret
  exact ⟨rfl, rfl⟩
theorem win_any (b : Nat) (hb : b < 256) (w : World) (hv : Vars w) :
    Calls Tryz.prog 185 #[.int .u8 b] w fun e w' => e = .returned (.int .i32 (winP b : Nat)) ∧ w = w' := by
  unfold winP
  by_cases h1 : b < 128
  · rw [if_pos (Or.inl h1)]
    go_enter Tryz.func185, Tryz.ntmps185
    go_wp2
    go_ret
    exact ⟨rfl, rfl⟩
  · by_cases h2 : b ≥ 160
    · rw [if_pos (Or.inr h2)]
      go_enter Tryz.func185, Tryz.ntmps185
      go_wp2
      go_ret
      exact ⟨rfl, rfl⟩
    · rw [if_neg (by omega)]
      obtain ⟨i, rfl⟩ : ∃ i, b = 128 + i := ⟨b - 128, by omega⟩
      have hi : i < 32 := by omega
      have hc := hv.win i hi
      rw [show 128 + i - 128 = i by omega]
      have hx : winL.getD i 0 < 65536 := by
        have : ∀ j : Fin 32, winL.getD j.val 0 < 65536 := by decide
        exact this ⟨i, hi⟩
      generalize winL.getD i 0 = x at hc hx ⊢
      go_enter Tryz.func185, Tryz.ntmps185
      go_wp2
      go_ret
      exact ⟨rfl, rfl⟩
theorem asciiP_cp (b : Nat) (_hb : b < 256) : cpB (asciiP b) = true := by
  unfold asciiP
  split
  · decide
  · exact (cp_iff _).2 (by omega)
theorem winP_cp (b : Nat) (hb : b < 256) : cpB (winP b) = true := by
  have : ∀ j : Fin 256, cpB (winP j.val) = true := by decide +kernel
  exact this ⟨b, hb⟩
end Go.Proofs.YtdinachiiimngaaGreatDoor.Cs
namespace Go.Proofs.YtdinachiiimngaaGreatDoor.Cs
open Go.ChangeShapes Go.WideShapes Go.ChangeAt Go.RowKit

set_option maxHeartbeats 4000000 in
set_option maxRecDepth 1000000 in
theorem repair_any (s : ByteArray) (hs : s.size ≤ 4000000) (w : World) :
    Calls Tryz.prog 25 #[.string s] w fun e w' => e = .returned (.string ⟨(repairL s.data.toList).toArray⟩) ∧ Below w.heap.size w w' := by
  obtain ⟨ANS, hANS⟩ : ∃ ANS, repairL s.data.toList = ANS := ⟨_, rfl⟩
  rw [hANS]
  have HA := Lib.hid hANS
  clear hANS
  go_enter Tryz.func25, Tryz.ntmps25
  go_wp2_with (go_at_call 53; refine (Tryz.Builder_Grow_fresh w.heap.size w.heap.size s.size _ (Nat.le_refl _) (Go.heap_alloc_new _ _) (by simp) (by omega)).mono ?_)
  rintro e W1 ⟨rfl, hI0, hb0⟩
  have hb1 : Below w.heap.size w W1 := ((Below.refl _ w).alloc (Nat.le_refl _) _).trans hb0
  have hsz1 : w.heap.size ≤ W1.heap.size := hb1.size
  have hbs : w.heap.size < W1.heap.size := by
    obtain ⟨_, v, hb, _⟩ := hI0
    exact (Array.getElem?_eq_some_iff.1 hb).1
  go_wp2
  go_loopw [] (fun wr => ∃ (pos : Nat) (acc : List UInt8), Lib.IsBuilderF 61 5 w.heap.size w.heap.size (Lib.byteCells acc) wr ∧ wr.heap[W1.heap.size]? = some (.stringIter s pos) ∧ Below w.heap.size w wr ∧ acc ++ (runesL (s.data.toList.drop pos)).flatMap encL = ANS ∧ acc.length ≤ 4 * pos ∧ pos ≤ s.size) (fun wr => s.size - wr.iterPos W1.heap.size)
  case atStart =>
    refine ⟨0, [], (Lib.IsBuilderF.of (Or.inr hI0)).alloc _, World.iter_heap W1 s 0, hb1.alloc hsz1 _, ?_, by simp, by omega⟩
    rw [← HA.out, List.drop_zero]; rfl
  case round =>
    obtain ⟨pos, acc, hI, hit, hbw, hacc, hal, hps⟩ := hrel
    have hacc := Lib.hid hacc
    have hsz : W1.heap.size < wr.heap.size := (Array.getElem?_eq_some_iff.1 hit).1
    by_cases hp : pos < s.size
    · have hnx : ∀ ty, (Instr.next (.pointer (some ⟨W1.heap.size, 0, none⟩)) true ty).run Tryz.prog wr = _ := fun ty => Lib.run_next_any_at wr W1.heap.size s pos ty hit hp
      have hwd := width_at s pos hp
      have hd1 := decode_le s pos
      have hcp := decode_cp (s.data.toList.drop pos)
      have hstep := runes_at s pos hp
      rw [Lib.decodeL_drop] at hcp
      have hI2 := hI.iterAt hit (pos + (Utf8.decode s pos).2)
      have hit2 := Lib.iterAt_heap wr W1.heap.size s pos (pos + (Utf8.decode s pos).2) hit
      have hbw2 := Lib.below_iterAt hbw (k := W1.heap.size) (by omega) s (pos + (Utf8.decode s pos).2)
      have hsz2 : w.heap.size ≤ (wr.iterAt W1.heap.size s (pos + (Utf8.decode s pos).2)).heap.size := by rw [Lib.iterAt_size]; omega
      have HS := Lib.hid hstep
      clear hstep
      have HC := Lib.hid hcp
      clear hcp
      go_wp2_with (go_at_call 54; refine (Tryz.Builder_WriteRune_k w.heap.size w.heap.size _ _ (by omega) (by omega) _ hI2 (by rw [Lib.byteCells_length]; omega) hsz2).mono ?_)
      rintro e W2 ⟨rfl, h1, b1, k1⟩
      go_wp2
      go_roundw
      case rel =>
        have hl4 := enc_len (Utf8.decode s pos).1
        refine ⟨pos + (Utf8.decode s pos).2, acc ++ encL (Utf8.decode s pos).1, ?_, k1.iter hit2 (by omega), hbw2.trans b1, ?_, by rw [List.length_append]; omega, hwd.2⟩
        · rw [Lib.byteCells_append, ← encR_eq HC.out, Lib.byteCells_encodeRune]; exact Or.inr h1
        · rw [← hacc.out, HS.out, List.flatMap_cons, List.append_assoc]
      case measure =>
        simp only [World.iterPos, k1.iter hit2 (by omega), hit]
        omega
    · have hnx : ∀ ty, (Instr.next (.pointer (some ⟨W1.heap.size, 0, none⟩)) true ty).run Tryz.prog wr = _ := fun ty => Lib.run_next_end_at wr W1.heap.size s pos ty hit hp
      have hend : acc = ANS := by rw [← hacc.out, runes_over s pos hp]; simp
      subst hend
      go_wp2_with (go_at_call 44; refine (Tryz.Builder_String_any_k w.heap.size w.heap.size acc _ hI (by omega)).mono ?_)
      rintro e W2 ⟨rfl, _, b1, _⟩
      go_wp2
      go_ret
      exact ⟨rfl, hbw.trans b1⟩
end Go.Proofs.YtdinachiiimngaaGreatDoor.Cs
namespace Go.Proofs.YtdinachiiimngaaGreatDoor.Cs
open Go.ChangeShapes Go.WideShapes Go.ChangeAt Go.RowKit

theorem valid_any (s : ByteArray) (hs : s.size ≤ 4000000) (w : World) (hv : Vars w) :
    Calls Tryz.prog 50 #[.string s] w fun e w' => e = .returned (.bool (validL s.data.toList)) ∧ Below w.heap.size w w' := by
  have cV := Tryz.utf8_ValidString s w (by omega) hv.tabs
  rw [valid_eq] at cV
  generalize validL s.data.toList = V at cV ⊢
  go_enter Tryz.func50, Tryz.ntmps50
  go_wp2_with (go_at_call 83; refine cV.mono ?_; rintro e w' ⟨rfl, hb⟩)
  go_ret
  exact ⟨rfl, hb⟩
end Go.Proofs.YtdinachiiimngaaGreatDoor.Cs
namespace Go.Proofs.YtdinachiiimngaaGreatDoor.CtP
open TokP AdrP

/-- Rows of any kind behind a first one. -/
theorem rows_any : ∀ (W : List (List UInt8)) (F : List UInt8), (∀ w ∈ W, (∀ t ∈ scanL w, Fine t) ∧ HeadNot TokP.blank w ∧ w ≠ []) → (∀ t ∈ scanL F, Fine t) → rowsT [] (bareT (scanL (F ++ W.flatMap (fun w => 59 :: 32 :: w)))) = scanL F :: W.map scanL
  | [], F, _, hF => by
    rw [List.flatMap_nil, List.append_nil, bare_fine _ hF, rows_end _ _ (fun t ht => fine_not (hF t ht) (by decide) (by decide))]
    rfl
  | w :: W, F, hW, hF => by
    obtain ⟨h2, h3, hne⟩ := hW w (by simp)
    have ih := rows_any W w (fun q hq => hW q (by simp [hq])) h2
    have hX : HeadNot TokP.blank (w ++ W.flatMap (fun w => 59 :: 32 :: w)) := fun c r e => by
      obtain ⟨d, m, hd⟩ := List.exists_cons_of_ne_nil hne
      rw [hd, List.cons_append] at e
      obtain ⟨rfl, _⟩ := List.cons.inj e
      exact h3 d m hd
    have he : F ++ (w :: W).flatMap (fun w => 59 :: 32 :: w) = F ++ 59 :: 32 :: (w ++ W.flatMap (fun w => 59 :: 32 :: w)) := by
      rw [List.flatMap_cons]
      simp
    rw [he, scan_semi F _ hF hX, bare_app, bare_fine _ hF]
    have hb : bareT (⟨4, [59]⟩ :: ⟨6, [32]⟩ :: scanL (w ++ W.flatMap (fun w => 59 :: 32 :: w))) = ⟨4, [59]⟩ :: bareT (scanL (w ++ W.flatMap (fun w => 59 :: 32 :: w))) := rfl
    rw [hb, rows_cut _ _ _ (fun t ht => fine_not (hF t ht) (by decide) (by decide)), ih]
    rfl
/-! ### Bytes that are all escaped -/
def hexD (n : Nat) : UInt8 := if n < 10 then UInt8.ofNat (48 + n) else UInt8.ofNat (87 + n)
def escB (c : UInt8) : List UInt8 := [37, hexD (c.toNat / 16), hexD (c.toNat % 16)]
def escA (s : List UInt8) : List UInt8 := s.flatMap escB
theorem escB_facts : ∀ n : Fin 256, (∀ c ∈ escB (UInt8.ofNat n.val), atomB c = true ∧ c ≠ 39) ∧ hex2 [hexD ((UInt8.ofNat n.val).toNat / 16), hexD ((UInt8.ofNat n.val).toNat % 16)] = some (UInt8.ofNat n.val) := by decide +kernel
theorem escB_all (b : UInt8) : (∀ c ∈ escB b, atomB c = true ∧ c ≠ 39) ∧ hex2 [hexD (b.toNat / 16), hexD (b.toNat % 16)] = some b :=
  byte_all (P := fun b => (∀ c ∈ escB b, atomB c = true ∧ c ≠ 39) ∧ hex2 [hexD (b.toNat / 16), hexD (b.toNat % 16)] = some b) escB_facts b
theorem esc_back : ∀ s : List UInt8, pctL (escA s) = s
  | [] => rfl
  | b :: r => by
    have ih := esc_back r
    show pctS 0 (37 :: hexD (b.toNat / 16) :: hexD (b.toNat % 16) :: escA r) = b :: r
    rw [pctS, if_pos rfl]
    have h3 : hex2 (hexD (b.toNat / 16) :: hexD (b.toNat % 16) :: escA r) = some b := (escB_all b).2
    rw [h3]
    show b :: pctS 0 (escA r) = b :: r
    rw [show pctS 0 (escA r) = r from ih]
theorem escA_atoms (s : List UInt8) : ∀ c ∈ escA s, atomB c = true := fun c hc => by
  unfold escA at hc
  rw [List.mem_flatMap] at hc
  obtain ⟨b, _, hc⟩ := hc
  exact ((escB_all b).1 c hc).1
/-! ### Sections -/
def setN : List UInt8 := [85, 84, 70, 45, 56]
def headN : List UInt8 := setN ++ 39 :: [101, 110] ++ [39]
def secV (k : Nat) (c : List UInt8) : List UInt8 := (if k = 0 then headN else []) ++ escA c
def secW (txt : Nat → List UInt8) (k : Nat) (c : List UInt8) : List UInt8 := 110 :: 42 :: (txt k ++ 42 :: 61 :: secV k c)
/-- What the sections' numbers are written as. -/
def TxtOk (num : List UInt8 → Option Nat) (txt : Nat → List UInt8) : Prop := ∀ k, k < 64 → num (txt k) = some k ∧ ∀ c ∈ txt k, 48 ≤ c.toNat ∧ c.toNat ≤ 57
theorem digit_facts : ∀ n : Fin 256, 48 ≤ (UInt8.ofNat n.val).toNat ∧ (UInt8.ofNat n.val).toNat ≤ 57 → atomB (UInt8.ofNat n.val) = true ∧ lowA (UInt8.ofNat n.val) = UInt8.ofNat n.val ∧ UInt8.ofNat n.val ≠ 42 ∧ UInt8.ofNat n.val ≠ 61 := by decide +kernel
theorem digit_all (c : UInt8) : 48 ≤ c.toNat ∧ c.toNat ≤ 57 → atomB c = true ∧ lowA c = c ∧ c ≠ 42 ∧ c ≠ 61 :=
  byte_all (P := fun c => 48 ≤ c.toNat ∧ c.toNat ≤ 57 → atomB c = true ∧ lowA c = c ∧ c ≠ 42 ∧ c ≠ 61) digit_facts c
theorem secV_atoms (k : Nat) (c : List UInt8) : ∀ d ∈ secV k c, atomB d = true := fun d hd => by
  unfold secV at hd
  rw [List.mem_append] at hd
  rcases hd with hd | hd
  · by_cases h0 : k = 0
    · rw [if_pos h0] at hd
      revert d
      decide
    · rw [if_neg h0] at hd
      exact absurd hd (by simp)
  · exact escA_atoms c d hd
theorem sec_row {num : List UInt8 → Option Nat} {txt : Nat → List UInt8} (ht : TxtOk num txt) {k : Nat} (hk : k < 64) (c : List UInt8) :
    pairP num [] (scanL (secW txt k c)) = some ⟨[110], some k, true, secV k c⟩ ∧ (∀ t ∈ scanL (secW txt k c), Fine t) ∧ HeadNot TokP.blank (secW txt k c) ∧ secW txt k c ≠ [] := by
  obtain ⟨hn, hd⟩ := ht k hk
  have hname : ∀ x ∈ (110 :: 42 :: (txt k ++ [42]) : List UInt8), atomB x = true := fun x hx => by
    rw [List.mem_cons, List.mem_cons, List.mem_append, List.mem_singleton] at hx
    rcases hx with rfl | rfl | hx | rfl
    · decide
    · decide
    · exact (digit_all x (hd x hx)).1
    · decide
  have h61 : (61 : UInt8) ∉ (110 :: 42 :: (txt k ++ [42]) : List UInt8) := fun hx => by
    rw [List.mem_cons, List.mem_cons, List.mem_append, List.mem_singleton] at hx
    rcases hx with hx | hx | hx | hx
    · exact absurd hx (by decide)
    · exact absurd hx (by decide)
    · exact (digit_all 61 (hd 61 hx)).2.2.2 rfl
    · exact absurd hx (by decide)
  have hw : secW txt k c = (110 :: 42 :: (txt k ++ [42])) ++ 61 :: secV k c := by unfold secW; simp
  have hm : Mix (secW txt k c) := by
    rw [hw]
    exact mix_app (fun x hx => .inl (hname x hx)) (mix_app (a := [61]) (fun x hx => .inl (by rw [List.mem_singleton.1 hx]; decide)) (fun x hx => .inl (secV_atoms k c x hx)))
  refine ⟨?_, fun t ht => (mix_scan _ hm t ht).fine, ?_, by unfold secW; simp⟩
  · rw [hw]
    obtain ⟨v1, v2, hv, hs, hv1⟩ := first_tok _ 61 (secV k c) hname (by decide)
    have hall : (secV k c).takeWhile atomB = secV k c := by
      have := List.takeWhile_append_of_pos (p := atomB) (l₁ := secV k c) (l₂ := []) (secV_atoms k c)
      rw [List.append_nil, List.takeWhile_nil, List.append_nil] at this
      exact this
    rw [hall] at hv1
    subst hv1
    have hv2 : v2 = [] := by
      have h1 := congrArg List.length hv
      rw [List.length_append] at h1
      exact List.eq_nil_of_length_eq_zero (by omega)
    subst hv2
    rw [hs, pair_named num _ _ h61 (by simp)]
    have hlow : (110 :: 42 :: (txt k ++ [42]) : List UInt8).map lowA = 110 :: 42 :: (txt k ++ [42]) := by
      rw [List.map_cons, List.map_cons, List.map_append]
      have : (txt k).map lowA = txt k := by
        conv => rhs; rw [← List.map_id (txt k)]
        exact List.map_congr_left fun x hx => (digit_all x (hd x hx)).2.1
      rw [this]
      rfl
    rw [hlow, scan_nil]
    show some (toldP num ((110 :: 42 :: txt k) ++ [42]) (secV k c)) = _
    have hwide : wideB ((110 :: 42 :: txt k) ++ [42]) = true := by
      unfold wideB
      rw [List.length_append, decide_eq_true (by simp), List.getLast?_concat]
      rfl
    have h42 : (42 : UInt8) ∉ txt k := fun hx => (digit_all 42 (hd 42 hx)).2.2.1 rfl
    have hrev : upC 42 ((110 :: 42 :: txt k : List UInt8).reverse) = (txt k).reverse := by
      rw [List.reverse_cons, List.reverse_cons, List.append_assoc]
      show upC 42 ((txt k).reverse ++ 42 :: [110]) = _
      exact (upC_at (by rw [List.mem_reverse]; exact h42) [110]).1
    unfold toldP
    rw [hwide]
    simp only [if_true]
    rw [List.dropLast_concat, if_pos (by simp), hrev, List.reverse_reverse, hn]
    congr 2
    have e3 : (110 :: 42 :: txt k : List UInt8).length - ((txt k).length) - 1 = 1 := by simp only [List.length_cons]; omega
    simp only [List.length_cons] at e3
    simp only [List.length_cons, e3]
    simp
  · intro x r e
    unfold secW at e
    obtain ⟨rfl, _⟩ := List.cons.inj e
    decide
/-- The parameter of a section. -/
def secP (x : Nat × List UInt8) : Par := ⟨[110], some x.1, true, secV x.1 x.2⟩
theorem find_sec : ∀ (rs : List (Nat × List UInt8)), (rs.map Prod.fst).Nodup → ∀ k, (∀ c, (k, c) ∈ rs → firstP (rs.map secP) [110] (some k) = some (secP (k, c))) ∧ ((∀ c, (k, c) ∉ rs) → firstP (rs.map secP) [110] (some k) = none)
  | [], _, k => ⟨fun c h => absurd h (by simp), fun _ => rfl⟩
  | a :: rs, hd, k => by
    rw [List.map_cons, List.nodup_cons] at hd
    obtain ⟨i1, i2⟩ := find_sec rs hd.2 k
    unfold firstP at i1 i2 ⊢
    rw [List.map_cons, List.find?_cons]
    by_cases ha : a.1 = k
    · subst ha
      have : ((secP a).name == [110] && (secP a).sec == some a.1) = true := by simp [secP]
      rw [this]
      refine ⟨fun c h => ?_, fun h => absurd (show (a.1, a.2) ∈ a :: rs by simp) (h a.2)⟩
      rcases List.mem_cons.1 h with h | h
      · rw [← h]
      · exact absurd (List.mem_map.2 ⟨_, h, rfl⟩) hd.1
    · have : ((secP a).name == [110] && (secP a).sec == some k) = false := by
        rw [Bool.and_eq_false_iff]
        exact .inr (beq_eq_false_iff_ne.2 (fun e => ha (Option.some.inj e)))
      rw [this]
      refine ⟨fun c h => i1 c ?_, fun h => i2 fun c hc => h c (by simp [hc])⟩
      rcases List.mem_cons.1 h with h | h
      · exact absurd (congrArg Prod.fst h).symm ha
      · exact h
theorem more_secs (rs : List (Nat × List UInt8)) (hd : (rs.map Prod.fst).Nodup) (cs : List (List UInt8)) (hrs : ∀ k c, (k, c) ∈ rs ↔ cs[k]? = some c) : ∀ (f k : Nat), 1 ≤ k → k ≤ cs.length → cs.length < k + f → moreP (rs.map secP) [110] f k = (cs.drop k).flatten
  | 0, k, _, h1, h2 => by omega
  | f + 1, k, h0, h1, h2 => by
    rw [moreP]
    by_cases hk : k < cs.length
    · obtain ⟨c, hc⟩ : ∃ c, cs[k]? = some c := ⟨_, List.getElem?_eq_getElem hk⟩
      rw [(find_sec rs hd k).1 c ((hrs k c).2 hc)]
      show (if true = true then pctL (secV k c) else secV k c) ++ moreP (rs.map secP) [110] f (k + 1) = _
      rw [if_pos rfl, more_secs rs hd cs hrs f (k + 1) (by omega) (by omega) (by omega)]
      unfold secV
      rw [if_neg (by omega), List.nil_append, esc_back]
      obtain ⟨h3, h4⟩ := List.getElem?_eq_some_iff.1 hc
      rw [List.drop_eq_getElem_cons hk, h4, List.flatten_cons]
    · rw [(find_sec rs hd k).2 (fun c hc => hk (List.getElem?_eq_some_iff.1 ((hrs k c).1 hc)).1)]
      rw [List.drop_eq_nil_of_le (by omega)]
      rfl
theorem split_head (x : List UInt8) : splitQ (headN ++ x) = (setN, x) := by
  obtain ⟨h1, h2⟩ := upC_at (d := 39) (n := setN) (by decide) ([101, 110] ++ 39 :: x)
  obtain ⟨h3, h4⟩ := upC_at (d := 39) (n := [101, 110]) (by decide) x
  have e : headN ++ x = setN ++ 39 :: ([101, 110] ++ 39 :: x) := by unfold headN; simp
  rw [e]
  unfold splitQ
  rw [h1, h2, if_pos ⟨by simp, by simp⟩, h4]
/-- A value in sections: rs are the sections in the order in which they are written. -/
theorem ct_secs (rep : List UInt8 → List UInt8) (dec : List UInt8 → List UInt8 → List UInt8) (num : List UInt8 → Option Nat) (txt : Nat → List UInt8) (ht : TxtOk num txt) (cs : List (List UInt8)) (h1 : 1 ≤ cs.length) (h2 : cs.length ≤ 63)
    (rs : List (Nat × List UInt8)) (hd : (rs.map Prod.fst).Nodup) (hrs : ∀ k c, (k, c) ∈ rs ↔ cs[k]? = some c) :
    parseC rep dec num ([97, 47, 98] ++ (rs.map (fun x => secW txt x.1 x.2)).flatMap (fun w => 59 :: 32 :: w)) = (([97], [98], [([110], dec setN cs.flatten)]), true) := by
  have hlt : ∀ x ∈ rs, x.1 < 64 := fun x hx => by
    have := (List.getElem?_eq_some_iff.1 ((hrs x.1 x.2).1 hx)).1
    omega
  have hr := rows_any (rs.map (fun x => secW txt x.1 x.2)) [97, 47, 98] (fun w hw => by
    obtain ⟨x, hx, rfl⟩ := List.mem_map.1 hw
    exact (sec_row ht (hlt x hx) x.2).2) (fun t htt => by
    have e : scanL [97, 47, 98] = [⟨1, [97, 47, 98]⟩] := by decide
    rw [e, List.mem_singleton] at htt
    rw [htt]
    exact .inl rfl)
  have hf : ∀ m : List (Nat × List UInt8), (∀ x ∈ m, x.1 < 64) → ((m.map (fun x => secW txt x.1 x.2)).map scanL).filterMap (pairP num []) = m.map secP := by
    intro m
    induction m with
    | nil => intro _; rfl
    | cons x m ih =>
      intro h
      rw [List.map_cons, List.map_cons, List.filterMap_cons, (sec_row ht (h x (by simp)) x.2).1, List.map_cons]
      exact congrArg (secP x :: ·) (ih (fun y hy => h y (by simp [hy])))
  obtain ⟨c0, hc0⟩ : ∃ c, cs[0]? = some c := ⟨_, List.getElem?_eq_getElem (by omega)⟩
  have hm := more_secs rs hd cs hrs 63 1 (Nat.le_refl _) h1 (by omega)
  have hv : valueP rep dec (rs.map secP) [110] = some (dec setN cs.flatten) := by
    unfold valueP
    rw [(find_sec rs hd 0).1 c0 ((hrs 0 c0).2 hc0)]
    show some (if true = true then meantP rep dec (splitQ (secV 0 c0)).1 (pctL (splitQ (secV 0 c0)).2 ++ moreP (rs.map secP) [110] 63 1) else _) = _
    unfold secV
    rw [if_pos rfl, if_pos rfl, split_head, esc_back, hm]
    unfold meantP
    rw [if_neg (show ¬ setN = [] by decide)]
    have : cs.flatten = c0 ++ (cs.drop 1).flatten := by
      cases cs with
      | nil => exact absurd hc0 (by simp)
      | cons a b =>
        obtain rfl : a = c0 := by simpa using hc0
        rfl
    rw [this]
  have hg : ∀ (m : List (Nat × List UInt8)), listG rep dec (rs.map secP) [[110]] (m.map secP) = [] := by
    intro m
    have hs : ∀ (m : List (Nat × List UInt8)) (seen : List (List UInt8)), [110] ∈ seen → listG rep dec (rs.map secP) seen (m.map secP) = [] := by
      intro m
      induction m with
      | nil => intro seen _; rfl
      | cons x m ih =>
        intro seen hs
        rw [List.map_cons, listG]
        have : (secP x).name = [110] := rfl
        rw [this, if_pos hs, ih _ (by simp [hs])]
        rfl
    exact hs m [[110]] (by simp)
  have hl : listP rep dec num ((rs.map (fun x => secW txt x.1 x.2)).map scanL) = [([110], dec setN cs.flatten)] := by
    unfold listP
    rw [hf rs hlt]
    cases hrs0 : rs with
    | nil =>
      rw [hrs0] at hrs
      exact absurd ((hrs 0 c0).2 hc0) (by simp)
    | cons x m =>
      rw [hrs0] at hv hg
      have hg2 := hg m
      rw [List.map_cons] at hv hg2 ⊢
      rw [listG]
      have : (secP x).name = [110] := rfl
      rw [this, if_neg (by simp), hv, hg2]
      rfl
  unfold parseC
  rw [hr]
  show (if 47 ∈ joinL (scanL [97, 47, 98]) ∧ wordW (upC 47 (joinL (scanL [97, 47, 98]))) = true ∧ wordW (behind 47 (joinL (scanL [97, 47, 98]))) = true then (((upC 47 (joinL (scanL [97, 47, 98]))).map lowA, (behind 47 (joinL (scanL [97, 47, 98]))).map lowA, listP rep dec num ((rs.map (fun x => secW txt x.1 x.2)).map scanL)), true) else (textPlain, false)) = _
  rw [join_scan, hl, if_pos (by decide)]
  rfl
/-! ### What is written is printable -/
def Print (s : List UInt8) : Prop := ∀ c ∈ s, 32 ≤ c.toNat ∧ c.toNat ≤ 126
theorem print_app {a b : List UInt8} (ha : Print a) (hb : Print b) : Print (a ++ b) := fun c hc => by
  rcases List.mem_append.1 hc with h | h
  · exact ha c h
  · exact hb c h
theorem print_cons {c : UInt8} {b : List UInt8} (hc : 32 ≤ c.toNat ∧ c.toNat ≤ 126) (hb : Print b) : Print (c :: b) := fun d hd => by
  rcases List.mem_cons.1 hd with rfl | h
  · exact hc
  · exact hb d h
theorem print_word {n : List UInt8} (h : wordW n = true) : Print n := fun c hc => by
  have := (word_all c ((word_mem h).2 c hc)).2.2.2.2
  omega
theorem print_escQ : ∀ v : List UInt8, Print v → Print (escQ v)
  | [], _ => fun c hc => absurd hc (by simp [escQ])
  | d :: v, h => by
    have ih := print_escQ v (fun c hc => h c (by simp [hc]))
    rw [escQ]
    split
    · exact print_cons (by decide) (print_cons (h d (by simp)) ih)
    · exact print_cons (h d (by simp)) ih
theorem print_fmt (v : List UInt8) : Print (fmtV v) := by
  unfold fmtV
  by_cases hp : plainV v = true
  · rw [if_pos hp]
    refine print_cons (by decide) fun c hc => ?_
    unfold plainV at hp
    rw [Bool.and_eq_true, List.all_eq_true] at hp
    have := hp.2 c hc
    rw [Bool.and_eq_true, Bool.and_eq_true, decide_eq_true_eq, decide_eq_true_eq] at this
    omega
  · rw [if_neg hp]
    by_cases hq : quotedV v = true
    · rw [if_pos hq]
      unfold quotedV at hq
      rw [List.all_eq_true] at hq
      refine print_cons (by decide) (print_cons (by decide) (print_app (print_escQ v fun c hc => ?_) (fun c hc => by rw [List.mem_singleton.1 hc]; decide)))
      have := hq c hc
      rw [Bool.and_eq_true, decide_eq_true_eq, decide_eq_true_eq] at this
      exact this
    · rw [if_neg hq]
      refine print_cons (by decide) (print_cons (by decide) (print_app (fun c hc => by revert c; decide) (print_cons (by decide) (print_cons (by decide) fun c hc => ?_))))
      unfold pctE at hc
      rw [List.mem_flatMap] at hc
      obtain ⟨b, _, hc⟩ := hc
      have := pct_all b c hc
      exact ⟨this.2.1, this.2.2.1⟩
theorem print_line (first : List UInt8) (hf : Print first) (l : List (List UInt8 × List UInt8)) (h : ∀ p ∈ l, wordW p.1 = true) : Print (lineW first l) := by
  unfold lineW
  refine print_app hf fun c hc => ?_
  rw [List.mem_flatMap] at hc
  obtain ⟨p, hp, hc⟩ := hc
  exact print_cons (b := 32 :: rowW p) (by decide) (print_cons (by decide) (print_app (print_word (h p hp)) (print_fmt p.2))) c hc
end Go.Proofs.YtdinachiiimngaaGreatDoor.CtP
namespace Go.Proofs.YtdinachiiimngaaGreatDoor.CtP
open TokP AdrP

def Solid (c : UInt8) : Prop := 32 < c.toNat
theorem atom_solid {c : UInt8} (h : atomB c = true ∨ c = 46) : Solid c := by
  rcases h with h | rfl
  · unfold atomB at h
    rw [Bool.and_eq_true, Bool.and_eq_true, decide_eq_true_eq] at h
    exact h.1.1
  · show 32 < (46 : UInt8).toNat
    decide
theorem last_app {a b : List UInt8} (hb : b ≠ []) : (a ++ b).getLast? = b.getLast? := by
  rw [List.getLast?_append]
  obtain ⟨c, h⟩ : ∃ c, b.getLast? = some c := by
    cases b with
    | nil => exact absurd rfl hb
    | cons d r => exact ⟨_, List.getLast?_cons⟩
  rw [h]; rfl
theorem fmt_last (v : List UInt8) : fmtV v ≠ [] ∧ ∀ c, (fmtV v).getLast? = some c → Solid c := by
  unfold fmtV
  by_cases hp : plainV v = true
  · rw [if_pos hp]
    refine ⟨by simp, fun c hc => ?_⟩
    have := List.mem_of_getLast? hc
    rw [List.mem_cons] at this
    rcases this with rfl | this
    · exact atom_solid (.inl (by decide))
    · exact atom_solid (plain_mix hp c this)
  · rw [if_neg hp]
    by_cases hq : quotedV v = true
    · rw [if_pos hq]
      refine ⟨by simp, fun c hc => ?_⟩
      rw [show (61 :: 34 :: (escQ v ++ [34]) : List UInt8) = (61 :: 34 :: escQ v) ++ [34] by simp, List.getLast?_concat] at hc
      obtain rfl := Option.some.inj hc
      show 32 < (34 : UInt8).toNat
      decide
    · rw [if_neg hq]
      refine ⟨by simp, fun c hc => ?_⟩
      have := List.mem_of_getLast? hc
      rw [List.mem_cons, List.mem_cons] at this
      rcases this with rfl | rfl | this
      · exact atom_solid (.inl (by decide))
      · exact atom_solid (.inl (by decide))
      · exact atom_solid (wide_mix v c this)
theorem line_last : ∀ (l : List (List UInt8 × List UInt8)) (first : List UInt8), (∀ c, first.getLast? = some c → Solid c) → ∀ c, (lineW first l).getLast? = some c → Solid c
  | [], first, hf => by
    unfold lineW
    rw [List.flatMap_nil, List.append_nil]
    exact hf
  | p :: l, first, _ => by
    obtain ⟨h1, h2⟩ := fmt_last p.2
    have he : lineW first (p :: l) = lineW ((first ++ 59 :: 32 :: p.1) ++ fmtV p.2) l := by
      unfold lineW rowW
      rw [List.flatMap_cons]
      simp
    rw [he]
    exact line_last l _ (fun c hc => h2 c (by rw [last_app h1] at hc; exact hc))
theorem line_head (first : List UInt8) (hne : first ≠ []) (hf : ∀ c, first.head? = some c → Solid c) (l : List (List UInt8 × List UInt8)) : ∀ c, (lineW first l).head? = some c → Solid c := by
  intro c hc
  unfold lineW at hc
  cases first with
  | nil => exact absurd rfl hne
  | cons d r => exact hf c hc
end Go.Proofs.YtdinachiiimngaaGreatDoor.CtP
namespace Go.Proofs.YtdinachiiimngaaGreatDoor.CtP
open TokP AdrP

theorem clean_same (s : List UInt8) (hp : Print s) (h1 : ∀ c, s.head? = some c → Solid c) (h2 : ∀ c, s.getLast? = some c → Solid c) : Hd.HdrP.cleanL s = s := by
  have hm : s.map Hd.HdrP.flat1 = s := by
    conv => rhs; rw [← List.map_id s]
    refine List.map_congr_left fun c hc => ?_
    have := hp c hc
    unfold Hd.HdrP.flat1
    rw [if_neg (fun e => ?_)]
    · rfl
    · rcases e with rfl | rfl
      · exact absurd this.1 (by decide)
      · exact absurd this.1 (by decide)
  have hs : ∀ c, Solid c → Hd.HdrP.blank c = false := fun c hc => by
    unfold Hd.HdrP.blank
    unfold Solid at hc
    rw [Bool.or_eq_false_iff, beq_eq_false_iff_ne, beq_eq_false_iff_ne]
    exact ⟨by rintro rfl; exact absurd hc (by decide), by rintro rfl; exact absurd hc (by decide)⟩
  unfold Hd.HdrP.cleanL
  rw [hm]
  exact Hd.HdrP.trim_fixed ⟨fun c hc => hs c (h1 c hc), fun c hc => hs c (h2 c hc)⟩
theorem word_solid {n : List UInt8} (h : wordW n = true) : ∀ c ∈ n, Solid c := fun c hc => by
  have := (word_all c ((word_mem h).2 c hc)).2.2.2.2.1
  unfold Solid
  omega
theorem line_clean {dec : List UInt8 → List UInt8 → List UInt8} {kind sub : List UInt8} {l : List (List UInt8 × List UInt8)} (h : RightC dec kind sub l) : Hd.HdrP.cleanL (lineW (kind ++ 47 :: sub) l) = lineW (kind ++ 47 :: sub) l := by
  have hne : kind ++ 47 :: sub ≠ [] := by simp
  have hsol : ∀ c ∈ kind ++ 47 :: sub, Solid c := fun c hc => by
    rw [List.mem_append, List.mem_cons] at hc
    rcases hc with hc | rfl | hc
    · exact word_solid h.wkind c hc
    · show 32 < (47 : UInt8).toNat
      decide
    · exact word_solid h.wsub c hc
  have hpr : Print (kind ++ 47 :: sub) := print_app (print_word h.wkind) (print_cons (by decide) (print_word h.wsub))
  exact clean_same _ (print_line _ hpr l (fun p hp => (h.each p hp).1.1)) (line_head _ hne (fun c hc => hsol c (List.mem_of_mem_head? hc)) l) (line_last l _ (fun c hc => hsol c (List.mem_of_getLast? hc)))
/-- A field written by Put in front of an empty line is the only one, and gives back its value. -/
theorem fold_get (n m : List UInt8) (hn : Hd.HdrP.rightL n = true) (hlow : n.map Hd.HdrP.low = m.map Hd.HdrP.low) (v : List UInt8) (hv : Hd.HdrP.cleanL v = v) : Hd.HdrP.allL (Hd.HdrP.parseL (Hd.HdrP.putL n v ++ [13, 10])) m = [v] := by
  obtain ⟨f, h1, h2, h3, _, h5, _⟩ := Hd.HdrP.put_parse hn v
  have ha := (Hd.HdrP.put_ahead hn v [13, 10] (by decide)).1
  have he : Hd.HdrP.parseL [13, 10] = [] := by decide
  rw [ha, h1, he, List.append_nil]
  unfold Hd.HdrP.allL
  rw [List.filter_cons, if_pos (by rw [h2, h3, hlow]; simp), List.filter_nil, List.map_cons, List.map_nil, h5, hv]
/-- CtypeFolds: the field's value is the line that was written. -/
theorem ct_folds (rep : List UInt8 → List UInt8) (dec : List UInt8 → List UInt8 → List UInt8) (num : List UInt8 → Option Nat) (kind sub : List UInt8) (l : List (List UInt8 × List UInt8)) (h : RightC dec kind sub l) (n m : List UInt8) (hn : Hd.HdrP.rightL n = true) (hlow : n.map Hd.HdrP.low = m.map Hd.HdrP.low) :
    ∃ v, Hd.HdrP.allL (Hd.HdrP.parseL (Hd.HdrP.putL n (lineW (kind ++ 47 :: sub) l) ++ [13, 10])) m = [v] ∧ parseC rep dec num v = ((kind, sub, l), true) :=
  ⟨_, fold_get n m hn hlow _ (line_clean h), (ct_back rep dec num kind sub l h).1⟩
end Go.Proofs.YtdinachiiimngaaGreatDoor.CtP
