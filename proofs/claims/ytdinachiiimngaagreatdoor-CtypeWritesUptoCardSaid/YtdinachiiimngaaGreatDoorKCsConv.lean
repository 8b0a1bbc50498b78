/- The functions that byteDecoder makes: each byte of a string is a code point, and is encoded. -/
import Derived.Test.YtdinachiiimngaaGreatDoorK9
import Derived.BigCall
import Derived.Deep.RegionWith
namespace Go.Proofs.YtdinachiiimngaaGreatDoor.Cs
open Go.ChangeShapes Go.WideShapes Go.ChangeAt Go.RowKit

/-- What a string of single bytes becomes. -/
def byteL (p : Nat → Nat) (l : List UInt8) : List UInt8 := l.flatMap fun c => encL (p c.toNat)
theorem byteL_take (p : Nat → Nat) (s : ByteArray) (k : Nat) (h : k < s.size) : byteL p (s.data.toList.take (k + 1)) = byteL p (s.data.toList.take k) ++ encL (p (s[k].toNat)) := by
  have h' : k < s.data.toList.length := by rw [Array.length_toList]; exact h
  unfold byteL
  rw [List.take_succ_eq_append_getElem h', List.flatMap_append, List.flatMap_singleton]
  rfl
theorem byteL_len (p : Nat → Nat) (l : List UInt8) : (byteL p l).length ≤ 4 * l.length := by
  induction l with
  | nil => simp [byteL]
  | cons c l ih =>
    have := enc_len (p c.toNat)
    unfold byteL at ih ⊢
    rw [List.flatMap_cons, List.length_append, List.length_cons]; omega
theorem rune_cells {n : Nat} (h : cpB n = true) : Lib.runeCells (n : Int) = Lib.byteCells (encL n) := by rw [← encR_eq h, Lib.byteCells_encodeRune]
theorem run_index_str (s : ByteArray) (x : Int) (n : Nat) (hx : x = n) (h : n < s.size) (W : World) :
    (Instr.index 9 (.string s) (.int .i64 x)).run Tryz.prog W = .ok (.int .u8 (s[n].toNat : Int)) W := by
  subst hx
  go_simp

set_option maxHeartbeats 4000000 in
set_option maxRecDepth 1000000 in
theorem conv_ascii (s : ByteArray) (hs : s.size ≤ 4000000) (b : Nat) (w : World) (hb : b < w.heap.size) (hc : w.cell? ⟨b, 0, none⟩ = some (.func (.func 183) #[] #[])) :
    Calls Tryz.prog 211 #[.string s, .pointer (some ⟨b, 0, none⟩)] w fun e w' => e = .returned (.string ⟨(byteL asciiP s.data.toList).toArray⟩) ∧ Below w.heap.size w w' := by
  obtain ⟨ANS, hANS⟩ : ∃ ANS, byteL asciiP s.data.toList = ANS := ⟨_, rfl⟩
  rw [hANS]
  have HA := Lib.hid hANS
  clear hANS
  go_enter Tryz.func211, Tryz.ntmps211
  go_wp2_with (go_at_call 53; refine (Tryz.Builder_Grow_fresh w.heap.size w.heap.size s.size _ (Nat.le_refl _) (Go.heap_alloc_new _ _) (by simp) (by omega)).mono ?_)
  rintro e W1 ⟨rfl, hI0, hb0⟩
  have hb1 : Below w.heap.size w W1 := ((Below.refl _ w).alloc (Nat.le_refl _) _).trans hb0
  have hsz1 : w.heap.size ≤ W1.heap.size := hb1.size
  go_wp2
  go_loopw [11] (fun i wr => ∃ k : Nat, k ≤ s.size ∧ i = .int .i64 k ∧ Hid (Lib.IsBuilderF 61 5 w.heap.size w.heap.size (Lib.byteCells (byteL asciiP (s.data.toList.take k))) wr) ∧ Below w.heap.size w wr)
    (fun i _ => s.size - (intOf i).toNat)
  case atStart => exact ⟨0, Nat.zero_le _, rfl, Lib.hid (Lib.IsBuilderF.of (Or.inr hI0)), hb1⟩
  case round =>
    obtain ⟨k, hk, rfl, hI, hbw⟩ := hrel
    have hszr : w.heap.size ≤ wr.heap.size := hbw.size
    by_cases hlt : k < s.size
    · have hcr : wr.cell? ⟨b, 0, none⟩ = some (.func (.func 183) #[] #[]) := by rw [hbw.cell (p := ⟨b, 0, none⟩) hb]; exact hc
      have hcd : wr.drew.cell? ⟨b, 0, none⟩ = some (.func (.func 183) #[] #[]) := hcr
      have hq : ∀ W, (Instr.index 9 (.string s) (.int .i64 (k : Int))).run Tryz.prog W = .ok (.int .u8 (s[k].toNat : Int)) W := fun W => run_index_str s k k rfl hlt W
      have hl := byteL_len asciiP (s.data.toList.take k)
      have hl2 : (s.data.toList.take k).length ≤ k := by rw [List.length_take]; omega
      have hlt3 : (s[k]'hlt).toNat < 256 := UInt8.toNat_lt _
      have HTK := Lib.hid (byteL_take asciiP s k hlt)
      have hcp : cpB (asciiP (s[k]'hlt).toNat) = true := asciiP_cp _ hlt3
      have hcz := (cp_iff _).1 hcp
      have HID := Lib.hid (hI.out : Lib.IsBuilderF 61 5 w.heap.size w.heap.size _ wr.drew)
      have HBD : Below w.heap.size w wr.drew := hbw.drew
      have HRC := Lib.hid (rune_cells hcp)
      generalize hx : (s[k]'hlt).toNat = x at hq hlt3 hcp hcz HTK HRC
      skip
      generalize hy : asciiP x = y at HRC hcz HTK hcp
      have hcall : ∀ W, Below w.heap.size w W → Calls Tryz.prog 183 #[.int .u8 (x : Int)] W fun e w' => e = .returned (.int .i32 (y : Int)) ∧ W = w' := by
        intro W HW
        rw [← hy]
        exact ascii_any x hlt3 W
      have HCC := Lib.hid hcall
      clear hcall hx hy
      go_wp2_with fail
      go_region_with (first
        | (go_at_call 183; refine (HCC.out _ HBD).mono ?_; rintro e w2 ⟨rfl, rfl⟩)
        | (go_at_call 54; refine (Tryz.Builder_WriteRune_k w.heap.size w.heap.size _ (y : Int) (by omega) (by omega) wr.drew HID.out (by rw [Lib.byteCells_length]; omega) hszr).mono ?_; rintro e w2 ⟨rfl, h1, b1, k1⟩))
      all_goals go_wp2_with fail
      all_goals go_roundw
      all_goals first
        | (refine ⟨k + 1, by omega, by go_num, Lib.hid ?_, HBD.trans b1⟩; rw [HTK.out, Lib.byteCells_append, ← HRC.out]; exact Or.inr h1)
        | (simp [intOf]; omega)
    · have hend : k = s.size := by omega
      subst hend
      have hI2 := hI.out
      rw [List.take_of_length_le (by rw [Array.length_toList]; exact Nat.le_refl _), HA.out] at hI2
      clear HA hI
      go_wp2_with (go_at_call 44; refine (Tryz.Builder_String_any_k w.heap.size w.heap.size ANS _ hI2 hszr).mono ?_)
      rintro e W2 ⟨rfl, _, b1, _⟩
      go_wp2
      go_ret
      exact ⟨rfl, hbw.trans b1⟩
theorem latin_cp (b : Nat) (hb : b < 256) : cpB (id b) = true := (cp_iff _).2 (by simp only [id]; omega)

set_option maxHeartbeats 4000000 in
set_option maxRecDepth 1000000 in
theorem conv_latin (s : ByteArray) (hs : s.size ≤ 4000000) (b : Nat) (w : World) (hb : b < w.heap.size) (hc : w.cell? ⟨b, 0, none⟩ = some (.func (.func 184) #[] #[])) :
    Calls Tryz.prog 211 #[.string s, .pointer (some ⟨b, 0, none⟩)] w fun e w' => e = .returned (.string ⟨(byteL id s.data.toList).toArray⟩) ∧ Below w.heap.size w w' := by
  obtain ⟨ANS, hANS⟩ : ∃ ANS, byteL id s.data.toList = ANS := ⟨_, rfl⟩
  rw [hANS]
  have HA := Lib.hid hANS
  clear hANS
  go_enter Tryz.func211, Tryz.ntmps211
  go_wp2_with (go_at_call 53; refine (Tryz.Builder_Grow_fresh w.heap.size w.heap.size s.size _ (Nat.le_refl _) (Go.heap_alloc_new _ _) (by simp) (by omega)).mono ?_)
  rintro e W1 ⟨rfl, hI0, hb0⟩
  have hb1 : Below w.heap.size w W1 := ((Below.refl _ w).alloc (Nat.le_refl _) _).trans hb0
  have hsz1 : w.heap.size ≤ W1.heap.size := hb1.size
  go_wp2
  go_loopw [11] (fun i wr => ∃ k : Nat, k ≤ s.size ∧ i = .int .i64 k ∧ Hid (Lib.IsBuilderF 61 5 w.heap.size w.heap.size (Lib.byteCells (byteL id (s.data.toList.take k))) wr) ∧ Below w.heap.size w wr)
    (fun i _ => s.size - (intOf i).toNat)
  case atStart => exact ⟨0, Nat.zero_le _, rfl, Lib.hid (Lib.IsBuilderF.of (Or.inr hI0)), hb1⟩
  case round =>
    obtain ⟨k, hk, rfl, hI, hbw⟩ := hrel
    have hszr : w.heap.size ≤ wr.heap.size := hbw.size
    by_cases hlt : k < s.size
    · have hcr : wr.cell? ⟨b, 0, none⟩ = some (.func (.func 184) #[] #[]) := by rw [hbw.cell (p := ⟨b, 0, none⟩) hb]; exact hc
      have hcd : wr.drew.cell? ⟨b, 0, none⟩ = some (.func (.func 184) #[] #[]) := hcr
      have hq : ∀ W, (Instr.index 9 (.string s) (.int .i64 (k : Int))).run Tryz.prog W = .ok (.int .u8 (s[k].toNat : Int)) W := fun W => run_index_str s k k rfl hlt W
      have hl := byteL_len id (s.data.toList.take k)
      have hl2 : (s.data.toList.take k).length ≤ k := by rw [List.length_take]; omega
      have hlt3 : (s[k]'hlt).toNat < 256 := UInt8.toNat_lt _
      have HTK := Lib.hid (byteL_take id s k hlt)
      have hcp : cpB (id (s[k]'hlt).toNat) = true := latin_cp _ hlt3
      have hcz := (cp_iff _).1 hcp
      have HID := Lib.hid (hI.out : Lib.IsBuilderF 61 5 w.heap.size w.heap.size _ wr.drew)
      have HBD : Below w.heap.size w wr.drew := hbw.drew
      have HRC := Lib.hid (rune_cells hcp)
      generalize hx : (s[k]'hlt).toNat = x at hq hlt3 hcp hcz HTK HRC
      skip
      generalize hy : id x = y at HRC hcz HTK hcp
      have hcall : ∀ W, Below w.heap.size w W → Calls Tryz.prog 184 #[.int .u8 (x : Int)] W fun e w' => e = .returned (.int .i32 (y : Int)) ∧ W = w' := by
        intro W HW
        rw [← hy]
        exact latin_any x hlt3 W
      have HCC := Lib.hid hcall
      clear hcall hx hy
      go_wp2_with fail
      go_region_with (first
        | (go_at_call 184; refine (HCC.out _ HBD).mono ?_; rintro e w2 ⟨rfl, rfl⟩)
        | (go_at_call 54; refine (Tryz.Builder_WriteRune_k w.heap.size w.heap.size _ (y : Int) (by omega) (by omega) wr.drew HID.out (by rw [Lib.byteCells_length]; omega) hszr).mono ?_; rintro e w2 ⟨rfl, h1, b1, k1⟩))
      all_goals go_wp2_with fail
      all_goals go_roundw
      all_goals first
        | (refine ⟨k + 1, by omega, by go_num, Lib.hid ?_, HBD.trans b1⟩; rw [HTK.out, Lib.byteCells_append, ← HRC.out]; exact Or.inr h1)
        | (simp [intOf]; omega)
    · have hend : k = s.size := by omega
      subst hend
      have hI2 := hI.out
      rw [List.take_of_length_le (by rw [Array.length_toList]; exact Nat.le_refl _), HA.out] at hI2
      clear HA hI
      go_wp2_with (go_at_call 44; refine (Tryz.Builder_String_any_k w.heap.size w.heap.size ANS _ hI2 hszr).mono ?_)
      rintro e W2 ⟨rfl, _, b1, _⟩
      go_wp2
      go_ret
      exact ⟨rfl, hbw.trans b1⟩

set_option maxHeartbeats 4000000 in
set_option maxRecDepth 1000000 in
theorem conv_win (s : ByteArray) (hs : s.size ≤ 4000000) (b : Nat) (w : World) (hb : b < w.heap.size) (hc : w.cell? ⟨b, 0, none⟩ = some (.func (.func 185) #[] #[])) (hv : Vars w) :
    Calls Tryz.prog 211 #[.string s, .pointer (some ⟨b, 0, none⟩)] w fun e w' => e = .returned (.string ⟨(byteL winP s.data.toList).toArray⟩) ∧ Below w.heap.size w w' := by
  obtain ⟨ANS, hANS⟩ : ∃ ANS, byteL winP s.data.toList = ANS := ⟨_, rfl⟩
  rw [hANS]
  have HA := Lib.hid hANS
  clear hANS
  go_enter Tryz.func211, Tryz.ntmps211
  go_wp2_with (go_at_call 53; refine (Tryz.Builder_Grow_fresh w.heap.size w.heap.size s.size _ (Nat.le_refl _) (Go.heap_alloc_new _ _) (by simp) (by omega)).mono ?_)
  rintro e W1 ⟨rfl, hI0, hb0⟩
  have hb1 : Below w.heap.size w W1 := ((Below.refl _ w).alloc (Nat.le_refl _) _).trans hb0
  have hsz1 : w.heap.size ≤ W1.heap.size := hb1.size
  go_wp2
  go_loopw [11] (fun i wr => ∃ k : Nat, k ≤ s.size ∧ i = .int .i64 k ∧ Hid (Lib.IsBuilderF 61 5 w.heap.size w.heap.size (Lib.byteCells (byteL winP (s.data.toList.take k))) wr) ∧ Below w.heap.size w wr)
    (fun i _ => s.size - (intOf i).toNat)
  case atStart => exact ⟨0, Nat.zero_le _, rfl, Lib.hid (Lib.IsBuilderF.of (Or.inr hI0)), hb1⟩
  case round =>
    obtain ⟨k, hk, rfl, hI, hbw⟩ := hrel
    have hszr : w.heap.size ≤ wr.heap.size := hbw.size
    by_cases hlt : k < s.size
    · have hcr : wr.cell? ⟨b, 0, none⟩ = some (.func (.func 185) #[] #[]) := by rw [hbw.cell (p := ⟨b, 0, none⟩) hb]; exact hc
      have hcd : wr.drew.cell? ⟨b, 0, none⟩ = some (.func (.func 185) #[] #[]) := hcr
      have hq : ∀ W, (Instr.index 9 (.string s) (.int .i64 (k : Int))).run Tryz.prog W = .ok (.int .u8 (s[k].toNat : Int)) W := fun W => run_index_str s k k rfl hlt W
      have hl := byteL_len winP (s.data.toList.take k)
      have hl2 : (s.data.toList.take k).length ≤ k := by rw [List.length_take]; omega
      have hlt3 : (s[k]'hlt).toNat < 256 := UInt8.toNat_lt _
      have HTK := Lib.hid (byteL_take winP s k hlt)
      have hcp : cpB (winP (s[k]'hlt).toNat) = true := winP_cp _ hlt3
      have hcz := (cp_iff _).1 hcp
      have HID := Lib.hid (hI.out : Lib.IsBuilderF 61 5 w.heap.size w.heap.size _ wr.drew)
      have HBD : Below w.heap.size w wr.drew := hbw.drew
      have HRC := Lib.hid (rune_cells hcp)
      generalize hx : (s[k]'hlt).toNat = x at hq hlt3 hcp hcz HTK HRC
      skip
      generalize hy : winP x = y at HRC hcz HTK hcp
      have hcall : ∀ W, Below w.heap.size w W → Calls Tryz.prog 185 #[.int .u8 (x : Int)] W fun e w' => e = .returned (.int .i32 (y : Int)) ∧ W = w' := by
        intro W HW
        rw [← hy]
        exact win_any x hlt3 W (hv.below HW)
      have HCC := Lib.hid hcall
      clear hcall hx hy
      go_wp2_with fail
      go_region_with (first
        | (go_at_call 185; refine (HCC.out _ HBD).mono ?_; rintro e w2 ⟨rfl, rfl⟩)
        | (go_at_call 54; refine (Tryz.Builder_WriteRune_k w.heap.size w.heap.size _ (y : Int) (by omega) (by omega) wr.drew HID.out (by rw [Lib.byteCells_length]; omega) hszr).mono ?_; rintro e w2 ⟨rfl, h1, b1, k1⟩))
      all_goals go_wp2_with fail
      all_goals go_roundw
      all_goals first
        | (refine ⟨k + 1, by omega, by go_num, Lib.hid ?_, HBD.trans b1⟩; rw [HTK.out, Lib.byteCells_append, ← HRC.out]; exact Or.inr h1)
        | (simp [intOf]; omega)
    · have hend : k = s.size := by omega
      subst hend
      have hI2 := hI.out
      rw [List.take_of_length_le (by rw [Array.length_toList]; exact Nat.le_refl _), HA.out] at hI2
      clear HA hI
      go_wp2_with (go_at_call 44; refine (Tryz.Builder_String_any_k w.heap.size w.heap.size ANS _ hI2 hszr).mono ?_)
      rintro e W2 ⟨rfl, _, b1, _⟩
      go_wp2
      go_ret
      exact ⟨rfl, hbw.trans b1⟩
end Go.Proofs.YtdinachiiimngaaGreatDoor.Cs
