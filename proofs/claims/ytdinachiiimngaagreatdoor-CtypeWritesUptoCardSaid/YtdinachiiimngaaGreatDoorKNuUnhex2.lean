/- Hexadecimal decoding by a closure: num.Unhex. -/
import Derived.Test.YtdinachiiimngaaGreatDoorK7
namespace Go.Proofs.YtdinachiiimngaaGreatDoor.Nu
open Go.ChangeShapes Go.WideShapes Go.ChangeAt Go.RowKit

/-- The captured variable: a block of one cell. -/
def Flag (w : World) (b : Nat) (v : Bool) : Prop := w.heap[b]? = some (.cells #[.bool v] 4 (0, 0))
set_option maxRecDepth 100000 in
theorem closure_flag (c : Nat) (hc : c < 256) (b : Nat) (v : Bool) (w : World) (hb : Flag w b v) :
    Calls Tryz.prog 181 #[.int .u8 c, .pointer (some ⟨b, 0, none⟩)] w fun e w' => e = .returned (.int .u8 (digv c)) ∧ Flag w' b (v && decide (dig c < 16)) ∧ w.grownBy w' (some b) := closure_any c hc b v w hb
set_option maxRecDepth 100000 in
theorem digv_lt (c : Nat) : digv c < 16 := by unfold digv; split <;> omega
/-- The byte that the digits at 2t and 2t + 1 spell, a byte that is no digit counting 0. -/
def byteV (l : List UInt8) (t : Nat) : UInt8 := UInt8.ofNat (16 * digv (l.getD (2 * t) 0).toNat + digv (l.getD (2 * t + 1) 0).toNat)
def bytesV (l : List UInt8) (j : Nat) : List UInt8 := (List.range j).map (byteV l)
set_option maxRecDepth 100000 in
theorem bytesV_length (l : List UInt8) (j : Nat) : (bytesV l j).length = j := by simp [bytesV]
set_option maxRecDepth 100000 in
theorem bytesV_succ (l : List UInt8) (j : Nat) : bytesV l (j + 1) = bytesV l j ++ [byteV l j] := by simp [bytesV, List.range_succ]
set_option maxRecDepth 100000 in
theorem bytesV_eq {l : List UInt8} {j : Nat} (h : digsTo l (2 * j)) : bytesV l j = bytesTo l j := by
  unfold bytesV bytesTo
  refine List.map_congr_left fun t ht => ?_
  have ht' := List.mem_range.1 ht
  unfold byteV byteAt digv
  rw [if_pos (h (2 * t) (by omega)), if_pos (h (2 * t + 1) (by omega))]

/-- What the loop keeps: the captured variable, the row that is filled, all older memory. -/
structure St (W0 : World) (B : Nat) (w : World) (v : Bool) (sl : Value) (j : Nat) (xs : List Value) : Prop where
  flag : Flag w B v
  own : w.ownsRow (B + 1) 5 1 sl j xs
  far : sl.ownBlock ≠ some B
  bel : Below B W0 w
set_option maxRecDepth 100000 in
theorem St.drew {W0 w : World} {B : Nat} {v : Bool} {sl : Value} {j : Nat} {xs : List Value} (h : St W0 B w v sl j xs) : St W0 B w.drew v sl j xs := ⟨h.flag, h.own.drew, h.far, h.bel.drew⟩
set_option maxRecDepth 100000 in
theorem St.lt {W0 w : World} {B : Nat} {v : Bool} {sl : Value} {j : Nat} {xs : List Value} (h : St W0 B w v sl j xs) : B < w.heap.size := lt_of_block (show w.heap[B]? = some (.cells #[.bool v] 4 (0, 0)) from h.flag)
set_option maxRecDepth 100000 in
theorem St.after {W0 w w4 : World} {B : Nat} {v : Bool} {sl : Value} {j : Nat} {xs : List Value} {o : Obj} (h : St W0 B w v sl j xs) (hg : (w.alloc o).grownBy w4 (some (B + 1))) : Flag w4 B v ∧ Below B W0 w4 := by
  have hlt := h.lt
  refine ⟨?_, (h.bel.alloc (by omega) o).grown hg (by simp; omega) (fun k hk => by cases hk; omega)⟩
  unfold Flag
  rw [hg.block B (by simp; omega) (by simp), Below.heap_alloc _ _ _ hlt]
  exact h.flag
set_option maxRecDepth 100000 in
theorem closure_st (c : Nat) (hc : c < 256) {W0 : World} {B : Nat} {v : Bool} {sl : Value} {j : Nat} {xs : List Value} (w : World) (h : St W0 B w v sl j xs) :
    Calls Tryz.prog 181 #[.int .u8 c, .pointer (some ⟨B, 0, none⟩)] w fun e w' => e = .returned (.int .u8 (digv c)) ∧ St W0 B w' (v && decide (dig c < 16)) sl j xs := by
  refine (closure_any c hc B v w h.flag).mono fun e w' ⟨he, hf, hg⟩ => ⟨he, hf, h.own.kept hg (.inr h.far), h.far, h.bel.grown hg (Nat.le_of_lt h.lt) (fun k hk => by cases hk; exact Nat.le_refl _)⟩
set_option maxRecDepth 100000 in
theorem or_digits : ∀ x y : Fin 16, bits .or .u8 ((x.val : Int) * 16) (y.val : Int) = 16 * (x.val : Int) + (y.val : Int) := by decide +kernel
set_option maxRecDepth 100000 in
theorem run_index_str (s : ByteArray) (x : Int) (n : Nat) (hx : x = n) (h : n < s.size) (W : World) :
    (Instr.index 9 (.string s) (.int .i64 x)).run Tryz.prog W = .ok (.int .u8 (s[n].toNat : Int)) W := by
  subst hx
  go_simp
set_option maxRecDepth 100000 in
theorem unhex_odd (s : ByteArray) (hs : s.size ≤ 1000) (ho : ¬ s.size % 2 = 0) (w : World) :
    Calls Tryz.prog 151 #[.string s] w fun e w' => e = .returned (.tuple #[.string ⟨(unhexS s.data.toList).toArray⟩, .bool (unhexOk s.data.toList)]) ∧ Below w.heap.size w w' := by
  have hk : unhexOk s.data.toList = false := unhexOk_odd (by simpa using ho)
  have hu : unhexS s.data.toList = [] := by simp [unhexS, hk]
  rw [hk, hu]
  have h1 : ((s.size : Int) % 2 != 0) = true := by rw [bne_iff_ne]; omega
  go_enter Tryz.func151, Tryz.ntmps151
  go_wp2_with fail
  go_ret2
  exact ⟨rfl, Below.refl _ _⟩

set_option maxRecDepth 100000 in
theorem ok_step {s : ByteArray} {j : Nat} (h : digsTo s.data.toList (2 * j)) (h1 : 2 * j < s.size) (h2 : 2 * j + 1 < s.size) :
    (((true && decide (dig s[2 * j].toNat < 16)) && decide (dig s[2 * j + 1].toNat < 16)) = true → digsTo s.data.toList (2 * (j + 1))) ∧
    (((true && decide (dig s[2 * j].toNat < 16)) && decide (dig s[2 * j + 1].toNat < 16)) = false → unhexOk s.data.toList = false) := by
  constructor
  · intro hh
    simp only [Bool.true_and, Bool.and_eq_true, decide_eq_true_eq] at hh
    exact digsTo_two h (by rw [getD_byte s _ h1]; exact hh.1) (by rw [getD_byte s _ h2]; exact hh.2)
  · intro hh
    simp only [Bool.true_and, Bool.and_eq_false_iff, decide_eq_false_iff_not] at hh
    rcases hh with hh | hh
    · exact unhexOk_bad (t := 2 * j) (by simpa using h1) (by rw [getD_byte s _ h1]; exact hh)
    · exact unhexOk_bad (t := 2 * j + 1) (by simpa using h2) (by rw [getD_byte s _ h2]; exact hh)

set_option maxRecDepth 100000 in
set_option maxHeartbeats 1600000 in
theorem unhex_even (s : ByteArray) (hs : s.size ≤ 1000) (m : Nat) (ho : s.size = 2 * m) (w : World) :
    Calls Tryz.prog 151 #[.string s] w fun e w' => e = .returned (.tuple #[.string ⟨(unhexS s.data.toList).toArray⟩, .bool (unhexOk s.data.toList)]) ∧ Below w.heap.size w w' := by
  have h1 : ((s.size : Int) % 2 != 0) = false := by rw [bne_eq_false_iff_eq]; omega
  have HO := Lib.hid ho
  clear ho
  obtain ⟨i0, hi, hz0, hz1, hz2⟩ := info_parts info5
  go_enter Tryz.func151, Tryz.ntmps151
  go_wp2_with (at_make; refine wpList_make_own _ rfl _ _ 59 rfl (w.heap.size + 1) 5 i0 (.int .u8 0) 1 Tryz.underlying59 hi hz0 hz1 _ _ _ m rfl rfl (by have := HO.out; omega) ?b1 ?b2 ?b3 ?_)
  case b1 => rw [hz2]; have := HO.out; omega
  case b2 => unfold maxLen; have := HO.out; omega
  case b3 => simp
  intro w1 hown hgrow
  go_wp2_with fail
  have hf : Flag w1 w.heap.size true := by
    unfold Flag
    rw [hgrow.block w.heap.size (by simp) (by simp)]
    exact heap_alloc_new _ _
  have hb0 : Below w.heap.size w w1 := ((Below.refl _ _).alloc (Nat.le_refl _) _).grown hgrow (by simp) (fun k h => by cases h)
  have hc0 := cell_of_one (show w1.heap[w.heap.size]? = some (.cells #[.bool true] 4 (0, 0)) from hf)
  go_loopw [6, 7] (fun v i wr => ∃ (j : Nat) (ok : Bool), 2 * j ≤ s.size ∧ i = .int .i64 (2 * (j : Int)) ∧ v = .slice (some ⟨w.heap.size + 1, 0, none⟩) j m ∧ Flag wr w.heap.size ok ∧
      Hid ((ok = true → digsTo s.data.toList (2 * j)) ∧ (ok = false → unhexOk s.data.toList = false)) ∧
      wr.ownsRow (w.heap.size + 1) 5 1 (.slice (some ⟨w.heap.size + 1, 0, none⟩) j m) j (cellsOf (bytesV s.data.toList j)) ∧ Below w.heap.size w wr)
    (fun _ i _ => s.size - (intOf i).toNat)
  case atStart => exact ⟨0, true, Nat.zero_le _, rfl, rfl, hf, ⟨fun _ t ht => by omega, fun h => by cases h⟩, hown, hb0⟩
  case round =>
    clear hown hf hb0 hgrow hc0
    obtain ⟨j, ok, hj, rfl, rfl, hf, hd, hown, hbel⟩ := hrel
    have hc := cell_of_one (show wr.heap[w.heap.size]? = some (.cells #[.bool ok] 4 (0, 0)) from hf)
    cases ok with
    | false =>
      have hk := hd.out.2 rfl
      have hu : unhexS s.data.toList = [] := by simp [unhexS, hk]
      have HK := Lib.hid hk
      have HU := Lib.hid hu
      clear hk hu hd
      by_cases hlt : 2 * j < s.size
      all_goals
        go_wp2_with fail
        go_ret2
        rw [HK.out, HU.out]
        exact ⟨rfl, hbel⟩
    | true =>
      by_cases hlt : 2 * j < s.size
      · have hlt2 : 2 * j + 1 < s.size := by have := HO.out; omega
        have HS := Lib.hid (ok_step (hd.out.1 rfl) hlt hlt2)
        clear hd
        have hsz := hbel.size
        go_wp2_with fail
        have r0 := run_index_str s (2 * (j : Int)) (2 * j) (by omega) hlt
        have r1 := run_index_str s (2 * (j : Int) + 1) (2 * j + 1) (by omega) hlt2
        have e1 : IntKind.i64.wrap (2 * (j : Int) + 1) = 2 * (j : Int) + 1 := IntWalk.i64_in _ (by omega)
        have e2 : IntKind.u8.wrap ((digv s[2 * j].toNat : Int) * 16) = (digv s[2 * j].toNat : Int) * 16 := IntWalk.u8_in _ (by have := digv_lt s[2 * j].toNat; omega)
        have e3 : bits .or .u8 ((digv s[2 * j].toNat : Int) * 16) (digv s[2 * j + 1].toNat : Int) = ((byteV s.data.toList j).toNat : Int) := by
          have x := digv_lt s[2 * j].toNat
          have y := digv_lt s[2 * j + 1].toNat
          have := or_digits ⟨_, x⟩ ⟨_, y⟩
          rw [this]
          unfold byteV
          rw [getD_byte s _ hlt, getD_byte s _ hlt2, UInt8.toNat_ofNat']; simp only []; omega
        have st : St w w.heap.size wr true (.slice (some ⟨w.heap.size + 1, 0, none⟩) j m) j (cellsOf (bytesV s.data.toList j)) := ⟨hf, hown, by simp [Value.ownBlock], hbel⟩
        have std := st.drew
        clear hf hown hbel hc
        go_region_law (first
          | (refine step_append_fits rfl (.tmp 26) (.tmp 40) 59 rfl (w.heap.size + 1) 5 i0 1 Tryz.underlying59 hi hz1 (w.heap.size + 1) j m (cellsOf (bytesV s.data.toList j)) rfl (World.ownsRow.alloc (St.own (by assumption)) _) ⟨_, 0, none⟩ 1 1 (cellsOf [byteV s.data.toList j]) rfl rfl (bytes_new _ [_]) (cellsOf_one _) (by have := HO.out; omega) ?_; intro w4 hown4 hgrow4; have hF := St.after (by assumption) hgrow4)
          | (go_simp; go_at_call 181; refine (closure_st _ (UInt8.toNat_lt _) _ (by assumption)).mono ?_; rintro e w2 ⟨rfl, hf2⟩))
        all_goals go_wp2_with fail
        all_goals go_roundw
        all_goals first
          | exact ⟨j + 1, _, by omega, by go_num, rfl, hF.1, HS.out, by rw [bytesV_succ]; unfold cellsOf at hown4 ⊢; rw [List.map_append]; exact hown4, hF.2⟩
          | (simp [intOf]; omega)
      · have hj2 : 2 * j = s.size := by omega
        have hdd := hd.out.1 rfl
        have ho : s.data.toList.length % 2 = 0 := by have := HO.out; simp; omega
        have hk : unhexOk s.data.toList = true := unhexOk_all ho (by have := hdd; rw [hj2] at this; simpa using this)
        have hu : unhexS s.data.toList = bytesV s.data.toList j := by
          rw [unhexS, if_pos hk, bytesV_eq hdd]; congr 1; simp; omega
        have hcv := conv_any (bytesV_length _ _) hown
        have HK := Lib.hid hk
        have HU := Lib.hid hu
        clear hk hu hj2 hd hdd ho
        go_wp2_with fail
        go_ret2
        rw [HK.out, HU.out]
        exact ⟨rfl, hbel⟩
set_option maxRecDepth 100000 in
theorem unhex_any (s : ByteArray) (hs : s.size ≤ 1000) (w : World) :
    Calls Tryz.prog 151 #[.string s] w fun e w' => e = .returned (.tuple #[.string ⟨(unhexS s.data.toList).toArray⟩, .bool (unhexOk s.data.toList)]) ∧ Below w.heap.size w w' := by
  by_cases h : s.size % 2 = 0
  · exact unhex_even s hs (s.size / 2) (by omega) w
  · exact unhex_odd s hs h w
end Go.Proofs.YtdinachiiimngaaGreatDoor.Nu
