/- The encoders of package code. -/
import Derived.Test.YtbaddpkeaealpaaMem
import Derived.Laws.Bits128
import Derived.Lib.AppendStr
namespace Go.Proofs.Ytbaddpkeaealpaa
open Go.ChangeShapes Go.WideShapes Go.ChangeAt Go.RowKit

theorem info5 : (Try.prog.info? 5).map (fun i => (i.zero, i.size, i.bytes)) = some (some (.int .u8 0), 1, 1) := by kernel_rfl
def cellsOf (l : List UInt8) : List Value := l.map fun c => Value.int .u8 c.toNat
theorem cellsOf_one (l : List UInt8) : ∀ u ∈ cellsOf l, u.oneCell' = true := by
  intro u hu
  obtain ⟨c, _, rfl⟩ := List.mem_map.1 hu
  rfl
theorem bytes_new (w : World) (l : List UInt8) : ∀ j u, (cellsOf l)[j]? = some u → (w.alloc (.cells (cellsOf l).toArray 5)).cell? ((⟨w.heap.size, 0, none⟩ : Addr).add j) = some u := by
  intro j u h
  have := World.cell?_alloc_mark w (cellsOf l).toArray 5 (0, 0) j
  have e : (⟨w.heap.size, 0, none⟩ : Addr).add j = ⟨w.heap.size, j, none⟩ := by
    simp only [Addr.add, Nat.zero_add]
    split
    · rename_i hj; rw [hj]
    · rfl
  rw [e, this, List.getElem?_toArray]; exact h
/-- The conversion to a string of a slice that the call made itself, nil or not. -/
theorem conv_any {w : World} {base n : Nat} {v : Value} {l : List UInt8} (hl : l.length = n) (hown : w.ownsRow base 5 1 v n (cellsOf l)) :
    (convert 51 9 v).run Try.prog w = .ok (.string ⟨l.toArray⟩) w := by
  rcases hown.2 with ⟨rfl, h⟩ | ⟨g, cap, cur, rfl, _⟩
  · obtain rfl : l = [] := List.eq_nil_of_length_eq_zero (by rw [hl, h])
    kernel_rfl
  · subst hl
    refine run_convert_bytes_back w 51 9 5 ⟨g, 0, none⟩ cap l Try.underlying51 Try.underlying5 Try.underlying9 fun j hj => ?_
    refine hown.cells (g := g) rfl j _ ?_
    unfold cellsOf
    rw [List.getElem?_map, List.getElem?_eq_getElem hj]; rfl

theorem or128 : ∀ y : Fin 256, bits .or .u8 (y.val : Int) 128 = ((y.val % 128 + 128 : Nat) : Int) := by decide +kernel
theorem or128_of (y : Nat) (h : y < 256) : bits .or .u8 (y : Int) 128 = ((y % 128 + 128 : Nat) : Int) := or128 ⟨y, h⟩

theorem appendNum_nat (n : Nat) (h1 : n < 9223372036854775808) {v : Value} {l : List UInt8} {base : Nat} {w : World} (hown : w.ownsRow base 5 1 v l.length (cellsOf l)) (hl : l.length ≤ 140737488355000) (hb : base ≤ w.heap.size) :
    Calls Try.prog 40 #[v, .int .i64 n] w fun e w' => ∃ v', e = .returned v' ∧ w'.ownsRow base 5 1 v' (l ++ varL n).length (cellsOf (l ++ varL n)) ∧ Below base w w' := by
  obtain ⟨i0, hi, hz0, hz1, hz2⟩ := info_parts info5
  have h9 := Lib.hid (varL_nine h1)
  go_enter Try.func40, Try.ntmps40
  go_wp2_with fail
  go_loopw [0, 1] (fun u i wr => ∃ (m : Nat) (d : List UInt8), m ≤ n ∧ i = .int .i64 m ∧ wr.ownsRow base 5 1 u (l ++ d).length (cellsOf (l ++ d)) ∧ Hid (varL n = d ++ varL m) ∧ Below base w wr)
    (fun _ i _ => (intOf i).toNat)
  case atStart => exact ⟨n, [], Nat.le_refl _, rfl, by rw [List.append_nil]; exact hown, rfl, Below.refl _ _⟩
  case round =>
    clear hown
    obtain ⟨m, d, hm, rfl, hown, hd, hbel⟩ := hrel
    have hdl : d.length ≤ 8 := by
      have e := congrArg List.length hd.out
      rw [List.length_append] at e
      have := varL_pos m
      have := h9.out
      omega
    have hsz := hbel.size
    have hll : (l ++ d).length ≤ 140737488355008 := by rw [List.length_append]; omega
    by_cases hge : 128 ≤ m
    · have hge' : (128 : Int) ≤ (m : Int) := by omega
      obtain ⟨c, hc⟩ : ∃ c : UInt8, c = UInt8.ofNat (m % 128 + 128) := ⟨_, rfl⟩
      have e1 : bits .or .u8 ((m : Int) % 256) 128 = (c.toNat : Int) := by
        have := or128_of (m % 256) (by omega)
        rw [show ((m % 256 : Nat) : Int) = (m : Int) % 256 by omega] at this
        rw [this, hc, byte_small (by omega)]
        omega
      have HE : Hid (varL m = c :: varL (m / 128)) := by show _ = _; rw [varL_big hge, hc]
      clear hc
      go_wp2_with (at_builtin; (refine wpList_append_own _ rfl (.tmp 10) (.tmp 14) 51 rfl base 5 i0 (.int .u8 0) 1 1 Try.underlying51 hi hz0 hz1 hz2 rfl (by decide) _ (l ++ d).length (cellsOf (l ++ d)) rfl (hown.alloc _) ⟨wr.heap.size, 0, none⟩ 1 1 (cellsOf [c]) rfl rfl (bytes_new _ [c]) (cellsOf_one _) (by unfold maxLen; omega) (by omega) (by simp; omega) ?_; intro v2 w2 hown2 hgrow2 hnil2))
      go_roundw
      case rel =>
        refine ⟨m / 128, d ++ [c], by omega, by go_num, ?_, ?_, (hbel.alloc (by omega) _).grown hgrow2 (by simp; omega) (fun k h => (hown.lt k h).1)⟩
        · rw [← List.append_assoc, List.length_append]
          unfold cellsOf at hown2 ⊢
          rw [List.map_append]; exact hown2
        · show _ = _
          rw [hd.out, HE.out]; simp
      case measure => simp [intOf]; omega
    · have hge' : ¬ (128 : Int) ≤ (m : Int) := by omega
      obtain ⟨c, rfl⟩ : ∃ c : UInt8, c.toNat = m := ⟨UInt8.ofNat m, byte_small (by omega)⟩
      have HE : Hid (varL c.toNat = [c]) := by show _ = _; rw [varL_small (by omega)]; simp
      go_wp2_with (at_builtin; (refine wpList_append_own _ rfl (.tmp 18) (.tmp 21) 51 rfl base 5 i0 (.int .u8 0) 1 1 Try.underlying51 hi hz0 hz1 hz2 rfl (by decide) _ (l ++ d).length (cellsOf (l ++ d)) rfl (hown.alloc _) ⟨wr.heap.size, 0, none⟩ 1 1 (cellsOf [c]) rfl rfl (bytes_new _ [c]) (cellsOf_one _) (by unfold maxLen; omega) (by omega) (by simp; omega) ?_; intro v2 w2 hown2 hgrow2 hnil2))
      go_ret
      refine ⟨v2, rfl, ?_, (hbel.alloc (by omega) _).grown hgrow2 (by simp; omega) (fun k h => (hown.lt k h).1)⟩
      have e : l ++ varL n = (l ++ d) ++ [c] := by rw [hd.out, HE.out, List.append_assoc]
      have e2 : ((l ++ d) ++ [c]).length = (l ++ d).length + 1 := List.length_append
      have e3 : cellsOf ((l ++ d) ++ [c]) = cellsOf (l ++ d) ++ cellsOf [c] := List.map_append
      have hfin : w2.ownsRow base 5 1 v2 (l ++ varL n).length (cellsOf (l ++ varL n)) := by rw [e, e2, e3]; exact hown2
      rw [List.length_append] at hfin
      exact hfin
theorem appendNum_neg (n : Int) (h1 : n < 0) (v : Value) (w : World) :
    Calls Try.prog 40 #[v, .int .i64 n] w fun e w' => e = .returned v ∧ w = w' := by
  go_enter Try.func40, Try.ntmps40
  go_wp2_with fail
  go_ret
  exact ⟨rfl, rfl⟩
theorem appendNum_any (n : Int) (h1 : n < 9223372036854775808) {v : Value} {l : List UInt8} {base : Nat} {w : World} (hown : w.ownsRow base 5 1 v l.length (cellsOf l)) (hl : l.length ≤ 140737488355000) (hb : base ≤ w.heap.size) :
    Calls Try.prog 40 #[v, .int .i64 n] w fun e w' => ∃ v', e = .returned v' ∧ w'.ownsRow base 5 1 v' (l ++ varI n).length (cellsOf (l ++ varI n)) ∧ Below base w w' := by
  by_cases h : n < 0
  · rw [varI_neg h, List.append_nil]
    refine (appendNum_neg n h v w).mono ?_
    rintro e w' ⟨rfl, rfl⟩
    exact ⟨v, rfl, hown, Below.refl _ _⟩
  · obtain ⟨m, rfl⟩ : ∃ m : Nat, n = m := ⟨n.toNat, by omega⟩
    rw [varI_nat]
    exact appendNum_nat m (by omega) hown hl hb
theorem num_enc (n : Int) (h1 : n < 9223372036854775808) (w : World) :
    Calls Try.prog 11 #[.int .i64 n] w fun e w' => e = .returned (.string ⟨(varI n).toArray⟩) ∧ Below w.heap.size w w' := by
  have hc := appendNum_any n h1 (v := .slice none 0 0) (l := []) (base := w.heap.size) (World.ownsRow_nil w w.heap.size 5 1) (by decide) (Nat.le_refl _)
  rw [List.nil_append] at hc
  have HC := Lib.hid hc
  clear hc
  go_enter Try.func11, Try.ntmps11
  go_wp2_with fail
  refine HC.out.mono ?_
  rintro e w1 ⟨v', rfl, hown, hbel⟩
  have hcv := conv_any rfl hown
  go_wp2_with fail
  go_ret
  exact ⟨rfl, hbel⟩
theorem strCells_is (s : ByteArray) : Lib.strCells s = cellsOf s.data.toList := rfl
theorem appendText_any (s : ByteArray) {v : Value} {l : List UInt8} {base : Nat} {w : World} (hown : w.ownsRow base 5 1 v l.length (cellsOf l)) (hl : l.length + s.size ≤ 140737488355000) (hb : base ≤ w.heap.size) :
    Calls Try.prog 41 #[v, .string s] w fun e w' => ∃ v', e = .returned v' ∧ w'.ownsRow base 5 1 v' (l ++ textL s.data.toList).length (cellsOf (l ++ textL s.data.toList)) ∧ Below base w w' := by
  obtain ⟨i0, hi, hz0, hz1, hz2⟩ := info_parts info5
  have hc := appendNum_nat s.size (by omega) hown (by omega) hb
  have HL : Hid (s.data.toList.length = s.size) := by show _ = _; rw [Array.length_toList]; rfl
  have h9 := varL_nine (n := s.size) (by omega)
  obtain ⟨V, hV⟩ : ∃ V, V = varL s.size := ⟨_, rfl⟩
  rw [← hV] at hc h9
  have HC := Lib.hid hc
  have HV := Lib.hid hV
  clear hc hown hV
  go_enter Try.func41, Try.ntmps41
  go_wp2_with fail
  refine HC.out.mono ?_
  rintro e w1 ⟨v1, rfl, hown, hbel⟩
  have hsz := hbel.size
  have hll : (l ++ V).length + s.size ≤ 140737488355328 := by rw [List.length_append]; omega
  go_wp2_with (at_builtin; (refine Lib.wpList_append_own_string _ rfl (.tmp 8) (.tmp 9) 51 9 rfl base 5 i0 Try.underlying51 Try.underlying9 hi hz0 hz1 hz2 _ _ _ rfl hown s rfl (by unfold maxLen; omega) hll (by omega) ?_; intro v2 w2 hown2 hgrow2 hnil2))
  go_ret
  refine ⟨_, rfl, ?_, hbel.grown hgrow2 (by omega) (fun k h => (hown.lt k h).1)⟩
  rw [textL, HL.out, ← HV.out, ← List.append_assoc, List.length_append, HL.out]
  rw [strCells_is] at hown2
  unfold cellsOf at hown2 ⊢
  rw [List.map_append]; exact hown2
theorem text_enc (s : ByteArray) (hs : s.size ≤ 140737488355000) (w : World) :
    Calls Try.prog 13 #[.string s] w fun e w' => e = .returned (.string ⟨(textL s.data.toList).toArray⟩) ∧ Below w.heap.size w w' := by
  have hc := appendText_any s (v := .slice none 0 0) (l := []) (base := w.heap.size) (World.ownsRow_nil w w.heap.size 5 1) (by simp only [List.length_nil]; omega) (Nat.le_refl _)
  rw [List.nil_append] at hc
  have HC := Lib.hid hc
  clear hc
  go_enter Try.func13, Try.ntmps13
  go_wp2_with fail
  refine HC.out.mono ?_
  rintro e w1 ⟨v', rfl, hown, hbel⟩
  have hcv := conv_any rfl hown
  go_wp2_with fail
  go_ret
  exact ⟨rfl, hbel⟩

theorem add_block (a : Addr) (j : Nat) : (a.add j).block = a.block := by
  unfold Addr.add; split <;> rfl
/-- What is written when k elements are. -/
def pre {A : Type} (f : A → List UInt8) (xs : List A) (k : Nat) : List UInt8 := varL xs.length ++ (xs.take k).flatMap f
theorem pre_zero {A : Type} (f : A → List UInt8) (xs : List A) : pre f xs 0 = varL xs.length := by simp [pre]
theorem pre_succ {A : Type} (f : A → List UInt8) (xs : List A) (k : Nat) (h : k < xs.length) : pre f xs (k + 1) = pre f xs k ++ f xs[k] := by
  unfold pre
  rw [List.take_succ_eq_append_getElem h, List.flatMap_append, List.append_assoc]; simp
theorem pre_all {A : Type} (f : A → List UInt8) (xs : List A) : pre f xs xs.length = varL xs.length ++ xs.flatMap f := by unfold pre; rw [List.take_length]
theorem pre_le {A : Type} (f : A → List UInt8) (xs : List A) (k : Nat) : (pre f xs k).length ≤ (pre f xs xs.length).length := by
  unfold pre
  rw [List.take_length]
  conv => rhs; rw [← List.take_append_drop k xs, List.flatMap_append]
  simp only [List.length_append, List.take_append_drop]; omega
def txt (s : ByteArray) : List UInt8 := textL s.data.toList
theorem listL_pre (xs : List ByteArray) : listL (xs.map fun s => s.data.toList) = pre txt xs xs.length := by
  rw [pre_all, listL, List.length_map, List.flatMap_map]; rfl
theorem numsL_pre (xs : List Int) : numsL xs = pre varI xs xs.length := by rw [pre_all, numsL]
theorem txt_len (s : ByteArray) : s.size < (txt s).length := by
  have h : s.data.toList.length = s.size := by rw [Array.length_toList]; rfl
  have := varL_pos s.size
  rw [txt, textL, List.length_append, h]
  omega
theorem pre_txt_len (xs : List ByteArray) : xs.length < (pre txt xs xs.length).length := by
  rw [pre_all, List.length_append]
  have h1 := varL_pos xs.length
  have h2 : ∀ l : List ByteArray, l.length ≤ (l.flatMap txt).length := by
    intro l
    induction l with
    | nil => simp
    | cons a l ih => rw [List.flatMap_cons, List.length_append, List.length_cons]; have := txt_len a; omega
  have := h2 xs
  omega

theorem list_nil (w : World) :
    Calls Try.prog 42 #[.slice none 0 0, .func (.func 41) #[] #[]] w fun e w' => e = .returned (.string ⟨(listL []).toArray⟩) ∧ Below w.heap.size w w' := by
  have hc0 := appendNum_nat 0 (by omega) (v := .slice none 0 0) (l := []) (base := w.heap.size) (World.ownsRow_nil w w.heap.size 5 1) (by decide) (Nat.le_refl _)
  rw [List.nil_append] at hc0
  have HC := Lib.hid hc0
  clear hc0
  have HL : Hid (listL [] = varL 0) := by show _ = _; simp [listL]
  go_enter Try.func42, Try.ntmps42
  go_wp2_with fail
  refine HC.out.mono ?_
  rintro e w1 ⟨v1, rfl, hown, hbel⟩
  have hcv := conv_any rfl hown
  go_wp2_with fail
  go_loop [5, 13] (fun u i => u = v1 ∧ i = .int .i64 0) (fun _ _ => 0)
  case atStart => exact ⟨rfl, rfl⟩
  case round =>
    obtain ⟨rfl, rfl⟩ := hrel
    go_wp2_with fail
    go_ret
    exact ⟨by rw [HL.out]; rfl, hbel⟩
theorem list_some (a : Addr) (c : Nat) (xs : List ByteArray) (w : World) (hx : ∀ j (h : j < xs.length), w.cell? (a.add j) = some (.string xs[j])) (hsz : (pre txt xs xs.length).length ≤ 140737488355000) :
    Calls Try.prog 42 #[.slice (some a) xs.length c, .func (.func 41) #[] #[]] w fun e w' => e = .returned (.string ⟨(pre txt xs xs.length).toArray⟩) ∧ Below w.heap.size w w' := by
  have hlen : xs.length ≤ 140737488355000 := by have := pre_txt_len xs; omega
  have hc0 := appendNum_nat xs.length (by omega) (v := .slice none 0 0) (l := []) (base := w.heap.size) (World.ownsRow_nil w w.heap.size 5 1) (by decide) (Nat.le_refl _)
  rw [List.nil_append] at hc0
  have HC := Lib.hid hc0
  have HS := Lib.hid hsz
  have HX := Lib.hid hx
  clear hc0 hsz hx
  go_enter Try.func42, Try.ntmps42
  go_wp2_with fail
  refine HC.out.mono ?_
  rintro e w1 ⟨v1, rfl, hown, hbel⟩
  go_wp2_with fail
  go_loopw [5, 13] (fun u i wr => ∃ k : Nat, k ≤ xs.length ∧ i = .int .i64 k ∧ wr.ownsRow w.heap.size 5 1 u (pre txt xs k).length (cellsOf (pre txt xs k)) ∧ Below w.heap.size w wr)
    (fun _ i _ => xs.length - (intOf i).toNat)
  case atStart => exact ⟨0, Nat.zero_le _, rfl, by rw [pre_zero]; exact hown, hbel⟩
  case round =>
    clear hown hbel
    obtain ⟨k, hk, rfl, hown, hbel⟩ := hrel
    by_cases hlt : k < xs.length
    · have hcell : wr.cell? (a.add k) = some (.string xs[k]) := by
        rw [hbel.cell (p := a.add k) (World.block_lt_of_cell? w (a.add k) (HX.out k hlt))]; exact HX.out k hlt
      have hA := appendText_any xs[k] hown (by
        have h1 := pre_le txt xs (k + 1)
        rw [pre_succ txt xs k hlt, List.length_append] at h1
        have := txt_len xs[k]
        have := HS.out
        omega) hbel.size
      have HA := Lib.hid hA
      clear hA hown
      go_wp2_with fail
      refine HA.out.mono ?_
      rintro e w2 ⟨v2, rfl, hown2, hbel2⟩
      go_wp2_with fail
      go_roundw
      case rel => exact ⟨k + 1, by omega, by go_num, by rw [pre_succ txt xs k hlt]; exact hown2, hbel.trans hbel2⟩
      case measure => simp [intOf]; omega
    · obtain rfl : k = xs.length := by omega
      have hcv := conv_any rfl hown
      go_wp2_with fail
      go_ret
      exact ⟨rfl, hbel⟩
theorem nums_nil (w : World) :
    Calls Try.prog 43 #[.slice none 0 0, .func (.func 40) #[] #[]] w fun e w' => e = .returned (.string ⟨(numsL []).toArray⟩) ∧ Below w.heap.size w w' := by
  have hc0 := appendNum_nat 0 (by omega) (v := .slice none 0 0) (l := []) (base := w.heap.size) (World.ownsRow_nil w w.heap.size 5 1) (by decide) (Nat.le_refl _)
  rw [List.nil_append] at hc0
  have HC := Lib.hid hc0
  clear hc0
  have HL : Hid (numsL [] = varL 0) := by show _ = _; simp [numsL]
  go_enter Try.func43, Try.ntmps43
  go_wp2_with fail
  refine HC.out.mono ?_
  rintro e w1 ⟨v1, rfl, hown, hbel⟩
  have hcv := conv_any rfl hown
  go_wp2_with fail
  go_loop [5, 13] (fun u i => u = v1 ∧ i = .int .i64 0) (fun _ _ => 0)
  case atStart => exact ⟨rfl, rfl⟩
  case round =>
    obtain ⟨rfl, rfl⟩ := hrel
    go_wp2_with fail
    go_ret
    exact ⟨by rw [HL.out]; rfl, hbel⟩
theorem nums_some (a : Addr) (c : Nat) (xs : List Int) (w : World) (hx : ∀ j (h : j < xs.length), w.cell? (a.add j) = some (.int .i64 xs[j])) (hb : ∀ x ∈ xs, x ≤ 9223372036854775807) (hlen : xs.length ≤ 140737488355000) (hsz : (pre varI xs xs.length).length ≤ 140737488355000) :
    Calls Try.prog 43 #[.slice (some a) xs.length c, .func (.func 40) #[] #[]] w fun e w' => e = .returned (.string ⟨(pre varI xs xs.length).toArray⟩) ∧ Below w.heap.size w w' := by
  have hc0 := appendNum_nat xs.length (by omega) (v := .slice none 0 0) (l := []) (base := w.heap.size) (World.ownsRow_nil w w.heap.size 5 1) (by decide) (Nat.le_refl _)
  rw [List.nil_append] at hc0
  have HC := Lib.hid hc0
  have HS := Lib.hid hsz
  have HX := Lib.hid hx
  have HB := Lib.hid hb
  clear hc0 hsz hx hb
  go_enter Try.func43, Try.ntmps43
  go_wp2_with fail
  refine HC.out.mono ?_
  rintro e w1 ⟨v1, rfl, hown, hbel⟩
  go_wp2_with fail
  go_loopw [5, 13] (fun u i wr => ∃ k : Nat, k ≤ xs.length ∧ i = .int .i64 k ∧ wr.ownsRow w.heap.size 5 1 u (pre varI xs k).length (cellsOf (pre varI xs k)) ∧ Below w.heap.size w wr)
    (fun _ i _ => xs.length - (intOf i).toNat)
  case atStart => exact ⟨0, Nat.zero_le _, rfl, by rw [pre_zero]; exact hown, hbel⟩
  case round =>
    clear hown hbel
    obtain ⟨k, hk, rfl, hown, hbel⟩ := hrel
    by_cases hlt : k < xs.length
    · have hcell : wr.cell? (a.add k) = some (.int .i64 xs[k]) := by
        rw [hbel.cell (p := a.add k) (World.block_lt_of_cell? w (a.add k) (HX.out k hlt))]; exact HX.out k hlt
      have hA := appendNum_any xs[k] (by have := HB.out xs[k] (List.getElem_mem hlt); omega) hown (by
        have h1 := pre_le varI xs k
        have := HS.out
        omega) hbel.size
      have HA := Lib.hid hA
      clear hA hown
      go_wp2_with fail
      refine HA.out.mono ?_
      rintro e w2 ⟨v2, rfl, hown2, hbel2⟩
      go_wp2_with fail
      go_roundw
      case rel => exact ⟨k + 1, by omega, by go_num, by rw [pre_succ varI xs k hlt]; exact hown2, hbel.trans hbel2⟩
      case measure => simp [intOf]; omega
    · obtain rfl : k = xs.length := by omega
      have hcv := conv_any rfl hown
      go_wp2_with fail
      go_ret
      exact ⟨rfl, hbel⟩
end Go.Proofs.Ytbaddpkeaealpaa
