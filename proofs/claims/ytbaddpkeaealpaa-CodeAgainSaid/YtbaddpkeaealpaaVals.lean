/- The law's values in memory: kind and encoded. -/
import Derived.Test.YtbaddpkeaealpaaFew
import Derived.Test.YtbaddpkeaealpaaPure2
namespace Go.Proofs.Ytbaddpkeaealpaa
open Go.ChangeShapes Go.WideShapes Go.ChangeAt Go.RowKit

/-- A value to encode, and the slices that hold its lists. -/
structure V where
  kind : Int
  n : Int
  text : List UInt8
  tv : Value
  texts : List (List UInt8)
  uv : Value
  nums : List Int
def valV (x : V) : Value := .agg #[intV x.kind, intV x.n, strV x.text, x.tv, x.uv]
def cellsV (x : V) : List Value := [intV x.kind, intV x.n, strV x.text, x.tv, x.uv]
/-- The five cells of a value, from address a on. -/
structure At (w : World) (a : Addr) (x : V) : Prop where
  c0 : w.cell? a = some (intV x.kind)
  c1 : w.cell? ⟨a.block, a.off + 1, none⟩ = some (intV x.n)
  c2 : w.cell? ⟨a.block, a.off + 2, none⟩ = some (strV x.text)
  c3 : w.cell? ⟨a.block, a.off + 3, none⟩ = some x.tv
  c4 : w.cell? ⟨a.block, a.off + 4, none⟩ = some x.uv
theorem At.lt {w : World} {a : Addr} {x : V} (h : At w a x) : a.block < w.heap.size := World.block_lt_of_cell? w _ h.c0
theorem At.keep {w w' : World} {a : Addr} {x : V} (h : At w a x) (hk : w'.heap[a.block]? = w.heap[a.block]?) : At w' a x :=
  ⟨(World.cell?_of_block (a := a) hk).trans h.c0, (World.cell?_of_block (a := ⟨a.block, a.off + 1, none⟩) hk).trans h.c1, (World.cell?_of_block (a := ⟨a.block, a.off + 2, none⟩) hk).trans h.c2, (World.cell?_of_block (a := ⟨a.block, a.off + 3, none⟩) hk).trans h.c3, (World.cell?_of_block (a := ⟨a.block, a.off + 4, none⟩) hk).trans h.c4⟩
/-- A slice of values. -/
def HasVs (w : World) (v : Value) (xs : List V) : Prop :=
  ((v = .slice none 0 0 ∧ xs = []) ∨ ∃ a c, v = .slice (some a) xs.length c ∧ ∀ j (h : j < xs.length), At w (a.add (j * 5)) xs[j]) ∧ ∀ x ∈ xs, Has strV w x.tv x.texts ∧ Has intV w x.uv x.nums
/-- None of what is read of them lies in block r. -/
def Off (v : Value) (xs : List V) (r : Nat) : Prop := (∀ k, blk v = some k → k ≠ r) ∧ ∀ x ∈ xs, (∀ k, blk x.tv = some k → k ≠ r) ∧ ∀ k, blk x.uv = some k → k ≠ r
theorem HasVs.shape {w : World} {v : Value} {xs : List V} (h : HasVs w v xs) : ∃ a c, v = .slice a xs.length c := by
  rcases h.1 with ⟨rfl, rfl⟩ | ⟨a, c, rfl, _⟩
  · exact ⟨none, 0, rfl⟩
  · exact ⟨some a, c, rfl⟩
theorem HasVs.below {w w' : World} {v : Value} {xs : List V} (h : HasVs w v xs) (hb : Below w.heap.size w w') : HasVs w' v xs := by
  refine ⟨?_, fun x hx => ⟨(h.2 x hx).1.below' hb, (h.2 x hx).2.below' hb⟩⟩
  rcases h.1 with h1 | ⟨a, c, rfl, h1⟩
  · exact Or.inl h1
  · exact Or.inr ⟨a, c, rfl, fun j hj => (h1 j hj).keep (hb.block _ (h1 j hj).lt)⟩
theorem HasVs.kept {w w' : World} {v : Value} {xs : List V} {r : Nat} (h : HasVs w v xs) (ho : Off v xs r) (hg : w.grownBy w' (some r)) : HasVs w' v xs := by
  refine ⟨?_, fun x hx => ⟨(h.2 x hx).1.kept hg (fun k hk e => (ho.2 x hx).1 k hk (by injection e)), (h.2 x hx).2.kept hg (fun k hk e => (ho.2 x hx).2 k hk (by injection e))⟩⟩
  rcases h.1 with h1 | ⟨a, c, rfl, h1⟩
  · exact Or.inl h1
  · refine Or.inr ⟨a, c, rfl, fun j hj => (h1 j hj).keep (hg.block _ (h1 j hj).lt (fun e => ho.1 a.block rfl (by injection e with e; rw [add_block] at e; exact e)))⟩
def kindP (x : V) : Int := x.kind % 4
theorem kindP_four (x : V) : kindP x = 0 ∨ kindP x = 1 ∨ kindP x = 2 ∨ kindP x = 3 := by unfold kindP; omega
theorem i64_and3 (n : Int) : bits .and .i64 n 3 = n % 4 := by
  have h127 : (BitVec.ofInt 64 3).toNat = 2 ^ 2 - 1 := by decide
  have key : (BitVec.ofInt 64 n &&& BitVec.ofInt 64 3).toNat = (n % ((2 ^ 64 : Nat) : Int)).toNat % 2 ^ 2 := by
    rw [BitVec.toNat_and, BitVec.toNat_ofInt, h127, Nat.and_two_pow_sub_one_eq_mod]
  show IntKind.i64.wrap ((BitVec.ofInt 64 n &&& BitVec.ofInt 64 3).toNat : Nat) = n % 4
  rw [key, IntKind.wrap_i64]
  omega
theorem kind_is {x : V} {c : Int} (hc : kindP x = c) (w : World) : Calls Try.prog 39 #[valV x] w fun e w' => e = .returned (.int .i64 c) ∧ Below w.heap.size w w' := by
  have hk := i64_and3 x.kind
  have HK : Hid (x.kind % 4 = c) := hc
  clear hc
  unfold valV intV strV
  go_enter Try.func39, Try.ntmps39
  go_wp2_with fail
  go_ret
  exact ⟨congrArg (fun n => Ending.returned (.int .i64 n)) HK.out, (Below.refl _ _).alloc (Nat.le_refl _) _⟩

def encV (x : V) : List UInt8 := if kindP x = 0 then varI x.n else if kindP x = 1 then textL x.text else if kindP x = 2 then listL x.texts else numsL x.nums
/-- The encodings of the first k values. -/
def cat (xs : List V) (k : Nat) : List UInt8 := (xs.take k).flatMap encV
theorem cat_zero (xs : List V) : cat xs 0 = [] := rfl
theorem cat_succ (xs : List V) (k : Nat) (h : k < xs.length) : cat xs (k + 1) = cat xs k ++ encV xs[k] := by
  unfold cat
  rw [List.take_succ_eq_append_getElem h, List.flatMap_append]; simp
theorem cat_all (xs : List V) : cat xs xs.length = xs.flatMap encV := by unfold cat; rw [List.take_length]
theorem cat_le (xs : List V) (k : Nat) : (cat xs k).length ≤ (xs.flatMap encV).length := by
  unfold cat
  conv => rhs; rw [← List.take_append_drop k xs, List.flatMap_append]
  rw [List.length_append]; omega
/-- What the encoders ask of a value: nothing that they make is too long for a slice. -/
structure OkV (x : V) : Prop where
  n : x.n ≤ 9223372036854775807
  text : x.text.length ≤ 140737488355000
  texts : (listL x.texts).length ≤ 140737488355000
  len : x.nums.length ≤ 140737488355000
  nums : (numsL x.nums).length ≤ 140737488355000
  each : ∀ y ∈ x.nums, y ≤ 9223372036854775807
theorem encoded_nil (w : World) : Calls Try.prog 38 #[.slice none 0 0] w fun e w' => e = .returned (.string ⟨#[]⟩) ∧ Below w.heap.size w w' := by
  go_enter Try.func38, Try.ntmps38
  go_wp2_with fail
  go_loop [3, 4] (fun u i => u = .string ⟨#[]⟩ ∧ i = .int .i64 0) (fun _ _ => 0)
  case atStart => exact ⟨rfl, rfl⟩
  case round =>
    obtain ⟨rfl, rfl⟩ := hrel
    go_wp2_with fail
    go_ret
    exact ⟨rfl, Below.refl _ _⟩
set_option maxRecDepth 100000 in
theorem encoded_some (a : Addr) (c : Nat) (xs : List V) (w : World) (h : ∀ j (h : j < xs.length), At w (a.add (j * 5)) xs[j]) (hh : ∀ x ∈ xs, Has strV w x.tv x.texts ∧ Has intV w x.uv x.nums) (hok : ∀ x ∈ xs, OkV x) (hl : xs.length ≤ 140737488355328) (ht : (xs.flatMap encV).length ≤ 9223372036854775807) :
    Calls Try.prog 38 #[.slice (some a) xs.length c] w fun e w' => e = .returned (.string ⟨(xs.flatMap encV).toArray⟩) ∧ Below w.heap.size w w' := by
  have H := Lib.hid h
  have HH := Lib.hid hh
  have HO := Lib.hid hok
  have HT := Lib.hid ht
  clear h hh hok ht
  go_enter Try.func38, Try.ntmps38
  go_wp2_with fail
  go_loopw [3, 4] (fun u i wr => ∃ k : Nat, k ≤ xs.length ∧ i = .int .i64 k ∧ u = .string ⟨(cat xs k).toArray⟩ ∧ Below w.heap.size w wr)
    (fun _ i _ => xs.length - (intOf i).toNat)
  case atStart => exact ⟨0, Nat.zero_le _, rfl, rfl, Below.refl _ _⟩
  case round =>
    obtain ⟨k, hk, rfl, rfl, hbel⟩ := hrel
    by_cases hlt : k < xs.length
    · have HA := Lib.hid (H.out k hlt)
      have HX := Lib.hid (HH.out _ (List.getElem_mem hlt))
      have HK := Lib.hid (HO.out _ (List.getElem_mem hlt))
      have HC := Lib.hid (cat_succ xs k hlt)
      have HS : Hid ((cat xs k).length + (encV xs[k]).length ≤ 9223372036854775807) := by
        have h1 := cat_le xs (k + 1)
        rw [HC.out, List.length_append] at h1
        have := HT.out
        show _ ≤ _
        omega
      obtain ⟨x, hx⟩ : ∃ x, xs[k] = x := ⟨_, rfl⟩
      rw [hx] at HA HX HK HC HS
      clear hx
      obtain ⟨e0, e1, e2, e3, e4⟩ := HA.out.keep (hbel.block _ HA.out.lt)
      unfold intV at e0 e1
      unfold strV at e2
      rcases kindP_four x with hk0 | hk0 | hk0 | hk0
      · have HE : Hid (encV x = varI x.n) := by show _ = _; simp [encV, hk0]
        have hadd := add_lists (cat xs k) (varI x.n) (by have := HS.out; rw [HE.out] at this; exact this)
        have HKD := Lib.hid (fun W => kind_is hk0 W)
        clear hk0
        go_wp2_with fail
        refine (HKD.out _).mono ?_
        rintro e w2 ⟨rfl, hb2⟩
        replace hbel := hbel.trans (hb2.mono hbel.size); clear hb2
        obtain ⟨e0, e1, e2, e3, e4⟩ := HA.out.keep (hbel.block _ HA.out.lt)
        unfold intV at e0 e1
        unfold strV at e2
        go_wp2_with fail
        refine (num_enc x.n (by have := HK.out.n; omega) _).mono ?_
        rintro e w3 ⟨rfl, hb3⟩
        go_wp2_with fail
        go_roundw
        case rel => exact ⟨k + 1, by omega, by go_num, by rw [HC.out, HE.out], hbel.trans (hb3.mono hbel.size)⟩
        case measure => simp [intOf]; omega
      · have HE : Hid (encV x = textL x.text) := by show _ = _; simp [encV, hk0]
        have hadd := add_lists (cat xs k) (textL x.text) (by have := HS.out; rw [HE.out] at this; exact this)
        have HKD := Lib.hid (fun W => kind_is hk0 W)
        clear hk0
        go_wp2_with fail
        refine (HKD.out _).mono ?_
        rintro e w2 ⟨rfl, hb2⟩
        replace hbel := hbel.trans (hb2.mono hbel.size); clear hb2
        obtain ⟨e0, e1, e2, e3, e4⟩ := HA.out.keep (hbel.block _ HA.out.lt)
        unfold intV at e0 e1
        unfold strV at e2
        go_wp2_with fail
        refine (text_enc ⟨x.text.toArray⟩ (by rw [bytes_size]; exact HK.out.text) _).mono ?_
        rintro e w3 ⟨rfl, hb3⟩
        go_wp2_with fail
        go_roundw
        case rel => exact ⟨k + 1, by omega, by go_num, by rw [HC.out, HE.out], hbel.trans (hb3.mono hbel.size)⟩
        case measure => simp [intOf]; omega
      · have HE : Hid (encV x = listL x.texts) := by show _ = _; simp [encV, hk0]
        have hadd := add_lists (cat xs k) (listL x.texts) (by have := HS.out; rw [HE.out] at this; exact this)
        have HKD := Lib.hid (fun W => kind_is hk0 W)
        clear hk0
        go_wp2_with fail
        refine (HKD.out _).mono ?_
        rintro e w2 ⟨rfl, hb2⟩
        replace hbel := hbel.trans (hb2.mono hbel.size); clear hb2
        obtain ⟨e0, e1, e2, e3, e4⟩ := HA.out.keep (hbel.block _ HA.out.lt)
        unfold intV at e0 e1
        unfold strV at e2
        go_wp2_with fail
        refine (list_enc (HX.out.1.below' hbel) HK.out.texts).mono ?_
        rintro e w3 ⟨rfl, hb3⟩
        go_wp2_with fail
        go_roundw
        case rel => exact ⟨k + 1, by omega, by go_num, by rw [HC.out, HE.out], hbel.trans (hb3.mono hbel.size)⟩
        case measure => simp [intOf]; omega
      · have HE : Hid (encV x = numsL x.nums) := by show _ = _; simp [encV, hk0]
        have hadd := add_lists (cat xs k) (numsL x.nums) (by have := HS.out; rw [HE.out] at this; exact this)
        have HKD := Lib.hid (fun W => kind_is hk0 W)
        clear hk0
        go_wp2_with fail
        refine (HKD.out _).mono ?_
        rintro e w2 ⟨rfl, hb2⟩
        replace hbel := hbel.trans (hb2.mono hbel.size); clear hb2
        obtain ⟨e0, e1, e2, e3, e4⟩ := HA.out.keep (hbel.block _ HA.out.lt)
        unfold intV at e0 e1
        unfold strV at e2
        go_wp2_with fail
        refine (nums_enc (HX.out.2.below' hbel) HK.out.each HK.out.len HK.out.nums).mono ?_
        rintro e w3 ⟨rfl, hb3⟩
        go_wp2_with fail
        go_roundw
        case rel => exact ⟨k + 1, by omega, by go_num, by rw [HC.out, HE.out], hbel.trans (hb3.mono hbel.size)⟩
        case measure => simp [intOf]; omega
    · obtain rfl : k = xs.length := by omega
      have HC := Lib.hid (cat_all xs)
      go_wp2_with fail
      go_ret
      rw [← HC.out]
      exact ⟨rfl, hbel⟩
theorem encoded_any {v : Value} {xs : List V} {w : World} (h : HasVs w v xs) (hok : ∀ x ∈ xs, OkV x) (hl : xs.length ≤ 140737488355328) (ht : (xs.flatMap encV).length ≤ 9223372036854775807) :
    Calls Try.prog 38 #[v] w fun e w' => e = .returned (.string ⟨(xs.flatMap encV).toArray⟩) ∧ Below w.heap.size w w' := by
  rcases h.1 with ⟨rfl, rfl⟩ | ⟨a, c, rfl, h1⟩
  · exact encoded_nil w
  · exact encoded_some a c xs w h1 h.2 hok hl ht
end Go.Proofs.Ytbaddpkeaealpaa
