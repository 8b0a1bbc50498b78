/- The example that every statement evaluates first holds. -/
import Derived.Test.YtbaddpkeaealpaaDeclR
import Derived.Test.YtbaddpkeaealpaaSame
import Derived.Test.YtbaddpkeaealpaaREnc2
namespace Go.Proofs.Ytbaddpkeaealpaa
open Go.ChangeShapes Go.WideShapes Go.ChangeAt Go.RowKit

theorem num_is {b : Nat} {s s' : RS} {n : Nat} (hs : numP s = (n, s')) {w : World} (h : Rd 57 w b s) :
    Calls Try.prog 21 #[.pointer (some ⟨b, 0, none⟩)] w fun e w' => e = .returned (.int .i64 n) ∧ Rd 57 w' b s' ∧ w.grownBy w' (some b) := by
  have := num_any h
  rw [hs] at this; exact this
theorem text_is {b : Nat} {s s' : RS} {t : List UInt8} (hs : textP s = (t, s')) {w : World} (h : Rd 57 w b s) :
    Calls Try.prog 23 #[.pointer (some ⟨b, 0, none⟩)] w fun e w' => e = .returned (.string ⟨t.toArray⟩) ∧ Rd 57 w' b s' ∧ w.grownBy w' (some b) := by
  have := text_any h
  rw [hs] at this; exact this
theorem take_is {b : Nat} {s s' : RS} {n : Int} {t : List UInt8} (hs : takeP n s = (t, s')) {w : World} (h : Rd 57 w b s) :
    Calls Try.prog 31 #[.pointer (some ⟨b, 0, none⟩), .int .i64 n] w fun e w' => e = .returned (.string ⟨t.toArray⟩) ∧ Rd 57 w' b s' ∧ w.grownBy w' (some b) := by
  have := take_any n h
  rw [hs] at this; exact this
theorem done_is {b : Nat} {s : RS} {f : Bool} (hs : doneP s = f) {w : World} (h : Rd 57 w b s) :
    Calls Try.prog 35 #[.pointer (some ⟨b, 0, none⟩)] w fun e w' => e = .returned (.bool f) ∧ w = w' := by
  have := done_any h
  rw [hs] at this; exact this
theorem left_is {b : Nat} {s : RS} {n : Nat} (hs : s.1.length = n) {w : World} (h : Rd 57 w b s) :
    Calls Try.prog 33 #[.pointer (some ⟨b, 0, none⟩)] w fun e w' => e = .returned (.int .i64 n) ∧ w = w' := by
  have := left_any h
  rw [hs] at this; exact this
theorem list_is {b : Nat} {s s' : RS} {l : List (List UInt8)} (hs : allP textP s = (l, s')) (hl : s.1.length ≤ 1000000000000) {w : World} (h : Rd 57 w b s) :
    Calls Try.prog 26 #[.pointer (some ⟨b, 0, none⟩)] w fun e w' => ∃ v, e = .returned v ∧ Has strV w' v l ∧ (∀ k, blk v = some k → w.heap.size ≤ k) ∧ Rd 57 w' b s' ∧ w.grownBy w' (some b) := by
  have := declist_any h hl
  rw [hs] at this; exact this
theorem nums_is {b : Nat} {s s' : RS} {l : List Int} (hs : allP intP s = (l, s')) (hl : s.1.length ≤ 1000000000000) {w : World} (h : Rd 57 w b s) :
    Calls Try.prog 29 #[.pointer (some ⟨b, 0, none⟩)] w fun e w' => ∃ v, e = .returned v ∧ Has intV w' v l ∧ (∀ k, blk v = some k → w.heap.size ≤ k) ∧ Rd 57 w' b s' ∧ w.grownBy w' (some b) := by
  have := decnums_any h hl
  rw [hs] at this; exact this
theorem sameT_is {v u : Value} {xs ys : List (List UInt8)} {w : World} (h : Has strV w v xs) (k : Has strV w u ys) (hx : xs.length ≤ 140737488355328) {f : Bool} (hf : decide (xs = ys) = f) :
    Calls Try.prog 25 #[v, u] w fun e w' => e = .returned (.bool f) ∧ w.grownBy w' none := by
  subst hf; exact sameT_any h k hx
theorem sameI_is {v u : Value} {xs ys : List Int} {w : World} (h : Has intV w v xs) (k : Has intV w u ys) (hx : xs.length ≤ 140737488355328) {f : Bool} (hf : decide (xs = ys) = f) :
    Calls Try.prog 28 #[v, u] w fun e w' => e = .returned (.bool f) ∧ w.grownBy w' none := by
  subst hf; exact sameI_any h k hx

theorem v300 : varL 300 = [172, 2] := by rw [varL_big (by decide), varL_small (by decide)]; rfl
theorem v128 : varL 128 = [128, 1] := by rw [varL_big (by decide), varL_small (by decide)]; rfl
theorem e300 : varI 300 = [172, 2] := v300
theorem eneg : varI (-1) = [] := varI_neg (by decide)
theorem eab : textL [97, 98] = [2, 97, 98] := by rw [textL, varL_small (by decide)]; rfl
theorem elist : listL [[], [99]] = [2, 0, 1, 99] := by
  have h0 : textL [] = [0] := by rw [textL, varL_small (by decide)]; rfl
  have h1 : textL [99] = [1, 99] := by rw [textL, varL_small (by decide)]; rfl
  rw [listL, varL_small (by decide), List.flatMap_cons, List.flatMap_cons, List.flatMap_nil, h0, h1]; rfl
theorem enums : numsL [7, 128] = [2, 7, 128, 1] := by
  have h0 : varI 7 = [7] := by show varL 7 = _; rw [varL_small (by decide)]; rfl
  have h1 : varI 128 = [128, 1] := v128
  rw [numsL, varL_small (by decide), List.flatMap_cons, List.flatMap_cons, List.flatMap_nil, h0, h1]; rfl
theorem num_enc_is (n : Int) (h1 : n < 9223372036854775808) {l : List UInt8} (hl : varI n = l) (w : World) :
    Calls Try.prog 11 #[.int .i64 n] w fun e w' => e = .returned (.string ⟨l.toArray⟩) ∧ Below w.heap.size w w' := by
  subst hl; exact num_enc n h1 w
theorem text_enc_is (s : ByteArray) (hs : s.size ≤ 140737488355000) {l : List UInt8} (hl : textL s.data.toList = l) (w : World) :
    Calls Try.prog 13 #[.string s] w fun e w' => e = .returned (.string ⟨l.toArray⟩) ∧ Below w.heap.size w w' := by
  subst hl; exact text_enc s hs w
theorem list_enc_is {v : Value} {xs : List (List UInt8)} {l : List UInt8} (hl : listL xs = l) {w : World} (h : Has strV w v xs) (hsz : l.length ≤ 140737488355000) :
    Calls Try.prog 15 #[v] w fun e w' => e = .returned (.string ⟨l.toArray⟩) ∧ Below w.heap.size w w' := by
  subst hl; exact list_enc h hsz
theorem nums_enc_is {v : Value} {xs : List Int} {l : List UInt8} (hl : numsL xs = l) {w : World} (h : Has intV w v xs) (hb : ∀ x ∈ xs, x ≤ 9223372036854775807) (hlen : xs.length ≤ 140737488355000) (hsz : l.length ≤ 140737488355000) :
    Calls Try.prog 17 #[v] w fun e w' => e = .returned (.string ⟨l.toArray⟩) ∧ Below w.heap.size w w' := by
  subst hl; exact nums_enc h hb hlen hsz

/-- Both Readers of the example; whatever was there before is as it was. -/
structure Pk (B : Nat) (W w : World) (r q : Nat) (s t : RS) : Prop where
  one : Rd 57 w r s
  two : Rd 57 w q t
  bel : Below B W w
  ne : r ≠ q
  hr : B ≤ r
  hq : B ≤ q
theorem Pk.size {B : Nat} {W w : World} {r q : Nat} {s t : RS} (h : Pk B W w r q s t) : B ≤ w.heap.size := Nat.le_trans h.hr (Nat.le_of_lt h.one.lt)
theorem Pk.step1 {B : Nat} {W w w' : World} {r q : Nat} {s s' t : RS} (h : Pk B W w r q s t) (h1 : Rd 57 w' r s') (g : w.grownBy w' (some r)) : Pk B W w' r q s' t :=
  ⟨h1, h.two.kept g (fun e => h.ne (by injection e with e; exact e.symm)), h.bel.grown g h.size (fun k hk => by cases hk; exact h.hr), h.ne, h.hr, h.hq⟩
theorem Pk.step2 {B : Nat} {W w w' : World} {r q : Nat} {s t t' : RS} (h : Pk B W w r q s t) (h1 : Rd 57 w' q t') (g : w.grownBy w' (some q)) : Pk B W w' r q s t' :=
  ⟨h.one.kept g (fun e => h.ne (by injection e)), h1, h.bel.grown g h.size (fun k hk => by cases hk; exact h.hq), h.ne, h.hr, h.hq⟩
theorem Pk.step0 {B : Nat} {W w w' : World} {r q : Nat} {s t : RS} (h : Pk B W w r q s t) (g : w.grownBy w' none) : Pk B W w' r q s t :=
  ⟨h.one.kept g (fun e => by cases e), h.two.kept g (fun e => by cases e), h.bel.grown g h.size (fun k hk => by cases hk), h.ne, h.hr, h.hq⟩
theorem grown_below {w w' : World} (h : Below w.heap.size w w') : w.grownBy w' none := ⟨h.os, h.tape, h.output, h.size, fun k hk _ => h.block k hk⟩
theorem below_grown {w w' : World} (h : w.grownBy w' none) : Below w.heap.size w w' := ⟨h.os, h.tape, h.output, h.size, fun k hk => h.block k hk (fun e => by cases e)⟩

def S0 : List UInt8 := [172, 2, 2, 97, 98, 2, 0, 1, 99, 2, 7, 128, 1, 122]
set_option maxRecDepth 100000 in
set_option maxHeartbeats 1600000 in
theorem small_any (w : World) : Calls Try.prog 9 #[] w fun e w' => e = .returned (.bool true) ∧ Below w.heap.size w w' := by
  have c1 := Lib.hid (fun W => num_enc_is 300 (by decide) e300 W)
  have c2 := Lib.hid (fun W => text_enc_is ⟨#[97, 98]⟩ (by decide) (l := [2, 97, 98]) eab W)
  have c3 := Lib.hid (fun W : World => list_enc_is elist (Has.lit strV W 9 [[], [99]] 2 rfl) (by decide))
  have c4 := Lib.hid (fun W : World => nums_enc_is enums (Has.lit intV W 3 [7, 128] 2 rfl) (by decide) (by decide) (by decide))
  have c5 := Lib.hid (fun W => num_enc_is (-1) (by decide) eneg W)
  have d1 : Hid (numP (S0, false) = (300, ([2, 97, 98, 2, 0, 1, 99, 2, 7, 128, 1, 122], false))) := by show _ = _; decide
  have d2 : Hid (textP ([2, 97, 98, 2, 0, 1, 99, 2, 7, 128, 1, 122], false) = ([97, 98], ([2, 0, 1, 99, 2, 7, 128, 1, 122], false))) := by show _ = _; decide
  have d3 : Hid (allP textP ([2, 0, 1, 99, 2, 7, 128, 1, 122], false) = ([[], [99]], ([2, 7, 128, 1, 122], false))) := by show _ = _; decide
  have d4 : Hid (allP intP ([2, 7, 128, 1, 122], false) = ([7, 128], ([122], false))) := by show _ = _; decide
  have d5 : Hid (takeP 1 ([122], false) = ([122], ([], false))) := by show _ = _; decide
  have d6 : Hid (numP ([128, 0], false) = (0, bad)) := by show _ = _; decide
  have y1 : (⟨#[172, 2]⟩ : ByteArray) ++ ⟨#[2, 97, 98]⟩ = ⟨#[172, 2, 2, 97, 98]⟩ := by decide
  have y2 : (⟨#[172, 2, 2, 97, 98]⟩ : ByteArray) ++ ⟨#[2, 0, 1, 99]⟩ = ⟨#[172, 2, 2, 97, 98, 2, 0, 1, 99]⟩ := by decide
  have y3 : (⟨#[172, 2, 2, 97, 98, 2, 0, 1, 99]⟩ : ByteArray) ++ ⟨#[2, 7, 128, 1]⟩ = ⟨#[172, 2, 2, 97, 98, 2, 0, 1, 99, 2, 7, 128, 1]⟩ := by decide
  have y4 : (⟨#[172, 2, 2, 97, 98, 2, 0, 1, 99, 2, 7, 128, 1]⟩ : ByteArray) ++ ⟨#[122]⟩ = ⟨#[172, 2, 2, 97, 98, 2, 0, 1, 99, 2, 7, 128, 1, 122]⟩ := by decide
  go_enter Try.func9, Try.ntmps9
  go_wp2_with fail
  refine (c1.out _).mono ?_
  rintro e w1 ⟨rfl, hb⟩
  go_wp2_with fail
  refine (c2.out _).mono ?_
  rintro e w2 ⟨rfl, hb'⟩
  replace hb := Qtrans hb hb'; clear hb'
  go_wp2_with fail
  refine (c3.out _).mono ?_
  rintro e w3 ⟨rfl, hb'⟩
  replace hb := (hb.alloc hb.size _).trans (hb'.mono (by have := hb.size; simp; omega)); clear hb'
  go_wp2_with fail
  refine (c4.out _).mono ?_
  rintro e w4 ⟨rfl, hb'⟩
  replace hb := (hb.alloc hb.size _).trans (hb'.mono (by have := hb.size; simp; omega)); clear hb'
  go_wp2_with fail
  refine (open_any _ _).mono ?_
  rintro e w5 ⟨rfl, hr, hg⟩
  have hr : Rd 57 w5 w4.heap.size (S0, false) := hr
  go_wp2_with fail
  refine (open_any _ _).mono ?_
  rintro e w6 ⟨rfl, hq, hg'⟩
  have hq : Rd 57 w6 w5.heap.size ([128, 0], false) := hq
  have pk : Pk w.heap.size w w6 w4.heap.size w5.heap.size (S0, false) ([128, 0], false) :=
    ⟨hr.kept hg' (fun e => by cases e), hq, (hb.grown hg hb.size (fun k h => by cases h)).grown hg' (Nat.le_trans hb.size hg.size) (fun k h => by cases h), Nat.ne_of_lt hr.lt, hb.size, Nat.le_trans hb.size hg.size⟩
  clear hr hq hg hg' hb
  obtain ⟨r, hr⟩ : ∃ r, w4.heap.size = r := ⟨_, rfl⟩
  obtain ⟨q, hq⟩ : ∃ q, w5.heap.size = q := ⟨_, rfl⟩
  rw [hr, hq] at pk
  rw [hr, hq]
  clear hr hq
  have pk := Lib.hid pk
  go_wp2_with fail
  refine (num_is d1.out pk.out.one).mono ?_
  rintro e w7 ⟨rfl, h, g⟩
  replace pk := Lib.hid (pk.out.step1 h g); clear h g
  go_wp2_with fail
  refine (text_is d2.out pk.out.one).mono ?_
  rintro e w8 ⟨rfl, h, g⟩
  replace pk := Lib.hid (pk.out.step1 h g); clear h g
  go_wp2_with fail
  refine (list_is d3.out (by decide) pk.out.one).mono ?_
  rintro e w9 ⟨v1, rfl, hv, hf, h, g⟩
  have hv1 := Lib.hid (And.intro hv (show ∀ k, blk v1 = some k → some k ≠ some r from fun k hk e => by injection e with e; have := hf k hk; have := pk.out.one.lt; omega))
  have hv1q := Lib.hid (show ∀ k, blk v1 = some k → some k ≠ some q from fun k hk e => by injection e with e; have := hf k hk; have := pk.out.two.lt; omega)
  replace pk := Lib.hid (pk.out.step1 h g); clear h g hv hf
  go_wp2_with fail
  refine (nums_is d4.out (by decide) pk.out.one).mono ?_
  rintro e w10 ⟨v2, rfl, hv, hf, h, g⟩
  have hv2 := Lib.hid (And.intro hv (show ∀ k, blk v2 = some k → some k ≠ some r from fun k hk e => by injection e with e; have := hf k hk; have := pk.out.one.lt; omega))
  have hv2q := Lib.hid (show ∀ k, blk v2 = some k → some k ≠ some q from fun k hk e => by injection e with e; have := hf k hk; have := pk.out.two.lt; omega)
  replace hv1 := Lib.hid (And.intro (hv1.out.1.kept g hv1.out.2) hv1.out.2)
  replace pk := Lib.hid (pk.out.step1 h g); clear h g hv hf
  go_wp2_with fail
  refine (left_is (n := 1) rfl pk.out.one).mono ?_
  rintro e w11 ⟨rfl, rfl⟩
  go_wp2_with fail
  refine (done_is (f := false) rfl pk.out.one).mono ?_
  rintro e w12 ⟨rfl, rfl⟩
  go_wp2_with fail
  refine (take_is d5.out pk.out.one).mono ?_
  rintro e w13 ⟨rfl, h, g⟩
  replace hv1 := Lib.hid (And.intro (hv1.out.1.kept g hv1.out.2) hv1.out.2)
  replace hv2 := Lib.hid (And.intro (hv2.out.1.kept g hv2.out.2) hv2.out.2)
  replace pk := Lib.hid (pk.out.step1 h g); clear h g
  go_wp2_with fail
  refine (num_is d6.out pk.out.two).mono ?_
  rintro e w14 ⟨rfl, h, g⟩
  replace hv1 := Lib.hid (hv1.out.1.kept g hv1q.out)
  replace hv2 := Lib.hid (hv2.out.1.kept g hv2q.out)
  replace pk := Lib.hid (pk.out.step2 h g); clear h g hv1q hv2q
  go_wp2_with fail
  refine (sameT_is (hv1.out.below' ((Below.refl _ _).alloc (Nat.le_refl _) _)) (Has.lit strV w14 9 [[], [99]] 2 rfl) (by decide) (f := true) (by decide)).mono ?_
  rintro e w15 ⟨rfl, g⟩
  replace hv2 := Lib.hid ((hv2.out.below' ((Below.refl _ _).alloc (Nat.le_refl _) _)).kept g (fun k _ e => by cases e))
  replace pk := Lib.hid ((pk.out.step0 (World.grownBy_alloc w14 _ none)).step0 g); clear g
  go_wp2_with fail
  refine (sameI_is (hv2.out.below' ((Below.refl _ _).alloc (Nat.le_refl _) _)) (Has.lit intV w15 3 [7, 128] 2 rfl) (by decide) (f := true) (by decide)).mono ?_
  rintro e w16 ⟨rfl, g⟩
  replace pk := Lib.hid ((pk.out.step0 (World.grownBy_alloc w15 _ none)).step0 g); clear g
  go_wp2_with fail
  refine (done_is (f := true) rfl pk.out.one).mono ?_
  rintro e w17 ⟨rfl, rfl⟩
  go_wp2_with fail
  refine (done_is (f := false) rfl pk.out.two).mono ?_
  rintro e w18 ⟨rfl, rfl⟩
  go_wp2_with fail
  refine (left_is (n := 0) rfl pk.out.two).mono ?_
  rintro e w19 ⟨rfl, rfl⟩
  go_wp2_with fail
  refine (c5.out _).mono ?_
  rintro e w20 ⟨rfl, hb⟩
  go_wp2_with fail
  go_ret
  exact ⟨rfl, pk.out.bel.trans (hb.mono pk.out.size)⟩
end Go.Proofs.Ytbaddpkeaealpaa
