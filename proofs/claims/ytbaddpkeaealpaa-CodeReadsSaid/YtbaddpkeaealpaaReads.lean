/- The law CodeReads: its walk. -/
import Derived.Test.YtbaddpkeaealpaaTells
import Derived.Deep.RegionWith
namespace Go.Proofs.Ytbaddpkeaealpaa
open Go.ChangeShapes Go.WideShapes Go.ChangeAt Go.RowKit

/-- The package's Reader and the reference's; whatever was there before is as it was. -/
structure Tw (B : Nat) (W w : World) (r x : Nat) (s t : RS) : Prop where
  one : Rd 57 w r s
  two : Rd 59 w x t
  bel : Below B W w
  ne : r ≠ x
  hr : B ≤ r
  hx : B ≤ x
theorem Tw.size {B : Nat} {W w : World} {r x : Nat} {s t : RS} (h : Tw B W w r x s t) : B ≤ w.heap.size := Nat.le_trans h.hr (Nat.le_of_lt h.one.lt)
theorem Tw.step1 {B : Nat} {W w w' : World} {r x : Nat} {s s' t : RS} (h : Tw B W w r x s t) (h1 : Rd 57 w' r s') (g : w.grownBy w' (some r)) : Tw B W w' r x s' t :=
  ⟨h1, h.two.kept g (fun e => h.ne (by injection e with e; exact e.symm)), h.bel.grown g h.size (fun k hk => by cases hk; exact h.hr), h.ne, h.hr, h.hx⟩
theorem Tw.step2 {B : Nat} {W w w' : World} {r x : Nat} {s t t' : RS} (h : Tw B W w r x s t) (h1 : Rd 59 w' x t') (g : w.grownBy w' (some x)) : Tw B W w' r x s t' :=
  ⟨h.one.kept g (fun e => h.ne (by injection e)), h1, h.bel.grown g h.size (fun k hk => by cases hk; exact h.hx), h.ne, h.hr, h.hx⟩
theorem Tw.step0 {B : Nat} {W w w' : World} {r x : Nat} {s t : RS} (h : Tw B W w r x s t) (g : w.grownBy w' none) : Tw B W w' r x s t :=
  ⟨h.one.kept g (fun e => by cases e), h.two.kept g (fun e => by cases e), h.bel.grown g h.size (fun k hk => by cases hk), h.ne, h.hr, h.hx⟩
theorem Tw.drew {B : Nat} {W w : World} {r x : Nat} {s t : RS} (h : Tw B W w r x s t) : Tw B W w.drew r x s t := ⟨h.one, h.two, h.bel.drew, h.ne, h.hr, h.hx⟩

theorem reads_out (s : ByteArray) {u : Value} {a : Option Addr} {k c : Nat} (hu : u = .slice a k c) (ho : 10000 < s.size ∨ 40 < k) (w : World) :
    Calls Try.prog 4 #[.string s, u] w fun e w' => e = .returned (.bool true) ∧ Below w.heap.size w w' := by
  subst hu
  have HS := Lib.hid (small_any w)
  rcases (show 10000 < s.size ∨ (s.size ≤ 10000 ∧ 40 < k) by omega) with h | ⟨h, hk⟩
  all_goals
    clear ho
    go_enter Try.func4, Try.ntmps4
    go_wp2_with fail
    refine HS.out.mono ?_
    rintro e w1 ⟨rfl, hb⟩
    go_wp2_with fail
    refine (open_any _ _).mono ?_
    rintro e w2 ⟨rfl, _, g⟩
    replace hb := hb.grown g hb.size (fun k h => by cases h); clear g
    go_wp2_with fail
    refine (openR_any _ _).mono ?_
    rintro e w3 ⟨rfl, _, g⟩
    replace hb := hb.grown g hb.size (fun k h => by cases h); clear g
    go_wp2_with fail
    go_ret
    exact ⟨rfl, hb⟩

set_option maxRecDepth 100000 in
set_option maxHeartbeats 1600000 in
theorem reads_in (s : ByteArray) (hs : s.size ≤ 10000) {u : Value} {ys : List Int} {w : World} (hu : Has intV w u ys) (hb : ∀ y ∈ ys, -9223372036854775808 ≤ y ∧ y ≤ 9223372036854775807) (hk : ys.length ≤ 40) :
    Calls Try.prog 4 #[.string s, u] w fun e w' => e = .returned (.bool true) ∧ Below w.heap.size w w' := by
  have HS := Lib.hid (small_any w)
  have HU := Lib.hid hu
  obtain ⟨a, c, hsh⟩ := hu.shape
  subst hsh
  obtain ⟨n, hn⟩ : ∃ n, ys.length = n := ⟨_, rfl⟩
  rw [hn] at hk HU ⊢
  have HN := Lib.hid hn
  have HB := Lib.hid hb
  clear hu hn hb
  go_enter Try.func4, Try.ntmps4
  go_wp2_with fail
  refine HS.out.mono ?_
  rintro e w1 ⟨rfl, hb⟩
  go_wp2_with fail
  refine (open_any _ _).mono ?_
  rintro e w2 ⟨rfl, hr, g⟩
  go_wp2_with fail
  refine (openR_any _ _).mono ?_
  rintro e w3 ⟨rfl, hq, g'⟩
  have tw : Tw w.heap.size w w3 w1.heap.size w2.heap.size (s.data.toList, false) (s.data.toList, false) :=
    ⟨hr.kept g' (fun e => by cases e), hq, (hb.grown g hb.size (fun k h => by cases h)).grown g' (Nat.le_trans hb.size g.size) (fun k h => by cases h), Nat.ne_of_lt hr.lt, hb.size, Nat.le_trans hb.size g.size⟩
  clear hr hq g g' hb
  obtain ⟨r, hr⟩ : ∃ r, w1.heap.size = r := ⟨_, rfl⟩
  obtain ⟨x, hx⟩ : ∃ x, w2.heap.size = x := ⟨_, rfl⟩
  rw [hr, hx] at tw
  rw [hr, hx]
  clear hr hx
  have TW := Lib.hid tw
  have HL : Hid (s.data.toList.length ≤ 10000) := by show _ ≤ _; rw [Array.length_toList]; exact hs
  clear tw
  go_wp2_with fail
  go_loopw [8] (fun i wr => ∃ (j : Nat) (st : RS), j ≤ n ∧ i = .int .i64 j ∧ Hid (Tw w.heap.size w wr r x st st) ∧ Hid (Good st) ∧ Hid (st.1.length ≤ 10000))
    (fun i _ => n - (intOf i).toNat)
  case atStart => exact ⟨0, (s.data.toList, false), Nat.zero_le _, rfl, TW.out, (show Good (s.data.toList, false) from fun h => by cases h), HL.out⟩
  case round =>
    clear TW HL
    obtain ⟨j, st, hj, rfl, tw, gd, hl⟩ := hrel
    by_cases hlt : j < n
    · have hcell : ∃ (a' : Addr) (z : Int), a = some a' ∧ Hid (a'.block < w.heap.size) ∧ wr.cell? (a'.add j) = some (.int .i64 z) ∧ -9223372036854775808 ≤ z ∧ z ≤ 9223372036854775807 := by
        have hjy : j < ys.length := by have := HN.out; omega
        rcases HU.out with ⟨h, h0⟩ | ⟨a', c', h, h2⟩
        · rw [h0] at hjy; simp at hjy
        · refine ⟨a', ys[j], ?_, block_lt (h2 j hjy), ?_, HB.out _ (List.getElem_mem hjy)⟩
          · injection h
          · have h3 := h2 j hjy
            rw [tw.out.bel.cell (World.block_lt_of_cell? w _ h3)]; exact h3
      obtain ⟨a', z, rfl, hlo, hcell, hz1, hz2⟩ := hcell
      rcases (show z = 0 ∨ z = 1 ∨ z = 2 ∨ z = 3 ∨ (z ≠ 0 ∧ z ≠ 1 ∧ z ≠ 2 ∧ z ≠ 3) by omega) with rfl | rfl | rfl | rfl | ⟨n0, n1, n2, n3⟩
      · go_wp2_with fail
        refine (num_any tw.out.one).mono ?_
        rintro e w4 ⟨rfl, h, g⟩
        replace tw := Lib.hid (tw.out.step1 h g); clear h g
        go_wp2_with fail
        refine (numR_any tw.out.two (by have := hl.out; omega)).mono ?_
        rintro e w5 ⟨rfl, h, g⟩
        replace tw := Lib.hid (tw.out.step2 h g); clear h g hcell
        go_wp2_with fail
        refine (left_any tw.out.one).mono ?_
        rintro e w6 ⟨rfl, rfl⟩
        go_wp2_with fail
        refine (leftR_any tw.out.two).mono ?_
        rintro e w6 ⟨rfl, rfl⟩
        go_wp2_with fail
        refine (done_any tw.out.one).mono ?_
        rintro e w6 ⟨rfl, rfl⟩
        go_wp2_with fail
        refine (doneR_any tw.out.two).mono ?_
        rintro e w6 ⟨rfl, rfl⟩
        go_wp2_with fail
        go_roundw
        case rel => exact ⟨j + 1, _, by omega, by go_num, tw.out, numP_good gd.out, Nat.le_trans (numP_len st).1 hl.out⟩
        case measure => simp [intOf]; omega
      · go_wp2_with fail
        refine (text_any tw.out.one).mono ?_
        rintro e w4 ⟨rfl, h, g⟩
        replace tw := Lib.hid (tw.out.step1 h g); clear h g
        go_wp2_with fail
        refine (textR_any tw.out.two (by have := hl.out; omega) gd.out).mono ?_
        rintro e w5 ⟨rfl, h, g⟩
        replace tw := Lib.hid (tw.out.step2 h g); clear h g hcell
        go_wp2_with fail
        refine (left_any tw.out.one).mono ?_
        rintro e w6 ⟨rfl, rfl⟩
        go_wp2_with fail
        refine (leftR_any tw.out.two).mono ?_
        rintro e w6 ⟨rfl, rfl⟩
        go_wp2_with fail
        refine (done_any tw.out.one).mono ?_
        rintro e w6 ⟨rfl, rfl⟩
        go_wp2_with fail
        refine (doneR_any tw.out.two).mono ?_
        rintro e w6 ⟨rfl, rfl⟩
        go_wp2_with fail
        go_roundw
        case rel => exact ⟨j + 1, _, by omega, by go_num, tw.out, textP_good gd.out, Nat.le_trans (textP_len st).1 hl.out⟩
        case measure => simp [intOf]; omega
      · go_wp2_with fail
        refine (declist_any tw.out.one (by have := hl.out; omega)).mono ?_
        rintro e w4 ⟨v1, rfl, hv, hf, h, g⟩
        have hv1 := Lib.hid (And.intro hv (show ∀ k, blk v1 = some k → some k ≠ some x from fun k hk e => by injection e with e; have := hf k hk; have := tw.out.two.lt; omega))
        replace tw := Lib.hid (tw.out.step1 h g); clear h g hv hf
        go_wp2_with fail
        refine (declistR_any tw.out.two (by have := hl.out; omega) gd.out).mono ?_
        rintro e w5 ⟨v2, rfl, hv, hf, h, g⟩
        have hv2 := Lib.hid hv
        replace hv1 := Lib.hid (hv1.out.1.kept g hv1.out.2)
        replace tw := Lib.hid (tw.out.step2 h g); clear h g hcell hv hf
        go_wp2_with fail
        refine (sameT_is hv1.out hv2.out (by have := (allP_len (f := textP) (fun s => (textP_len s).1) st); have := hl.out; omega) (f := true) (by simp)).mono ?_
        rintro e w7 ⟨rfl, g⟩
        replace tw := Lib.hid (tw.out.step0 g); clear g hv1 hv2
        go_wp2_with fail
        refine (left_any tw.out.one).mono ?_
        rintro e w6 ⟨rfl, rfl⟩
        go_wp2_with fail
        refine (leftR_any tw.out.two).mono ?_
        rintro e w6 ⟨rfl, rfl⟩
        go_wp2_with fail
        refine (done_any tw.out.one).mono ?_
        rintro e w6 ⟨rfl, rfl⟩
        go_wp2_with fail
        refine (doneR_any tw.out.two).mono ?_
        rintro e w6 ⟨rfl, rfl⟩
        go_wp2_with fail
        go_roundw
        case rel => exact ⟨j + 1, _, by omega, by go_num, tw.out, allP_good (fun s h => textP_good h) gd.out, Nat.le_trans (allP_len (f := textP) (fun s => (textP_len s).1) st).1 hl.out⟩
        case measure => simp [intOf]; omega
      · go_wp2_with fail
        refine (decnums_any tw.out.one (by have := hl.out; omega)).mono ?_
        rintro e w4 ⟨v1, rfl, hv, hf, h, g⟩
        have hv1 := Lib.hid (And.intro hv (show ∀ k, blk v1 = some k → some k ≠ some x from fun k hk e => by injection e with e; have := hf k hk; have := tw.out.two.lt; omega))
        replace tw := Lib.hid (tw.out.step1 h g); clear h g hv hf
        go_wp2_with fail
        refine (decnumsR_any tw.out.two (by have := hl.out; omega) gd.out).mono ?_
        rintro e w5 ⟨v2, rfl, hv, hf, h, g⟩
        have hv2 := Lib.hid hv
        replace hv1 := Lib.hid (hv1.out.1.kept g hv1.out.2)
        replace tw := Lib.hid (tw.out.step2 h g); clear h g hcell hv hf
        go_wp2_with fail
        refine (sameI_is hv1.out hv2.out (by have := (allP_len (f := intP) intP_len st); have := hl.out; omega) (f := true) (by simp)).mono ?_
        rintro e w7 ⟨rfl, g⟩
        replace tw := Lib.hid (tw.out.step0 g); clear g hv1 hv2
        go_wp2_with fail
        refine (left_any tw.out.one).mono ?_
        rintro e w6 ⟨rfl, rfl⟩
        go_wp2_with fail
        refine (leftR_any tw.out.two).mono ?_
        rintro e w6 ⟨rfl, rfl⟩
        go_wp2_with fail
        refine (done_any tw.out.one).mono ?_
        rintro e w6 ⟨rfl, rfl⟩
        go_wp2_with fail
        refine (doneR_any tw.out.two).mono ?_
        rintro e w6 ⟨rfl, rfl⟩
        go_wp2_with fail
        go_roundw
        case rel => exact ⟨j + 1, _, by omega, by go_num, tw.out, allP_good (fun s h => intP_good h) gd.out, Nat.le_trans (allP_len (f := intP) intP_len st).1 hl.out⟩
        case measure => simp [intOf]; omega
      · have q0 : (z == 0) = false := beq_eq_false_iff_ne.2 n0
        have q1 : (z == 1) = false := beq_eq_false_iff_ne.2 n1
        have q2 : (z == 2) = false := beq_eq_false_iff_ne.2 n2
        have q3 : (z == 3) = false := beq_eq_false_iff_ne.2 n3
        have hner : Hid (some (a'.add j).block ≠ some r) := fun e => by
          injection e with e
          have h3 := tw.out.hr
          have h4 := hlo.out
          rw [add_block] at e
          omega
        clear n0 n1 n2 n3
        go_wp2_with fail
        go_region_with (first
          | (go_at_call 31; refine (take_any _ tw.out.drew.one).mono ?_; rintro e w4 ⟨rfl, h4, g4⟩; have hc4 := g4.cell (show wr.drew.cell? (a'.add j) = some (.int .i64 z) from hcell) hner.out)
          | (go_at_call 32; refine (takeR_any _ (tw.out.drew.step1 h4 g4).two gd.out).mono ?_; rintro e w5 ⟨rfl, h5, g5⟩))
        all_goals
          replace tw := Lib.hid ((tw.out.drew.step1 h4 g4).step2 h5 g5); clear h4 g4 h5 g5 hc4 hcell
          go_wp2_with fail
          refine (left_any tw.out.one).mono ?_
          rintro e w6 ⟨rfl, rfl⟩
          go_wp2_with fail
          refine (leftR_any tw.out.two).mono ?_
          rintro e w6 ⟨rfl, rfl⟩
          go_wp2_with fail
          refine (done_any tw.out.one).mono ?_
          rintro e w6 ⟨rfl, rfl⟩
          go_wp2_with fail
          refine (doneR_any tw.out.two).mono ?_
          rintro e w6 ⟨rfl, rfl⟩
          go_wp2_with fail
          go_roundw
          case rel => exact ⟨j + 1, _, by omega, by go_num, tw.out, takeP_good gd.out, Nat.le_trans (takeP_len _ st).1 hl.out⟩
          case measure => simp [intOf]; omega
    · obtain rfl : j = n := by omega
      go_wp2_with fail
      go_ret
      exact ⟨rfl, tw.out.bel⟩
end Go.Proofs.Ytbaddpkeaealpaa
