/- The example that every law evaluates first: it comes out true. -/
import Derived.Test.YtnmdljadnlddeaaGreatDoorRead
import Derived.Test.YtnmdljadnlddeaaGreatDoorWrite
namespace Go.Proofs.YtnmdljadnlddeaaGreatDoor
open Go.ChangeShapes Go.WideShapes Go.ChangeAt Go.RowKit
open DateP (Right writeL)

/-- The variables stand, all older memory, and the times that are held in blocks of their own. -/
structure Sn (w0 w : World) (L : List (Nat × Int × Int)) : Prop where
  vars : Vars w0
  bel : Below w0.heap.size w0 w
  tms : ∀ p ∈ L, Tm w p.1 p.2.1 p.2.2
theorem Sn.v {w0 w : World} {L : List (Nat × Int × Int)} (h : Sn w0 w L) : Vars w := h.vars.below h.bel
theorem Sn.call {w0 w w' : World} {L : List (Nat × Int × Int)} (h : Sn w0 w L) (hb : Below w.heap.size w w') : Sn w0 w' L := ⟨h.vars, h.bel.trans (hb.mono h.bel.size), fun p hp => (h.tms p hp).below hb⟩
theorem Sn.new {w0 w : World} {L : List (Nat × Int × Int)} (h : Sn w0 w L) (u z : Int) : Sn w0 (w.alloc (.cells #[.int .i64 u, .int .i64 z] 23)) ((w.heap.size, u, z) :: L) := by
  have h2 := h.call ((Below.refl _ _).alloc (Nat.le_refl _) (.cells #[.int .i64 u, .int .i64 z] 23))
  refine ⟨h2.vars, h2.bel, fun p hp => ?_⟩
  rcases List.mem_cons.1 hp with rfl | hp
  · exact tm_new w u z
  · exact h2.tms p hp
theorem Sn.start {w : World} (h : Vars w) : Sn w w [] := ⟨h, Below.refl _ _, fun _ h => by cases h⟩
theorem read_is {w0 w : World} {L : List (Nat × Int × Int)} (h : Sn w0 w L) (s : ByteArray) (hs : s.size ≤ 400) (u z : Int) (ok : Bool) (hr : ((readV s).getD (0, 0)).1 = u ∧ ((readV s).getD (0, 0)).2 = z ∧ (readV s).isSome = ok) :
    Calls Tryz.prog 9 #[.string s] w fun e w' => e = .returned (.tuple #[.agg #[.int .i64 u, .int .i64 z], .bool ok]) ∧ Sn w0 w' L := by
  obtain ⟨rfl, rfl, rfl⟩ := hr
  exact (read_any s hs w h.v).mono fun e w' h1 => ⟨h1.1, h.call h1.2⟩
theorem rd0 {w0 w : World} {L : List (Nat × Int × Int)} (h : Sn w0 w L) : Calls Tryz.prog 9 #[.string ⟨#[84, 104, 117, 44, 32, 49, 32, 74, 97, 110, 32, 49, 57, 55, 48, 32, 48, 49, 58, 48, 48, 58, 51, 48, 32, 43, 48, 49, 48, 48]⟩] w fun e w' => e = .returned (.tuple #[.agg #[.int .i64 30, .int .i64 60], .bool true]) ∧ Sn w0 w' L :=
  read_is h ⟨#[84, 104, 117, 44, 32, 49, 32, 74, 97, 110, 32, 49, 57, 55, 48, 32, 48, 49, 58, 48, 48, 58, 51, 48, 32, 43, 48, 49, 48, 48]⟩ (by decide) 30 60 true (by decide +kernel)
theorem rd1 {w0 w : World} {L : List (Nat × Int × Int)} (h : Sn w0 w L) : Calls Tryz.prog 9 #[.string ⟨#[32, 50, 57, 32, 40, 97, 40, 98, 41, 92, 41, 99, 41, 32, 102, 101, 98, 32, 48, 48, 32, 50, 51, 58, 53, 57, 58, 54, 48, 32, 80, 83, 84, 32, 40, 120]⟩] w fun e w' => e = .returned (.tuple #[.agg #[.int .i64 951897599, .int .i64 (-480)], .bool true]) ∧ Sn w0 w' L :=
  read_is h ⟨#[32, 50, 57, 32, 40, 97, 40, 98, 41, 92, 41, 99, 41, 32, 102, 101, 98, 32, 48, 48, 32, 50, 51, 58, 53, 57, 58, 54, 48, 32, 80, 83, 84, 32, 40, 120]⟩ (by decide) 951897599 (-480) true (by decide +kernel)
theorem rd2 {w0 w : World} {L : List (Nat × Int × Int)} (h : Sn w0 w L) : Calls Tryz.prog 9 #[.string ⟨#[51, 48, 32, 70, 101, 98, 32, 50, 48, 50, 52, 32, 48, 48, 58, 48, 48, 58, 48, 48, 32, 43, 48, 48, 48, 48]⟩] w fun e w' => e = .returned (.tuple #[.agg #[.int .i64 0, .int .i64 0], .bool false]) ∧ Sn w0 w' L :=
  read_is h ⟨#[51, 48, 32, 70, 101, 98, 32, 50, 48, 50, 52, 32, 48, 48, 58, 48, 48, 58, 48, 48, 32, 43, 48, 48, 48, 48]⟩ (by decide) 0 0 false (by decide +kernel)
theorem rd3 {w0 w : World} {L : List (Nat × Int × Int)} (h : Sn w0 w L) : Calls Tryz.prog 9 #[.string ⟨#[49, 32, 74, 97, 110, 32, 49, 57, 55, 48]⟩] w fun e w' => e = .returned (.tuple #[.agg #[.int .i64 0, .int .i64 0], .bool false]) ∧ Sn w0 w' L :=
  read_is h ⟨#[49, 32, 74, 97, 110, 32, 49, 57, 55, 48]⟩ (by decide) 0 0 false (by decide +kernel)
theorem rd4 {w0 w : World} {L : List (Nat × Int × Int)} (h : Sn w0 w L) : Calls Tryz.prog 9 #[.string ⟨#[49, 32, 74, 97, 110, 32, 49, 57, 55, 48, 32, 48, 48, 58, 48, 48, 32, 90, 32, 90]⟩] w fun e w' => e = .returned (.tuple #[.agg #[.int .i64 0, .int .i64 0], .bool false]) ∧ Sn w0 w' L :=
  read_is h ⟨#[49, 32, 74, 97, 110, 32, 49, 57, 55, 48, 32, 48, 48, 58, 48, 48, 32, 90, 32, 90]⟩ (by decide) 0 0 false (by decide +kernel)
theorem rd5 {w0 w : World} {L : List (Nat × Int × Int)} (h : Sn w0 w L) : Calls Tryz.prog 9 #[.string ⟨#[48, 49, 32, 74, 97, 110, 32, 57, 57, 32, 48, 48, 58, 48, 48, 32, 88, 89, 90]⟩] w fun e w' => e = .returned (.tuple #[.agg #[.int .i64 915148800, .int .i64 0], .bool true]) ∧ Sn w0 w' L :=
  read_is h ⟨#[48, 49, 32, 74, 97, 110, 32, 57, 57, 32, 48, 48, 58, 48, 48, 32, 88, 89, 90]⟩ (by decide) 915148800 0 true (by decide +kernel)
theorem civ_is (w : World) : Calls Tryz.prog 12 #[.int .i64 11016] w fun e w' => e = .returned (.tuple #[.int .i64 2000, .int .i64 2, .int .i64 29]) ∧ w = w' := civ_yes 2000 2 29 (by decide) 11016 (by decide +kernel) w
theorem days_1 (w : World) : Calls Tryz.prog 13 #[.int .i64 2000, .int .i64 2, .int .i64 29] w fun e w' => e = .returned (.int .i64 11016) ∧ w = w' := by
  have := days_any 2000 2 29 w
  rwa [show daysV 2000 2 29 = 11016 by decide +kernel] at this
theorem days_2 (w : World) : Calls Tryz.prog 13 #[.int .i64 1900, .int .i64 2, .int .i64 29] w fun e w' => e = .returned (.int .i64 0) ∧ w = w' := by
  have := days_any 1900 2 29 w
  rwa [show daysV 1900 2 29 = 0 by decide +kernel] at this
theorem week_1 (w : World) : Calls Tryz.prog 14 #[.int .i64 0] w fun e w' => e = .returned (.int .i64 4) ∧ w = w' := week_any 0 w
theorem week_2 (w : World) : Calls Tryz.prog 14 #[.int .i64 (-1)] w fun e w' => e = .returned (.int .i64 3) ∧ w = w' := week_any (-1) w
theorem write_is {w0 w : World} {L : List (Nat × Int × Int)} (h : Sn w0 w L) (u z : Int) (hr : Right u z) (y m d : Nat) (hI : DateP.Is y m d) (hn : DateP.num y m d = dayV u z) (r : ByteArray) (hw : strL (writeL (wkV (dayV u z)).toNat d m y (secV u z).toNat z) = r) :
    Calls Tryz.prog 8 #[.agg #[.int .i64 u, .int .i64 z]] w fun e w' => e = .returned (.string r) ∧ Sn w0 w' L := by
  subst hw
  exact (write_yes u z hr y m d hI hn w h.v).mono fun e w' h1 => ⟨h1.1, h.call h1.2⟩
theorem wr1 {w0 w : World} {L : List (Nat × Int × Int)} (h : Sn w0 w L) : Calls Tryz.prog 8 #[.agg #[.int .i64 30, .int .i64 60]] w fun e w' => e = .returned (.string ⟨#[84, 104, 117, 44, 32, 48, 49, 32, 74, 97, 110, 32, 49, 57, 55, 48, 32, 48, 49, 58, 48, 48, 58, 51, 48, 32, 43, 48, 49, 48, 48]⟩) ∧ Sn w0 w' L :=
  write_is h 30 60 (by decide) 1970 1 1 (by decide) (by decide +kernel) _ (by decide +kernel)
theorem wr2 {w0 w : World} {L : List (Nat × Int × Int)} (h : Sn w0 w L) : Calls Tryz.prog 8 #[.agg #[.int .i64 951897599, .int .i64 (-480)]] w fun e w' => e = .returned (.string ⟨#[84, 117, 101, 44, 32, 50, 57, 32, 70, 101, 98, 32, 50, 48, 48, 48, 32, 50, 51, 58, 53, 57, 58, 53, 57, 32, 45, 48, 56, 48, 48]⟩) ∧ Sn w0 w' L :=
  write_is h 951897599 (-480) (by decide) 2000 2 29 (by decide) (by decide +kernel) _ (by decide +kernel)
theorem wr3 {w0 w : World} {L : List (Nat × Int × Int)} (h : Sn w0 w L) : Calls Tryz.prog 8 #[.agg #[.int .i64 0, .int .i64 1440]] w fun e w' => e = .returned (.string ⟨#[]⟩) ∧ Sn w0 w' L :=
  (write_no 0 1440 (by unfold partV; rw [if_neg (by decide)]) w).mono fun e w' h1 => ⟨h1.1, h.call h1.2⟩
theorem part_at {w0 w : World} {L : List (Nat × Int × Int)} (h : Sn w0 w L) (u z : Int) (k : Nat) (hk : k ≤ 9) (kk : Int) (hkk : kk = k) (v : Int) (hv : partV u z k = v) :
    Calls Tryz.prog 11 #[.agg #[.int .i64 u, .int .i64 z], .int .i64 kk] w fun e w' => e = .returned (.int .i64 v) ∧ Sn w0 w' L :=
  (part_any u z k hk kk hkk v hv w).mono fun _e _w' h1 => ⟨h1.1, h.call h1.2⟩
theorem pt4 {w0 w : World} {L : List (Nat × Int × Int)} (h : Sn w0 w L) : Calls Tryz.prog 11 #[.agg #[.int .i64 951897599, .int .i64 (-480)], .int .i64 4] w fun e w' => e = .returned (.int .i64 23) ∧ Sn w0 w' L :=
  part_at h 951897599 (-480) 4 (by decide) 4 rfl 23 (by unfold partV; rw [if_pos (by decide)]; show secV 951897599 (-480) / 3600 = 23; decide)
theorem pt8 {w0 w : World} {L : List (Nat × Int × Int)} (h : Sn w0 w L) : Calls Tryz.prog 11 #[.agg #[.int .i64 951897599, .int .i64 (-480)], .int .i64 8] w fun e w' => e = .returned (.int .i64 (-480)) ∧ Sn w0 w' L :=
  part_at h 951897599 (-480) 8 (by decide) 8 rfl (-480) (by unfold partV; rw [if_pos (by decide)]; rfl)
theorem pt9 {w0 w : World} {L : List (Nat × Int × Int)} (h : Sn w0 w L) : Calls Tryz.prog 11 #[.agg #[.int .i64 951897599, .int .i64 (-480)], .int .i64 9] w fun e w' => e = .returned (.int .i64 0) ∧ Sn w0 w' L :=
  part_at h 951897599 (-480) 9 (by decide) 9 rfl 0 (by unfold partV; rw [if_pos (by decide)]; rfl)
theorem Sn.cells {w0 w : World} {b1 b2 b3 b4 b5 b6 : Nat} {u1 z1 u2 z2 u3 z3 u4 z4 u5 z5 u6 z6 : Int} (h : Sn w0 w [(b6, u6, z6), (b5, u5, z5), (b4, u4, z4), (b3, u3, z3), (b2, u2, z2), (b1, u1, z1)]) :
    w.cell? ⟨b1, 0, none⟩ = some (.int .i64 u1) ∧ w.cell? ⟨b1, 1, none⟩ = some (.int .i64 z1) ∧ w.cell? ⟨b2, 0, none⟩ = some (.int .i64 u2) ∧ w.cell? ⟨b2, 1, none⟩ = some (.int .i64 z2) ∧ w.cell? ⟨b6, 0, none⟩ = some (.int .i64 u6) :=
  ⟨(h.tms (b1, u1, z1) (by simp)).c0, (h.tms (b1, u1, z1) (by simp)).c1, (h.tms (b2, u2, z2) (by simp)).c0, (h.tms (b2, u2, z2) (by simp)).c1, (h.tms (b6, u6, z6) (by simp)).c0⟩
set_option maxHeartbeats 8000000 in
set_option maxRecDepth 1000000 in
theorem small_any (w : World) (hv : Vars w) :
    Calls Tryz.prog 7 #[] w fun e w' => e = .returned (.bool true) ∧ Below w.heap.size w w' := by
  have st := Sn.start hv
  go_enter Tryz.func7, Tryz.ntmps7
  go_wp2_with (first
    | (go_at_call 9; with_reducible refine (rd0 st).mono ?_; rintro e v0 ⟨rfl, st⟩; replace st := st.new 30 60)
    | (go_at_call 9; with_reducible refine (rd1 st).mono ?_; rintro e v1 ⟨rfl, st⟩; replace st := st.new 951897599 (-480))
    | (go_at_call 9; with_reducible refine (rd2 st).mono ?_; rintro e v2 ⟨rfl, st⟩; replace st := st.new 0 0)
    | (go_at_call 9; with_reducible refine (rd3 st).mono ?_; rintro e v3 ⟨rfl, st⟩; replace st := st.new 0 0)
    | (go_at_call 9; with_reducible refine (rd4 st).mono ?_; rintro e v4 ⟨rfl, st⟩; replace st := st.new 0 0)
    | (go_at_call 9; with_reducible refine (rd5 st).mono ?_; rintro e v5 ⟨rfl, st⟩; replace st := st.new 915148800 0; obtain ⟨c1, c2, c3, c4, c5⟩ := st.cells)
    | (go_at_call 12; with_reducible refine (civ_is _).mono ?_; rintro e x1 ⟨rfl, rfl⟩)
    | (go_at_call 13; with_reducible refine (days_1 _).mono ?_; rintro e x2 ⟨rfl, rfl⟩)
    | (go_at_call 13; with_reducible refine (days_2 _).mono ?_; rintro e x3 ⟨rfl, rfl⟩)
    | (go_at_call 14; with_reducible refine (week_1 _).mono ?_; rintro e x4 ⟨rfl, rfl⟩)
    | (go_at_call 14; with_reducible refine (week_2 _).mono ?_; rintro e x5 ⟨rfl, rfl⟩)
    | (go_at_call 8; with_reducible refine (wr1 st).mono ?_; rintro e y1 ⟨rfl, st⟩; obtain ⟨c1, c2, c3, c4, c5⟩ := st.cells)
    | (go_at_call 8; with_reducible refine (wr2 st).mono ?_; rintro e y2 ⟨rfl, st⟩; obtain ⟨c1, c2, c3, c4, c5⟩ := st.cells)
    | (go_at_call 8; with_reducible refine (wr3 st).mono ?_; rintro e y3 ⟨rfl, st⟩)
    | (go_at_call 11; with_reducible refine (pt4 st).mono ?_; rintro e y4 ⟨rfl, st⟩; obtain ⟨c1, c2, c3, c4, c5⟩ := st.cells)
    | (go_at_call 11; with_reducible refine (pt8 st).mono ?_; rintro e y5 ⟨rfl, st⟩; obtain ⟨c1, c2, c3, c4, c5⟩ := st.cells)
    | (go_at_call 11; with_reducible refine (pt9 st).mono ?_; rintro e y6 ⟨rfl, st⟩))
  go_ret
  exact ⟨rfl, st.bel⟩
end Go.Proofs.YtnmdljadnlddeaaGreatDoor
