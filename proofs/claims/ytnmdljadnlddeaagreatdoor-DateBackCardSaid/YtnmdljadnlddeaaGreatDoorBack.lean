/- DateBack: what is written reads back, and what is read writes and reads back. -/
import Derived.Test.YtnmdljadnlddeaaGreatDoorSmall
namespace Go.Proofs.YtnmdljadnlddeaaGreatDoor
open Go.ChangeShapes Go.WideShapes Go.ChangeAt Go.RowKit
open DateP (Right writeL)

/-- The time has a text, which reads back. -/
structure Bk (u z : Int) (r : ByteArray) : Prop where
  right : Right u z
  part : partV u z 1 > 0
  wr : ∀ w, Vars w → Calls Tryz.prog 8 #[.agg #[.int .i64 u, .int .i64 z]] w fun e w' => e = .returned (.string r) ∧ Below w.heap.size w w'
  rd : readV r = some (u, z)
  size : r.size = 31
theorem bk_of {u z : Int} (hr : Right u z) {y m d : Nat} (hI : DateP.Is y m d) (hn : DateP.num y m d = dayV u z) : ∃ r, Bk u z r := by
  have hk := wkV_range (dayV u z)
  have hs := secV_range u z
  refine ⟨strL (writeL (wkV (dayV u z)).toNat d m y (secV u z).toNat z), hr, ?_, fun w hv => write_yes u z hr y m d hI hn w hv, ?_, ?_⟩
  · unfold partV
    rw [if_pos hr, ← hn, civV_num hI]
    show (y : Int) > 0
    have := hI.1
    omega
  · unfold readV
    rw [show (strL (writeL (wkV (dayV u z)).toNat d m y (secV u z).toNat z)).data.toList = writeL (wkV (dayV u z)).toNat d m y (secV u z).toNat z by simp [strL]]
    exact DateP.write_read _ d m y _ u z (by omega) hI (by omega) hr (by
      rw [hn]
      have := day_sec u z
      omega)
  · rw [strL_size]
    unfold writeL
    obtain ⟨h1, h2, h3, h4, h5, h6⟩ := hI
    have e1 := (day_names _ (getD_mem DateP.dayNames (wkV (dayV u z)).toNat (by show _ < 7; omega))).1
    have e2 := (mon_names _ (getD_mem DateP.monNames (m - 1) (by show m - 1 < 12; omega))).1
    simp only [List.length_append, List.length_cons, e1, e2, zoneL_len, two_len]
theorem bk_or (u z : Int) : (∃ r, Bk u z r) ∨ partV u z 1 = 0 := by
  by_cases hr : Right u z
  · by_cases hd : dayV u z < -719162 ∨ 2932896 < dayV u z
    · refine .inr ?_
      unfold partV
      rw [if_pos hr, civV_no hd]
      rfl
    · obtain ⟨y, m, d, hI, hn⟩ := DateP.some_date (dayV u z) (by omega) (by omega)
      exact .inl (bk_of hr hI hn)
  · exact .inr (by unfold partV; rw [if_neg hr])
theorem bk_read {s : ByteArray} {u z : Int} (h : readV s = some (u, z)) : ∃ r, Bk u z r := by
  obtain ⟨hr, y, m, d, k, hI, hk, e⟩ := DateP.read_right h
  exact bk_of hr hI (by unfold dayV; omega)
theorem sn_small {w0 w : World} {L : List (Nat × Int × Int)} (h : Sn w0 w L) : Calls Tryz.prog 7 #[] w fun e w' => e = .returned (.bool true) ∧ Sn w0 w' L :=
  (small_any w h.v).mono fun _e _w' h1 => ⟨h1.1, h.call h1.2⟩
theorem sn_right {w0 w : World} {L : List (Nat × Int × Int)} (h : Sn w0 w L) (u z : Int) (b : Bool) (hb : decide (Right u z) = b) : Calls Tryz.prog 10 #[.agg #[.int .i64 u, .int .i64 z]] w fun e w' => e = .returned (.bool b) ∧ Sn w0 w' L := by
  subst hb
  exact (right_any u z w).mono fun e w' h1 => ⟨h1.1, h.call h1.2⟩
theorem sn_write {w0 w : World} {L : List (Nat × Int × Int)} (h : Sn w0 w L) {u z : Int} {r : ByteArray} (hk : Bk u z r) : Calls Tryz.prog 8 #[.agg #[.int .i64 u, .int .i64 z]] w fun e w' => e = .returned (.string r) ∧ Sn w0 w' L :=
  (hk.wr w h.v).mono fun _e _w' h1 => ⟨h1.1, h.call h1.2⟩
theorem sn_wno {w0 w : World} {L : List (Nat × Int × Int)} (h : Sn w0 w L) {u z : Int} (hk : partV u z 1 = 0) : Calls Tryz.prog 8 #[.agg #[.int .i64 u, .int .i64 z]] w fun e w' => e = .returned (.string ⟨#[]⟩) ∧ Sn w0 w' L :=
  (write_no u z hk w).mono fun _e _w' h1 => ⟨h1.1, h.call h1.2⟩
theorem sn_read {w0 w : World} {L : List (Nat × Int × Int)} (h : Sn w0 w L) {u z : Int} {r : ByteArray} (hs : r.size ≤ 400) (hk : readV r = some (u, z)) : Calls Tryz.prog 9 #[.string r] w fun e w' => e = .returned (.tuple #[.agg #[.int .i64 u, .int .i64 z], .bool true]) ∧ Sn w0 w' L :=
  read_is h r hs u z true (by rw [hk]; exact ⟨rfl, rfl, rfl⟩)
theorem sn_rno {w0 w : World} {L : List (Nat × Int × Int)} (h : Sn w0 w L) {r : ByteArray} (hs : r.size ≤ 400) (hk : readV r = none) : Calls Tryz.prog 9 #[.string r] w fun e w' => e = .returned (.tuple #[.agg #[.int .i64 0, .int .i64 0], .bool false]) ∧ Sn w0 w' L :=
  read_is h r hs 0 0 false (by rw [hk]; exact ⟨rfl, rfl, rfl⟩)
theorem Sn.two {w0 w : World} {b1 b2 : Nat} {u1 z1 u2 z2 : Int} (h : Sn w0 w [(b2, u2, z2), (b1, u1, z1)]) :
    w.cell? ⟨b1, 0, none⟩ = some (.int .i64 u1) ∧ w.cell? ⟨b1, 1, none⟩ = some (.int .i64 z1) ∧ w.cell? ⟨b2, 0, none⟩ = some (.int .i64 u2) ∧ w.cell? ⟨b2, 1, none⟩ = some (.int .i64 z2) :=
  ⟨(h.tms (b1, u1, z1) (by simp)).c0, (h.tms (b1, u1, z1) (by simp)).c1, (h.tms (b2, u2, z2) (by simp)).c0, (h.tms (b2, u2, z2) (by simp)).c1⟩
theorem Sn.hd {w0 w : World} {L : List (Nat × Int × Int)} {b : Nat} {u z : Int} (h : Sn w0 w ((b, u, z) :: L)) :
    w.cell? ⟨b, 0, none⟩ = some (.int .i64 u) ∧ w.cell? ⟨b, 1, none⟩ = some (.int .i64 z) :=
  ⟨(h.tms (b, u, z) (by simp)).c0, (h.tms (b, u, z) (by simp)).c1⟩
theorem Sn.hd2 {w0 w : World} {L : List (Nat × Int × Int)} {b c : Nat} {u z u' z' : Int} (h : Sn w0 w ((c, u', z') :: (b, u, z) :: L)) :
    w.cell? ⟨b, 0, none⟩ = some (.int .i64 u) ∧ w.cell? ⟨b, 1, none⟩ = some (.int .i64 z) ∧ w.cell? ⟨c, 0, none⟩ = some (.int .i64 u') ∧ w.cell? ⟨c, 1, none⟩ = some (.int .i64 z') :=
  ⟨(h.tms (b, u, z) (by simp)).c0, (h.tms (b, u, z) (by simp)).c1, (h.tms (c, u', z') (by simp)).c0, (h.tms (c, u', z') (by simp)).c1⟩
theorem empty_ne {r : ByteArray} (h : r.size = 31) : r.toList.isEmpty = false ∧ True := by
  refine ⟨?_, trivial⟩
  rw [ByteArray.toList_eq]
  obtain ⟨⟨l⟩⟩ := r
  cases l with
  | nil => exact absurd h (by decide)
  | cons a l => rfl
set_option maxHeartbeats 8000000 in
set_option maxRecDepth 1000000 in
theorem back_AC (u z : Int) (s : ByteArray) (hs : s.size ≤ 300) (r : ByteArray) (hA : Bk u z r) (hC : readV s = none) (w : World) (hv : Vars w) :
    Calls Tryz.prog 3 #[.agg #[.int .i64 u, .int .i64 z], .string s] w fun e w' => e = .returned (.bool true) ∧ Below w.heap.size w w' := by
  have h400 : Hid (s.size ≤ 400) := by show _ ≤ _; omega
  obtain ⟨n1, n2⟩ := empty_ne hA.size
  have n3 : r.size = 31 := hA.size
  have HW := Lib.hid (fun Q L (h : Sn w Q L) => sn_write h hA)
  have HR := Lib.hid (fun Q L (h : Sn w Q L) => sn_read h (r := r) (by rw [hA.size]; decide) hA.rd)
  have HG := Lib.hid (fun Q L (h : Sn w Q L) => sn_right h u z true (decide_eq_true hA.right))
  obtain ⟨p, hp⟩ : ∃ p, partV u z 1 = p := ⟨_, rfl⟩
  have p0 : 0 < p := by rw [← hp]; exact hA.part
  have HP := Lib.hid (fun Q L (h : Sn w Q L) => part_at h u z 1 (by decide) 1 rfl p hp)
  clear hA hp
  have HS := Lib.hid (fun Q L (h : Sn w Q L) => sn_rno h h400.out hC)
  clear hC h400
  have st := (Sn.start hv).new u z
  go_enter Tryz.func3, Tryz.ntmps3
  go_wp2_with (first
    | (go_at_call 7; with_reducible refine (sn_small st).mono ?_; rintro e v1 ⟨rfl, st⟩; obtain ⟨c1, c2⟩ := st.hd)
    | (go_at_call 8; with_reducible refine (HW.out _ _ st).mono ?_; rintro e v2 ⟨rfl, st⟩)
    | (go_at_call 9; with_reducible refine (HR.out _ _ st).mono ?_; rintro e v3 ⟨rfl, st⟩; replace st := st.new u z; obtain ⟨c1, c2, c3, c4⟩ := st.hd2)
    | (go_at_call 10; with_reducible refine (HG.out _ _ st).mono ?_; rintro e v9 ⟨rfl, st⟩; obtain ⟨c1, c2, c3, c4⟩ := st.hd2)
    | (go_at_call 11; with_reducible refine (HP.out _ _ st).mono ?_; rintro e v4 ⟨rfl, st⟩; obtain ⟨c1, c2, c3, c4⟩ := st.hd2)
    | (go_at_call 9; with_reducible refine (HS.out _ _ st).mono ?_; rintro e v5 ⟨rfl, st⟩; replace st := st.new 0 0; obtain ⟨d1, d2⟩ := st.hd))
  go_ret
  exact ⟨rfl, st.bel⟩
set_option maxHeartbeats 8000000 in
set_option maxRecDepth 1000000 in
theorem back_AD (u z : Int) (s : ByteArray) (hs : s.size ≤ 300) (r : ByteArray) (hA : Bk u z r) (u2 z2 : Int) (r2 : ByteArray) (hC : readV s = some (u2, z2)) (hD : Bk u2 z2 r2) (w : World) (hv : Vars w) :
    Calls Tryz.prog 3 #[.agg #[.int .i64 u, .int .i64 z], .string s] w fun e w' => e = .returned (.bool true) ∧ Below w.heap.size w w' := by
  have h400 : Hid (s.size ≤ 400) := by show _ ≤ _; omega
  obtain ⟨n1, n2⟩ := empty_ne hA.size
  have n3 : r.size = 31 := hA.size
  have HW := Lib.hid (fun Q L (h : Sn w Q L) => sn_write h hA)
  have HR := Lib.hid (fun Q L (h : Sn w Q L) => sn_read h (r := r) (by rw [hA.size]; decide) hA.rd)
  have HG := Lib.hid (fun Q L (h : Sn w Q L) => sn_right h u z true (decide_eq_true hA.right))
  obtain ⟨p, hp⟩ : ∃ p, partV u z 1 = p := ⟨_, rfl⟩
  have p0 : 0 < p := by rw [← hp]; exact hA.part
  have HP := Lib.hid (fun Q L (h : Sn w Q L) => part_at h u z 1 (by decide) 1 rfl p hp)
  clear hA hp
  have HS := Lib.hid (fun Q L (h : Sn w Q L) => sn_read h h400.out hC)
  have HW2 := Lib.hid (fun Q L (h : Sn w Q L) => sn_write h hD)
  have HR2 := Lib.hid (fun Q L (h : Sn w Q L) => sn_read h (r := r2) (by rw [hD.size]; decide) hD.rd)
  have HG2 := Lib.hid (fun Q L (h : Sn w Q L) => sn_right h u2 z2 true (decide_eq_true hD.right))
  clear hC hD h400
  have st := (Sn.start hv).new u z
  go_enter Tryz.func3, Tryz.ntmps3
  go_wp2_with (first
    | (go_at_call 7; with_reducible refine (sn_small st).mono ?_; rintro e v1 ⟨rfl, st⟩; obtain ⟨c1, c2⟩ := st.hd)
    | (go_at_call 8; with_reducible refine (HW.out _ _ st).mono ?_; rintro e v2 ⟨rfl, st⟩)
    | (go_at_call 9; with_reducible refine (HR.out _ _ st).mono ?_; rintro e v3 ⟨rfl, st⟩; replace st := st.new u z; obtain ⟨c1, c2, c3, c4⟩ := st.hd2)
    | (go_at_call 10; with_reducible refine (HG.out _ _ st).mono ?_; rintro e v9 ⟨rfl, st⟩; obtain ⟨c1, c2, c3, c4⟩ := st.hd2)
    | (go_at_call 11; with_reducible refine (HP.out _ _ st).mono ?_; rintro e v4 ⟨rfl, st⟩; obtain ⟨c1, c2, c3, c4⟩ := st.hd2)
    | (go_at_call 9; with_reducible refine (HS.out _ _ st).mono ?_; rintro e v5 ⟨rfl, st⟩; replace st := st.new u2 z2; obtain ⟨d1, d2⟩ := st.hd)
    | (go_at_call 8; with_reducible refine (HW2.out _ _ st).mono ?_; rintro e v6 ⟨rfl, st⟩)
    | (go_at_call 9; with_reducible refine (HR2.out _ _ st).mono ?_; rintro e v7 ⟨rfl, st⟩; replace st := st.new u2 z2; obtain ⟨d1, d2, d3, d4⟩ := st.hd2)
    | (go_at_call 10; with_reducible refine (HG2.out _ _ st).mono ?_; rintro e v8 ⟨rfl, st⟩; obtain ⟨d1, d2, d3, d4⟩ := st.hd2))
  go_ret
  exact ⟨rfl, st.bel⟩
set_option maxHeartbeats 8000000 in
set_option maxRecDepth 1000000 in
theorem back_B0C (u z : Int) (s : ByteArray) (hs : s.size ≤ 300) (hA : partV u z 1 = 0) (hR : decide (Right u z) = false) (hC : readV s = none) (w : World) (hv : Vars w) :
    Calls Tryz.prog 3 #[.agg #[.int .i64 u, .int .i64 z], .string s] w fun e w' => e = .returned (.bool true) ∧ Below w.heap.size w w' := by
  have h400 : Hid (s.size ≤ 400) := by show _ ≤ _; omega
  have HW := Lib.hid (fun Q L (h : Sn w Q L) => sn_wno h hA)
  have HR := Lib.hid (fun Q L (h : Sn w Q L) => sn_rno h (r := ⟨#[]⟩) (by decide) (by decide))
  have HG := Lib.hid (fun Q L (h : Sn w Q L) => sn_right h u z false hR)
  have HP := Lib.hid (fun Q L (h : Sn w Q L) => part_at h u z 1 (by decide) 1 rfl 0 hA)
  clear hA hR
  have HS := Lib.hid (fun Q L (h : Sn w Q L) => sn_rno h h400.out hC)
  clear hC h400
  have st := (Sn.start hv).new u z
  go_enter Tryz.func3, Tryz.ntmps3
  go_wp2_with (first
    | (go_at_call 7; with_reducible refine (sn_small st).mono ?_; rintro e v1 ⟨rfl, st⟩; obtain ⟨c1, c2⟩ := st.hd)
    | (go_at_call 8; with_reducible refine (HW.out _ _ st).mono ?_; rintro e v2 ⟨rfl, st⟩)
    | (go_at_call 9; with_reducible refine (HR.out _ _ st).mono ?_; rintro e v3 ⟨rfl, st⟩; replace st := st.new 0 0; obtain ⟨c1, c2, c3, c4⟩ := st.hd2)
    | (go_at_call 10; with_reducible refine (HG.out _ _ st).mono ?_; rintro e v9 ⟨rfl, st⟩; obtain ⟨c1, c2, c3, c4⟩ := st.hd2)
    | (go_at_call 9; with_reducible refine (HS.out _ _ st).mono ?_; rintro e v5 ⟨rfl, st⟩; replace st := st.new 0 0; obtain ⟨d1, d2⟩ := st.hd))
  go_ret
  exact ⟨rfl, st.bel⟩
set_option maxHeartbeats 8000000 in
set_option maxRecDepth 1000000 in
theorem back_B0D (u z : Int) (s : ByteArray) (hs : s.size ≤ 300) (hA : partV u z 1 = 0) (hR : decide (Right u z) = false) (u2 z2 : Int) (r2 : ByteArray) (hC : readV s = some (u2, z2)) (hD : Bk u2 z2 r2) (w : World) (hv : Vars w) :
    Calls Tryz.prog 3 #[.agg #[.int .i64 u, .int .i64 z], .string s] w fun e w' => e = .returned (.bool true) ∧ Below w.heap.size w w' := by
  have h400 : Hid (s.size ≤ 400) := by show _ ≤ _; omega
  have HW := Lib.hid (fun Q L (h : Sn w Q L) => sn_wno h hA)
  have HR := Lib.hid (fun Q L (h : Sn w Q L) => sn_rno h (r := ⟨#[]⟩) (by decide) (by decide))
  have HG := Lib.hid (fun Q L (h : Sn w Q L) => sn_right h u z false hR)
  have HP := Lib.hid (fun Q L (h : Sn w Q L) => part_at h u z 1 (by decide) 1 rfl 0 hA)
  clear hA hR
  have HS := Lib.hid (fun Q L (h : Sn w Q L) => sn_read h h400.out hC)
  have HW2 := Lib.hid (fun Q L (h : Sn w Q L) => sn_write h hD)
  have HR2 := Lib.hid (fun Q L (h : Sn w Q L) => sn_read h (r := r2) (by rw [hD.size]; decide) hD.rd)
  have HG2 := Lib.hid (fun Q L (h : Sn w Q L) => sn_right h u2 z2 true (decide_eq_true hD.right))
  clear hC hD h400
  have st := (Sn.start hv).new u z
  go_enter Tryz.func3, Tryz.ntmps3
  go_wp2_with (first
    | (go_at_call 7; with_reducible refine (sn_small st).mono ?_; rintro e v1 ⟨rfl, st⟩; obtain ⟨c1, c2⟩ := st.hd)
    | (go_at_call 8; with_reducible refine (HW.out _ _ st).mono ?_; rintro e v2 ⟨rfl, st⟩)
    | (go_at_call 9; with_reducible refine (HR.out _ _ st).mono ?_; rintro e v3 ⟨rfl, st⟩; replace st := st.new 0 0; obtain ⟨c1, c2, c3, c4⟩ := st.hd2)
    | (go_at_call 10; with_reducible refine (HG.out _ _ st).mono ?_; rintro e v9 ⟨rfl, st⟩; obtain ⟨c1, c2, c3, c4⟩ := st.hd2)
    | (go_at_call 9; with_reducible refine (HS.out _ _ st).mono ?_; rintro e v5 ⟨rfl, st⟩; replace st := st.new u2 z2; obtain ⟨d1, d2⟩ := st.hd)
    | (go_at_call 8; with_reducible refine (HW2.out _ _ st).mono ?_; rintro e v6 ⟨rfl, st⟩)
    | (go_at_call 9; with_reducible refine (HR2.out _ _ st).mono ?_; rintro e v7 ⟨rfl, st⟩; replace st := st.new u2 z2; obtain ⟨d1, d2, d3, d4⟩ := st.hd2)
    | (go_at_call 10; with_reducible refine (HG2.out _ _ st).mono ?_; rintro e v8 ⟨rfl, st⟩; obtain ⟨d1, d2, d3, d4⟩ := st.hd2))
  go_ret
  exact ⟨rfl, st.bel⟩
set_option maxHeartbeats 8000000 in
set_option maxRecDepth 1000000 in
theorem back_B1C (u z : Int) (s : ByteArray) (hs : s.size ≤ 300) (hA : partV u z 1 = 0) (hR : decide (Right u z) = true) (hC : readV s = none) (w : World) (hv : Vars w) :
    Calls Tryz.prog 3 #[.agg #[.int .i64 u, .int .i64 z], .string s] w fun e w' => e = .returned (.bool true) ∧ Below w.heap.size w w' := by
  have h400 : Hid (s.size ≤ 400) := by show _ ≤ _; omega
  have HW := Lib.hid (fun Q L (h : Sn w Q L) => sn_wno h hA)
  have HR := Lib.hid (fun Q L (h : Sn w Q L) => sn_rno h (r := ⟨#[]⟩) (by decide) (by decide))
  have HG := Lib.hid (fun Q L (h : Sn w Q L) => sn_right h u z true hR)
  have HP := Lib.hid (fun Q L (h : Sn w Q L) => part_at h u z 1 (by decide) 1 rfl 0 hA)
  clear hA hR
  have HS := Lib.hid (fun Q L (h : Sn w Q L) => sn_rno h h400.out hC)
  clear hC h400
  have st := (Sn.start hv).new u z
  go_enter Tryz.func3, Tryz.ntmps3
  go_wp2_with (first
    | (go_at_call 7; with_reducible refine (sn_small st).mono ?_; rintro e v1 ⟨rfl, st⟩; obtain ⟨c1, c2⟩ := st.hd)
    | (go_at_call 8; with_reducible refine (HW.out _ _ st).mono ?_; rintro e v2 ⟨rfl, st⟩)
    | (go_at_call 9; with_reducible refine (HR.out _ _ st).mono ?_; rintro e v3 ⟨rfl, st⟩; replace st := st.new 0 0; obtain ⟨c1, c2, c3, c4⟩ := st.hd2)
    | (go_at_call 10; with_reducible refine (HG.out _ _ st).mono ?_; rintro e v9 ⟨rfl, st⟩; obtain ⟨c1, c2, c3, c4⟩ := st.hd2)
    | (go_at_call 11; with_reducible refine (HP.out _ _ st).mono ?_; rintro e v4 ⟨rfl, st⟩; obtain ⟨c1, c2, c3, c4⟩ := st.hd2)
    | (go_at_call 9; with_reducible refine (HS.out _ _ st).mono ?_; rintro e v5 ⟨rfl, st⟩; replace st := st.new 0 0; obtain ⟨d1, d2⟩ := st.hd))
  go_ret
  exact ⟨rfl, st.bel⟩
set_option maxHeartbeats 8000000 in
set_option maxRecDepth 1000000 in
theorem back_B1D (u z : Int) (s : ByteArray) (hs : s.size ≤ 300) (hA : partV u z 1 = 0) (hR : decide (Right u z) = true) (u2 z2 : Int) (r2 : ByteArray) (hC : readV s = some (u2, z2)) (hD : Bk u2 z2 r2) (w : World) (hv : Vars w) :
    Calls Tryz.prog 3 #[.agg #[.int .i64 u, .int .i64 z], .string s] w fun e w' => e = .returned (.bool true) ∧ Below w.heap.size w w' := by
  have h400 : Hid (s.size ≤ 400) := by show _ ≤ _; omega
  have HW := Lib.hid (fun Q L (h : Sn w Q L) => sn_wno h hA)
  have HR := Lib.hid (fun Q L (h : Sn w Q L) => sn_rno h (r := ⟨#[]⟩) (by decide) (by decide))
  have HG := Lib.hid (fun Q L (h : Sn w Q L) => sn_right h u z true hR)
  have HP := Lib.hid (fun Q L (h : Sn w Q L) => part_at h u z 1 (by decide) 1 rfl 0 hA)
  clear hA hR
  have HS := Lib.hid (fun Q L (h : Sn w Q L) => sn_read h h400.out hC)
  have HW2 := Lib.hid (fun Q L (h : Sn w Q L) => sn_write h hD)
  have HR2 := Lib.hid (fun Q L (h : Sn w Q L) => sn_read h (r := r2) (by rw [hD.size]; decide) hD.rd)
  have HG2 := Lib.hid (fun Q L (h : Sn w Q L) => sn_right h u2 z2 true (decide_eq_true hD.right))
  clear hC hD h400
  have st := (Sn.start hv).new u z
  go_enter Tryz.func3, Tryz.ntmps3
  go_wp2_with (first
    | (go_at_call 7; with_reducible refine (sn_small st).mono ?_; rintro e v1 ⟨rfl, st⟩; obtain ⟨c1, c2⟩ := st.hd)
    | (go_at_call 8; with_reducible refine (HW.out _ _ st).mono ?_; rintro e v2 ⟨rfl, st⟩)
    | (go_at_call 9; with_reducible refine (HR.out _ _ st).mono ?_; rintro e v3 ⟨rfl, st⟩; replace st := st.new 0 0; obtain ⟨c1, c2, c3, c4⟩ := st.hd2)
    | (go_at_call 10; with_reducible refine (HG.out _ _ st).mono ?_; rintro e v9 ⟨rfl, st⟩; obtain ⟨c1, c2, c3, c4⟩ := st.hd2)
    | (go_at_call 11; with_reducible refine (HP.out _ _ st).mono ?_; rintro e v4 ⟨rfl, st⟩; obtain ⟨c1, c2, c3, c4⟩ := st.hd2)
    | (go_at_call 9; with_reducible refine (HS.out _ _ st).mono ?_; rintro e v5 ⟨rfl, st⟩; replace st := st.new u2 z2; obtain ⟨d1, d2⟩ := st.hd)
    | (go_at_call 8; with_reducible refine (HW2.out _ _ st).mono ?_; rintro e v6 ⟨rfl, st⟩)
    | (go_at_call 9; with_reducible refine (HR2.out _ _ st).mono ?_; rintro e v7 ⟨rfl, st⟩; replace st := st.new u2 z2; obtain ⟨d1, d2, d3, d4⟩ := st.hd2)
    | (go_at_call 10; with_reducible refine (HG2.out _ _ st).mono ?_; rintro e v8 ⟨rfl, st⟩; obtain ⟨d1, d2, d3, d4⟩ := st.hd2))
  go_ret
  exact ⟨rfl, st.bel⟩
set_option maxHeartbeats 4000000 in
set_option maxRecDepth 1000000 in
theorem back_long (u z : Int) (s : ByteArray) (w : World) (hv : Vars w) (hs : 300 < s.size) :
    Calls Tryz.prog 3 #[.agg #[.int .i64 u, .int .i64 z], .string s] w fun e w' => e = .returned (.bool true) ∧ Below w.heap.size w w' := by
  have st := (Sn.start hv).new u z
  go_enter Tryz.func3, Tryz.ntmps3
  go_wp2_with (go_at_call 7; with_reducible refine (sn_small st).mono ?_; rintro e v1 ⟨rfl, st⟩)
  go_ret
  exact ⟨rfl, st.bel⟩
theorem back_law (u z : Int) (s : ByteArray) (w : World) (hv : Vars w) :
    Calls Tryz.prog 3 #[.agg #[.int .i64 u, .int .i64 z], .string s] w fun e w' => e = .returned (.bool true) ∧ Below w.heap.size w w' := by
  by_cases hs' : 300 < s.size
  · exact back_long u z s w hv hs'
  have hs : s.size ≤ 300 := by omega
  rcases bk_or u z with ⟨r, hA⟩ | hA
  · rcases hC : readV s with _ | ⟨u2, z2⟩
    · exact back_AC u z s hs r hA hC w hv
    · obtain ⟨r2, hD⟩ := bk_read hC
      exact back_AD u z s hs r hA u2 z2 r2 hC hD w hv
  · by_cases hR : Right u z
    · rcases hC : readV s with _ | ⟨u2, z2⟩
      · exact back_B1C u z s hs hA (decide_eq_true hR) hC w hv
      · obtain ⟨r2, hD⟩ := bk_read hC
        exact back_B1D u z s hs hA (decide_eq_true hR) u2 z2 r2 hC hD w hv
    · rcases hC : readV s with _ | ⟨u2, z2⟩
      · exact back_B0C u z s hs hA (decide_eq_false hR) hC w hv
      · obtain ⟨r2, hD⟩ := bk_read hC
        exact back_B0D u z s hs hA (decide_eq_false hR) u2 z2 r2 hC hD w hv
end Go.Proofs.YtnmdljadnlddeaaGreatDoor
