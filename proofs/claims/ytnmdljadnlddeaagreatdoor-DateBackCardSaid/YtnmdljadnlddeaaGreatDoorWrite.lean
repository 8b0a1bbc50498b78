/- Write: a time as text. -/
import Derived.Test.YtnmdljadnlddeaaGreatDoorWriteP
import Derived.Test.YtnmdljadnlddeaaGreatDoorNames
import Derived.Deep.RegionHeld3
import Derived.BigQuiet
namespace Go.Proofs.YtnmdljadnlddeaaGreatDoor
open Go.ChangeShapes Go.WideShapes Go.ChangeAt Go.RowKit
open DateP (two d1 zoneL Right writeL dayNames monNames)

theorem write_no (u z : Int) (h : partV u z 1 = 0) (w : World) :
    Calls Tryz.prog 8 #[timeV u z] w fun e w' => e = .returned (.string ⟨#[]⟩) ∧ Below w.heap.size w w' := by
  have HP := Lib.hid (part_any u z 1 (by omega) 1 rfl 0 h)
  unfold timeV at HP ⊢
  go_enter Tryz.func8, Tryz.ntmps8
  go_wp2_with (go_at_call 11; refine (HP.out _).mono ?_; rintro e w1 ⟨rfl, hb⟩)
  go_ret
  exact ⟨rfl, Qtrans ((Below.refl _ _).alloc (Nat.le_refl _) _) hb⟩

/-- While Write runs: its parameter's cell, the variables, all older memory. -/
structure Wr (w0 w : World) (u z : Int) : Prop where
  vars : Vars w0
  bel : Below w0.heap.size w0 w
  tm : Tm w w0.heap.size u z
theorem Wr.v {w0 w : World} {u z : Int} (h : Wr w0 w u z) : Vars w := h.vars.below h.bel
theorem Wr.call {w0 w w' : World} {u z : Int} (h : Wr w0 w u z) (hb : Below w.heap.size w w') : Wr w0 w' u z := ⟨h.vars, h.bel.trans (hb.mono h.bel.size), h.tm.below hb⟩
theorem Wr.drew {w0 w : World} {u z : Int} (h : Wr w0 w u z) : Wr w0 w.drew u z := h.call (Below.refl _ _).drew
theorem row_cell {w : World} {b i : Nat} {cs : Array Value} {T : TypeId} {fr : Nat × Nat} (h : w.heap[b]? = some (.cells cs T fr)) : w.cell? ⟨b, i, none⟩ = cs[i]? := by
  unfold World.cell?; rw [h]; rfl
theorem Wr.day {w0 w : World} {u z : Int} (h : Wr w0 w u z) (k : Nat) (hk : k < 7) : w.cell? ⟨0, k, none⟩ = some (strV (dayNames.getD k [])) := by
  obtain ⟨T, fr, hd⟩ := h.v.days
  rw [row_cell hd]
  exact vs_at dayNames k hk
theorem Wr.mon {w0 w : World} {u z : Int} (h : Wr w0 w u z) (k : Nat) (hk : k < 12) : w.cell? ⟨1, k, none⟩ = some (strV (monNames.getD k [])) := by
  obtain ⟨T, fr, hd⟩ := h.v.mons
  rw [row_cell hd]
  exact vs_at monNames k hk
theorem add_strL (a b : List UInt8) (h : a.length + b.length ≤ 1000) (W : World) : (Op.stringOp .add (strL a) (strL b)).run Tryz.prog W = .ok (.string (strL (a ++ b))) W := by
  rw [add_str _ _ (by rw [strL_size, strL_size]; exact h) W, strL_append]
set_option maxHeartbeats 8000000 in
set_option maxRecDepth 1000000 in
theorem write_yes (u z : Int) (hr : Right u z) (y m d : Nat) (hI : DateP.Is y m d) (hn : DateP.num y m d = dayV u z) (w : World) (hv : Vars w) :
    Calls Tryz.prog 8 #[timeV u z] w fun e w' => e = .returned (.string (strL (writeL (wkV (dayV u z)).toNat d m y (secV u z).toNat z))) ∧ Below w.heap.size w w' := by
  have hc : civV (dayV u z) = (y, m, d) := by rw [← hn]; exact civV_num hI
  have hwk := wkV_range (dayV u z)
  have hsc := secV_range u z
  obtain ⟨y1, y2, m1, m2, d1', d2⟩ := hI
  have h31 := (DateP.mlen_pos y m).2
  obtain ⟨K, hK⟩ : ∃ K, (wkV (dayV u z)).toNat = K := ⟨_, rfl⟩
  obtain ⟨S, hS⟩ : ∃ S, (secV u z).toNat = S := ⟨_, rfl⟩
  have hK2 : wkV (dayV u z) = (K : Int) := by omega
  have hS2 : secV u z = (S : Int) := by omega
  have p1 : partV u z 1 = (y : Int) := by unfold partV; rw [if_pos hr, hc]; rfl
  have p2 : partV u z 2 = (m : Int) := by unfold partV; rw [if_pos hr, hc]; rfl
  have p3 : partV u z 3 = (d : Int) := by unfold partV; rw [if_pos hr, hc]; rfl
  have p4 : partV u z 4 = ((S / 3600 : Nat) : Int) := by unfold partV; rw [if_pos hr, hS2]; show (S : Int) / 3600 = _; omega
  have p5 : partV u z 5 = ((S % 3600 / 60 : Nat) : Int) := by unfold partV; rw [if_pos hr, hS2]; show (S : Int) % 3600 / 60 = _; omega
  have p6 : partV u z 6 = ((S % 60 : Nat) : Int) := by unfold partV; rw [if_pos hr, hS2]; show (S : Int) % 60 = _; omega
  have p7 : partV u z 7 = (K : Int) := by unfold partV; rw [if_pos hr]; exact hK2
  have hK7 : K < 7 := by omega
  have hS3 : S < 86400 := by omega
  rw [hK, hS]
  have HY := Lib.hid (part_any u z 1 (by omega) 1 rfl y p1)
  have HM := Lib.hid (part_any u z 2 (by omega) 2 rfl m p2)
  have HW := Lib.hid (part_any u z 7 (by omega) 7 rfl K p7)
  have C3 := Lib.hid (fun Q => clos_any u z w.heap.size 3 (by omega) 3 rfl d p3 2 (by omega) (by omega) _ (pad2 d (by omega)) Q)
  have C1 := Lib.hid (fun Q => clos_any u z w.heap.size 1 (by omega) 1 rfl y p1 4 (by omega) (by omega) _ (pad4 y (by omega)) Q)
  have C4 := Lib.hid (fun Q => clos_any u z w.heap.size 4 (by omega) 4 rfl _ p4 2 (by omega) (by omega) _ (pad2 (S / 3600) (by omega)) Q)
  have C5 := Lib.hid (fun Q => clos_any u z w.heap.size 5 (by omega) 5 rfl _ p5 2 (by omega) (by omega) _ (pad2 (S % 3600 / 60) (by omega)) Q)
  have C6 := Lib.hid (fun Q => clos_any u z w.heap.size 6 (by omega) 6 rfl _ p6 2 (by omega) (by omega) _ (pad2 (S % 60) (by omega)) Q)
  have HZ := Lib.hid (fun Q hQ => zone_text z hr.2.2.1 hr.2.2.2 Q hQ)
  have HS := Lib.hid (show Wr w (w.alloc (.cells #[.int .i64 u, .int .i64 z] 23)) u z from ⟨hv, (Below.refl _ _).alloc (Nat.le_refl _) _, tm_new w u z⟩)
  obtain ⟨DN, hDN⟩ : ∃ DN, dayNames.getD K [] = DN := ⟨_, rfl⟩
  obtain ⟨MN, hMN⟩ : ∃ MN, monNames.getD (m - 1) [] = MN := ⟨_, rfl⟩
  have hDNl : DN.length = 3 := by rw [← hDN]; exact (day_names _ (getD_mem dayNames K hK7)).1
  have hMNl : MN.length = 3 := by rw [← hMN]; exact (mon_names _ (getD_mem monNames (m - 1) (by show m - 1 < 12; omega))).1
  obtain ⟨D2, hD2⟩ : ∃ D2, two d = D2 := ⟨_, rfl⟩
  obtain ⟨Y4, hY4⟩ : ∃ Y4, two (y / 100) ++ two (y % 100) = Y4 := ⟨_, rfl⟩
  obtain ⟨A4, hA4⟩ : ∃ A4, two (S / 3600) = A4 := ⟨_, rfl⟩
  obtain ⟨A5, hA5⟩ : ∃ A5, two (S % 3600 / 60) = A5 := ⟨_, rfl⟩
  obtain ⟨A6, hA6⟩ : ∃ A6, two (S % 60) = A6 := ⟨_, rfl⟩
  obtain ⟨ZL, hZL⟩ : ∃ ZL, zoneL z = ZL := ⟨_, rfl⟩
  have hfin : writeL K d m y S z = DN ++ [44, 32] ++ D2 ++ [32] ++ MN ++ [32] ++ Y4 ++ [32] ++ (A4 ++ [58] ++ A5 ++ [58] ++ A6) ++ [32] ++ ZL := by
    unfold writeL
    rw [hDN, hMN, hD2, hY4, hA4, hA6, hZL, show S / 60 % 60 = S % 3600 / 60 by omega, hA5]
    simp
  have hD2l : D2.length = 2 := by rw [← hD2]; rfl
  have hY4l : Y4.length = 4 := by rw [← hY4]; rfl
  have hA4l : A4.length = 2 := by rw [← hA4]; rfl
  have hA5l : A5.length = 2 := by rw [← hA5]; rfl
  have hA6l : A6.length = 2 := by rw [← hA6]; rfl
  have hZLl : ZL.length = 5 := by rw [← hZL]; rfl
  obtain ⟨T1, hT1⟩ : ∃ T1, DN ++ ([44, 32] : List UInt8) = T1 := ⟨_, rfl⟩
  have hT1l : T1.length = 5 := by rw [← hT1, List.length_append, hDNl]; rfl
  have aT1 : ∀ Q, (Op.stringOp .add (strL DN) ⟨#[44, 32]⟩).run Tryz.prog Q = .ok (.string (strL T1)) Q := fun Q => by rw [← hT1]; exact add_strL DN [44, 32] (by rw [hDNl]; decide) Q
  obtain ⟨T2, hT2⟩ : ∃ T2, T1 ++ D2 = T2 := ⟨_, rfl⟩
  have hT2l : T2.length = 7 := by rw [← hT2, List.length_append, hT1l, hD2l]
  have aT2 : ∀ Q, (Op.stringOp .add (strL T1) (strL D2)).run Tryz.prog Q = .ok (.string (strL T2)) Q := fun Q => by rw [← hT2]; exact add_strL T1 D2 (by rw [hT1l, hD2l]; decide) Q
  obtain ⟨T3, hT3⟩ : ∃ T3, T2 ++ ([32] : List UInt8) = T3 := ⟨_, rfl⟩
  have hT3l : T3.length = 8 := by rw [← hT3, List.length_append, hT2l]; rfl
  have aT3 : ∀ Q, (Op.stringOp .add (strL T2) ⟨#[32]⟩).run Tryz.prog Q = .ok (.string (strL T3)) Q := fun Q => by rw [← hT3]; exact add_strL T2 [32] (by rw [hT2l]; decide) Q
  obtain ⟨T4, hT4⟩ : ∃ T4, T3 ++ MN = T4 := ⟨_, rfl⟩
  have hT4l : T4.length = 11 := by rw [← hT4, List.length_append, hT3l, hMNl]
  have aT4 : ∀ Q, (Op.stringOp .add (strL T3) (strL MN)).run Tryz.prog Q = .ok (.string (strL T4)) Q := fun Q => by rw [← hT4]; exact add_strL T3 MN (by rw [hT3l, hMNl]; decide) Q
  obtain ⟨T5, hT5⟩ : ∃ T5, T4 ++ ([32] : List UInt8) = T5 := ⟨_, rfl⟩
  have hT5l : T5.length = 12 := by rw [← hT5, List.length_append, hT4l]; rfl
  have aT5 : ∀ Q, (Op.stringOp .add (strL T4) ⟨#[32]⟩).run Tryz.prog Q = .ok (.string (strL T5)) Q := fun Q => by rw [← hT5]; exact add_strL T4 [32] (by rw [hT4l]; decide) Q
  obtain ⟨T6, hT6⟩ : ∃ T6, T5 ++ Y4 = T6 := ⟨_, rfl⟩
  have hT6l : T6.length = 16 := by rw [← hT6, List.length_append, hT5l, hY4l]
  have aT6 : ∀ Q, (Op.stringOp .add (strL T5) (strL Y4)).run Tryz.prog Q = .ok (.string (strL T6)) Q := fun Q => by rw [← hT6]; exact add_strL T5 Y4 (by rw [hT5l, hY4l]; decide) Q
  obtain ⟨U1, hU1⟩ : ∃ U1, A4 ++ ([58] : List UInt8) = U1 := ⟨_, rfl⟩
  have hU1l : U1.length = 3 := by rw [← hU1, List.length_append, hA4l]; rfl
  have aU1 : ∀ Q, (Op.stringOp .add (strL A4) ⟨#[58]⟩).run Tryz.prog Q = .ok (.string (strL U1)) Q := fun Q => by rw [← hU1]; exact add_strL A4 [58] (by rw [hA4l]; decide) Q
  obtain ⟨U2, hU2⟩ : ∃ U2, U1 ++ A5 = U2 := ⟨_, rfl⟩
  have hU2l : U2.length = 5 := by rw [← hU2, List.length_append, hU1l, hA5l]
  have aU2 : ∀ Q, (Op.stringOp .add (strL U1) (strL A5)).run Tryz.prog Q = .ok (.string (strL U2)) Q := fun Q => by rw [← hU2]; exact add_strL U1 A5 (by rw [hU1l, hA5l]; decide) Q
  obtain ⟨U3, hU3⟩ : ∃ U3, U2 ++ ([58] : List UInt8) = U3 := ⟨_, rfl⟩
  have hU3l : U3.length = 6 := by rw [← hU3, List.length_append, hU2l]; rfl
  have aU3 : ∀ Q, (Op.stringOp .add (strL U2) ⟨#[58]⟩).run Tryz.prog Q = .ok (.string (strL U3)) Q := fun Q => by rw [← hU3]; exact add_strL U2 [58] (by rw [hU2l]; decide) Q
  obtain ⟨U4, hU4⟩ : ∃ U4, U3 ++ A6 = U4 := ⟨_, rfl⟩
  have hU4l : U4.length = 8 := by rw [← hU4, List.length_append, hU3l, hA6l]
  have aU4 : ∀ Q, (Op.stringOp .add (strL U3) (strL A6)).run Tryz.prog Q = .ok (.string (strL U4)) Q := fun Q => by rw [← hU4]; exact add_strL U3 A6 (by rw [hU3l, hA6l]; decide) Q
  obtain ⟨V1, hV1⟩ : ∃ V1, T6 ++ ([32] : List UInt8) = V1 := ⟨_, rfl⟩
  have hV1l : V1.length = 17 := by rw [← hV1, List.length_append, hT6l]; rfl
  have aV1 : ∀ Q, (Op.stringOp .add (strL T6) ⟨#[32]⟩).run Tryz.prog Q = .ok (.string (strL V1)) Q := fun Q => by rw [← hV1]; exact add_strL T6 [32] (by rw [hT6l]; decide) Q
  obtain ⟨V2, hV2⟩ : ∃ V2, V1 ++ U4 = V2 := ⟨_, rfl⟩
  have hV2l : V2.length = 25 := by rw [← hV2, List.length_append, hV1l, hU4l]
  have aV2 : ∀ Q, (Op.stringOp .add (strL V1) (strL U4)).run Tryz.prog Q = .ok (.string (strL V2)) Q := fun Q => by rw [← hV2]; exact add_strL V1 U4 (by rw [hV1l, hU4l]; decide) Q
  obtain ⟨V3, hV3⟩ : ∃ V3, V2 ++ ([32] : List UInt8) = V3 := ⟨_, rfl⟩
  have hV3l : V3.length = 26 := by rw [← hV3, List.length_append, hV2l]; rfl
  have aV3 : ∀ Q, (Op.stringOp .add (strL V2) ⟨#[32]⟩).run Tryz.prog Q = .ok (.string (strL V3)) Q := fun Q => by rw [← hV3]; exact add_strL V2 [32] (by rw [hV2l]; decide) Q
  obtain ⟨V4, hV4⟩ : ∃ V4, V3 ++ ZL = V4 := ⟨_, rfl⟩
  have hV4l : V4.length = 31 := by rw [← hV4, List.length_append, hV3l, hZLl]
  have aV4 : ∀ Q, (Op.stringOp .add (strL V3) (strL ZL)).run Tryz.prog Q = .ok (.string (strL V4)) Q := fun Q => by rw [← hV4]; exact add_strL V3 ZL (by rw [hV3l, hZLl]; decide) Q
  have hV : DN ++ [44, 32] ++ D2 ++ [32] ++ MN ++ [32] ++ Y4 ++ [32] ++ (A4 ++ [58] ++ A5 ++ [58] ++ A6) ++ [32] ++ ZL = V4 := by
    rw [hT1, hT2, hT3, hT4, hT5, hT6, hU1, hU2, hU3, hU4, hV1, hV2, hV3, hV4]
  rw [hfin, hV]
  rw [hD2] at C3
  rw [hY4] at C1
  rw [hA4] at C4
  rw [hA5] at C5
  rw [hA6] at C6
  rw [hZL] at HZ
  have KM := Lib.hid (fun Q (h : Wr w Q u z) => (HM.out Q).mono fun e Q' (h' : e = .returned (.int .i64 (m : Int)) ∧ Below Q.heap.size Q Q') => (⟨h'.1, h.call h'.2⟩ : e = .returned (.int .i64 (m : Int)) ∧ Wr w Q' u z))
  have KW := Lib.hid (fun Q (h : Wr w Q u z) => (HW.out Q).mono fun e Q' (h' : e = .returned (.int .i64 (K : Int)) ∧ Below Q.heap.size Q Q') => (⟨h'.1, h.call h'.2⟩ : e = .returned (.int .i64 (K : Int)) ∧ Wr w Q' u z))
  have KY := Lib.hid (fun Q (h : Wr w Q u z) => (HY.out Q).mono fun e Q' (h' : e = .returned (.int .i64 (y : Int)) ∧ Below Q.heap.size Q Q') => (⟨h'.1, h.call h'.2⟩ : e = .returned (.int .i64 (y : Int)) ∧ Wr w Q' u z))
  have K3 := Lib.hid (fun Q (h : Wr w Q u z) => (C3.out Q h.v h.tm).mono fun e Q' (h' : e = .returned (.string (strL D2)) ∧ Below Q.heap.size Q Q') => (⟨h'.1, h.call h'.2⟩ : e = .returned (.string (strL D2)) ∧ Wr w Q' u z))
  have K1 := Lib.hid (fun Q (h : Wr w Q u z) => (C1.out Q h.v h.tm).mono fun e Q' (h' : e = .returned (.string (strL Y4)) ∧ Below Q.heap.size Q Q') => (⟨h'.1, h.call h'.2⟩ : e = .returned (.string (strL Y4)) ∧ Wr w Q' u z))
  have K4 := Lib.hid (fun Q (h : Wr w Q u z) => (C4.out Q h.v h.tm).mono fun e Q' (h' : e = .returned (.string (strL A4)) ∧ Below Q.heap.size Q Q') => (⟨h'.1, h.call h'.2⟩ : e = .returned (.string (strL A4)) ∧ Wr w Q' u z))
  have K5 := Lib.hid (fun Q (h : Wr w Q u z) => (C5.out Q h.v h.tm).mono fun e Q' (h' : e = .returned (.string (strL A5)) ∧ Below Q.heap.size Q Q') => (⟨h'.1, h.call h'.2⟩ : e = .returned (.string (strL A5)) ∧ Wr w Q' u z))
  have K6 := Lib.hid (fun Q (h : Wr w Q u z) => (C6.out Q h.v h.tm).mono fun e Q' (h' : e = .returned (.string (strL A6)) ∧ Below Q.heap.size Q Q') => (⟨h'.1, h.call h'.2⟩ : e = .returned (.string (strL A6)) ∧ Wr w Q' u z))
  have KZ := Lib.hid (fun Q (h : Wr w Q u z) => (HZ.out Q h.v).mono fun e Q' (h' : e = .returned (.string (strL ZL)) ∧ Below Q.heap.size Q Q') => (⟨h'.1, h.call h'.2⟩ : e = .returned (.string (strL ZL)) ∧ Wr w Q' u z))
  have HK := Lib.hid (show ∀ Q, Wr w Q u z → Hid (Wr w Q u z) ∧ Q.cell? ⟨w.heap.size, 0, none⟩ = some (.int .i64 u) ∧ Q.cell? ⟨w.heap.size, 1, none⟩ = some (.int .i64 z) ∧ Q.cell? ⟨0, K, none⟩ = some (.string (strL DN)) ∧ Q.cell? ⟨1, m - 1, none⟩ = some (.string (strL MN)) from
    fun Q h => ⟨h, h.tm.c0, h.tm.c1, by rw [h.day K hK7, hDN]; rfl, by rw [h.mon (m - 1) (by omega), hMN]; rfl⟩)
  have j0 : (0 : Int) ≤ (K : Int) := by omega
  have j1 : (K : Int) < 7 := by omega
  obtain ⟨M, hM⟩ : ∃ M, m - 1 = M := ⟨_, rfl⟩
  rw [hM] at HK
  rw [show (m : Int) = (M : Int) + 1 by omega] at KM
  have j2 : IntKind.i64.wrap ((M : Int) + 1 - 1) = (M : Int) := by rw [IntWalk.i64_in _ (by omega)]; omega
  have j2w : IntKind.i64.wrap (M : Int) = (M : Int) := IntWalk.i64_in _ (by omega)
  have j3 : (M : Int) < 12 := by omega
  have j4 : (0 : Int) ≤ (M : Int) := by omega
  have ny : ((y : Int) == 0) = false := beq_eq_false_iff_ne.2 (by omega)
  unfold timeV at KM KW KY ⊢
  clear HM HW HY C1 C3 C4 C5 C6 HZ hfin hV hc hwk hsc y1 y2 m1 m2 d1' d2 h31 hK hS hK2 hS2 p1 p2 p3 p4 p5 p6 p7 hDN hMN hD2 hY4 hA4 hA5 hA6 hZL hM hn hr hv hK7 hS3
  clear hT1 hT1l hT2 hT2l hT3 hT3l hT4 hT4l hT5 hT5l hT6 hT6l hU1 hU1l hU2 hU2l hU3 hU3l hU4 hU4l hV1 hV1l hV2 hV2l hV3 hV3l hV4 hV4l hDNl hMNl hD2l hY4l hA4l hA5l hA6l hZLl
  go_enter Tryz.func8, Tryz.ntmps8
  go_wp2_with (go_at_call 11; refine (KY.out _ HS.out).mono ?_; rintro e w1 ⟨rfl, hst⟩)
  obtain ⟨l0, l1, l2, l3, l4⟩ := HK.out _ hst
  go_region_held3 (fun Q => Hid (Wr w Q u z) ∧ Q.cell? ⟨w.heap.size, 0, none⟩ = some (.int .i64 u) ∧ Q.cell? ⟨w.heap.size, 1, none⟩ = some (.int .i64 z) ∧ Q.cell? ⟨0, K, none⟩ = some (.string (strL DN)) ∧ Q.cell? ⟨1, M, none⟩ = some (.string (strL MN)))
    (first | exact HK.out _ hst | exact HK.out _ hst.drew | exact HK.out _ (by assumption) | exact HK.out _ (Wr.drew (by assumption)))
    (first
      | (go_at_call 11; with_reducible refine (KW.out _ (by first | exact hst.drew | exact Wr.drew (by assumption) | assumption)).mono ?_; rintro e w5 ⟨rfl, hs5⟩; obtain ⟨_, k1, k2, k3, k4⟩ := HK.out _ hs5)
      | (go_at_call 11; with_reducible refine (KM.out _ (by first | assumption | exact hst.drew)).mono ?_; rintro e w6 ⟨rfl, hs6⟩; obtain ⟨_, k1, k2, k3, k4⟩ := HK.out _ hs6)
      | (go_at_call 15; with_reducible refine (K3.out _ (by first | assumption | exact hst.drew)).mono ?_; rintro e w7 ⟨rfl, hs7⟩; obtain ⟨_, k1, k2, k3, k4⟩ := HK.out _ hs7)
      | (go_at_call 15; with_reducible refine (K1.out _ (by first | assumption | exact hst.drew)).mono ?_; rintro e w8 ⟨rfl, hs8⟩; obtain ⟨_, k1, k2, k3, k4⟩ := HK.out _ hs8))
  go_wp2_with (first
    | (go_at_call 15; with_reducible refine (K4.out _ hs8).mono ?_; rintro e w9 ⟨rfl, hs9⟩)
    | (go_at_call 15; with_reducible refine (K5.out _ hs9).mono ?_; rintro e w10 ⟨rfl, hs10⟩)
    | (go_at_call 15; with_reducible refine (K6.out _ hs10).mono ?_; rintro e w11 ⟨rfl, hs11⟩; have q1 := hs11.tm.c1)
    | (go_at_call 17; with_reducible refine (KZ.out _ hs11).mono ?_; rintro e w12 ⟨rfl, hs12⟩))
  go_ret
  exact ⟨rfl, hs12.bel⟩
end Go.Proofs.YtnmdljadnlddeaaGreatDoor
