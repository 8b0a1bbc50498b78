/- HeaderGoes: a line that begins with a blank becomes part of the field before it, and what follows is read as if it stood alone. -/
import Derived.Test.YtocghngmjipjoaaDoorGoesL
namespace Go.Proofs.YtocghngmjipjoaaDoor
open Go.ChangeShapes Go.WideShapes Go.ChangeAt Go.RowKit
open LinesP HdrP

set_option maxRecDepth 1000000 in
set_option maxHeartbeats 2000000 in
theorem goes_short (nm val more bh : ByteArray) (h1 : nm.size ≤ 100) (h2 : val.size ≤ 1000) (h3 : more.size ≤ 1000) (h4 : bh.size ≤ 1000) (hn : rightL nm.data.toList = true) (w : World) (hv : Vars w) : Calls Tryd.prog 7 #[.string nm, .string val, .string more, .string bh] w fun e w' => e = .returned (.bool true) ∧ Below w.heap.size w w' := by
  have hS := small_any w hv
  have g1 : ¬ (100 : Int) < (nm.size : Int) := by omega
  have g2 : ¬ (1000 : Int) < (val.size : Int) := by omega
  have g3 : ¬ (1000 : Int) < (more.size : Int) := by omega
  have g4 : ¬ (1000 : Int) < (bh.size : Int) := by omega
  have f3 := fun w => right_any nm w
  rw [hn] at f3
  have cQ := fun w hv => put_any nm val (by omega) (by omega) w hv
  have hpl := put_len nm.data.toList val.data.toList
  rw [← size_list, ← size_list] at hpl
  have hgo := fun (hm : 10 ∉ more.data.toList) (hb : bh.data.toList.head?.any HdrP.blank = false) => put_goes hn val.data.toList more.data.toList bh.data.toList hm hb
  obtain ⟨Q, hQ⟩ : ∃ Q, strL (putL nm.data.toList val.data.toList) = Q := ⟨_, rfl⟩
  have lQ : Q.data.toList = putL nm.data.toList val.data.toList := by rw [← hQ]; rfl
  have hQz : Q.size ≤ 4000 := by rw [← hQ, strL_size]; omega
  rw [← lQ, ← size_list] at hgo
  rw [hQ] at cQ
  have HGO := Lib.hid hgo
  have HQ := Lib.hid cQ
  have HMS := Lib.hid (size_list more)
  clear hgo cQ hQ lQ hpl hn
  go_enter Tryd.func7, Tryd.ntmps7
  go_wp2_with (first
    | (go_at_call 8; (refine hS.mono ?_); rintro e w1 ⟨rfl, hb1⟩; clear hS)
    | (go_at_call 24; (with_reducible refine (f3 _).mono ?_); rintro e w2 ⟨rfl, b2⟩; replace hb1 := hb1.trans (b2.mono hb1.size); clear f3 b2))
  have HB := Lib.hid hb1
  clear hb1 g1 g2 g3 g4
  go_loopw [10] (fun i wr => ∃ k : Nat, k ≤ more.size ∧ i = .int .i64 k ∧ wr = w2 ∧ Hid (10 ∉ more.data.toList.take k)) (fun i _ => more.size - (intOf i).toNat)
  case atStart => exact ⟨0, Nat.zero_le _, rfl, rfl, Lib.hid (by simp)⟩
  case round =>
    obtain ⟨k, hk, rfl, rfl, hno⟩ := hrel
    have F1 : IntKind.i64.wrap ((k : Int) + 1) = (k : Int) + 1 := by rw [IntKind.wrap_i64]; omega
    by_cases hlt : k < more.size
    · have hlt' : (k : Int) < (more.size : Int) := by omega
      obtain ⟨ch, x, hc, hx, _, RI⟩ := run_byte more k hlt
      have e1 := byte_is ch x hx 10 (by decide)
      rw [show ((10 : Nat) : Int) = 10 from rfl] at e1
      by_cases h10 : ch = UInt8.ofNat 10
      · rw [decide_eq_true h10] at e1
        clear hc hx h10
        go_wp2_with fail
        go_ret
        exact ⟨rfl, HB.out⟩
      · rw [decide_eq_false h10] at e1
        have hn2 : Hid (10 ∉ more.data.toList.take (k + 1)) := by
          show ¬ _
          rw [List.take_add_one, hc]
          simp
          exact ⟨hno.out, fun e => h10 e.symm⟩
        clear hc hx h10
        go_wp2_with fail
        go_roundw
        case rel => exact ⟨k + 1, by omega, by go_num, trivial, hn2⟩
        case measure => simp [intOf]; omega
    · obtain rfl : k = more.size := by omega
      have hlt' : ¬ (more.size : Int) < (more.size : Int) := by omega
      have hm : Hid (10 ∉ more.data.toList) := by
        have h := hno.out
        rwa [List.take_of_length_le (by rw [← HMS.out]; exact Nat.le_refl _)] at h
      by_cases h0 : bh.size = 0
      · have hbl : bh.data.toList = [] := List.eq_nil_of_length_eq_zero (by rw [← size_list]; exact h0)
        have he : bh.toList.isEmpty = true := by rw [ByteArray.toList_eq, hbl]; rfl
        have hgg := HGO.out hm.out (by rw [hbl]; rfl)
        clear h0 hbl
        obtain ⟨f, p1, p2, p3, p4⟩ := hgg
        obtain ⟨T1, t1⟩ : ∃ T, Q ++ ⟨#[32]⟩ = T := ⟨_, rfl⟩
        obtain ⟨T2, t2⟩ : ∃ T, T1 ++ more = T := ⟨_, rfl⟩
        obtain ⟨T3, t3⟩ : ∃ T, T2 ++ ⟨#[13, 10]⟩ = T := ⟨_, rfl⟩
        obtain ⟨T4, t4⟩ : ∃ T, T3 ++ bh = T := ⟨_, rfl⟩
        have z1 : T1.size ≤ 5000 := by rw [← t1, ByteArray.size_append]; show _ + 1 ≤ _; omega
        have z2 : T2.size ≤ 6000 := by rw [← t2, ByteArray.size_append]; omega
        have z3 : T3.size ≤ 7000 := by rw [← t3, ByteArray.size_append]; show _ + 2 ≤ _; omega
        have z4 : T4.size ≤ 8000 := by rw [← t4, ByteArray.size_append]; omega
        have l3 : T3.data.toList = Q.data.toList ++ 32 :: more.data.toList ++ [13, 10] := by
          rw [← t3, ← t2, ← t1, list_append, list_append, list_append, show (⟨#[32]⟩ : ByteArray).data.toList = [32] from rfl, show (⟨#[13, 10]⟩ : ByteArray).data.toList = [13, 10] from rfl, List.append_assoc (Q.data.toList), List.singleton_append]
        have l4 : T4.data.toList = Q.data.toList ++ 32 :: more.data.toList ++ [13, 10] ++ bh.data.toList := by rw [← t4, list_append, l3]
        rw [← l4] at p1 p4
        rw [← l3] at p3
        rw [← size_list] at p4
        have hraw : strL f.raw = T3 := by rw [p3, strL_of]
        have hname : strL f.name = nm := by rw [p2, strL_of]
        have cP := fun w hv => parse_is T4 _ _ (by omega) p1 p4 w hv
        have cP2 := fun w hv => parse_any bh (by omega) w hv
        have hAB := at_le bh
        have hRl := fields_few bh.data.toList
        rw [← size_list] at hRl
        generalize atL bh.data.toList = AB at cP cP2 hAB
        generalize parseL bh.data.toList = R at cP cP2 hRl
        obtain ⟨N, hN⟩ : ∃ N, R.length = N := ⟨_, rfl⟩
        rw [List.length_cons, hN] at cP
        rw [hN] at cP2 hRl
        have hM : (((Q.size + more.size + 3 + AB : Nat) : Int) != (Q.size : Int) + (more.size : Int) + 3 + (AB : Int)) = false := by
          rw [bne, Bool.not_eq_false', beq_iff_eq]; omega
        generalize Q.size + more.size + 3 + AB = M at cP hM
        have cP' : ∀ w', Vars w' → Calls Tryd.prog 10 #[.string T4] w' fun e w'' => ∃ g c, e = .returned (.tuple #[.slice (some ⟨g, 0, none⟩) (N + 1) c, .int .i64 M]) ∧ N + 1 ≤ c ∧ FAt w'' g 0 (f :: R) ∧ Below w'.heap.size w' w'' := fun w' hv' => (cP w' hv').mono (by
          rintro e w'' ⟨a, c, rfl, ho, hb'⟩
          have hcap := ho.cap
          obtain ⟨g, rfl, hf⟩ := ho.at (by omega)
          exact ⟨g, c, rfl, hcap, hf, hb'⟩)
        have cS := fun (w : World) (u v : Value) (h : HasF w u R) (k : HasF w v R) => sameF_any h k (show R.length ≤ 1000000 by omega)
        simp only [decide_true] at cS
        have HS := Lib.hid cS
        have HNN := Lib.hid hN
        have HCP := Lib.hid cP'
        have HRN := Lib.hid (And.intro hraw hname)
        have HP2 := Lib.hid cP2
        have cQ := HQ.out wr (hv.keep HB.out)
        have n1 : IntKind.i64.wrap ((N : Int) + 1) = (N : Int) + 1 := by rw [IntKind.wrap_i64]; omega
        have n2 : (T3.toList != T3.toList) = false := by simp
        have n3 : (nm.toList != nm.toList) = false := by simp
        clear p1 p2 p3 p4 l3 l4 hraw hname cP cP' cP2 cS hN
        go_wp2_with (first
          | (go_at_call 22; (with_reducible refine cQ.mono ?_); rintro e w3 ⟨rfl, b3⟩; have hb3 := HB.out.trans (b3.mono HB.out.size); have cP := HCP.out w3 (hv.keep hb3); clear cQ b3 HCP)
          | (go_at_call 10; (with_reducible refine cP.mono ?_); rintro e w4 ⟨g, c, rfl, hcap, hf, b4⟩; have hb4 := hb3.trans (b4.mono hb3.size); clear cP; have cP2 := HP2.out w4 (hv.keep hb4); clear HP2 b4)
          | (go_at_call 10; (with_reducible refine cP2.mono ?_); rintro e w5 ⟨a5, c5, rfl, o5, b5⟩; have hb5 := hb4.trans (b5.mono hb4.size); have hf5 := hf.step b5; clear cP2 b5 hf; obtain ⟨k0, _, k2, _⟩ := hf5 0 f rfl; rw [HRN.out.2] at k0; rw [HRN.out.1] at k2; simp only [Nat.zero_mul, Nat.zero_add, Nat.add_zero] at k0 k2; have hS5 := HS.out w5; clear HS; have HF5 := Lib.hid hf5; clear hf5)
          | (go_at_call 14; (with_reducible refine (hS5 _ _ (tail_has HF5.out HNN.out _) o5.has).mono ?_); rintro e w6 ⟨rfl, b6⟩; have hb6 := hb5.trans (b6.mono hb5.size))
          | (go_at_call 14; (with_reducible refine (hS5 _ _ (none_has' HNN.out (by omega)) o5.has).mono ?_); rintro e w6 ⟨rfl, b6⟩; have hb6 := hb5.trans (b6.mono hb5.size)))
        all_goals
          go_ret
          exact ⟨rfl, hb6⟩
      · have h0' : 0 < bh.size := by omega
        have he : bh.toList.isEmpty = false := by
          rw [ByteArray.toList_eq]
          cases hl : bh.data.toList with
          | nil => have := size_list bh; rw [hl] at this; exact absurd this h0
          | cons a b => rfl
        have RB := run_index_str bh 0 0 rfl h0'
        have hhd : bh.data.toList.head?.any HdrP.blank = HdrP.blank (bh[0]'h0') := by
          have h2 : bh.data.toList = bh[0]'h0' :: bh.data.toList.drop 1 := by
            have := drop_cons bh 0 h0'
            rwa [List.drop_zero] at this
          rw [h2]; rfl
        have cB := fun w => rblank_any (bh[0]'h0') _ rfl w
        rw [← hhd] at cB
        generalize (bh[0]'h0').toNat = y at RB cB
        by_cases hbb : bh.data.toList.head?.any HdrP.blank = true
        · rw [hbb] at cB
          clear hhd hbb
          go_wp2_with (go_at_call 32; (refine (cB _).mono ?_); rintro e w9 ⟨rfl, hw⟩; rw [← hw]; clear hw w9 cB)
          go_ret
          exact ⟨rfl, HB.out⟩
        · have hbb' : bh.data.toList.head?.any HdrP.blank = false := by simpa using hbb
          rw [hbb'] at cB
          have hgg := HGO.out hm.out hbb'
          clear hhd hbb hbb' h0
          obtain ⟨f, p1, p2, p3, p4⟩ := hgg
          obtain ⟨T1, t1⟩ : ∃ T, Q ++ ⟨#[32]⟩ = T := ⟨_, rfl⟩
          obtain ⟨T2, t2⟩ : ∃ T, T1 ++ more = T := ⟨_, rfl⟩
          obtain ⟨T3, t3⟩ : ∃ T, T2 ++ ⟨#[13, 10]⟩ = T := ⟨_, rfl⟩
          obtain ⟨T4, t4⟩ : ∃ T, T3 ++ bh = T := ⟨_, rfl⟩
          have z1 : T1.size ≤ 5000 := by rw [← t1, ByteArray.size_append]; show _ + 1 ≤ _; omega
          have z2 : T2.size ≤ 6000 := by rw [← t2, ByteArray.size_append]; omega
          have z3 : T3.size ≤ 7000 := by rw [← t3, ByteArray.size_append]; show _ + 2 ≤ _; omega
          have z4 : T4.size ≤ 8000 := by rw [← t4, ByteArray.size_append]; omega
          have l3 : T3.data.toList = Q.data.toList ++ 32 :: more.data.toList ++ [13, 10] := by
            rw [← t3, ← t2, ← t1, list_append, list_append, list_append, show (⟨#[32]⟩ : ByteArray).data.toList = [32] from rfl, show (⟨#[13, 10]⟩ : ByteArray).data.toList = [13, 10] from rfl, List.append_assoc (Q.data.toList), List.singleton_append]
          have l4 : T4.data.toList = Q.data.toList ++ 32 :: more.data.toList ++ [13, 10] ++ bh.data.toList := by rw [← t4, list_append, l3]
          rw [← l4] at p1 p4
          rw [← l3] at p3
          rw [← size_list] at p4
          have hraw : strL f.raw = T3 := by rw [p3, strL_of]
          have hname : strL f.name = nm := by rw [p2, strL_of]
          have cP := fun w hv => parse_is T4 _ _ (by omega) p1 p4 w hv
          have cP2 := fun w hv => parse_any bh (by omega) w hv
          have hAB := at_le bh
          have hRl := fields_few bh.data.toList
          rw [← size_list] at hRl
          generalize atL bh.data.toList = AB at cP cP2 hAB
          generalize parseL bh.data.toList = R at cP cP2 hRl
          obtain ⟨N, hN⟩ : ∃ N, R.length = N := ⟨_, rfl⟩
          rw [List.length_cons, hN] at cP
          rw [hN] at cP2 hRl
          have hM : (((Q.size + more.size + 3 + AB : Nat) : Int) != (Q.size : Int) + (more.size : Int) + 3 + (AB : Int)) = false := by
            rw [bne, Bool.not_eq_false', beq_iff_eq]; omega
          generalize Q.size + more.size + 3 + AB = M at cP hM
          have cP' : ∀ w', Vars w' → Calls Tryd.prog 10 #[.string T4] w' fun e w'' => ∃ g c, e = .returned (.tuple #[.slice (some ⟨g, 0, none⟩) (N + 1) c, .int .i64 M]) ∧ N + 1 ≤ c ∧ FAt w'' g 0 (f :: R) ∧ Below w'.heap.size w' w'' := fun w' hv' => (cP w' hv').mono (by
            rintro e w'' ⟨a, c, rfl, ho, hb'⟩
            have hcap := ho.cap
            obtain ⟨g, rfl, hf⟩ := ho.at (by omega)
            exact ⟨g, c, rfl, hcap, hf, hb'⟩)
          have cS := fun (w : World) (u v : Value) (h : HasF w u R) (k : HasF w v R) => sameF_any h k (show R.length ≤ 1000000 by omega)
          simp only [decide_true] at cS
          have HS := Lib.hid cS
          have HNN := Lib.hid hN
          have HCP := Lib.hid cP'
          have HRN := Lib.hid (And.intro hraw hname)
          have HP2 := Lib.hid cP2
          have cQ := HQ.out wr (hv.keep HB.out)
          have n1 : IntKind.i64.wrap ((N : Int) + 1) = (N : Int) + 1 := by rw [IntKind.wrap_i64]; omega
          have n2 : (T3.toList != T3.toList) = false := by simp
          have n3 : (nm.toList != nm.toList) = false := by simp
          clear p1 p2 p3 p4 l3 l4 hraw hname cP cP' cP2 cS hN
          go_wp2_with (first
            | (go_at_call 32; (refine (cB _).mono ?_); rintro e w9 ⟨rfl, hw⟩; rw [← hw]; clear hw w9 cB)
            | (go_at_call 22; (with_reducible refine cQ.mono ?_); rintro e w3 ⟨rfl, b3⟩; have hb3 := HB.out.trans (b3.mono HB.out.size); have cP := HCP.out w3 (hv.keep hb3); clear cQ b3 HCP)
            | (go_at_call 10; (with_reducible refine cP.mono ?_); rintro e w4 ⟨g, c, rfl, hcap, hf, b4⟩; have hb4 := hb3.trans (b4.mono hb3.size); clear cP; have cP2 := HP2.out w4 (hv.keep hb4); clear HP2 b4)
            | (go_at_call 10; (with_reducible refine cP2.mono ?_); rintro e w5 ⟨a5, c5, rfl, o5, b5⟩; have hb5 := hb4.trans (b5.mono hb4.size); have hf5 := hf.step b5; clear cP2 b5 hf; obtain ⟨k0, _, k2, _⟩ := hf5 0 f rfl; rw [HRN.out.2] at k0; rw [HRN.out.1] at k2; simp only [Nat.zero_mul, Nat.zero_add, Nat.add_zero] at k0 k2; have hS5 := HS.out w5; clear HS; have HF5 := Lib.hid hf5; clear hf5)
            | (go_at_call 14; (with_reducible refine (hS5 _ _ (tail_has HF5.out HNN.out _) o5.has).mono ?_); rintro e w6 ⟨rfl, b6⟩; have hb6 := hb5.trans (b6.mono hb5.size))
            | (go_at_call 14; (with_reducible refine (hS5 _ _ (none_has' HNN.out (by omega)) o5.has).mono ?_); rintro e w6 ⟨rfl, b6⟩; have hb6 := hb5.trans (b6.mono hb5.size)))
          all_goals
            go_ret
            exact ⟨rfl, hb6⟩
theorem goes_any (nm val more bh : ByteArray) (w : World) (hv : Vars w) : Calls Tryd.prog 7 #[.string nm, .string val, .string more, .string bh] w fun e w' => e = .returned (.bool true) ∧ Below w.heap.size w w' := by
  by_cases h : nm.size ≤ 100 ∧ val.size ≤ 1000 ∧ more.size ≤ 1000 ∧ bh.size ≤ 1000 ∧ rightL nm.data.toList = true
  · exact goes_short nm val more bh h.1 h.2.1 h.2.2.1 h.2.2.2.1 h.2.2.2.2 w hv
  · exact goes_long nm val more bh h w hv
end Go.Proofs.YtocghngmjipjoaaDoor
