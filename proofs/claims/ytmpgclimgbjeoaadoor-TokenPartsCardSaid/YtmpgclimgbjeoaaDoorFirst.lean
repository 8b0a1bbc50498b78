/- first: the kind and the length of the first token. -/
import Derived.Test.YtmpgclimgbjeoaaDoorEncl
import Derived.Test.YtmpgclimgbjeoaaDoorPref
namespace Go.Proofs.YtmpgclimgbjeoaaDoor
open Go.ChangeShapes Go.WideShapes Go.ChangeAt Go.RowKit
open TokP

theorem encl_len (K : Int) (c : UInt8) (t : List UInt8) (n : Nat) (hn : n = (c :: t).length) (hK : (kindO c : Int) = K) (hb : ¬ TokP.blank c = true) (ho : opens c = true) :
    enclV K n (closeS (closer c) (c == 40) false 0 t) = .tuple #[.int .i64 ((frontL (c :: t)).kind : Nat), .int .i64 ((frontL (c :: t)).text.length : Nat)] := by
  rw [frontL, if_neg hb, if_pos ho]
  unfold closeL
  cases h : closeS (closer c) (c == 40) false 0 t with
  | none => rw [hn]; rfl
  | some m =>
    have := (close_le _ _ t _ _ m h).2
    show Value.tuple #[.int .i64 K, .int .i64 ((m : Int) + 1)] = .tuple #[.int .i64 (kindO c : Nat), .int .i64 ((c :: t.take m).length : Nat)]
    rw [hK, List.length_cons, List.length_take, Nat.min_eq_left this]
    rfl
theorem opens_cases (c : UInt8) : opens c = true → c = 40 ∨ c = 34 ∨ c = 91 := by
  unfold opens
  simp only [Bool.or_eq_true, beq_iff_eq]
  rintro ((h | h) | h)
  · exact .inl h
  · exact .inr (.inl h)
  · exact .inr (.inr h)
set_option maxHeartbeats 2000000 in
theorem first_any (s : ByteArray) (hs : s.size ≤ 1000000) (h0 : 0 < s.size) (w : World) :
    Calls Tryd.prog 21 #[.string s] w fun e w' => e = .returned (.tuple #[.int .i64 ((frontL s.data.toList).kind : Nat), .int .i64 ((frontL s.data.toList).text.length : Nat)]) ∧ w = w' := by
  obtain ⟨c, x, t, hl, hx, hx2, S1⟩ := run_byte0 s h0
  have cW := isWhite_any c x hx
  have cS := isSpecial_any c x hx
  have cA := isAtom_any c x hx
  have e40 := byte_is c x hx 40 (by decide)
  have e34 := byte_is c x hx 34 (by decide)
  have e91 := byte_is c x hx 91 (by decide)
  rw [show ((40 : Nat) : Int) = 40 from rfl] at e40
  rw [show ((34 : Nat) : Int) = 34 from rfl] at e34
  rw [show ((91 : Nat) : Int) = 91 from rfl] at e91
  have hsz : s.size = (c :: t).length := by rw [size_list, hl]
  by_cases hw : TokP.blank c = true
  · have cP := pre_white s hs
    rw [hl] at cP
    have HF : Hid (frontL s.data.toList = ⟨6, (c :: t).takeWhile TokP.blank⟩) := by
      show _ = _
      rw [hl, frontL, if_pos hw]
    generalize ((c :: t).takeWhile TokP.blank) = u at cP HF
    rw [hw] at cW
    clear hw hsz hl hx hx2 cS cA e40 e34 e91 hs h0
    go_enter Tryd.func21, Tryd.ntmps21
    go_wp2_with (first
      | (go_at_call 30; refine (cW _).mono ?_; rintro e w1 ⟨rfl, rfl⟩)
      | (go_at_call 31; refine (cP _).mono ?_; rintro e w2 ⟨rfl, rfl⟩))
    go_ret2
    exact ⟨by rw [HF.out]; rfl, rfl⟩
  · have hw' : TokP.blank c = false := by simpa using hw
    rw [hw'] at cW
    by_cases h40 : c = 40
    · rw [show decide (c = UInt8.ofNat 40) = true from decide_eq_true h40] at e40
      have cE := encl_any s hs 3 41 41 true rfl rfl (by decide) (by decide) _ rfl
      rw [hl, show (c :: t).drop 1 = t from rfl] at cE
      have HF := Lib.hid (encl_len 3 c t _ hsz (by rw [h40]; rfl) hw (by rw [h40]; rfl))
      rw [show (c == 40) = true by rw [h40]; rfl, show closer c = 41 by rw [h40]; rfl, ← hl] at HF
      have HE : ∀ w, Calls Tryd.prog 32 #[.string s, .int .i64 3, .int .u8 41] w fun e w' => e = .returned (.tuple #[.int .i64 ((frontL s.data.toList).kind : Nat), .int .i64 ((frontL s.data.toList).text.length : Nat)]) ∧ w = w' := by
        intro w
        rw [← HF.out]
        exact cE w
      clear cE HF hsz hl hx hx2 cS cA h40 e34 e91 hs h0 hw hw'
      generalize frontL s.data.toList = T at HE ⊢
      go_enter Tryd.func21, Tryd.ntmps21
      go_wp2_with (first
        | (go_at_call 30; refine (cW _).mono ?_; rintro e w1 ⟨rfl, rfl⟩)
        | (go_at_call 32; refine (HE _).mono ?_; rintro e w2 ⟨rfl, rfl⟩))
      go_ret2
      exact ⟨rfl, rfl⟩
    · rw [show decide (c = UInt8.ofNat 40) = false from decide_eq_false h40] at e40
      by_cases h34 : c = 34
      · rw [show decide (c = UInt8.ofNat 34) = true from decide_eq_true h34] at e34
        have cE := encl_any s hs 2 34 34 false rfl rfl (by decide) (by decide) _ rfl
        rw [hl, show (c :: t).drop 1 = t from rfl] at cE
        have HF := Lib.hid (encl_len 2 c t _ hsz (by rw [h34]; rfl) hw (by rw [h34]; rfl))
        rw [show (c == 40) = false by rw [h34]; rfl, show closer c = 34 by rw [h34]; rfl, ← hl] at HF
        have HE : ∀ w, Calls Tryd.prog 32 #[.string s, .int .i64 2, .int .u8 34] w fun e w' => e = .returned (.tuple #[.int .i64 ((frontL s.data.toList).kind : Nat), .int .i64 ((frontL s.data.toList).text.length : Nat)]) ∧ w = w' := by
          intro w
          rw [← HF.out]
          exact cE w
        clear cE HF hsz hl hx hx2 cS cA h40 h34 e91 hs h0 hw hw'
        generalize frontL s.data.toList = T at HE ⊢
        go_enter Tryd.func21, Tryd.ntmps21
        go_wp2_with (first
          | (go_at_call 30; refine (cW _).mono ?_; rintro e w1 ⟨rfl, rfl⟩)
          | (go_at_call 32; refine (HE _).mono ?_; rintro e w2 ⟨rfl, rfl⟩))
        go_ret2
        exact ⟨rfl, rfl⟩
      · rw [show decide (c = UInt8.ofNat 34) = false from decide_eq_false h34] at e34
        by_cases h91 : c = 91
        · rw [show decide (c = UInt8.ofNat 91) = true from decide_eq_true h91] at e91
          have cE := encl_any s hs 5 93 93 false rfl rfl (by decide) (by decide) _ rfl
          rw [hl, show (c :: t).drop 1 = t from rfl] at cE
          have HF := Lib.hid (encl_len 5 c t _ hsz (by rw [h91]; rfl) hw (by rw [h91]; rfl))
          rw [show (c == 40) = false by rw [h91]; rfl, show closer c = 93 by rw [h91]; rfl, ← hl] at HF
          have HE : ∀ w, Calls Tryd.prog 32 #[.string s, .int .i64 5, .int .u8 93] w fun e w' => e = .returned (.tuple #[.int .i64 ((frontL s.data.toList).kind : Nat), .int .i64 ((frontL s.data.toList).text.length : Nat)]) ∧ w = w' := by
            intro w
            rw [← HF.out]
            exact cE w
          clear cE HF hsz hl hx hx2 cS cA h40 h34 h91 hs h0 hw hw'
          generalize frontL s.data.toList = T at HE ⊢
          go_enter Tryd.func21, Tryd.ntmps21
          go_wp2_with (first
            | (go_at_call 30; refine (cW _).mono ?_; rintro e w1 ⟨rfl, rfl⟩)
            | (go_at_call 32; refine (HE _).mono ?_; rintro e w2 ⟨rfl, rfl⟩))
          go_ret2
          exact ⟨rfl, rfl⟩
        · rw [show decide (c = UInt8.ofNat 91) = false from decide_eq_false h91] at e91
          have ho : ¬ opens c = true := fun e => by
            rcases opens_cases c e with e | e | e
            · exact h40 e
            · exact h34 e
            · exact h91 e
          by_cases hsp : special c = true
          · have HF : Hid (frontL s.data.toList = ⟨4, [c]⟩) := by
              show _ = _
              rw [hl, frontL, if_neg hw, if_neg ho, if_pos hsp]
            rw [hsp] at cS
            clear hsz hl hx hx2 cA h40 h34 h91 hs h0 hw hw' ho hsp
            go_enter Tryd.func21, Tryd.ntmps21
            go_wp2_with (first
              | (go_at_call 30; refine (cW _).mono ?_; rintro e w1 ⟨rfl, rfl⟩)
              | (go_at_call 33; refine (cS _).mono ?_; rintro e w2 ⟨rfl, rfl⟩))
            go_ret2
            exact ⟨by rw [HF.out]; rfl, rfl⟩
          · have hsp' : special c = false := by simpa using hsp
            rw [hsp'] at cS
            by_cases ha : atomB c = true
            · have cP := pre_atom s hs
              rw [hl] at cP
              have HF : Hid (frontL s.data.toList = ⟨1, (c :: t).takeWhile atomB⟩) := by
                show _ = _
                rw [hl, frontL, if_neg hw, if_neg ho, if_neg hsp, if_pos ha]
              generalize ((c :: t).takeWhile atomB) = u at cP HF
              rw [ha] at cA
              clear hsz hl hx hx2 h40 h34 h91 hs h0 hw hw' ho hsp hsp' ha
              go_enter Tryd.func21, Tryd.ntmps21
              go_wp2_with (first
                | (go_at_call 30; refine (cW _).mono ?_; rintro e w1 ⟨rfl, rfl⟩)
                | (go_at_call 33; refine (cS _).mono ?_; rintro e w2 ⟨rfl, rfl⟩)
                | (go_at_call 34; refine (cA _).mono ?_; rintro e w2 ⟨rfl, rfl⟩)
                | (go_at_call 31; refine (cP _).mono ?_; rintro e w2 ⟨rfl, rfl⟩))
              go_ret2
              exact ⟨by rw [HF.out]; rfl, rfl⟩
            · have ha' : atomB c = false := by simpa using ha
              have HF : Hid (frontL s.data.toList = ⟨7, [c]⟩) := by
                show _ = _
                rw [hl, frontL, if_neg hw, if_neg ho, if_neg hsp, if_neg ha]
              rw [ha'] at cA
              clear hsz hl hx hx2 h40 h34 h91 hs h0 hw hw' ho hsp hsp' ha ha'
              go_enter Tryd.func21, Tryd.ntmps21
              go_wp2_with (first
                | (go_at_call 30; refine (cW _).mono ?_; rintro e w1 ⟨rfl, rfl⟩)
                | (go_at_call 33; refine (cS _).mono ?_; rintro e w2 ⟨rfl, rfl⟩)
                | (go_at_call 34; refine (cA _).mono ?_; rintro e w2 ⟨rfl, rfl⟩))
              go_ret2
              exact ⟨by rw [HF.out]; rfl, rfl⟩
end Go.Proofs.YtmpgclimgbjeoaaDoor
