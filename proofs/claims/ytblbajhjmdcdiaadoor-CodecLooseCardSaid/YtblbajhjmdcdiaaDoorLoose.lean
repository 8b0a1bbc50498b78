/- The law CodecLoose: base64 is read whatever stands between its characters, and behind the first equals sign. -/
import Derived.Test.YtblbajhjmdcdiaaDoorRefV
import Derived.Test.YtblbajhjmdcdiaaDoorPlain
import Derived.BigQuiet
import Derived.WalkSmall
namespace Go.Proofs.YtblbajhjmdcdiaaDoor
open Go.ChangeShapes Go.WideShapes Go.ChangeAt Go.RowKit

def junkB (c : UInt8) : Bool := decide (valI c.toNat < 0) && decide (c.toNat ≠ 61)
theorem valI_neg (c : Nat) : valI c < 0 ↔ ¬ val64 c < 64 := by
  unfold valI
  by_cases h : val64 c < 64
  · rw [if_pos h]; omega
  · rw [if_neg h]; simp [h]
theorem junkB_junk {c : UInt8} (h : junkB c = true) : junk c := by
  simp only [junkB, Bool.and_eq_true, decide_eq_true_eq] at h
  exact ⟨fun e => h.2 (by rw [e]; rfl), (valI_neg _).1 h.1⟩
def junkL (l : List UInt8) : List UInt8 := l.filter junkB
theorem junkL_snoc (s : ByteArray) (k : Nat) (h : k < s.size) : junkL (s.data.toList.take (k + 1)) = junkL (s.data.toList.take k) ++ (if junkB s[k] = true then [s[k]] else []) := by
  rw [take_snoc s k h]
  unfold junkL
  rw [List.filter_append]
  congr 1
  rw [List.filter_cons]
  rfl
theorem inter_snoc (J : List UInt8) (s : ByteArray) (k : Nat) (h : k < s.size) : inter J (s.data.toList.take (k + 1)) = inter J (s.data.toList.take k) ++ J ++ [s[k]] := by
  rw [take_snoc s k h]
  unfold inter
  rw [List.flatMap_append]
  simp
theorem inter_length (J : List UInt8) : ∀ l : List UInt8, (inter J l).length = (J.length + 1) * l.length
  | [] => rfl
  | c :: t => by
    show ((J ++ [c]) ++ inter J t).length = _
    rw [List.length_append, List.length_append, inter_length J t, List.length_cons, List.length_cons, List.length_nil, Nat.mul_add]
    omega

set_option maxHeartbeats 8000000 in
set_option maxRecDepth 1000000 in
theorem loose_any (s t u : ByteArray) (w : World) (hv : Vars w) :
    Calls Tryd.prog 6 #[.string s, .string t, .string u] w fun e w' => e = .returned (.bool true) ∧ Below w.heap.size w w' := by
  have st := Sn.start hv
  have hlow := hv.low
  by_cases hs : s.size ≤ 10000
  · by_cases hu : u.size ≤ 10000
    · by_cases ht : t.size ≤ 100
      · obtain ⟨i0, hi, hz0, hz1, hz2⟩ := info_parts info5
        go_enter Tryd.func6, Tryd.ntmps6
        go_wp2_with (first
          | (go_at_call 8; refine (small_is st).mono ?_; rintro e w1 ⟨rfl, st⟩)
          | (go_at_call 9; with_reducible refine (few_yes s hs _).mono ?_; rintro e w' ⟨rfl, rfl⟩)
          | (go_at_call 9; with_reducible refine (few_yes u hu _).mono ?_; rintro e w' ⟨rfl, rfl⟩))
        go_loopw [9, 8] (fun i v wr => ∃ k : Nat, k ≤ t.size ∧ i = .int .i64 k ∧ Hid (wr.ownsRow w.heap.size 5 1 v (junkL (t.data.toList.take k)).length (cellsOf (junkL (t.data.toList.take k)))) ∧ Hid (Sn w wr))
          (fun i _ _ => t.size - (intOf i).toNat)
        case atStart => exact ⟨0, Nat.zero_le _, rfl, Lib.hid (own_nil _ _), Lib.hid (by assumption)⟩
        case round =>
          clear st
          obtain ⟨k, hk, rfl, hown, st⟩ := hrel
          by_cases hlt : k < t.size
          · have HK := Lib.hid (junkL_snoc t k hlt)
            have HVR := Lib.hid (fun W => valueR_any t[k] W)
            by_cases hval : valI t[k].toNat < 0
            · by_cases h61 : t[k].toNat = 61
              · have HK2 : Hid (junkL (t.data.toList.take (k + 1)) = junkL (t.data.toList.take k)) := Lib.hid (by rw [HK.out]; simp [junkB, h61])
                have e1 : ((t[k].toNat : Int) != 61) = false := by rw [bne_eq_false_iff_eq]; omega
                clear HK h61
                go_wp2_with (go_at_call 23; refine (HVR.out _).mono ?_; rintro e w' ⟨rfl, rfl⟩)
                go_roundw
                case rel => exact ⟨k + 1, by omega, by go_num, by rw [HK2.out]; exact hown, st⟩
                case measure => simp [intOf]; omega
              · have HK2 : Hid (junkL (t.data.toList.take (k + 1)) = junkL (t.data.toList.take k) ++ [t[k]]) := Lib.hid (by rw [HK.out]; simp [junkB, h61, hval])
                have e1 : ((t[k].toNat : Int) != 61) = true := by rw [bne_iff_ne]; omega
                have hkl : (junkL (t.data.toList.take k)).length ≤ 100 := by
                  have h1 := List.length_filter_le junkB (t.data.toList.take k)
                  have h2 : (t.data.toList.take k).length ≤ k := by rw [List.length_take]; omega
                  unfold junkL; omega
                have hsz : w.heap.size ≤ wr.heap.size := st.out.2.size
                clear HK h61
                go_wp2_with (first
                  | (go_at_call 23; refine (HVR.out _).mono ?_; rintro e w' ⟨rfl, rfl⟩)
                  | (at_builtin; refine wpList_append_own _ rfl _ _ 25 rfl w.heap.size 5 i0 (.int .u8 0) 1 1 Tryd.underlying25 hi hz0 hz1 hz2 rfl (by decide) _ _ _ rfl (World.ownsRow.alloc hown.out _) ⟨wr.heap.size, 0, none⟩ 1 1 (cellsOf [t[k]]) rfl rfl (bytes_new wr [t[k]]) (cellsOf_one _) ?c3 ?c4 ?c5 ?_))
                case c3 => unfold maxLen; omega
                case c4 => omega
                case c5 => first | omega | (rw [World.size_alloc]; omega) | (simp; omega)
                intro v' w2' hown2 hgrow2 _
                have hb2 : Below w.heap.size w w2' := (st.out.2.alloc st.out.2.size _).grown hgrow2 (by rw [World.size_alloc]; omega) (fun j hj => (hown.out.lt j hj).1)
                go_wp2
                go_roundw
                case rel =>
                  refine ⟨k + 1, by omega, by go_num, Lib.hid ?_, Lib.hid ⟨hv.at hb2 hlow, hb2⟩⟩
                  rw [HK2.out, List.length_append]
                  unfold cellsOf at hown2 ⊢
                  rw [List.map_append]
                  exact hown2
                case measure => simp [intOf]; omega
            · have HK2 : Hid (junkL (t.data.toList.take (k + 1)) = junkL (t.data.toList.take k)) := Lib.hid (by rw [HK.out]; simp [junkB, hval])
              clear HK
              go_wp2_with (go_at_call 23; refine (HVR.out _).mono ?_; rintro e w' ⟨rfl, rfl⟩)
              go_roundw
              case rel => exact ⟨k + 1, by omega, by go_num, by rw [HK2.out]; exact hown, st⟩
              case measure => simp [intOf]; omega
          · have hk2 : k = t.size := by omega
            subst hk2
            rw [List.take_of_length_le (by rw [← size_list]; exact Nat.le_refl _)] at hown
            have hj : ∀ c ∈ junkL t.data.toList, junk c := fun c hc => junkB_junk (List.mem_filter.1 hc).2
            have hjl : (junkL t.data.toList).length ≤ 100 := by
              have := List.length_filter_le junkB t.data.toList
              rw [← size_list] at this
              unfold junkL; omega
            obtain ⟨J, hJ⟩ : ∃ J, junkL t.data.toList = J := ⟨_, rfl⟩
            rw [hJ] at hj hjl hown
            obtain ⟨B, hB⟩ : ∃ B, strL (b64L s.data.toList) = B := ⟨_, rfl⟩
            have hBl : B.data.toList = b64L s.data.toList := by rw [← hB]; rfl
            have hBs : B.size ≤ 60000 := by rw [← hB]; exact b64_short s hs
            have hcall := b64_any s (by omega) wr
            rw [hB] at hcall
            have HCALL := Lib.hid hcall
            have HJ := Lib.hid hj
            have HBL := Lib.hid hBl
            clear hcall hj hBl hB hJ hlt hk
            go_wp2_with (go_at_call 10; refine HCALL.out.mono ?_; rintro e w2 ⟨rfl, hb2⟩)
            have st2 := Lib.hid (st.out.next hb2)
            have hown2 := Lib.hid (below_own hown.out hb2)
            clear hown st hb2 HCALL
            go_loopw [12, 11] (fun i l wq => ∃ (k : Nat) (Lb : ByteArray), k ≤ B.size ∧ k ≤ 400 ∧ i = .int .i64 k ∧ l = .string Lb ∧ Hid (Lb.data.toList = inter J (B.data.toList.take k)) ∧ Hid (wq.ownsRow w.heap.size 5 1 u8 J.length (cellsOf J)) ∧ Hid (Sn w wq))
              (fun i _ _ => 400 - (intOf i).toNat)
            case atStart => exact ⟨0, ⟨#[]⟩, Nat.zero_le _, Nat.zero_le _, rfl, rfl, Lib.hid rfl, hown2, st2⟩
            case round =>
              clear hown2 st2
              obtain ⟨k, Lb, hkB, hk4, rfl, rfl, hLb, hown, st⟩ := hrel
              have hls : Lb.size ≤ 40400 := by
                have h1 : Lb.size = (J.length + 1) * (B.data.toList.take k).length := by rw [size_list, hLb.out, inter_length]
                have h2 : (B.data.toList.take k).length ≤ 400 := by rw [List.length_take]; omega
                have h3 := Nat.mul_le_mul (show J.length + 1 ≤ 101 by omega) h2
                omega
              by_cases hgo : k < B.size ∧ k < 400
              · obtain ⟨hlt, h400⟩ := hgo
                have HI := Lib.hid (inter_snoc J B k hlt)
                obtain ⟨T, hT⟩ : ∃ T, B.extract k (k + 1) = T := ⟨_, rfl⟩
                have hTl := part_one B k hlt
                rw [hT] at hTl
                have hTs : T.size = 1 := by rw [size_list, hTl]; rfl
                have hsl : ∀ W, (Instr.slice 9 (.string B) (some (.int .i64 k)) (some (.int .i64 ((k : Int) + 1))) none).run Tryd.prog W = .ok (.string T) W := fun W => by rw [← hT]; exact run_slice_str B k (k + 1) _ (by omega) (by omega) (by omega) W
                obtain ⟨JB, hJB⟩ : ∃ JB, strL J = JB := ⟨_, rfl⟩
                have hJs : JB.size ≤ 100 := by rw [← hJB, strL_size]; exact hjl
                have hcv : ∀ n, (convert 25 9 u8).run Tryd.prog (wr.drewN n) = .ok (.string JB) (wr.drewN n) := fun n => by
                  rw [← hJB]
                  exact conv_any (w := wr.drewN n) rfl hown.out
                have hcd : (convert 25 9 u8).run Tryd.prog wr.drew = .ok (.string JB) wr.drew := hcv 1
                have HTL := Lib.hid hTl
                have HJB := Lib.hid hJB
                clear hTl hT hJB
                go_wp2_with fail
                go_quiet (fail)
                go_wp2_with fail
                go_roundw
                case rel =>
                  refine ⟨k + 1, _, by omega, by omega, by go_num, rfl, Lib.hid ?_, hown, Lib.hid (st.out.next (below_drewN (Below.refl _ _) _))⟩
                  rw [list_append, list_append, hLb.out, HTL.out, ← HJB.out, HI.out]
                  rfl
                case measure => simp [intOf]; omega
              · have hstep : ∀ (R : ByteArray), Lb.data.toList ++ R.data.toList = inter J (B.data.toList.take k) ++ B.data.toList.drop k → unb64L (Lb ++ R).data.toList = s.data.toList := fun R h => by
                  rw [list_append, h]
                  unfold unb64L
                  rw [vals_inter J HJ.out, List.take_append_drop, HBL.out]
                  exact unb64_back _
                have c2 : ∀ w', Sn w w' → Calls Tryd.prog 12 #[.string (B ++ ⟨#[61]⟩ ++ u)] w' fun e w'' => e = .returned (.string s) ∧ Sn w w'' := fun w' h =>
                  unb64_is _ _ (by
                    rw [size_list, list_append, list_append, List.length_append, List.length_append, ← size_list, ← size_list, ← size_list, show (⟨#[61]⟩ : ByteArray).size = 1 from rfl]
                    omega) (by
                    have e : (B ++ ⟨#[61]⟩ ++ u).data.toList = B.data.toList ++ 61 :: u.data.toList := by
                      rw [list_append, list_append, List.append_assoc]; rfl
                    rw [e]
                    unfold unb64L
                    rw [vals_ends, HBL.out, show mach 0 0 (vals (b64L s.data.toList)) = s.data.toList from unb64_back _, strL_of]) h
                have C2 := Lib.hid c2
                have st := st.out
                clear c2
                by_cases h4 : 400 < B.size
                · obtain rfl : k = 400 := by omega
                  obtain ⟨R, hR⟩ : ∃ R, B.extract 400 B.size = R := ⟨_, rfl⟩
                  have hRl := part_rest B 400 (by omega)
                  rw [hR] at hRl
                  have hRs : R.size ≤ 60000 := by rw [size_list, hRl, List.length_drop, ← size_list]; omega
                  have c1 : ∀ w', Sn w w' → Calls Tryd.prog 12 #[.string (Lb ++ R)] w' fun e w'' => e = .returned (.string s) ∧ Sn w w'' := fun w' h =>
                    unb64_is _ _ (by
                      rw [size_list, list_append, List.length_append, ← size_list, ← size_list]
                      omega) (by rw [hstep R (by rw [hLb.out, hRl]), strL_of]) h
                  have C1 := Lib.hid c1
                  clear c1 hstep hRl hLb
                  go_wp2_with (first
                    | (go_at_call 12; with_reducible refine (C1.out _ st).mono ?_; rintro e w' ⟨rfl, st⟩)
                    | (go_at_call 12; with_reducible refine (C2.out _ st).mono ?_; rintro e w' ⟨rfl, st⟩))
                  go_ret
                  exact ⟨rfl, st.2⟩
                · have hkB2 : k = B.size := by omega
                  have c1 : ∀ w', Sn w w' → Calls Tryd.prog 12 #[.string Lb] w' fun e w'' => e = .returned (.string s) ∧ Sn w w'' := fun w' h =>
                    unb64_is _ _ (by omega) (by
                      have := hstep ⟨#[]⟩ (by
                        rw [hLb.out, List.drop_eq_nil_of_le (by rw [← size_list]; omega)])
                      rw [list_append, show (⟨#[]⟩ : ByteArray).data.toList = [] from rfl, List.append_nil] at this
                      rw [this, strL_of]) h
                  have C1 := Lib.hid c1
                  clear c1 hstep hLb
                  go_wp2_with (first
                    | (go_at_call 12; with_reducible refine (C1.out _ st).mono ?_; rintro e w' ⟨rfl, st⟩)
                    | (go_at_call 12; with_reducible refine (C2.out _ st).mono ?_; rintro e w' ⟨rfl, st⟩))
                  go_ret
                  exact ⟨rfl, st.2⟩
      · go_enter Tryd.func6, Tryd.ntmps6
        go_wp2_with (first
        | (go_at_call 8; refine (small_is st).mono ?_; rintro e w1 ⟨rfl, st⟩)
        | (go_at_call 9; with_reducible refine (few_yes s hs _).mono ?_; rintro e w' ⟨rfl, rfl⟩)
        | (go_at_call 9; with_reducible refine (few_yes u hu _).mono ?_; rintro e w' ⟨rfl, rfl⟩))
        go_ret
        exact ⟨rfl, st.2⟩
    · go_enter Tryd.func6, Tryd.ntmps6
      go_wp2_with (first
        | (go_at_call 8; refine (small_is st).mono ?_; rintro e w1 ⟨rfl, st⟩)
        | (go_at_call 9; with_reducible refine (few_yes s hs _).mono ?_; rintro e w' ⟨rfl, rfl⟩)
        | (go_at_call 9; with_reducible refine (few_no u hu _).mono ?_; rintro e w' ⟨rfl, rfl⟩))
      go_ret
      exact ⟨rfl, st.2⟩
  · go_enter Tryd.func6, Tryd.ntmps6
    go_wp2_with (first
        | (go_at_call 8; refine (small_is st).mono ?_; rintro e w1 ⟨rfl, st⟩)
        | (go_at_call 9; with_reducible refine (few_no s hs _).mono ?_; rintro e w' ⟨rfl, rfl⟩))
    go_ret
    exact ⟨rfl, st.2⟩
end Go.Proofs.YtblbajhjmdcdiaaDoor
