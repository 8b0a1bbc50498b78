/- TokenKeeps: no byte is lost, no token is empty, and each token is the one of its own text. -/
import Derived.Test.YtmpgclimgbjeoaaDoorSmall
namespace Go.Proofs.YtmpgclimgbjeoaaDoor
open Go.ChangeShapes Go.WideShapes Go.ChangeAt Go.RowKit
open TokP

theorem scan_of (s : ByteArray) (l : List Tok) (hs : s.size ≤ 1000000) (h : scanL s.data.toList = l) (n : Nat) (hn : l.length = n) (hn0 : 0 < n) (w : World) :
    Calls Tryd.prog 9 #[.string s] w fun e w' => ∃ g c, e = .returned (.slice (some ⟨g, 0, none⟩) n c) ∧ Hid (FAt w' g 0 l) ∧ Hid (Below w.heap.size w w') := (scan_is s l hs h w).mono (by
  subst hn
  rintro e w' ⟨a, c, rfl, ho, hb⟩
  obtain ⟨g, rfl, hf⟩ := ho.at hn0
  exact ⟨g, c, rfl, hf, hb⟩)
theorem scan_none (s : ByteArray) (h : s.data.toList = []) (w : World) :
    Calls Tryd.prog 9 #[.string s] w fun e w' => ∃ c, e = .returned (.slice none 0 c) ∧ Hid (Below w.heap.size w w') ∨ ∃ g c, e = .returned (.slice (some ⟨g, 0, none⟩) 0 c) ∧ Hid (Below w.heap.size w w') := (scan_is s [] (by rw [size_list, h]; decide) (by rw [h]; rfl) w).mono (by
  rintro e w' ⟨a, c, rfl, ho, hb⟩
  obtain ⟨b, ho⟩ := ho
  rcases ho.2 with ⟨e, _⟩ | ⟨g, cap, cur, e, _⟩
  · injection e with e1 e2 e3
    subst e1
    exact ⟨c, .inl ⟨rfl, hb⟩⟩
  · injection e with e1 e2 e3
    subst e1
    exact ⟨c, .inr ⟨g, c, rfl, hb⟩⟩)
theorem list_eq (s : ByteArray) : (s.toList != s.toList) = false := by simp
theorem is_empty {l : List UInt8} (h : l ≠ []) : (strL l).toList.isEmpty = false := by
  rw [ByteArray.toList_eq, strL_list]
  cases l with
  | nil => exact absurd rfl h
  | cons _ _ => rfl
set_option maxRecDepth 1000000 in
set_option maxHeartbeats 1000000 in
theorem keeps_any (s : ByteArray) (w : World) :
    Calls Tryd.prog 4 #[.string s] w fun e w' => e = .returned (.bool true) ∧ Below w.heap.size w w' := by
  have cS := small_any w
  have cF := few_any s
  by_cases hf : s.size ≤ 400
  · rw [decide_eq_true hf] at cF
    obtain ⟨l, hl⟩ : ∃ l, scanL s.data.toList = l := ⟨_, rfl⟩
    obtain ⟨n, hn⟩ : ∃ n, l.length = n := ⟨_, rfl⟩
    have cC := fun w' => scan_is s l (by omega) hl w'
    rw [hn] at cC
    have hjs : joinL l = s.data.toList := by rw [← hl]; exact join_scan _
    have hnl : n ≤ 400 := by rw [← hn, ← hl]; have := scan_len s.data.toList; rw [← size_list] at this; omega
    have cJ := fun w' v (h : Hid (OwnF w' v l)) => join_is v l s w' h.out.has (by rw [hjs, ← size_list]; omega) (by omega) hjs
    have hmem := scan_mem s.data.toList
    have hap := scan_apart s.data.toList
    rw [hl] at hmem hap
    rw [← size_list] at hmem
    have HM := Lib.hid (fun (k : Nat) (f : Tok) (h : l[k]? = some f) => hmem f (List.mem_of_getElem? h))
    have HAP := Lib.hid hap
    have HN := Lib.hid hn
    have HF := Lib.hid hf
    have hss := list_eq s
    clear hl hn hjs hmem hap hf
    go_enter Tryd.func4, Tryd.ntmps4
    go_wp2_with (first
      | (go_at_call 7; (with_reducible refine cS.mono ?_); rintro e w1 ⟨rfl, hb1⟩; clear cS)
      | (go_at_call 8; (with_reducible refine (cF _).mono ?_); rintro e w2 ⟨rfl, rfl⟩; clear cF)
      | (go_at_call 9; (with_reducible refine (cC _).mono ?_); rintro e w3 ⟨a, c, rfl, ho3, hb3⟩; clear cC; have HO := Lib.hid ho3; have HB := Lib.hid (Qtrans hb1 hb3); clear ho3 hb1 hb3)
      | (go_at_call 14; (with_reducible refine (cJ _ _ HO).mono ?_); rintro e w4 ⟨rfl, hb4⟩; clear cJ; replace HO := Lib.hid (HO.out.step hb4); replace HB := Lib.hid (Qtrans HB.out hb4); clear hb4))
    clear hss
    go_loopw [5] (fun i wr => ∃ k : Nat, k ≤ n ∧ i = .int .i64 k ∧ Hid (OwnF wr (.slice a n c) l) ∧ Hid (Below w.heap.size w wr)) (fun i _ => n - (intOf i).toNat)
    case atStart => exact ⟨0, Nat.zero_le _, rfl, HO, HB⟩
    case round =>
      obtain ⟨k, hk, rfl, ho, hb⟩ := hrel
      have F1 : IntKind.i64.wrap ((k : Int) + 1) = (k : Int) + 1 := by rw [IntKind.wrap_i64]; omega
      by_cases hlt : k < n
      · have hlt' : (k : Int) < (n : Int) := by omega
        obtain ⟨g, rfl, hfa⟩ := ho.out.at (by omega)
        obtain ⟨f, hf⟩ : ∃ f, l[k]? = some f := ⟨_, List.getElem?_eq_getElem (by rw [HN.out]; exact hlt)⟩
        obtain ⟨m1, m2, m3, m4, m5⟩ := HM.out k f hf
        obtain ⟨k0, k1⟩ := hfa k f hf
        rw [Nat.zero_add] at k0 k1
        have hfl := HF.out
        have c9 := scan_of (strL f.text) [f] (by rw [strL_size]; omega) m2 1 rfl (by decide) wr
        have hne := is_empty m1
        have hK1 : decide (((f.kind : Nat) : Int) < 1) = false := decide_eq_false (by omega)
        have hK7 : decide ((7 : Int) < ((f.kind : Nat) : Int)) = false := decide_eq_false (by omega)
        have HS := Lib.hid (fun (w' : World) (g2 : Nat) (h1 : Below wr.heap.size wr w') (h2 : FAt w' g2 0 [f]) => show (w'.cell? ⟨g, k * 2, none⟩ = some (.int .i64 (f.kind : Nat)) ∧ w'.cell? ⟨g, k * 2 + 1, none⟩ = some (.string (strL f.text))) ∧ w'.cell? ⟨g2, 0, none⟩ = some (.int .i64 (f.kind : Nat)) ∧ w'.cell? ⟨g2, 1, none⟩ = some (.string (strL f.text)) from ⟨⟨cell_below k0 h1, cell_below k1 h1⟩, h2 0 f rfl⟩)
        have hEq := run_equal_tok f f
        rw [decide_eq_true rfl] at hEq
        by_cases hk0 : k = 0
        · have hz : decide (0 < k) = false := decide_eq_false (by omega)
          generalize ((f.kind : Nat) : Int) = K at k0 hK1 hK7 HS hEq
          generalize strL f.text = T at k1 c9 hne HS hEq
          clear m1 m2 m3 m4 m5 hf hfa hfl hk0
          go_wp2_with (go_at_call 9; (with_reducible refine c9.mono ?_); rintro e w5 ⟨g2, c2, rfl, h5, hb5⟩; obtain ⟨⟨t0, t1⟩, t2, t3⟩ := HS.out _ _ hb5.out h5.out; clear c9 HS k0 k1)
          simp only [List.append_eq, List.cons_append, List.nil_append]
          go_quiet (fail)
          go_wp2_with fail
          go_roundw
          case rel => exact ⟨k + 1, by omega, by go_num, Lib.hid (ho.out.step (hb5.out.trans (drew_below _ _ |>.mono hb5.out.size))), Lib.hid (Qtrans hb.out (hb5.out.trans (drew_below _ _ |>.mono hb5.out.size)))⟩
          case measure => simp [intOf]; omega
        · obtain ⟨p, hp⟩ : ∃ p, p + 1 = k := ⟨k - 1, by omega⟩
          have hz : decide (0 < k) = true := decide_eq_true (by omega)
          have F2 : IntKind.i64.wrap ((k : Int) - 1) = (p : Int) := by rw [IntKind.wrap_i64]; omega
          have F3 : (k : Int) - 1 = (p : Int) := by omega
          have hpn : (p : Int) < (n : Int) := by omega
          obtain ⟨f', hf'⟩ : ∃ f', l[p]? = some f' := ⟨_, List.getElem?_eq_getElem (by rw [HN.out]; omega)⟩
          obtain ⟨q0, _⟩ := hfa p f' hf'
          rw [Nat.zero_add] at q0
          by_cases he : f'.kind = f.kind
          · obtain ⟨n6, n1⟩ := HAP.out p f' f hf' (by rw [hp]; exact hf) he
            rw [he] at q0 n6 n1
            have HS2 := Lib.hid (fun (w' : World) (h1 : Below wr.heap.size wr w') => cell_below q0 h1)
            have g6 : (((f.kind : Nat) : Int) == 6) = false := by rw [beq_eq_false_iff_ne]; omega
            have g1 : (((f.kind : Nat) : Int) == 1) = false := by rw [beq_eq_false_iff_ne]; omega
            generalize ((f.kind : Nat) : Int) = K at k0 hK1 hK7 HS hEq q0 HS2 g6 g1
            generalize strL f.text = T at k1 c9 hne HS hEq
            clear m1 m2 m3 m4 m5 hf hfa hfl hk0 hf' he n6 n1 q0 hp
            go_wp2_with (go_at_call 9; (with_reducible refine c9.mono ?_); rintro e w5 ⟨g2, c2, rfl, h5, hb5⟩; obtain ⟨⟨t0, t1⟩, t2, t3⟩ := HS.out _ _ hb5.out h5.out; have t4 := HS2.out _ hb5.out; clear c9 HS HS2 k0 k1)
            simp only [List.append_eq, List.cons_append, List.nil_append]
            go_quiet (fail)
            go_wp2_with fail
            go_roundw
            case rel => exact ⟨k + 1, by omega, by go_num, Lib.hid (ho.out.step (hb5.out.trans (drew_below _ _ |>.mono hb5.out.size))), Lib.hid (Qtrans hb.out (hb5.out.trans (drew_below _ _ |>.mono hb5.out.size)))⟩
            case measure => simp [intOf]; omega
          · have HS2 := Lib.hid (fun (w' : World) (h1 : Below wr.heap.size wr w') => cell_below q0 h1)
            have gk : (((f.kind : Nat) : Int) == ((f'.kind : Nat) : Int)) = false := by rw [beq_eq_false_iff_ne]; omega
            generalize ((f.kind : Nat) : Int) = K at k0 hK1 hK7 HS hEq gk
            generalize ((f'.kind : Nat) : Int) = K' at q0 HS2 gk
            generalize strL f.text = T at k1 c9 hne HS hEq
            clear m1 m2 m3 m4 m5 hf hfa hfl hk0 hf' he q0 hp
            go_wp2_with (go_at_call 9; (with_reducible refine c9.mono ?_); rintro e w5 ⟨g2, c2, rfl, h5, hb5⟩; obtain ⟨⟨t0, t1⟩, t2, t3⟩ := HS.out _ _ hb5.out h5.out; have t4 := HS2.out _ hb5.out; clear c9 HS HS2 k0 k1)
            simp only [List.append_eq, List.cons_append, List.nil_append]
            go_quiet (fail)
            go_wp2_with fail
            go_roundw
            case rel => exact ⟨k + 1, by omega, by go_num, Lib.hid (ho.out.step (hb5.out.trans (drew_below _ _ |>.mono hb5.out.size))), Lib.hid (Qtrans hb.out (hb5.out.trans (drew_below _ _ |>.mono hb5.out.size)))⟩
            case measure => simp [intOf]; omega
      · obtain rfl : k = n := by omega
        have hlt' : ¬ (k : Int) < (k : Int) := by omega
        go_wp2_with fail
        go_ret
        exact ⟨rfl, hb.out⟩
  · rw [decide_eq_false hf] at cF
    clear hf
    go_enter Tryd.func4, Tryd.ntmps4
    go_wp2_with (first
      | (go_at_call 7; (with_reducible refine cS.mono ?_); rintro e w1 ⟨rfl, hb1⟩)
      | (go_at_call 8; (with_reducible refine (cF _).mono ?_); rintro e w2 ⟨rfl, rfl⟩))
    go_ret
    exact ⟨rfl, hb1⟩
end Go.Proofs.YtmpgclimgbjeoaaDoor
