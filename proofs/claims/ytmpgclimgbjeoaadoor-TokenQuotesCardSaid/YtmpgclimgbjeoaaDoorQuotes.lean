/- TokenQuotes: what Quote writes is one quoted token with the string as its value, or atoms and single spaces. -/
import Derived.Test.YtmpgclimgbjeoaaDoorKeeps
namespace Go.Proofs.YtmpgclimgbjeoaaDoor
open Go.ChangeShapes Go.WideShapes Go.ChangeAt Go.RowKit
open TokP

theorem alt_len (l : List Tok) (n : Nat) (hn : l.length = n) (h : Alt l) : n % 2 = 1 := by rw [← hn]; exact h.1
set_option maxRecDepth 1000000 in
set_option maxHeartbeats 1000000 in
theorem quotes_any (s : ByteArray) (w : World) :
    Calls Tryd.prog 5 #[.string s] w fun e w' => e = .returned (.bool true) ∧ Below w.heap.size w w' := by
  have cS := small_any w
  have cF := few_any s
  by_cases hf : s.size ≤ 400
  · rw [decide_eq_true hf] at cF
    by_cases hp : plainA false s.data.toList = true
    · obtain ⟨hq, halt⟩ := plain_alt _ hp
      have cQ := fun w' => quote_is s s (by omega) hq w'
      obtain ⟨l, hl⟩ : ∃ l, scanL s.data.toList = l := ⟨_, rfl⟩
      obtain ⟨n, hn⟩ : ∃ n, l.length = n := ⟨_, rfl⟩
      have cC := fun w' => scan_is s l (by omega) hl w'
      rw [hn] at cC
      rw [hl] at halt
      have hodd := alt_len l n hn halt
      have hnl : n ≤ 400 := by rw [← hn, ← hl]; have := scan_len s.data.toList; rw [← size_list] at this; omega
      have HA := Lib.hid halt.2
      have HN := Lib.hid hn
      have hno : Int.tmod (n : Int) 2 = 1 := by rw [Int.tmod_eq_emod_of_nonneg (by omega)]; omega
      have hss : (s.toList == s.toList) = true := by simp
      clear hl hn halt hf hq hp hodd
      go_enter Tryd.func5, Tryd.ntmps5
      go_wp2_with (first
        | (go_at_call 7; (with_reducible refine cS.mono ?_); rintro e w1 ⟨rfl, hb1⟩; clear cS)
        | (go_at_call 8; (with_reducible refine (cF _).mono ?_); rintro e w2 ⟨rfl, rfl⟩; clear cF)
        | (go_at_call 16; (with_reducible refine (cQ _).mono ?_); rintro e w3 ⟨rfl, hb3⟩; clear cQ)
        | (go_at_call 9; (with_reducible refine (cC _).mono ?_); rintro e w4 ⟨a, c, rfl, ho4, hb4⟩; clear cC; have HO := Lib.hid ho4; have HB := Lib.hid (Qtrans hb1 (Qtrans hb3 hb4)); clear ho4 hb1 hb3 hb4))
      clear hss
      go_loopw [6] (fun i wr => ∃ k : Nat, k ≤ n ∧ i = .int .i64 k ∧ wr = w4) (fun i _ => n - (intOf i).toNat)
      case atStart => exact ⟨0, Nat.zero_le _, rfl, rfl⟩
      case round =>
        obtain ⟨k, hk, rfl, rfl⟩ := hrel
        have F1 : IntKind.i64.wrap ((k : Int) + 1) = (k : Int) + 1 := by rw [IntKind.wrap_i64]; omega
        by_cases hlt : k < n
        · have hlt' : (k : Int) < (n : Int) := by omega
          obtain ⟨g, rfl, hfa⟩ := HO.out.at (by omega)
          obtain ⟨f, hf⟩ : ∃ f, l[k]? = some f := ⟨_, List.getElem?_eq_getElem (by rw [HN.out]; exact hlt)⟩
          obtain ⟨k0, k1⟩ := hfa k f hf
          rw [Nat.zero_add] at k0 k1
          obtain ⟨a0, a1⟩ := HA.out k f hf
          by_cases h2 : k % 2 = 0
          · have hm : Int.tmod (k : Int) 2 = 0 := by rw [Int.tmod_eq_emod_of_nonneg (by omega)]; omega
            rw [a0 h2] at k0
            clear a0 a1 hf hfa h2 k1
            go_wp2_with fail
            go_roundw
            case rel => exact ⟨k + 1, by omega, by go_num, trivial⟩
            case measure => simp [intOf]; omega
          · have hm : Int.tmod (k : Int) 2 = 1 := by rw [Int.tmod_eq_emod_of_nonneg (by omega)]; omega
            rw [a1 (by omega)] at k1
            have k1' : wr.cell? ⟨g, k * 2 + 1, none⟩ = some (.string ⟨#[32]⟩) := k1
            clear a0 a1 hf hfa h2 k1 k0
            go_wp2_with fail
            go_roundw
            case rel => exact ⟨k + 1, by omega, by go_num, trivial⟩
            case measure => simp [intOf]; omega
        · obtain rfl : k = n := by omega
          have hlt' : ¬ (k : Int) < (k : Int) := by omega
          go_wp2_with fail
          go_ret
          exact ⟨rfl, HB.out⟩
    · have hp' : plainA false s.data.toList = false := by simpa using hp
      obtain ⟨q1, q2, q3, q4, q5⟩ := quote_one _ hp'
      obtain ⟨q, hq⟩ : ∃ q, quoteL s.data.toList = q := ⟨_, rfl⟩
      rw [hq] at q2 q3 q4 q5
      have hss := eq_strL q s.data.toList
      rw [decide_eq_false (fun e => by rw [e] at q5; omega), strL_of] at hss
      have cQ := fun w' => quote_is s (strL q) (by omega) hq w'
      rw [← size_list] at q4
      have cC := fun w' => scan_of (strL q) [⟨2, q⟩] (by rw [strL_size]; omega) q2 1 rfl (by decide) w'
      have cV := fun w' => value_is 2 (strL q) s (by rw [strL_size]; omega) (by rw [strL_list, ← q3]; exact value_tok ⟨2, q⟩) w'
      have F1 : IntKind.i64.wrap (2 * (s.size : Int)) = 2 * (s.size : Int) := by rw [IntKind.wrap_i64]; omega
      have F2 : IntKind.i64.wrap (2 * (s.size : Int) + 2) = 2 * (s.size : Int) + 2 := by rw [IntKind.wrap_i64]; omega
      have hle : ((strL q).size : Int) ≤ 2 * (s.size : Int) + 2 := by rw [strL_size]; omega
      have hse : (s.toList == s.toList) = true := by simp
      have HK := Lib.hid (fun (w' : World) (g : Nat) (h : FAt w' g 0 [⟨2, q⟩]) => show w'.cell? ⟨g, 0, none⟩ = some (.int .i64 2) ∧ w'.cell? ⟨g, 1, none⟩ = some (.string (strL q)) from h 0 _ rfl)
      generalize strL q = Q at hss cQ cC cV hle HK
      clear hf q1 q2 q3 q4 q5 hp hp' hq
      go_enter Tryd.func5, Tryd.ntmps5
      go_wp2_with (first
        | (go_at_call 7; (with_reducible refine cS.mono ?_); rintro e w1 ⟨rfl, hb1⟩; clear cS)
        | (go_at_call 8; (with_reducible refine (cF _).mono ?_); rintro e w2 ⟨rfl, rfl⟩; clear cF)
        | (go_at_call 16; (with_reducible refine (cQ _).mono ?_); rintro e w3 ⟨rfl, hb3⟩; clear cQ)
        | (go_at_call 9; (with_reducible refine (cC _).mono ?_); rintro e w4 ⟨g, c, rfl, h4, hb4⟩; clear cC; have HB := Lib.hid (Qtrans hb1 (Qtrans hb3 hb4.out)); clear hb1 hb3 hb4; obtain ⟨k0, k1⟩ := HK.out _ _ h4.out)
        | (go_at_call 18; (with_reducible refine (cV _).mono ?_); rintro e w5 ⟨rfl, hb5⟩; clear cV))
      go_ret
      exact ⟨rfl, Qtrans HB.out hb5⟩
  · rw [decide_eq_false hf] at cF
    clear hf
    go_enter Tryd.func5, Tryd.ntmps5
    go_wp2_with (first
      | (go_at_call 7; (with_reducible refine cS.mono ?_); rintro e w1 ⟨rfl, hb1⟩)
      | (go_at_call 8; (with_reducible refine (cF _).mono ?_); rintro e w2 ⟨rfl, rfl⟩))
    go_ret
    exact ⟨rfl, hb1⟩
end Go.Proofs.YtmpgclimgbjeoaaDoor
