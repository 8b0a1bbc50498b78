/- strings.EqualFold of a word of three bytes that holds a byte beyond ASCII, against a name: false. -/
import Derived.Test.YtnmdljadnlddeaaGreatDoorFold
import Derived.Test.YtnmdljadnlddeaaGreatDoorBridge
import Derived.Test.YtnmdljadnlddeaaGreatDoorCanon
import Derived.Laws.RangeString
import Derived.Lib.MinMax
import Derived.Lib.TrimU
import Derived.Lib.TrimUEq
namespace Go.Proofs.YtnmdljadnlddeaaGreatDoor
open Go.ChangeShapes Go.WideShapes Go.ChangeAt Go.RowKit

/-- A byte of a name. -/
def NameB (c : Nat) : Prop := ((65 ≤ c ∧ c ≤ 90) ∨ (97 ≤ c ∧ c ≤ 122)) ∧ c ≠ 75 ∧ c ≠ 107 ∧ c ≠ 115
theorem u8_or (x y : Nat) (hx : x < 256) (hy : y < 256) : bits .or .u8 (x : Int) (y : Int) = ((x ||| y : Nat) : Int) := u8_or_nat x y hx hy
theorem or_low {x y : Nat} (hx : x < 128) (hy : y < 128) : ¬ (128 : Int) ≤ ((x ||| y : Nat) : Int) := by
  have := Nat.or_lt_two_pow (n := 7) hx hy
  omega
theorem or_high {x y : Nat} (hx : 128 ≤ x) : (128 : Int) ≤ ((x ||| y : Nat) : Int) := by
  have : x ≤ x ||| y := Nat.left_le_or
  omega

theorem byte_extract (s : ByteArray) (a k : Nat) (h : a + k < s.size) (h2 : k < (s.extract a s.size).size) : (s.extract a s.size)[k] = s[a + k] := by
  have h3 := part_rest s a (by omega)
  have e1 : (s.extract a s.size)[k] = (s.extract a s.size).data.toList[k]'(by rw [← size_list]; exact h2) := rfl
  have e2 : s[a + k] = s.data.toList[a + k]'(by rw [← size_list]; exact h) := rfl
  rw [e1, e2]
  simp only [h3, List.getElem_drop]
theorem decode_one (S : ByteArray) (pos : Nat) (h : pos < S.size) (h1 : 128 ≤ (Utf8.decode S pos).1) (h2 : (Utf8.decode S pos).2 = 1) : (Utf8.decode S pos).1 = 65533 := by
  rw [← Lib.decodeL_drop] at h1 h2 ⊢
  have hne : S.data.toList.drop pos ≠ [] := by
    intro e
    have := congrArg List.length e
    rw [List.length_drop, ← size_list] at this
    simp at this
    omega
  cases hf : firstS (S.data.toList.drop pos) with
  | none => rw [decode_none hne hf]
  | some n =>
    rw [decode_some hf] at h1 h2
    simp only at h1 h2
    exfalso
    unfold encL at h2
    (repeat' split at h2) <;> simp at h2
    omega
set_option maxHeartbeats 8000000 in
set_option maxRecDepth 1000000 in
theorem equal_high (s t : ByteArray) (hs : s.size = 3) (ht : t.size = 3) (hlet : ∀ j (h : j < t.size), NameB t[j].toNat) (p : Nat) (hp : p < 3)
    (hpre : ∀ j (h : j < s.size), j < p → s[j].toNat < 128) (hhigh : 128 ≤ (s[p]'(by omega)).toNat) (w : World) (hv : Vars w) :
    Calls Tryz.prog 54 #[.string s, .string t] w fun e w' => e = .returned (.bool false) ∧ Below w.heap.size w w' := by
  have HL := Lib.hid hlet
  have HP := Lib.hid hpre
  have HV := Lib.hid hv
  have hmin : min (s.size : Int) (t.size : Int) = 3 := by omega
  have hsz : (s.size : Int) = 3 := by omega
  have htz : (t.size : Int) = 3 := by omega
  clear hlet hpre hv
  go_enter Tryz.func54, Tryz.ntmps54
  go_wp2_with fail
  refine wp_scope_jumps 0 (fun a' w' => w = w' ∧ ∃ (u4 u7 u8 u19 u20 u21 u22 u23 u24 u25 u26 u27 u28 u29 u30 u31 u32 u33 u34 u35 u36 u37 u38 u39 u40 u41 u42 u43 u44 u45 u46 u47 u48 u49 u50 u51 u52 u53 u54 : Value), a' = { tmps := #[.string s, .string t, undef, undef, u4, .int .i64 p, .int .i64 3, u7, u8, undef, undef, undef, undef, undef, .string s, .int .i64 3, .string t, .int .i64 3, .int .i64 3, u19, u20, u21, u22, u23, u24, u25, u26, u27, u28, u29, u30, u31, u32, u33, u34, u35, u36, u37, u38, u39, u40, u41, u42, u43, u44, u45, u46, u47, u48, u49, u50, u51, u52, u53, u54, undef, undef, undef, undef, undef, undef, undef, undef, undef, undef, undef, undef, undef, undef, undef, undef, undef, undef, undef, undef, undef, undef, undef, undef, undef, undef, undef, undef, undef, undef, undef, undef, undef, undef, undef, undef, undef, undef, undef, undef, undef, undef, undef, undef, undef, undef, undef, undef, undef, undef, undef, undef, undef, undef, undef, undef, undef, undef, undef, undef, undef, undef, undef, undef, undef, undef, undef, undef], defers := [] }) (fun _ _ => 0) rfl ?_ ?_
  · go_wp2_with fail
    go_loop [5] (fun i => ∃ k : Nat, k ≤ p ∧ i = .int .i64 k) (fun i => p - (intOf i).toNat)
    case atStart => exact ⟨0, Nat.zero_le _, rfl⟩
    case round =>
      obtain ⟨k, hk, rfl⟩ := hrel
      have hks : k < s.size := by omega
      have hkt : k < t.size := by omega
      obtain ⟨x, hx⟩ : ∃ x : Nat, s[k].toNat = x := ⟨_, rfl⟩
      obtain ⟨y, hy⟩ : ∃ y : Nat, t[k].toNat = y := ⟨_, rfl⟩
      have hyn := HL.out k hkt
      rw [hy] at hyn
      have hy128 : y < 128 := by rcases hyn.1 with h | h <;> omega
      have hx256 : x < 256 := by rw [← hx]; exact UInt8.toNat_lt _
      have r1 : ∀ W, (Instr.index 9 (.string s) (.int .i64 k)).run Tryz.prog W = .ok (.int .u8 (x : Int)) W := fun W => by
        rw [← hx]; exact run_index_str s k k rfl hks W
      have r2 : ∀ W, (Instr.index 9 (.string t) (.int .i64 k)).run Tryz.prog W = .ok (.int .u8 (y : Int)) W := fun W => by
        rw [← hy]; exact run_index_str t k k rfl hkt W
      have hor := u8_or x y hx256 (by omega)
      clear hyn
      by_cases hlt : k < p
      · have hx128 : x < 128 := by rw [← hx]; exact HP.out k hks hlt
        have hnot := or_low hx128 hy128
        clear hx hy
        go_wp2_with fail
        all_goals first
          | (go_roundw
             case rel => exact ⟨k + 1, by omega, by go_num⟩
             case measure => simp [intOf]; omega)
          | (simp only [Exit.jump]; go_ret; exact ⟨rfl, Below.refl _ _⟩)
      · obtain rfl : k = p := by omega
        have hyes := or_high (y := y) (show 128 ≤ x by rw [← hx]; exact hhigh)
        go_wp2_with fail
        go_step3
        exact ⟨rfl, rfl, _, _, _, _, _, _, _, _, _, _, _, _, _, _, _, _, _, _, _, _, _, _, _, _, _, _, _, _, _, _, _, _, _, _, _, _, _, _, _, rfl⟩
  · rintro a' w' ⟨rfl, u4, u7, u8, u19, u20, u21, u22, u23, u24, u25, u26, u27, u28, u29, u30, u31, u32, u33, u34, u35, u36, u37, u38, u39, u40, u41, u42, u43, u44, u45, u46, u47, u48, u49, u50, u51, u52, u53, u54, rfl⟩
    obtain ⟨S, hS⟩ : ∃ S, s.extract p s.size = S := ⟨_, rfl⟩
    have hSz : S.size + p = 3 := by rw [← hS, ByteArray.size_extract]; omega
    have hS0 : ∀ h : 0 < S.size, 128 ≤ (S[0]'h).toNat := fun h => by
      subst hS
      rw [byte_extract s p 0 (by omega) h]
      exact hhigh
    have r1 : ∀ W, (Instr.slice 9 (.string s) (some (.int .i64 p)) none none).run Tryz.prog W = .ok (.string S) W := fun W => by rw [← hS]; exact run_slice_from s p (by omega) W
    have r2 : ∀ W, (Instr.slice 9 (.string t) (some (.int .i64 p)) none none).run Tryz.prog W = .ok (.string (t.extract p 3)) W := fun W => by have := run_slice_from t p (by omega) W; rw [ht] at this; exact this
    clear hhigh hmin hsz htz hS
    go_wp2_with fail
    clear r1 r2
    go_loopw [1] (fun tv wr => ∃ pos q : Nat, pos ≤ S.size ∧ (pos = 0 ∧ q = 0 ∨ q < pos) ∧ tv = .string (t.extract (p + q) 3) ∧ wr = w.iter S pos) (fun _ wr => S.size - iterPos wr w.heap.size)
    case atStart => exact ⟨0, 0, by omega, .inl ⟨rfl, rfl⟩, rfl, rfl⟩
    case round =>
      obtain ⟨pos, q, hpos, hpq, rfl, rfl⟩ := hrel
      by_cases hlt : pos < S.size
      · have hnx := fun ty => run_next_any (P := Tryz.prog) w S pos ty hlt
        have hwid := width_at S pos hlt
        have hmax := Lib.rune_le S pos
        have hqp : p + q < t.size := by omega
        obtain ⟨y, hy⟩ : ∃ y : UInt8, t[p + q] = y := ⟨_, rfl⟩
        have hyn := HL.out (p + q) hqp
        rw [hy] at hyn
        have hy128 : y.toNat < 128 := by rcases hyn.1 with h | h <;> omega
        have hc0 : pos = 0 → 128 ≤ (Utf8.decode S pos).1 := fun h0 => by
          subst h0
          exact decode_big S 0 hlt (by have := hS0 hlt; omega)
        have hc1 : 128 ≤ (Utf8.decode S pos).1 → (Utf8.decode S pos).2 = 1 → (Utf8.decode S pos).1 = 65533 := decode_one S pos hlt
        obtain ⟨T, hT⟩ : ∃ T, t.extract (p + q) 3 = T := ⟨_, rfl⟩
        obtain ⟨T2, hT2⟩ : ∃ T, t.extract (p + (q + 1)) 3 = T := ⟨_, rfl⟩
        have hTz : T.size = 3 - p - q := by rw [← hT, ByteArray.size_extract]; omega
        have hz : ((T.size : Int) == 0) = false := beq_eq_false_iff_ne.2 (by omega)
        have hT0 : T.data.toList[0]? = some y := by
          rw [← hT, ← ht, part_rest t (p + q) (by omega), List.getElem?_drop, Nat.add_zero, List.getElem?_eq_getElem (by rw [← size_list]; exact hqp)]
          exact congrArg some hy
        have hsl : T.extract 1 T.size = T2 := by
          refine bytes_is ?_
          rw [← hT2, part_rest T 1 (by omega), ← hT, ← ht, part_rest t (p + q) (by omega), List.drop_drop, part_rest t (p + (q + 1)) (by omega)]
          rfl
        have rs : ∀ W, (Instr.slice 9 (.string T) (some (.int .i64 1)) none none).run Tryz.prog W = .ok (.string T2) W := fun W => by rw [← hsl]; exact run_slice_from T 1 (by omega) W
        have HD := Lib.hid (fun W => Tryz.utf8_DecodeRuneInString_ascii T y W hT0 hy128)
        have HT2 := Lib.hid hT2
        rw [hT]
        obtain ⟨c, hc⟩ : ∃ c, (Utf8.decode S pos).1 = c := ⟨_, rfl⟩
        obtain ⟨k, hk⟩ : ∃ k, (Utf8.decode S pos).2 = k := ⟨_, rfl⟩
        obtain ⟨yn, hyv⟩ : ∃ yn : Nat, y.toNat = yn := ⟨_, rfl⟩
        rw [hc] at hmax hc0 hc1
        rw [hk] at hwid hc1
        rw [hc, hk] at hnx
        rw [hyv] at hyn hy128 HD
        clear hy hT0 hsl hT hT2 hyv hTz
        by_cases hlow : c < 128
        · have hq : q < pos := by
            rcases hpq with ⟨h0, _⟩ | h
            · have := hc0 h0; omega
            · exact h
          clear hc0 hc1
          go_wp2_with (go_at_call 69; refine (HD.out _).mono ?_; rintro e w1 ⟨rfl, rfl⟩)
          all_goals first
            | (refine ⟨⟨pos + k, q + 1, by omega, .inr (by omega), by rw [HT2.out], rfl⟩, by rw [iterPos_iter, iterPos_iter]; omega⟩)
            | (simp only [Exit.jump]; go_ret; exact ⟨rfl, below_iter _ _ _⟩)
        · have hk2 : c ≠ 65533 → 2 ≤ k := fun h => by
            rcases (show k = 1 ∨ 2 ≤ k by omega) with h1 | h1
            · exact absurd (hc1 (by omega) h1) h
            · exact h1
          have hcont : c = 383 → q + 1 < pos + k := fun h => by have := hk2 (by omega); omega
          clear hc0 hc1 hk2
          have HVi := Lib.hid (HV.out.below (below_iter w S (pos + k)))
          by_cases h83 : yn = 83
          · subst h83
            have HF1 := Lib.hid (fold_ascii 83 (by omega) (w.iter S (pos + k)) HVi.out)
            have HF2 := Lib.hid (fold_ascii 115 (by omega) (w.iter S (pos + k)) HVi.out)
            have HF3 := Lib.hid (fold_long (w.iter S (pos + k)) HVi.out)
            rw [show foldA 83 = 115 from rfl] at HF1
            rw [show foldA 115 = 383 from rfl] at HF2
            go_wp2_with (first
              | (go_at_call 69; refine (HD.out _).mono ?_; rintro e w1 ⟨rfl, rfl⟩)
              | (go_at_call 70; refine HF1.out.mono ?_; rintro e w1 ⟨rfl, rfl⟩))
            go_loop [13] (fun v => v = .int .i32 115 ∨ v = .int .i32 383 ∨ v = .int .i32 83) (fun v => if intOf v = 115 then 2 else if intOf v = 383 then 1 else 0)
            case atStart => exact .inl rfl
            case round =>
              rcases hrel with rfl | rfl | rfl
              · have h115 : (115 : Int) < (c : Int) := by omega
                go_wp2_with (go_at_call 70; refine HF2.out.mono ?_; rintro e w1 ⟨rfl, rfl⟩)
                go_roundw
                case rel => exact .inr (.inl rfl)
                case measure => simp [intOf]
              · by_cases h383 : 383 < c
                · have h3 : (383 : Int) < (c : Int) := by omega
                  go_wp2_with (go_at_call 70; refine HF3.out.mono ?_; rintro e w1 ⟨rfl, rfl⟩)
                  go_roundw
                  case rel => exact .inr (.inr rfl)
                  case measure => simp [intOf]
                · have h3 : ¬ (383 : Int) < (c : Int) := by omega
                  by_cases hcc : c = 383
                  · subst hcc
                    go_wp2_with fail
                    (refine ⟨⟨pos + k, q + 1, by omega, .inr (hcont rfl), by rw [HT2.out], rfl⟩, by rw [iterPos_iter, iterPos_iter]; omega⟩)
                  · have h4 : ((383 : Int) == (c : Int)) = false := beq_eq_false_iff_ne.2 (by omega)
                    go_wp2_with fail
                    all_goals (simp only [Exit.jump]; go_ret; exact ⟨rfl, below_iter _ _ _⟩)
              · have h4 : ((83 : Int) == (c : Int)) = false := beq_eq_false_iff_ne.2 (by omega)
                go_wp2_with fail
                all_goals (simp only [Exit.jump]; go_ret; exact ⟨rfl, below_iter _ _ _⟩)
          · obtain ⟨f, hf⟩ : ∃ f, foldA yn = f := ⟨_, rfl⟩
            have hff : f < 128 ∧ f ≠ yn ∧ foldA f = yn := by
              rw [← hf]
              obtain ⟨ha, hb1, hb2, hb3⟩ := hyn
              rcases ha with h | h
              · have e1 : foldA yn = yn + 32 := by
                  unfold foldA
                  rw [if_neg hb1, if_neg hb2, if_neg hb3, if_pos h]
                rw [e1]
                refine ⟨by omega, by omega, ?_⟩
                unfold foldA
                rw [if_neg (by omega), if_neg (by omega), if_neg (by omega), if_neg (by omega), if_pos (by omega)]
                omega
              · have e1 : foldA yn = yn - 32 := by
                  unfold foldA
                  rw [if_neg hb1, if_neg hb2, if_neg hb3, if_neg (by omega), if_pos h]
                rw [e1]
                refine ⟨by omega, by omega, ?_⟩
                unfold foldA
                rw [if_neg (by omega), if_neg (by omega), if_neg (by omega), if_pos (by omega)]
                omega
            have HF1 := Lib.hid (fold_ascii yn hy128 (w.iter S (pos + k)) HVi.out)
            have HF2 := Lib.hid (fold_ascii f hff.1 (w.iter S (pos + k)) HVi.out)
            rw [hf] at HF1
            rw [hff.2.2] at HF2
            obtain ⟨hf1, hf2, _⟩ := hff
            have n1 : ((f : Int) != (yn : Int)) = true := by rw [bne_iff_ne]; omega
            have n2 : ((yn : Int) == (c : Int)) = false := beq_eq_false_iff_ne.2 (by omega)
            have n3 : ((f : Int) == (c : Int)) = false := beq_eq_false_iff_ne.2 (by omega)
            have hn4 : Hid (¬ f = yn) := hf2
            clear hyn hf hf2
            go_wp2_with (first
              | (go_at_call 69; refine (HD.out _).mono ?_; rintro e w1 ⟨rfl, rfl⟩)
              | (go_at_call 70; refine HF1.out.mono ?_; rintro e w1 ⟨rfl, rfl⟩))
            go_loop [13] (fun v => v = .int .i32 f ∨ v = .int .i32 yn) (fun v => if intOf v = f then 1 else 0)
            case atStart => exact .inl rfl
            case round =>
              rcases hrel with rfl | rfl
              · have h115 : (f : Int) < (c : Int) := by omega
                go_wp2_with (go_at_call 70; refine HF2.out.mono ?_; rintro e w1 ⟨rfl, rfl⟩)
                go_roundw
                case rel => exact .inr rfl
                case measure =>
                  have hn := hn4.out
                  rw [if_neg (show ¬ intOf (.int .i32 (yn : Int)) = (f : Int) from fun h => hn (by have h2 : (yn : Int) = (f : Int) := h; omega)), if_pos (show intOf (.int .i32 (f : Int)) = (f : Int) from rfl)]
                  decide
              · go_wp2_with fail
                all_goals (simp only [Exit.jump]; go_ret; exact ⟨rfl, below_iter _ _ _⟩)
      · have hnx := fun ty => run_next_end (P := Tryz.prog) w S pos ty hlt
        have hne : (((3 - (p + q) : Nat) : Int) == 0) = false := beq_eq_false_iff_ne.2 (by omega)
        go_wp2_with fail
        simp only [Exit.jump]
        go_ret
        exact ⟨rfl, below_iter _ _ _⟩
end Go.Proofs.YtnmdljadnlddeaaGreatDoor
