/- enclosed: where an opened token closes. -/
import Derived.Test.YtmpgclimgbjeoaaDoorByte
namespace Go.Proofs.YtmpgclimgbjeoaaDoor
open Go.ChangeShapes Go.WideShapes Go.ChangeAt Go.RowKit
open TokP

/-- Up to byte i nothing has closed; d: the depth there. -/
def Cl (q : UInt8) (nest : Bool) (l : List UInt8) (i d : Nat) : Prop := 1 ≤ i ∧ closeS q nest false 0 (l.drop 1) = (closeS q nest false d (l.drop i)).map (· + (i - 1))
theorem cl_start (q : UInt8) (nest : Bool) (l : List UInt8) : Cl q nest l 1 0 := ⟨Nat.le_refl _, by simp⟩
theorem cons_at (l : List UInt8) (i : Nat) (c : UInt8) (h : l[i]? = some c) : l.drop i = c :: l.drop (i + 1) := by
  obtain ⟨h1, h2⟩ := List.getElem?_eq_some_iff.1 h
  rw [List.drop_eq_getElem_cons h1, h2]
theorem map_more (o : Option Nat) (i k : Nat) (h : 1 ≤ i) : (o.map (· + k)).map (· + (i - 1)) = o.map (· + (i + k - 1)) := by
  cases o with
  | none => rfl
  | some m => simp only [Option.map_some]; congr 1; omega
theorem cl_esc {q : UInt8} {nest : Bool} {l : List UInt8} {i d : Nat} (h : Cl q nest l i d) (hc : l[i]? = some 92) : Cl q nest l (i + 2) d := by
  refine ⟨by have := h.1; omega, ?_⟩
  rw [h.2, cons_at l i 92 hc, closeS, if_pos rfl]
  have key : closeS q nest true d (l.drop (i + 1)) = (closeS q nest false d (l.drop (i + 2))).map (· + 1) := by
    cases h2 : l.drop (i + 1) with
    | nil =>
      have : l.drop (i + 2) = [] := by
        rw [← List.drop_drop (i := 1) (j := i + 1), h2]; rfl
      rw [this, closeS, closeS]; rfl
    | cons x t =>
      have : l.drop (i + 2) = t := by
        rw [← List.drop_drop (i := 1) (j := i + 1), h2]; rfl
      rw [this, closeS]
  rw [key]
  have e : ∀ o : Option Nat, (o.map (· + 1)).map (· + 1) = o.map (· + 2) := by intro o; cases o <;> rfl
  rw [e, map_more _ _ _ h.1]
theorem cl_up {q : UInt8} {l : List UInt8} {i d : Nat} (h : Cl q true l i d) (hc : l[i]? = some 40) (hq : q ≠ 40) : Cl q true l (i + 1) (d + 1) := by
  refine ⟨by omega, ?_⟩
  rw [h.2, cons_at l i 40 hc, closeS, if_neg (by decide), if_neg (fun e => hq e.symm), if_pos ⟨rfl, rfl⟩, map_more _ _ _ h.1]
theorem cl_down {q : UInt8} {nest : Bool} {l : List UInt8} {i d : Nat} (h : Cl q nest l i (d + 1)) (hc : l[i]? = some q) (hq : q ≠ 92) : Cl q nest l (i + 1) d := by
  refine ⟨by omega, ?_⟩
  rw [h.2, cons_at l i q hc, closeS, if_neg hq, if_pos rfl, if_neg (by omega), map_more _ _ _ h.1]
  rfl
theorem cl_done {q : UInt8} {nest : Bool} {l : List UInt8} {i : Nat} (h : Cl q nest l i 0) (hc : l[i]? = some q) (hq : q ≠ 92) : closeS q nest false 0 (l.drop 1) = some i := by
  rw [h.2, cons_at l i q hc, closeS, if_neg hq, if_pos rfl, if_pos rfl]
  have := h.1
  show some (1 + (i - 1)) = _
  congr 1; omega
theorem cl_next {q : UInt8} {nest : Bool} {l : List UInt8} {i d : Nat} {c : UInt8} (h : Cl q nest l i d) (hc : l[i]? = some c) (h1 : c ≠ 92) (h2 : c ≠ q) (h3 : ¬ (nest = true ∧ c = 40)) : Cl q nest l (i + 1) d := by
  refine ⟨by omega, ?_⟩
  rw [h.2, cons_at l i c hc, closeS, if_neg h1, if_neg h2, if_neg h3, map_more _ _ _ h.1]
theorem cl_end {q : UInt8} {nest : Bool} {l : List UInt8} {i d : Nat} (h : Cl q nest l i d) (hl : l.length ≤ i) : closeS q nest false 0 (l.drop 1) = none := by
  rw [h.2, List.drop_eq_nil_of_le hl, closeS]; rfl
/-- What enclosed hands back. -/
def enclV (K : Int) (n : Nat) : Option Nat → Value
  | none => .tuple #[.int .i64 7, .int .i64 n]
  | some m => .tuple #[.int .i64 K, .int .i64 ((m : Int) + 1)]
set_option maxHeartbeats 2000000 in
theorem encl_any (s : ByteArray) (hs : s.size ≤ 1000000) (K : Int) (q : UInt8) (y : Nat) (nest : Bool) (hy : q.toNat = y) (hK : (K == 3) = nest) (hq : nest = true → q ≠ 40) (hq2 : q ≠ 92) (R : Option Nat) (hR : closeS q nest false 0 (s.data.toList.drop 1) = R) (w : World) :
    Calls Tryd.prog 32 #[.string s, .int .i64 K, .int .u8 y] w fun e w' => e = .returned (enclV K s.size R) ∧ w = w' := by
  obtain ⟨n, hn⟩ : ∃ n, s.size = n := ⟨_, rfl⟩
  have HL := Lib.hid (size_list s)
  rw [hn] at hs
  have HN := Lib.hid hn
  have HQ := Lib.hid hq
  have HQ2 := Lib.hid hq2
  have HY := Lib.hid hy
  have HK := Lib.hid hK
  have HR := Lib.hid hR
  clear hn hq hq2 hy hK hR
  go_enter Tryd.func32, Tryd.ntmps32
  go_wp2_with fail
  go_loopw [8, 9] (fun d i wr => ∃ (k e : Nat), k ≤ n + 1 ∧ e < k ∧ d = .int .i64 e ∧ i = .int .i64 k ∧ wr = w ∧ Hid (Cl q nest s.data.toList k e)) (fun _ i _ => n + 1 - (intOf i).toNat)
  case atStart => exact ⟨1, 0, by omega, by omega, rfl, rfl, rfl, cl_start _ _ _⟩
  case round =>
    obtain ⟨k, d, hk, hd, rfl, rfl, rfl, HC⟩ := hrel
    have F1 : IntKind.i64.wrap ((k : Int) + 1) = (k : Int) + 1 := by rw [IntKind.wrap_i64]; omega
    have F2 : IntKind.i64.wrap ((k : Int) + 1 + 1) = (k : Int) + 1 + 1 := by rw [IntKind.wrap_i64]; omega
    have F3 : IntKind.i64.wrap ((d : Int) + 1) = (d : Int) + 1 := by rw [IntKind.wrap_i64]; omega
    have hn : s.size = n := HN.out
    by_cases hlt : k < n
    · have hlt' : (k : Int) < (n : Int) := by omega
      obtain ⟨c, x, hc, hx, hx2, S1⟩ := run_byte s k (by rw [hn]; exact hlt)
      have e92 := byte_is c x hx 92 (by decide)
      have e40 := byte_is c x hx 40 (by decide)
      have eq := eq_byte c q x y hx HY.out
      rw [show ((92 : Nat) : Int) = 92 from rfl] at e92
      rw [show ((40 : Nat) : Int) = 40 from rfl] at e40
      clear hx hx2
      by_cases h92 : c = 92
      · rw [show decide (c = UInt8.ofNat 92) = true from decide_eq_true h92] at e92
        have HC2 := Lib.hid (cl_esc HC.out (by rw [hc, h92]))
        clear h92 e40 eq hc HC
        go_wp2_with fail
        go_roundw
        case rel => exact ⟨k + 2, d, by omega, by omega, rfl, by go_num, trivial, HC2⟩
        case measure => simp [intOf]; omega
      · rw [show decide (c = UInt8.ofNat 92) = false from decide_eq_false h92] at e92
        by_cases h40 : c = 40 ∧ nest = true
        · obtain ⟨h40, rfl⟩ := h40
          rw [show decide (c = UInt8.ofNat 40) = true from decide_eq_true h40] at e40
          have hK := HK.out
          have HC2 := Lib.hid (cl_up HC.out (by rw [hc, h40]) (HQ.out rfl))
          clear h92 h40 eq hc HC
          go_wp2_with fail
          go_roundw
          case rel => exact ⟨k + 1, d + 1, by omega, by omega, by go_num, by go_num, trivial, HC2⟩
          case measure => simp [intOf]; omega
        · by_cases hcq : c = q
          · rw [decide_eq_true hcq] at eq
            by_cases hd0 : d = 0
            · subst hd0
              have HC2 := Lib.hid (cl_done HC.out (by rw [hc, hcq]) HQ2.out)
              by_cases hc40 : c = 40
              · rw [show decide (c = UInt8.ofNat 40) = true from decide_eq_true hc40] at e40
                have hK := HK.out
                have hnest : nest = false := by
                  cases nest with
                  | false => rfl
                  | true => exact absurd ⟨hc40, rfl⟩ h40
                rw [hnest] at hK
                clear h92 h40 hcq hc40 hc HC hnest
                go_wp2_with fail
                go_ret2
                exact ⟨by rw [HR.out.symm.trans HC2.out]; rfl, rfl⟩
              · rw [show decide (c = UInt8.ofNat 40) = false from decide_eq_false hc40] at e40
                clear h92 h40 hcq hc40 hc HC
                go_wp2_with fail
                go_ret2
                exact ⟨by rw [HR.out.symm.trans HC2.out]; rfl, rfl⟩
            · obtain ⟨f, rfl⟩ : ∃ f, d = f + 1 := ⟨d - 1, by omega⟩
              have HC2 := Lib.hid (cl_down HC.out (by rw [hc, hcq]) HQ2.out)
              have F4 : IntKind.i64.wrap ((f : Int) + 1 - 1) = (f : Int) := by rw [IntKind.wrap_i64]; omega
              have F5 : IntKind.i64.wrap (f : Int) = (f : Int) := by rw [IntKind.wrap_i64]; omega
              have hf0 : (0 : Int) < (f : Int) + 1 := by omega
              have hf1 : (0 : Int) < ((f + 1 : Nat) : Int) := by omega
              by_cases hc40 : c = 40
              · rw [show decide (c = UInt8.ofNat 40) = true from decide_eq_true hc40] at e40
                have hK := HK.out
                have hnest : nest = false := by
                  cases nest with
                  | false => rfl
                  | true => exact absurd ⟨hc40, rfl⟩ h40
                rw [hnest] at hK
                clear h92 h40 hcq hc40 hc HC hnest F3 hd0
                go_wp2_with fail
                go_roundw
                case rel => exact ⟨k + 1, f, by omega, by omega, by go_num, by go_num, trivial, HC2⟩
                case measure => simp [intOf]; omega
              · rw [show decide (c = UInt8.ofNat 40) = false from decide_eq_false hc40] at e40
                clear h92 h40 hcq hc40 hc HC F3 hd0
                go_wp2_with fail
                go_roundw
                case rel => exact ⟨k + 1, f, by omega, by omega, by go_num, by go_num, trivial, HC2⟩
                case measure => simp [intOf]; omega
          · rw [decide_eq_false hcq] at eq
            have HC2 := Lib.hid (cl_next HC.out hc h92 hcq (fun e => h40 ⟨e.2, e.1⟩))
            by_cases hc40 : c = 40
            · rw [show decide (c = UInt8.ofNat 40) = true from decide_eq_true hc40] at e40
              have hK := HK.out
              have hnest : nest = false := by
                cases nest with
                | false => rfl
                | true => exact absurd ⟨hc40, rfl⟩ h40
              rw [hnest] at hK
              clear h92 h40 hcq hc40 hc HC hnest
              go_wp2_with fail
              go_roundw
              case rel => exact ⟨k + 1, d, by omega, by omega, rfl, by go_num, trivial, HC2⟩
              case measure => simp [intOf]; omega
            · rw [show decide (c = UInt8.ofNat 40) = false from decide_eq_false hc40] at e40
              clear h92 h40 hcq hc40 hc HC
              go_wp2_with fail
              go_roundw
              case rel => exact ⟨k + 1, d, by omega, by omega, rfl, by go_num, trivial, HC2⟩
              case measure => simp [intOf]; omega
    · have HC2 := Lib.hid (cl_end HC.out (by rw [← HL.out, hn]; omega))
      have hlt' : ¬ (k : Int) < (n : Int) := by omega
      clear HC
      go_wp2_with fail
      go_ret2
      exact ⟨by rw [HR.out.symm.trans HC2.out]; rfl, rfl⟩
end Go.Proofs.YtmpgclimgbjeoaaDoor
