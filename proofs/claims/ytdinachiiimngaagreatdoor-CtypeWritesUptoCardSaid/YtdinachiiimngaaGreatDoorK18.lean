/- The reference's within and Split. The reference's digit; two and three bytes appended at once. -/
import Derived.Test.YtdinachiiimngaaGreatDoorK2
import Derived.Test.YtdinachiiimngaaGreatDoorK1
namespace Go.Proofs.YtdinachiiimngaaGreatDoor
open Go.ChangeShapes Go.WideShapes Go.ChangeAt Go.RowKit
open TokP AdrP CtP

def withinB (low : Nat) (but s : List UInt8) : Bool := s.all (fun c => decide (low ≤ c.toNat) && decide (c.toNat ≤ 126) && !but.contains c)
set_option maxRecDepth 100000 in
set_option maxHeartbeats 2000000 in
theorem rwithin_any (s : ByteArray) (low : Nat) (but : ByteArray) (hs : s.size ≤ 1000000000) (hb : but.size ≤ 1000000000) (w : World) :
    Calls Tryz.prog 45 #[.string s, .int .u8 low, .string but] w fun e w' => e = .returned (.bool (withinB low but.data.toList s.data.toList)) ∧ w = w' := by
  obtain ⟨n, hn⟩ : ∃ n, s.size = n := ⟨_, rfl⟩
  have HN := Lib.hid hn
  have HL := Lib.hid (size_list s)
  rw [hn] at hs
  obtain ⟨r, hr⟩ : ∃ r, withinB low but.data.toList s.data.toList = r := ⟨_, rfl⟩
  rw [hr]
  have HR := Lib.hid hr
  clear hn hr
  go_enter Tryz.func45, Tryz.ntmps45
  go_wp2_with fail
  go_loopw [7] (fun i wr => ∃ k : Nat, k ≤ n ∧ i = .int .i64 k ∧ wr = w ∧ Hid (withinB low but.data.toList (s.data.toList.take k) = true)) (fun i _ => n - (intOf i).toNat)
  case atStart => exact ⟨0, Nat.zero_le _, rfl, rfl, rfl⟩
  case round =>
    obtain ⟨k, hk, rfl, rfl, HF⟩ := hrel
    have F1 : IntKind.i64.wrap ((k : Int) + 1) = (k : Int) + 1 := by rw [IntKind.wrap_i64]; omega
    have hn : s.size = n := HN.out
    by_cases hlt : k < n
    · have hlt' : (k : Int) < (n : Int) := by omega
      obtain ⟨d, y, hd, hy, hy2, S1⟩ := run_byte s k (by rw [hn]; exact hlt)
      have cH := fun W => rhas_any but d y hy hb W
      have HSTEP := Lib.hid (show withinB low but.data.toList (s.data.toList.take (k + 1)) = (decide (low ≤ y) && decide (y ≤ 126) && !but.data.toList.contains d) by
        have h := HF.out
        unfold withinB at h ⊢
        rw [List.take_add_one, hd, List.all_append, h, Bool.true_and]
        show ((decide (low ≤ d.toNat) && decide (d.toNat ≤ 126) && !but.data.toList.contains d) && true) = _
        rw [Bool.and_true, hy])
      have HBAD := Lib.hid (fun (h : (decide (low ≤ y) && decide (y ≤ 126) && !but.data.toList.contains d) = false) => show r = false by
        rw [← HR.out]
        unfold withinB
        rw [List.all_eq_false]
        exact ⟨d, List.mem_of_getElem? hd, by rw [hy, h]; exact Bool.false_ne_true⟩)
      generalize but.data.toList.contains d = b2 at cH HSTEP HBAD
      clear hd hy HF HR
      by_cases h1 : low ≤ y
      · have g1 : ¬ (y : Int) < (low : Int) := by omega
        by_cases h2 : y ≤ 126
        · have g2 : ¬ (126 : Int) < (y : Int) := by omega
          cases b2 with
          | true =>
            obtain rfl : r = false := HBAD.out (by simp)
            clear HBAD HSTEP
            go_wp2_with (go_at_call 46; (with_reducible refine (cH _).mono ?_); rintro e w2 ⟨rfl, rfl⟩)
            go_ret
            exact ⟨rfl, rfl⟩
          | false =>
            have HF2 := Lib.hid (HSTEP.out.trans (by rw [decide_eq_true h1, decide_eq_true h2]; first | done | rfl))
            clear HBAD HSTEP
            go_wp2_with (go_at_call 46; (with_reducible refine (cH _).mono ?_); rintro e w2 ⟨rfl, rfl⟩)
            go_roundw
            case rel => exact ⟨k + 1, by omega, by go_num, trivial, HF2⟩
            case measure => simp [intOf]; omega
        · have g2 : (126 : Int) < (y : Int) := by omega
          obtain rfl : r = false := HBAD.out (by rw [decide_eq_false h2, Bool.and_false, Bool.false_and])
          clear HBAD HSTEP
          go_wp2_with (go_at_call 46; (with_reducible refine (cH _).mono ?_); rintro e w2 ⟨rfl, rfl⟩)
          go_ret
          exact ⟨rfl, rfl⟩
      · have g1 : (y : Int) < (low : Int) := by omega
        obtain rfl : r = false := HBAD.out (by rw [decide_eq_false h1, Bool.false_and, Bool.false_and])
        clear HBAD HSTEP
        go_wp2_with (go_at_call 46; (with_reducible refine (cH _).mono ?_); rintro e w2 ⟨rfl, rfl⟩)
        go_ret
        exact ⟨rfl, rfl⟩
    · obtain rfl : k = n := by omega
      have hlt' : ¬ (k : Int) < (k : Int) := by omega
      have ha := HF.out
      rw [List.take_of_length_le (by rw [← HL.out, hn]; exact Nat.le_refl _), HR.out] at ha
      subst ha
      clear HF HR
      go_wp2_with fail
      go_ret
      exact ⟨rfl, rfl⟩
theorem within_plain (v : List UInt8) (h : v ≠ []) : withinB 33 (⟨#[40, 41, 60, 62, 64, 44, 59, 58, 92, 34, 47, 91, 93, 63, 61]⟩ : ByteArray).data.toList v = plainV v := by
  unfold withinB plainV
  have : v.isEmpty = false := by cases v with
    | nil => exact absurd rfl h
    | cons => rfl
  rw [this]; rfl
theorem within_quoted (v : List UInt8) : withinB 32 (⟨#[]⟩ : ByteArray).data.toList v = quotedV v := by
  unfold withinB quotedV
  congr 1
  funext c
  show (decide (32 ≤ c.toNat) && decide (c.toNat ≤ 126) && !(List.contains [] c)) = _
  simp
end Go.Proofs.YtdinachiiimngaaGreatDoor
namespace Go.Proofs.YtdinachiiimngaaGreatDoor
open Go.ChangeShapes Go.WideShapes Go.ChangeAt Go.RowKit
open TokP AdrP CtP

theorem hexU_low (n : Nat) (h : n < 10) : ((hexU n).toNat : Int) = 48 + (n : Int) := by
  unfold hexU
  rw [if_pos h, UInt8.toNat_ofNat']
  omega
theorem hexU_high (n : Nat) (h : ¬ n < 10) (h2 : n < 16) : ((hexU n).toNat : Int) = 65 + (n : Int) - 10 := by
  unfold hexU
  rw [if_neg h, UInt8.toNat_ofNat']
  omega
theorem rdigit_any (n : Nat) (hn : n < 16) (w : World) : Calls Tryz.prog 48 #[.int .u8 n] w fun e w' => e = .returned (.int .u8 ((hexU n).toNat : Nat)) ∧ w = w' := by
  by_cases h : n < 10
  · have g : (n : Int) < 10 := by omega
    have F1 : IntKind.u8.wrap (48 + (n : Int)) = 48 + (n : Int) := by rw [IntKind.wrap_u8]; omega
    rw [hexU_low n h]
    clear h hn
    go_enter Tryz.func48, Tryz.ntmps48
    go_wp2_with fail
    go_ret
    exact ⟨rfl, rfl⟩
  · have g : ¬ (n : Int) < 10 := by omega
    have F1 : IntKind.u8.wrap (65 + (n : Int)) = 65 + (n : Int) := by rw [IntKind.wrap_u8]; omega
    have F2 : IntKind.u8.wrap (65 + (n : Int) - 10) = 65 + (n : Int) - 10 := by rw [IntKind.wrap_u8]; omega
    rw [hexU_high n h hn]
    clear h hn
    go_enter Tryz.func48, Tryz.ntmps48
    go_wp2_with fail
    go_ret
    exact ⟨rfl, rfl⟩
/-- Several new bytes are appended. -/
theorem wpList_bytes {ops : Array Oper} {rest : List Oper} {o : Oper} {a : Act} {w : World} {Q : Exit → Act → World → Prop} (hgd : o.guard = none) (s x : Operand) (ho : o.op = .call { callee := .builtin .append, args := #[s, x], argTypes := #[59, 59] })
    (B : Nat) {v : Value} {out : List UInt8} {n : Nat} (cs : List UInt8) (vs : Array Value) (hvs : vs = (Lib.byteCells cs).toArray) (hs : a.eval s = v) (hx : a.eval x = .slice (some ⟨w.heap.size, 0, none⟩) cs.length cs.length) (hown : Ow w B v out) (hn : out.length = n) (hb : B ≤ w.heap.size) (hl : n + cs.length ≤ 1000000000)
    (hpos : 0 < cs.length)
    (h : ∀ a' c' w', Ow w' B (.slice a' (n + cs.length) c') (out ++ cs) → (w.alloc (.cells vs 5)).grownBy w' v.ownBlock → wpList Tryz.prog ops Q rest (a.put o.dst (.slice a' (n + cs.length) c')) w') : wpList Tryz.prog ops Q (o :: rest) a (w.alloc (.cells vs 5)) := by
  obtain ⟨i0, hi, hz0, hz1, hz2⟩ := info_parts info5
  subst hn
  subst hvs
  have h0 : Ow (w.alloc (.cells (Lib.byteCells cs).toArray 5)) B v out := World.ownsRow.alloc hown _
  have hlc : (Lib.byteCells cs).length = cs.length * 1 := by unfold Lib.byteCells; rw [List.length_map, Nat.mul_one]
  refine wpList_append_own _ hgd s x 59 ho B 5 i0 (.int .u8 0) 1 1 Tryz.underlying59 hi hz0 hz1 hz2 rfl (by decide) v _ _ hs h0 ⟨w.heap.size, 0, none⟩ cs.length cs.length (Lib.byteCells cs) hx hlc (fun j u hu => ?_) (fun u hu => ?_) (by unfold maxLen; omega) (by omega) (by rw [World.size_alloc]; omega) ?_
  · have := World.cell?_alloc_mark w (Lib.byteCells cs).toArray 5 (0, 0) j
    have hadd : (⟨w.heap.size, 0, none⟩ : Addr).add j = ⟨w.heap.size, j, none⟩ := by unfold Addr.add; split <;> simp_all
    rw [hadd, this, List.getElem?_toArray]
    exact hu
  · unfold Lib.byteCells at hu
    obtain ⟨b, _, rfl⟩ := List.mem_map.1 hu
    rfl
  · intro v' w' h1 h2 _
    have h1' : w'.ownsRow B 5 1 v' (out.length + cs.length) (Lib.byteCells (out ++ cs)) := by rw [Lib.byteCells_append]; exact h1
    obtain ⟨a', c', rfl⟩ : ∃ a' c', v' = .slice a' (out.length + cs.length) c' := by
      rcases h1.2 with ⟨rfl, h0⟩ | ⟨g, cap, cur, rfl, _⟩
      · omega
      · exact ⟨_, _, rfl⟩
    exact h a' c' w' (by unfold Ow; rw [List.length_append]; exact h1') h2
end Go.Proofs.YtdinachiiimngaaGreatDoor
