/- The padding: package sum's. -/
import Derived.Test.YtddcephegpmbbaaDoorBuf
namespace Go.Proofs.YtddcephegpmbbaaDoor
open Go.ChangeShapes Go.WideShapes Go.ChangeAt Go.RowKit

/-- The rest, the bit and n zeros. -/
def zL (l : List UInt8) (n : Nat) : List UInt8 := l ++ 128 :: List.replicate n 0
theorem zL_len (l : List UInt8) (n : Nat) : (zL l n).length = l.length + 1 + n := by unfold zL; simp; omega
theorem zL_succ (l : List UInt8) (n : Nat) : zL l n ++ [0] = zL l (n + 1) := by unfold zL; rw [List.append_assoc, List.cons_append, ← List.replicate_succ']
/-- .. and the first i bytes of the length. -/
def bL (l : List UInt8) (m i : Nat) : List UInt8 := zL l (zerosN l.length) ++ (lenL m).take i
theorem lenL_len (m : Nat) : (lenL m).length = 8 := by simp [lenL]
theorem bL_len (l : List UInt8) (m i : Nat) (h : i ≤ 8) : (bL l m i).length = l.length + 1 + zerosN l.length + i := by
  unfold bL; rw [List.length_append, zL_len, List.length_take, lenL_len]; omega
theorem bL_succ (l : List UInt8) (m i : Nat) (h : i < 8) : bL l m i ++ [UInt8.ofNat (8 * m / 2 ^ (56 - 8 * i))] = bL l m (i + 1) := by
  unfold bL
  rw [List.append_assoc, List.take_succ_eq_append_getElem (by rw [lenL_len]; exact h)]
  congr 2
  simp [lenL]

theorem lenByte (m e : Nat) : IntKind.u8.wrap ((m : Int) * 8 / 2 ^ e) = ((UInt8.ofNat (8 * m / 2 ^ e)).toNat : Int) := by
  have h : (m : Int) * 8 / 2 ^ e = ((8 * m / 2 ^ e : Nat) : Int) := by rw [Nat.mul_comm 8 m]; simp
  rw [h, IntKind.wrap_u8, UInt8.toNat_ofNat']; rfl
theorem cell_new1 (w : World) (c : UInt8) : (w.alloc (.cells #[.int .u8 c.toNat] 5)).cell? ⟨w.heap.size, 0, none⟩ = some (.int .u8 c.toNat) := by simp
set_option maxHeartbeats 1600000 in
theorem padded_any (s : ByteArray) (hs : s.size < 64) (m : Nat) (hm : m ≤ 140737488355328) (w : World) :
    Calls Tryd.prog 20 #[.string s, .int .i64 m] w fun e w' => e = .returned (.string ⟨(bL s.data.toList m 8).toArray⟩) ∧ Below w.heap.size w w' := by
  have hl : Hid (s.data.toList.length = s.size) := by rw [show s.data.toList.length = s.size by rw [Array.length_toList]; rfl]; exact rfl
  have hcv := fun w : World => Lib.run_convert_string_bytes (P := Tryd.prog) w 9 36 5 s Tryd.underlying9 Tryd.underlying36 Tryd.underlying5
  have hb0 := Lib.hid (buf_bytes w s (by unfold maxLen; omega))
  have hbel0 := Lib.hid (below_bytes w s)
  go_enter Tryd.func20, Tryd.ntmps20
  go_wp2_with (at_builtin; refine wpList_append_buf rfl (.tmp 9) (.tmp 10) rfl hl.out.symm rfl (hb0.out.alloc _) (by have := hbel0.out.size; simp; omega) (by have := hl.out; omega) 128 ⟨(Lib.bytesWorld w 5 s).heap.size, 0, none⟩ 1 rfl (cell_new1 _ 128) ?_; intro g cap w1 hB1 hG1)
  have hB : Hid (Buf w.heap.size w1 g cap (zL s.data.toList 0) ∧ Below w.heap.size w w1) := ⟨hB1, (hbel0.out.alloc hbel0.out.size _).grown hG1 (by have := hbel0.out.size; simp; omega) (fun k hk => by cases hk; exact Nat.le_refl _)⟩
  clear hb0 hbel0 hcv hB1 hG1
  go_wp2_with fail
  go_loopw [5] (fun v wr => ∃ k g cap : Nat, k ≤ zerosN s.data.toList.length ∧ v = .slice (some ⟨g, 0, none⟩) (s.size + 1 + k) cap ∧ Buf w.heap.size wr g cap (zL s.data.toList k) ∧ Below w.heap.size w wr)
    (fun v _ => match v with | .slice _ n _ => 200 - n | _ => 0)
  case atStart => exact ⟨0, g, cap, Nat.zero_le _, rfl, hB.out.1, hB.out.2⟩
  case round =>
    clear hB
    obtain ⟨k, g, cap, hk, rfl, hB, hbel⟩ := hrel
    have hB := Lib.hid (And.intro hB hbel)
    have hz : zerosN s.data.toList.length = (119 - s.size) % 64 := by rw [hl.out, zerosN, Nat.mod_eq_of_lt hs]
    rw [hz] at hk
    clear hbel
    have HZ := Lib.hid hz
    clear hz
    by_cases hlt : k < (119 - s.size) % 64
    · have hne : ((((s.size : Int) + 1 + (k : Int)) % 64) != 56) = true := by rw [bne_iff_ne]; omega
      have hk2 : k + 1 ≤ (119 - s.size) % 64 := by omega
      have hk3 : k < 64 := by omega
      clear hlt hk
      have hs0 : Hid (w.heap.size ≤ wr.heap.size) := hB.out.2.size
      go_wp2_with (at_builtin; refine wpList_append_buf rfl (.tmp 16) (.tmp 17) rfl (show s.size + 1 + k = (zL s.data.toList k).length by rw [zL_len, hl.out]) rfl (hB.out.1.alloc _) (by have := hs0.out; simp; omega) (by rw [zL_len, hl.out]; omega) 0 ⟨wr.heap.size, 0, none⟩ 1 rfl (cell_new1 _ 0) ?_; intro g2 cap2 w2 hB1 hG1)
      have hB2 : Hid (Buf w.heap.size w2 g2 cap2 (zL s.data.toList (k + 1)) ∧ Below w.heap.size w w2) := ⟨by rw [← zL_succ]; exact hB1, (hB.out.2.alloc hs0.out _).grown hG1 (by have := hs0.out; simp; omega) (fun k hk => by cases hk; exact hB.out.1.new)⟩
      clear hB1 hG1 hB
      go_wp2_with fail
      go_roundw
      case rel => exact ⟨k + 1, g2, cap2, by rw [HZ.out]; exact hk2, rfl, hB2.out.1, hB2.out.2⟩
      case measure => simp; omega
    · have ek : k = (119 - s.size) % 64 := by omega
      have hne : ((((s.size : Int) + 1 + (k : Int)) % 64) != 56) = false := by rw [bne_eq_false_iff_eq]; omega
      have hB3 : Hid (Buf w.heap.size wr g cap (bL s.data.toList m 0) ∧ Below w.heap.size w wr) := by
        have h := hB.out
        rw [ek, ← HZ.out] at h
        refine ⟨?_, h.2⟩
        have e : bL s.data.toList m 0 = zL s.data.toList (zerosN s.data.toList.length) := by unfold bL; simp
        rw [e]; exact h.1
      have hn : Hid (s.size + 1 + k = (bL s.data.toList m 0).length) := by
        show _ = _
        rw [bL_len _ _ _ (by omega), HZ.out, hl.out]; omega
      have hk3 : s.size + 1 + k < 200 := by omega
      clear hB ek hlt hk
      go_wp2_with fail
      obtain ⟨n, hn2⟩ : ∃ n, s.size + 1 + k = n := ⟨_, rfl⟩
      rw [hn2] at hn hk3
      rw [hn2]
      clear hn2
      go_loopw [5, 22] (fun v j wr => ∃ i g cap : Nat, i ≤ 8 ∧ j = .int .i64 i ∧ v = .slice (some ⟨g, 0, none⟩) (n + i) cap ∧ Buf w.heap.size wr g cap (bL s.data.toList m i) ∧ Below w.heap.size w wr)
        (fun _ j _ => 8 - (intOf j).toNat)
      case atStart => exact ⟨0, g, cap, Nat.zero_le _, rfl, rfl, hB3.out.1, hB3.out.2⟩
      case round =>
        clear hB3
        obtain ⟨i, g, cap, hi, rfl, rfl, hB, hbel⟩ := hrel
        have hB := Lib.hid (And.intro hB hbel)
        clear hbel
        have hn2 : Hid (n + i = (bL s.data.toList m i).length) := by
          show _ = _
          have := hn.out
          rw [bL_len _ _ _ (by omega)] at this
          rw [bL_len _ _ _ hi]; omega
        by_cases hlt : i < 8
        · have ht : (56 - 8 * (i : Int)).toNat = 56 - 8 * i := by omega
          obtain ⟨c, hc⟩ : ∃ c, UInt8.ofNat (8 * m / 2 ^ (56 - 8 * i)) = c := ⟨_, rfl⟩
          have hx := lenByte m (56 - 8 * i)
          have hS : Hid (bL s.data.toList m i ++ [c] = bL s.data.toList m (i + 1)) := by rw [← hc]; exact bL_succ _ _ _ hlt
          rw [hc] at hx
          clear hc
          have hx' := hx
          rw [IntKind.wrap_u8] at hx'
          have hlt' : (i : Int) < 8 := by omega
          have hs0 : Hid (w.heap.size ≤ wr.heap.size) := hB.out.2.size
          go_wp2_with (at_builtin; refine wpList_append_buf rfl (.tmp 25) (.tmp 32) rfl hn2.out rfl (hB.out.1.alloc _) (by have := hs0.out; simp; omega) (by rw [← hn2.out]; omega) c ⟨wr.heap.size, 0, none⟩ 1 rfl (cell_new1 _ c) ?_; intro g2 cap2 w2 hB1 hG1)
          have hB2 : Hid (Buf w.heap.size w2 g2 cap2 (bL s.data.toList m (i + 1)) ∧ Below w.heap.size w w2) := ⟨by rw [← hS.out]; exact hB1, (hB.out.2.alloc hs0.out _).grown hG1 (by have := hs0.out; simp; omega) (fun k hk => by cases hk; exact hB.out.1.new)⟩
          clear hB1 hG1 hB hx hx' ht hlt'
          go_wp2_with fail
          go_roundw
          case rel => exact ⟨i + 1, g2, cap2, by omega, by go_num, rfl, hB2.out.1, hB2.out.2⟩
          case measure => simp [intOf]; omega
        · have ei : i = 8 := by omega
          rw [ei] at hB hn2
          have hcv := fun W (h : Buf w.heap.size W g cap (bL s.data.toList m 8)) => conv_buf hn2.out h
          have hcw := hcv wr hB.out.1
          rw [show (i : Int) = 8 by omega, ei]
          clear hcv ei hlt hi hn2
          go_wp2_with fail
          go_ret
          exact ⟨rfl, hB.out.2⟩
end Go.Proofs.YtddcephegpmbbaaDoor
