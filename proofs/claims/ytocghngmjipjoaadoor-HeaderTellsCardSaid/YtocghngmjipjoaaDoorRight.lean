/- Valid names: Right, by runes, and the reference's, byte by byte; the reference's colon. -/
import Derived.Test.YtocghngmjipjoaaDoorByte
import Derived.Laws.RangeString
import Derived.Lib.Hide
namespace Go.Proofs.YtocghngmjipjoaaDoor
open Go.ChangeShapes Go.WideShapes Go.ChangeAt Go.RowKit
open LinesP HdrP

theorem run_next_any {P : Program} (w : World) (s : ByteArray) (pos : Nat) (ty : TypeId) (h : pos < s.size) :
    (Instr.next (.pointer (some ⟨w.heap.size, 0, none⟩)) true ty).run P (w.iter s pos) =
      .ok (.tuple #[.bool true, .int .i64 pos, .int .i32 ((Utf8.decode s pos).1 : Int)]) (w.iter s (pos + (Utf8.decode s pos).2)) := by
  simp only [Instr.next, getObj, setObj, Sem.run_bind, Sem.run, World.iter_heap, Result.andThen, h, if_true, World.iter_set]
  simp [goInt]
theorem decode_big (s : ByteArray) (pos : Nat) (h : pos < s.size) (ha : ¬ (s[pos]'h).toNat < 128) : 128 ≤ (Utf8.decode s pos).1 := by
  have e : s.get! (pos + 0) = s[pos]'h := by
    show s.get! pos = _
    simp [ByteArray.get!, getElem!_pos, h]
    rfl
  simp only [Utf8.decode, e, ha, if_false]
  (repeat' split) <;> first | (simp only [Utf8.runeError]; omega) | (dsimp only; omega) | (rename_i h1; simp only [Bool.and_eq_true, decide_eq_true_eq] at h1; dsimp only; omega)
/-- Where an iterator stands. -/
def iterPos (w : World) (b : Nat) : Nat := match w.heap[b]? with | some (.stringIter _ p) => p | _ => 0
theorem iterPos_iter (w : World) (s : ByteArray) (p : Nat) : iterPos (w.iter s p) w.heap.size = p := by
  unfold iterPos; rw [World.iter_heap]
theorem below_iter (w : World) (s : ByteArray) (p : Nat) : Below w.heap.size w (w.iter s p) := (Below.refl _ _).alloc (Nat.le_refl _) _
theorem name_byte_is (c : UInt8) (x : Nat) (hx : c.toNat = x) : nameByte c = (decide (33 ≤ x) && decide (x ≤ 126) && !decide (x = 58)) := by
  unfold nameByte
  rw [hx]
  congr 1
  rw [bne, Bool.eq_iff_iff]
  simp only [Bool.not_eq_true', beq_eq_false_iff_ne, decide_eq_false_iff_not]
  constructor
  · intro h e; apply h; exact UInt8.toNat_inj.1 (by rw [hx]; exact e)
  · intro h e; apply h; rw [← hx, e]; rfl
theorem right_of {l : List UInt8} {k : Nat} (h : (l.take k).all nameByte = true) (hk : l.length ≤ k) : rightL l = !l.isEmpty := by
  rw [List.take_of_length_le hk] at h
  unfold rightL
  rw [h, Bool.and_true]
theorem right_bad {l : List UInt8} {k : Nat} {c : UInt8} (h : l[k]? = some c) (hb : nameByte c = false) : rightL l = false := by
  unfold rightL
  rw [Bool.and_eq_false_iff]
  right
  rw [List.all_eq_false]
  exact ⟨c, List.mem_of_getElem? h, by rw [hb]; exact Bool.false_ne_true⟩
theorem all_step {l : List UInt8} {k : Nat} {c : UInt8} (h : l[k]? = some c) (ha : (l.take k).all nameByte = true) (hb : nameByte c = true) : (l.take (k + 1)).all nameByte = true := by
  rw [right_prefix l k c h ha]; exact hb
set_option maxHeartbeats 2000000 in
theorem right_any (s : ByteArray) (w : World) :
    Calls Tryd.prog 24 #[.string s] w fun e w' => e = .returned (.bool (rightL s.data.toList)) ∧ Below w.heap.size w w' := by
  have hne : (s.toList != []) = !s.data.toList.isEmpty := by
    rw [ByteArray.toList_eq]; cases s.data.toList <;> rfl
  have HNE := Lib.hid hne
  clear hne
  have HL := Lib.hid (size_list s)
  go_enter Tryd.func24, Tryd.ntmps24
  go_wp2_with fail
  go_loopw [4] (fun c wr => ∃ p : Nat, p ≤ s.size ∧ wr = w.iter s p ∧ Hid ((s.data.toList.take p).all nameByte = true)) (fun c wr => s.size - iterPos wr w.heap.size)
  case atStart => exact ⟨0, Nat.zero_le _, rfl, rfl⟩
  case round =>
    obtain ⟨p, hp, rfl, hall⟩ := hrel
    by_cases hlt : p < s.size
    · obtain ⟨c, hc, hcs⟩ := byte_at s p hlt
      by_cases h128 : c.toNat < 128
      · have hnx := fun ty => run_next_ascii (P := Tryd.prog) w s p ty hlt (by rw [hcs]; exact h128)
        have hn := name_byte_is c _ rfl
        rw [hcs] at hnx
        obtain ⟨x, hx⟩ : ∃ x, c.toNat = x := ⟨_, rfl⟩
        rw [hx] at hnx hn
        have HC := Lib.hid hc
        clear hc hcs h128 hx
        by_cases h1 : 33 ≤ x
        · have h1' : ¬ (x : Int) < 33 := by omega
          by_cases h2 : x ≤ 126
          · have h2' : ¬ (126 : Int) < x := by omega
            by_cases h3 : x = 58
            · have h3' : ((x : Int) == 58) = true := by rw [beq_iff_eq]; omega
              have HB := Lib.hid (right_bad HC.out (by rw [hn, decide_eq_true h3]; simp))
              clear hn h3
              go_wp2_with fail
              go_ret
              exact ⟨by rw [HB.out]; rfl, below_iter _ _ _⟩
            · have h3' : ((x : Int) == 58) = false := by rw [beq_eq_false_iff_ne]; omega
              have HA := Lib.hid (all_step HC.out hall.out (by rw [hn, decide_eq_true h1, decide_eq_true h2, decide_eq_false h3]; rfl))
              clear hn h3
              go_wp2_with fail
              exact ⟨⟨p + 1, by omega, rfl, HA⟩, by rw [iterPos_iter, iterPos_iter]; omega⟩
          · have h2' : (126 : Int) < x := by omega
            have HB := Lib.hid (right_bad HC.out (by rw [hn, decide_eq_false h2]; simp))
            clear hn
            go_wp2_with fail
            go_ret
            exact ⟨by rw [HB.out]; rfl, below_iter _ _ _⟩
        · have h1' : (x : Int) < 33 := by omega
          have HB := Lib.hid (right_bad HC.out (by rw [hn, decide_eq_false h1]; simp))
          clear hn
          go_wp2_with fail
          go_ret
          exact ⟨by rw [HB.out]; rfl, below_iter _ _ _⟩
      · have hnx := fun ty => run_next_any (P := Tryd.prog) w s p ty hlt
        have hbig := decode_big s p hlt (by rw [hcs]; exact h128)
        have HB := Lib.hid (right_bad hc (by rw [name_byte_is c _ rfl, decide_eq_false (show ¬ c.toNat ≤ 126 by omega)]; simp))
        generalize (Utf8.decode s p).1 = y at hnx hbig
        generalize (Utf8.decode s p).2 = z at hnx
        have h1' : ¬ (y : Int) < 33 := by omega
        have h2' : (126 : Int) < y := by omega
        clear hc hcs h128 hbig
        go_wp2_with fail
        go_ret
        exact ⟨by rw [HB.out]; rfl, below_iter _ _ _⟩
    · obtain rfl : p = s.size := by omega
      have hnx := fun ty => run_next_end (P := Tryd.prog) w s ty
      have HR := Lib.hid (right_of hall.out (by rw [← HL.out]; exact Nat.le_refl _))
      have hne := HNE.out
      go_wp2_with fail
      go_ret
      exact ⟨by rw [HR.out, ← ByteArray.toList_eq]; rfl, below_iter _ _ _⟩
end Go.Proofs.YtocghngmjipjoaaDoor
