/- strings.IndexRune of the bytes that no literal holds, at a code point beyond ASCII: -1. -/
import Derived.Test.YtgponokcigapaaaDoorK5
import Derived.Laws.OwnMore
import Derived.Laws.RangeString
import Derived.Deep.QuietTactic
import Derived.BigQuiet
import Derived.BigCall
import Derived.Lib.IndexLaws
namespace Go.Proofs.YtgponokcigapaaaDoor
open Go.ChangeShapes Go.WideShapes Go.ChangeAt Go.RowKit

theorem run_next_any {P : Program} (w : World) (s : ByteArray) (pos : Nat) (ty : TypeId) (h : pos < s.size) :
    (Instr.next (.pointer (some ⟨w.heap.size, 0, none⟩)) true ty).run P (w.iter s pos) =
      .ok (.tuple #[.bool true, .int .i64 pos, .int .i32 ((Utf8.decode s pos).1 : Int)]) (w.iter s (pos + (Utf8.decode s pos).2)) := by
  simp only [Instr.next, getObj, setObj, Sem.run_bind, Sem.run, World.iter_heap, Result.andThen, h, if_true, World.iter_set]
  simp [goInt]

theorem decode_big (s : ByteArray) (pos : Nat) (h : pos < s.size) (ha : ¬ (s[pos]'h).toNat < 128) : 128 ≤ (Utf8.decode s pos).1 := by
  have e : s.get! (pos + 0) = s[pos]'h := by
    show s.get! pos = _
    simp [ByteArray.get!, getElem!_pos, h]
    rfl
  simp only [Utf8.decode, e, ha, if_false]
  (repeat' split) <;> first | (simp only [Utf8.runeError]; omega) | (dsimp only; omega) | (rename_i h1; simp only [Bool.and_eq_true, decide_eq_true_eq] at h1; dsimp only; omega)

/-- Where an iterator stands. -/
def iterPos (w : World) (b : Nat) : Nat := match w.heap[b]? with | some (.stringIter _ p) => p | _ => 0
theorem iterPos_iter (w : World) (s : ByteArray) (p : Nat) : iterPos (w.iter s p) w.heap.size = p := by
  unfold iterPos; rw [World.iter_heap]
theorem below_iter (w : World) (s : ByteArray) (p : Nat) : Below w.heap.size w (w.iter s p) := (Below.refl _ _).alloc (Nat.le_refl _) _

theorem drews {B : Nat} {a w : World} (h : Below B a w) (n : Nat) : Below B a (w.drewN n) := h.trans ⟨rfl, rfl, rfl, Nat.le_refl _, fun _ _ => rfl⟩
/-- The bytes that no literal holds. -/
def stopB : ByteArray := ⟨#[91, 93, 92]⟩
theorem stop_low : ∀ k : Fin 3, (stopB.data.toList.getD k.val 0).toNat < 128 := by decide
theorem stop_at (p : Nat) (h : p < stopB.size) : stopB[p].toNat < 128 := by
  have := stop_low ⟨p, h⟩
  rw [List.getD_eq_getElem?_getD, List.getElem?_eq_getElem (by rw [← size_list]; exact h)] at this
  exact this
set_option maxRecDepth 1000000 in
set_option maxHeartbeats 2000000 in
theorem rune_bad (w : World) :
    Calls Tryd.prog 96 #[.string stopB, .int .i32 65533] w fun e w' => e = .returned (.int .i64 (-1)) ∧ Below w.heap.size w w' := by
  have hz : stopB.size = 3 := rfl
  obtain ⟨B, hB⟩ : ∃ B, stopB = B := ⟨_, rfl⟩
  have hl := stop_at
  rw [hB] at hz hl ⊢
  have HL := Lib.hid hl
  clear hl hB
  go_enter Tryd.func96, Tryd.ntmps96
  go_wp2_with fail
  go_loopw [] (fun wr => ∃ p : Nat, p ≤ 3 ∧ wr = w.iter B p) (fun wr => 3 - iterPos wr w.heap.size)
  case atStart => exact ⟨0, by omega, rfl⟩
  case round =>
    obtain ⟨p, hp, rfl⟩ := hrel
    by_cases hlt : p < B.size
    · have h128 := HL.out p hlt
      have hnx := fun ty => run_next_ascii (P := Tryd.prog) w B p ty hlt h128
      have hne : ((B[p].toNat : Int) == 65533) = false := beq_eq_false_iff_ne.2 (by omega)
      go_wp2_with fail
      refine ⟨⟨p + 1, by omega, rfl⟩, by rw [iterPos_iter, iterPos_iter]; omega⟩
    · have hnx := fun ty => run_next_end (P := Tryd.prog) w B p ty hlt
      go_wp2_with fail
      go_ret
      exact ⟨rfl, below_iter _ _ _⟩
theorem encode_high (r : Int) (h : 128 ≤ r) : ∃ n, 1 ≤ n ∧ n ≤ 3 ∧ ∃ h : n < (Utf8.encode r).size, (Utf8.encode r).size = n + 1 ∧ 128 ≤ ((Utf8.encode r)[n]).toNat := by
  obtain ⟨c, hc⟩ : ∃ c, (if Utf8.valid r then r.toNat else Utf8.runeError) = c := ⟨_, rfl⟩
  have hc128 : 128 ≤ c := by
    rw [← hc]
    split
    · omega
    · unfold Utf8.runeError; omega
  have h80 : ∀ k : Nat, k < 64 → 128 ≤ (UInt8.ofNat (0x80 + k)).toNat := fun k hk => by rw [UInt8.toNat_ofNat']; omega
  have e : Utf8.encode r = if c < 0x80 then ⟨#[UInt8.ofNat c]⟩
    else if c < 0x800 then ⟨#[UInt8.ofNat (0xC0 + c / 64), UInt8.ofNat (0x80 + c % 64)]⟩
    else if c < 0x10000 then ⟨#[UInt8.ofNat (0xE0 + c / 4096), UInt8.ofNat (0x80 + c / 64 % 64), UInt8.ofNat (0x80 + c % 64)]⟩
    else ⟨#[UInt8.ofNat (0xF0 + c / 262144), UInt8.ofNat (0x80 + c / 4096 % 64), UInt8.ofNat (0x80 + c / 64 % 64), UInt8.ofNat (0x80 + c % 64)]⟩ := by
    rw [← hc]; rfl
  rw [e, if_neg (by omega)]
  split
  · exact ⟨1, by decide, by decide, Nat.lt_succ_self 1, rfl, h80 _ (by omega)⟩
  · split
    · exact ⟨2, by decide, by decide, Nat.lt_succ_self 2, rfl, h80 _ (by omega)⟩
    · exact ⟨3, by decide, by decide, Nat.lt_succ_self 3, rfl, h80 _ (by omega)⟩
set_option maxRecDepth 1000000 in
set_option maxHeartbeats 4000000 in
theorem rune_good (c : Nat) (h1 : 128 ≤ c) (h2 : c ≠ 65533) (w : World) :
    Calls Tryd.prog 96 #[.string stopB, .int .i32 c] w fun e w' => e = .returned (.int .i64 (-1)) ∧ Below w.heap.size w w' := by
  have HV := Lib.hid (fun W => Tryd.utf8_ValidRune (c : Int) W)
  have hne : ((c : Int) == 65533) = false := beq_eq_false_iff_ne.2 (by omega)
  cases hval : Lib.validRune (c : Int) with
  | false =>
    rw [hval] at HV
    obtain ⟨B, hB⟩ : ∃ B, stopB = B := ⟨_, rfl⟩
    rw [hB]
    clear hval
    go_enter Tryd.func96, Tryd.ntmps96
    go_wp2_with (go_at_call 101; refine (HV.out _).mono ?_; rintro e w1 ⟨rfl, rfl⟩)
    go_ret
    exact ⟨rfl, Below.refl _ _⟩
  | true =>
    rw [hval] at HV
    obtain ⟨E, hE, n, n1, n3, hn, hsz, hlast⟩ : ∃ E, Utf8.encode (c : Int) = E ∧ ∃ n, 1 ≤ n ∧ n ≤ 3 ∧ ∃ h : n < E.size, E.size = n + 1 ∧ 128 ≤ (E[n]).toNat := ⟨_, rfl, encode_high (c : Int) (by omega)⟩
    obtain ⟨x, hx⟩ : ∃ x : UInt8, E[n]'hn = x := ⟨_, rfl⟩
    rw [hx] at hlast
    by_cases h3 : n = 3
    · subst h3
      have hEz : (E.size : Int) = 4 := by omega
      have hBz : stopB.size = 3 := rfl
      obtain ⟨B, hB⟩ : ∃ B, stopB = B := ⟨_, rfl⟩
      rw [hB] at hBz ⊢
      have HV2 := Lib.hid (fun W => (HV.out W).mono fun e w' (h : e = .returned (.bool true) ∧ w' = W) => (⟨h.1, h.2.symm⟩ : e = .returned (.bool true) ∧ W = w'))
      have HH := Lib.hid (And.intro hEz hBz)
      clear hx hval hB hn hsz HV hEz hBz n1 n3 hlast h2
      go_enter Tryd.func96, Tryd.ntmps96
      go_wp2_with (go_at_call 101; refine (HV2.out _).mono ?_; rintro e w1 ⟨rfl, rfl⟩)
      go_step3
      obtain ⟨hEz, hBz⟩ := HH.out
      clear HH hne h1
      go_wp2_with fail
      go_loop [9, 10] (fun a b => a = .int .i64 3 ∧ b = .int .i64 0) (fun _ _ => 0)
      case atStart => exact ⟨rfl, rfl⟩
      case round =>
        obtain ⟨rfl, rfl⟩ := hrel
        go_wp2_with fail
        go_ret
        exact ⟨rfl, Below.refl _ _⟩
    · have n2 : n ≤ 2 := by omega
      have rE : ∀ W, (Instr.index 9 (.string E) (.int .i64 n)).run Tryd.prog W = .ok (.int .u8 (x.toNat : Int)) W := fun W => by
        rw [← hx]
        exact run_index_str E n n rfl hn W
      have hEz : (E.size : Int) = (n : Int) + 1 := by omega
      have hBz : stopB.size = 3 := rfl
      obtain ⟨y, hy⟩ : ∃ y : UInt8, stopB[n]'(by omega) = y := ⟨_, rfl⟩
      have hy128 : y.toNat < 128 := by rw [← hy]; exact stop_at n (by omega)
      have hidx : Lib.indexByte (stopB.extract (n + 1) stopB.size).data.toList x = -1 := by
        have hb := Lib.indexByte_ge (stopB.extract (n + 1) stopB.size).data.toList x
        rcases (show Lib.indexByte (stopB.extract (n + 1) stopB.size).data.toList x = -1 ∨ 0 ≤ Lib.indexByte (stopB.extract (n + 1) stopB.size).data.toList x by omega) with h | h
        · exact h
        · obtain ⟨o, ho⟩ : ∃ o : Nat, Lib.indexByte (stopB.extract (n + 1) stopB.size).data.toList x = o := ⟨(Lib.indexByte (stopB.extract (n + 1) stopB.size).data.toList x).toNat, by omega⟩
          obtain ⟨hm, _⟩ := Lib.indexByte_some ho
          rw [part_rest stopB (n + 1) (by omega)] at hm
          have hm2 := List.mem_of_mem_drop (List.mem_of_getElem? hm)
          have : ∀ b ∈ stopB.data.toList, b.toNat < 128 := by decide
          have := this x hm2
          omega
      have hI := fun W => Tryd.strings_IndexByte (stopB.extract (n + 1) stopB.size) (x.toNat : Int) W
      rw [show ((x.toNat : Int)).toNat.toUInt8 = x by simp, hidx] at hI
      have rB : ∀ W, (Instr.index 9 (.string stopB) (.int .i64 n)).run Tryd.prog W = .ok (.int .u8 (y.toNat : Int)) W := fun W => by
        rw [← hy]
        exact run_index_str stopB n n rfl (by omega) W
      have rs : ∀ W, (Instr.slice 9 (.string stopB) (some (.int .i64 ((n : Int) + 1))) none none).run Tryd.prog W = .ok (.string (stopB.extract (n + 1) stopB.size)) W := fun W => run_slice_from stopB (n + 1) ((n : Int) + 1) (by omega) (by omega) W
      obtain ⟨R, hR⟩ : ∃ R, stopB.extract (n + 1) stopB.size = R := ⟨_, rfl⟩
      rw [hR] at rs hI
      obtain ⟨B, hB⟩ : ∃ B, stopB = B := ⟨_, rfl⟩
      rw [hB] at rs rB hBz ⊢
      have hyx : ((y.toNat : Int) != (x.toNat : Int)) = true := by rw [bne_iff_ne]; omega
      have HI := Lib.hid hI
      have HV2 := Lib.hid (fun W => (HV.out W).mono fun e w' (h : e = .returned (.bool true) ∧ w' = W) => (⟨h.1, h.2.symm⟩ : e = .returned (.bool true) ∧ W = w'))
      have HH := Lib.hid (And.intro hyx (And.intro rE (And.intro rB (And.intro rs (And.intro hEz (And.intro hBz (And.intro n1 n2)))))))
      clear hI hidx hR hy hx hval hB hn hsz HV hyx rE rB rs hEz hBz n1 n2 hy128 hlast h2
      go_enter Tryd.func96, Tryd.ntmps96
      go_wp2_with (go_at_call 101; refine (HV2.out _).mono ?_; rintro e w1 ⟨rfl, rfl⟩)
      go_step3
      obtain ⟨hyx, rE, rB, rs, hEz, hBz, n1, n2⟩ := HH.out
      have hn6 : (n : Int) < 3 := by omega
      have ew : IntKind.i64.wrap ((n : Int) + 1) = (n : Int) + 1 := IntWalk.i64_in _ (by omega)
      clear HH hne h1 n1 n2
      go_wp2_with fail
      go_loop [9, 10] (fun a b => a = .int .i64 n ∧ b = .int .i64 0) (fun _ _ => 0)
      case atStart => exact ⟨rfl, rfl⟩
      case round =>
        obtain ⟨rfl, rfl⟩ := hrel
        go_wp2_with fail
        go_step3
        go_wp2_with fail
        go_quiet (fail)
        go_wp2_with fail
        generalize hw2 : w.drewN nq = w2
        go_quiet ((go_at_call 81; exact Calls.quiet_of_same (HI.out _)))
        go_wp2_with fail
        simp +zetaDelta only [Exit.noGoto, Exit.inBlock, Exit.then]
        go_ret
        rw [← hw2]
        exact ⟨rfl, drews (drews (Below.refl _ w) _) _⟩
end Go.Proofs.YtgponokcigapaaaDoor
