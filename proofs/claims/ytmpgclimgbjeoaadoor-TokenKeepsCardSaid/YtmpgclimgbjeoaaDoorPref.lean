/- prefix: how many bytes at the start belong, white space and atom bytes. -/
import Derived.Test.YtmpgclimgbjeoaaDoorByte
namespace Go.Proofs.YtmpgclimgbjeoaaDoor
open Go.ChangeShapes Go.WideShapes Go.ChangeAt Go.RowKit

theorem while_at (p : UInt8 → Bool) (l : List UInt8) (k : Nat) (c : UInt8) (h : l[k]? = some c) : (l.drop k).takeWhile p = if p c = true then c :: (l.drop (k + 1)).takeWhile p else [] := by
  obtain ⟨h1, h2⟩ := List.getElem?_eq_some_iff.1 h
  rw [List.drop_eq_getElem_cons h1, h2, List.takeWhile_cons]
theorem while_more (p : UInt8 → Bool) (l : List UInt8) (k : Nat) (c : UInt8) (h : l[k]? = some c) (hp : p c = true) (he : (l.takeWhile p).length = k + ((l.drop k).takeWhile p).length) :
    (l.takeWhile p).length = k + 1 + ((l.drop (k + 1)).takeWhile p).length := by
  rw [while_at p l k c h, if_pos hp, List.length_cons] at he
  omega
theorem while_stop (p : UInt8 → Bool) (l : List UInt8) (k : Nat) (c : UInt8) (h : l[k]? = some c) (hp : p c = false) (he : (l.takeWhile p).length = k + ((l.drop k).takeWhile p).length) : (l.takeWhile p).length = k := by
  rw [while_at p l k c h, if_neg (by rw [hp]; exact Bool.false_ne_true), List.length_nil] at he
  omega
theorem while_end (p : UInt8 → Bool) (l : List UInt8) (k : Nat) (h : l.length ≤ k) (he : (l.takeWhile p).length = k + ((l.drop k).takeWhile p).length) : (l.takeWhile p).length = k := by
  rw [List.drop_eq_nil_of_le h, List.takeWhile_nil, List.length_nil] at he
  omega
set_option maxHeartbeats 1000000 in
theorem pre_white (s : ByteArray) (hs : s.size ≤ 1000000) (w : World) :
    Calls Tryd.prog 31 #[.string s, .func (.func 30) #[] #[]] w fun e w' => e = .returned (.int .i64 ((s.data.toList.takeWhile TokP.blank).length : Nat)) ∧ w = w' := by
  obtain ⟨n, hn⟩ : ∃ n, s.size = n := ⟨_, rfl⟩
  have HL := Lib.hid (size_list s)
  rw [hn] at hs
  have HN := Lib.hid hn
  clear hn
  go_enter Tryd.func31, Tryd.ntmps31
  have hn : s.size = n := HN.out
  go_wp2_with fail
  clear hn
  go_loopw [8] (fun i wr => ∃ k : Nat, k ≤ n ∧ i = .int .i64 k ∧ wr = w ∧ Hid ((s.data.toList.takeWhile TokP.blank).length = k + ((s.data.toList.drop k).takeWhile TokP.blank).length)) (fun i _ => n - (intOf i).toNat)
  case atStart => exact ⟨0, Nat.zero_le _, rfl, rfl, by show _ = _; rw [List.drop_zero, Nat.zero_add]⟩
  case round =>
    obtain ⟨k, hk, rfl, rfl, HS⟩ := hrel
    have F1 : IntKind.i64.wrap ((k : Int) + 1) = (k : Int) + 1 := by rw [IntKind.wrap_i64]; omega
    by_cases hlt : k < n
    · have hlt' : (k : Int) < (n : Int) := by omega
      obtain ⟨c, x, hc, hx, hx2, S1⟩ := run_byte s k (by rw [HN.out]; exact hlt)
      have cB := isWhite_any c x hx
      by_cases hp : TokP.blank c = true
      · have HS2 := Lib.hid (while_more _ _ k c hc hp HS.out)
        rw [hp] at cB
        clear hp hc hx hx2 HS HL HN
        go_wp2_with (go_at_call 30; refine (cB _).mono ?_; rintro e w' ⟨rfl, rfl⟩)
        go_roundw
        case rel => exact ⟨k + 1, by omega, by go_num, trivial, HS2⟩
        case measure => simp [intOf]; omega
      · have hp' : TokP.blank c = false := by simpa using hp
        have HS2 := Lib.hid (while_stop _ _ k c hc hp' HS.out)
        rw [hp'] at cB
        clear hp hp' hc hx hx2 HS HL HN
        go_wp2_with (go_at_call 30; refine (cB _).mono ?_; rintro e w' ⟨rfl, rfl⟩)
        go_ret
        exact ⟨by rw [HS2.out]; rfl, rfl⟩
    · have HS2 := Lib.hid (while_end _ _ k (by rw [← HL.out, HN.out]; omega) HS.out)
      obtain rfl : k = n := by omega
      have hlt' : ¬ (k : Int) < (k : Int) := by omega
      have hn : s.size = k := HN.out
      clear HS HL HN
      go_wp2_with fail
      go_ret
      exact ⟨by rw [HS2.out]; rfl, rfl⟩
set_option maxHeartbeats 1000000 in
theorem pre_atom (s : ByteArray) (hs : s.size ≤ 1000000) (w : World) :
    Calls Tryd.prog 31 #[.string s, .func (.func 34) #[] #[]] w fun e w' => e = .returned (.int .i64 ((s.data.toList.takeWhile TokP.atomB).length : Nat)) ∧ w = w' := by
  obtain ⟨n, hn⟩ : ∃ n, s.size = n := ⟨_, rfl⟩
  have HL := Lib.hid (size_list s)
  rw [hn] at hs
  have HN := Lib.hid hn
  clear hn
  go_enter Tryd.func31, Tryd.ntmps31
  have hn : s.size = n := HN.out
  go_wp2_with fail
  clear hn
  go_loopw [8] (fun i wr => ∃ k : Nat, k ≤ n ∧ i = .int .i64 k ∧ wr = w ∧ Hid ((s.data.toList.takeWhile TokP.atomB).length = k + ((s.data.toList.drop k).takeWhile TokP.atomB).length)) (fun i _ => n - (intOf i).toNat)
  case atStart => exact ⟨0, Nat.zero_le _, rfl, rfl, by show _ = _; rw [List.drop_zero, Nat.zero_add]⟩
  case round =>
    obtain ⟨k, hk, rfl, rfl, HS⟩ := hrel
    have F1 : IntKind.i64.wrap ((k : Int) + 1) = (k : Int) + 1 := by rw [IntKind.wrap_i64]; omega
    by_cases hlt : k < n
    · have hlt' : (k : Int) < (n : Int) := by omega
      obtain ⟨c, x, hc, hx, hx2, S1⟩ := run_byte s k (by rw [HN.out]; exact hlt)
      have cB := isAtom_any c x hx
      by_cases hp : TokP.atomB c = true
      · have HS2 := Lib.hid (while_more _ _ k c hc hp HS.out)
        rw [hp] at cB
        clear hp hc hx hx2 HS HL HN
        go_wp2_with (go_at_call 34; refine (cB _).mono ?_; rintro e w' ⟨rfl, rfl⟩)
        go_roundw
        case rel => exact ⟨k + 1, by omega, by go_num, trivial, HS2⟩
        case measure => simp [intOf]; omega
      · have hp' : TokP.atomB c = false := by simpa using hp
        have HS2 := Lib.hid (while_stop _ _ k c hc hp' HS.out)
        rw [hp'] at cB
        clear hp hp' hc hx hx2 HS HL HN
        go_wp2_with (go_at_call 34; refine (cB _).mono ?_; rintro e w' ⟨rfl, rfl⟩)
        go_ret
        exact ⟨by rw [HS2.out]; rfl, rfl⟩
    · have HS2 := Lib.hid (while_end _ _ k (by rw [← HL.out, HN.out]; omega) HS.out)
      obtain rfl : k = n := by omega
      have hlt' : ¬ (k : Int) < (k : Int) := by omega
      have hn : s.size = k := HN.out
      clear HS HL HN
      go_wp2_with fail
      go_ret
      exact ⟨by rw [HS2.out]; rfl, rfl⟩
end Go.Proofs.YtmpgclimgbjeoaaDoor
