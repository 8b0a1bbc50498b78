/- The Q encoding, written and read. -/
import Derived.Test.YtblbajhjmdcdiaaDoorUnesc
import Derived.Lib.Replace
import Derived.Lib.CountLaws
namespace Go.Proofs.YtblbajhjmdcdiaaDoor
open Go.ChangeShapes Go.WideShapes Go.ChangeAt Go.RowKit

theorem index_nat (d : UInt8) : ∀ t : List UInt8, d ∈ t → ∃ a b, t = a ++ d :: b ∧ d ∉ a ∧ Lib.index t [d] = (a.length : Int)
  | [], h => by cases h
  | c :: t, h => by
    by_cases e : c = d
    · subst e
      exact ⟨[], t, rfl, by simp, by rw [index_cons, prefix_one, if_pos (by simp)]; rfl⟩
    · have hm : d ∈ t := by
        rcases List.mem_cons.1 h with h' | h'
        · exact absurd h'.symm e
        · exact h'
      obtain ⟨a, b, h1, h2, h3⟩ := index_nat d t hm
      refine ⟨c :: a, b, by rw [h1]; rfl, by simp [h2, Ne.symm e], ?_⟩
      rw [index_cons, prefix_one, if_neg (by rw [beq_iff_eq]; exact fun k => e k.symm), h3, if_neg (by rw [beq_iff_eq]; omega)]
      simp
theorem index_not (d : UInt8) (t : List UInt8) (h : d ∉ t) : Lib.index t [d] = -1 := by
  have h1 := index_or t [d]
  have h2 := index_mem d t
  rcases h1 with h1 | h1
  · exact h1
  · exact absurd (h2.1 h1) h
theorem unuL_plain : ∀ l : List UInt8, 95 ∉ l → unuL l = l
  | [], _ => rfl
  | c :: t, h => by
    show (if c = 95 then 32 else c) :: unuL t = _
    rw [if_neg (fun e => h (by simp [e])), unuL_plain t (fun e => h (by simp [e]))]
theorem replaceK_unu : ∀ (n : Nat) (l : List UInt8), l.length ≤ n → Lib.replaceK [95] [32] (Lib.count l [95]) l = unuL l := by
  intro n
  induction n with
  | zero =>
    intro l h
    obtain rfl : l = [] := List.eq_nil_of_length_eq_zero (by omega)
    rfl
  | succ n ih =>
    intro l h
    by_cases hm : (95 : UInt8) ∈ l
    · obtain ⟨a, b, e, ha, hi⟩ := index_nat 95 l hm
      rw [Lib.count_hit (by decide) hi, Nat.add_comm 1, Lib.replaceK_hit _ _ _ _ _ hi]
      have e1 : l.take a.length = a := by rw [e]; simp
      have e2 : l.drop (a.length + ([95] : List UInt8).length) = b := by
        rw [e, ← List.drop_drop]; simp
      rw [e1, e2, ih b (by rw [e, List.length_append, List.length_cons] at h; omega), e, unuL_append, unuL_plain a ha, List.append_assoc]
      rfl
    · rw [Lib.count_miss (index_not _ _ hm), unuL_plain l hm]
      rfl
theorem replace_unu (l : List UInt8) : Lib.replaceAll l [95] [32] = unuL l := by
  unfold Lib.replaceAll Lib.replace
  rw [if_neg (by decide)]
  unfold Lib.replaceNum
  rw [if_pos (Or.inl (by decide))]
  exact replaceK_unu l.length l (Nat.le_refl _)

theorem unu_length (l : List UInt8) : (unuL l).length = l.length := List.length_map ..
set_option maxHeartbeats 1600000 in
theorem unq_any (s : ByteArray) (hs : s.size ≤ 1000000) (w : World) (hv : Vars w) :
    Calls Tryd.prog 20 #[.string s] w fun e w' => e = .returned (.string (strL (unqL s.data.toList))) ∧ Below w.heap.size w w' := by
  obtain ⟨m, hm⟩ := hv.len
  have h40 : Calls Tryd.prog 40 #[.string s, .string ⟨#[95]⟩, .string ⟨#[32]⟩] w fun e w' => e = .returned (.string (strL (unuL s.data.toList))) ∧ Below w.heap.size w w' := by
    have hc : Lib.countB s ⟨#[95]⟩ ≤ s.data.toList.length + 1 := Lib.count_le _ _
    rw [← size_list] at hc
    have := Tryd.strings_ReplaceAll s ⟨#[95]⟩ ⟨#[32]⟩ m w (by omega) hm (by decide) (by rw [show (⟨#[32]⟩ : ByteArray).size = 1 from rfl]; omega)
    rw [show (⟨#[95]⟩ : ByteArray).data.toList = [95] from rfl, show (⟨#[32]⟩ : ByteArray).data.toList = [32] from rfl, replace_unu] at this
    exact this
  have h37 := fun W => unescaped_any (strL (unuL s.data.toList)) (by rw [strL_size, unu_length, ← size_list]; exact hs) W
  rw [strL_list] at h37
  have H40 := Lib.hid h40
  have H37 := Lib.hid h37
  clear h40 h37 hm
  go_enter Tryd.func20, Tryd.ntmps20
  go_wp2_with (go_at_call 40; refine H40.out.mono ?_)
  rintro e w1 ⟨rfl, hb1⟩
  go_wp2_with (go_at_call 37; refine (H37.out w1).mono ?_)
  rintro e w2 ⟨rfl, hb2⟩
  go_wp2
  go_ret
  exact ⟨rfl, Qtrans hb1 hb2⟩

theorem take_snoc (s : ByteArray) (k : Nat) (h : k < s.size) : s.data.toList.take (k + 1) = s.data.toList.take k ++ [s[k]] := by
  rw [List.take_succ_eq_append_getElem (by rw [← size_list]; exact h)]; rfl
theorem qL_snoc (l : List UInt8) (c : UInt8) : qL (l ++ [c]) = qL l ++ qByte c := by
  unfold qL
  rw [List.flatMap_append]
  simp
set_option maxHeartbeats 4000000 in
set_option maxRecDepth 1000000 in
theorem q_any (s : ByteArray) (hs : s.size ≤ 1000000) (w : World) (hv : Vars w) :
    Calls Tryd.prog 18 #[.string s] w fun e w' => e = .returned (.string (strL (qL s.data.toList))) ∧ Below w.heap.size w w' := by
  have hlow := hv.low
  go_enter Tryd.func18, Tryd.ntmps18
  go_wp2
  have hB0 : Bd (w.alloc (.cells #[.pointer none, .slice none 0 0] 31)) w.heap.size [] := bd_new (Go.heap_alloc_new _ _)
  have hb0 : Below w.heap.size w (w.alloc (.cells #[.pointer none, .slice none 0 0] 31)) := (Below.refl _ w).alloc (Nat.le_refl _) _
  go_loopw [7] (fun i wr => ∃ k : Nat, k ≤ s.size ∧ i = .int .i64 k ∧ Bd wr w.heap.size (qL (s.data.toList.take k)) ∧ Below w.heap.size w wr)
    (fun i _ => s.size - (intOf i).toNat)
  case atStart => exact ⟨0, Nat.zero_le _, rfl, hB0, hb0⟩
  case round =>
    clear hB0 hb0
    obtain ⟨k, hk, rfl, hB, hbw⟩ := hrel
    have hszr := hB.lt
    by_cases hlt : k < s.size
    · have hvr := hv.at hbw hlow
      have hw := word_any (s.extract k (k + 1)) s[k] (part_one s k hlt) wr hvr
      have hsl : ∀ W, (Instr.slice 9 (.string s) (some (.int .i64 k)) (some (.int .i64 ((k : Int) + 1))) none).run Tryd.prog W = .ok (.string (s.extract k (k + 1))) W := fun W => run_slice_str s k (k + 1) _ (by omega) (by omega) (by omega) W
      have hl := qL_length (s.data.toList.take k)
      have hl2 : (s.data.toList.take k).length ≤ k := by rw [List.length_take]; omega
      have hl3 := qByte_length s[k]
      have HS := Lib.hid (take_snoc s k hlt)
      have HW := Lib.hid hw
      clear hw
      go_wp2_with (go_at_call 39; refine HW.out.mono ?_)
      rintro e w2 ⟨rfl, hb2⟩
      have hB2 := hB.below hb2
      go_wp2_with (go_at_call 26; refine (bd_str (strL (qByte s[k])) w.heap.size _ w2 hB2 (by rw [strL_size]; omega)).mono ?_)
      rintro e w3 ⟨rfl, hB3, hb3⟩
      go_wp2
      go_roundw
      case rel => exact ⟨k + 1, by omega, by go_num, by rw [HS.out, qL_snoc]; exact hB3, (hbw.trans (hb2.mono (Nat.le_of_lt hszr))).trans hb3⟩
      case measure => simp [intOf]; omega
    · have hend : k = s.size := by omega
      subst hend
      rw [List.take_of_length_le (by rw [← size_list]; exact Nat.le_refl _)] at hB
      go_wp2_with (go_at_call 27; refine (bd_out w.heap.size _ wr hB).mono ?_)
      rintro e W2 ⟨rfl, b1⟩
      go_wp2
      go_ret
      exact ⟨rfl, hbw.trans b1⟩
end Go.Proofs.YtblbajhjmdcdiaaDoor
