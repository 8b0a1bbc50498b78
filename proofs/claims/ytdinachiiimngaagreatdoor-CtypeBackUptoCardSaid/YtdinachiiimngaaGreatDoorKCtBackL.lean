/- CtypeBack: Same, and the law. -/
import Derived.Test.YtdinachiiimngaaGreatDoorKCtRight
import Derived.Test.YtdinachiiimngaaGreatDoorKCtSmall
import Derived.Test.YtdinachiiimngaaGreatDoorK3
import Derived.Test.YtdinachiiimngaaGreatDoorK12
import Derived.Test.YtdinachiiimngaaGreatDoorK8
namespace Go.Proofs.YtdinachiiimngaaGreatDoor
open Go.ChangeShapes Go.WideShapes Go.ChangeAt Go.RowKit
open TokP AdrP CtP

theorem own_has {w : World} {a : Option Addr} {c : Nat} {l : List (List UInt8 × List UInt8)} (h : OwnP w (.slice a l.length c) l) : HasP w (.slice a l.length c) l := by
  by_cases hl : 0 < l.length
  · obtain ⟨g, rfl, hf⟩ := h.at hl
    exact .inr ⟨g, 0, c, rfl, hf⟩
  · obtain rfl := List.eq_nil_of_length_eq_zero (Nat.eq_zero_of_not_pos hl)
    exact .inl ⟨⟨a, c, rfl⟩, rfl⟩
set_option maxRecDepth 100000 in
set_option maxHeartbeats 2000000 in
/-- Same of two types that are the same. -/
theorem same_eq (K S : ByteArray) (v u : Value) (l : List (List UInt8 × List UInt8)) (hl : l.length ≤ 4000000) (w : World) (h : Hid (HasP w v l)) (k : Hid (HasP w u l)) :
    Calls Tryz.prog 16 #[.agg #[.string K, .string S, v], .agg #[.string K, .string S, u]] w fun e w' => e = .returned (.bool true) ∧ Below w.heap.size w w' := by
  obtain ⟨a1, c1, rfl⟩ := h.out.form
  obtain ⟨a2, c2, rfl⟩ := k.out.form
  obtain ⟨m, hm⟩ : ∃ m, l.length = m := ⟨_, rfl⟩
  rw [hm] at h k ⊢
  have hb1 := (Below.refl w.heap.size w).alloc (Nat.le_refl _) (.cells #[.string K, .string S, .slice a1 m c1] 26)
  have hb2 := hb1.alloc hb1.size (.cells #[.string K, .string S, .slice a2 m c2] 26)
  have HP1 := Lib.hid (h.out.step hb2)
  have HP2 := Lib.hid (k.out.step hb2)
  have HB2 := Lib.hid hb2
  have cP := fun W (h1 : Hid (HasP W (.slice a1 m c1) l)) (h2 : Hid (HasP W (.slice a2 m c2) l)) => rparams_any h1.out h2.out hl
  rw [decide_eq_true rfl] at cP
  clear hm hb1 hb2 h k
  go_enter Tryz.func16, Tryz.ntmps16
  go_wp2_with (go_at_call 17; (with_reducible refine (cP _ HP1 HP2).mono ?_); rintro e w2 ⟨rfl, hb2⟩; have HB3 := Lib.hid (HB2.out.trans (hb2.mono HB2.out.size)); clear hb2 cP)
  go_ret
  exact ⟨rfl, HB3.out⟩
theorem kind_utf : Cs.kindL utf8N = 2 := by decide +kernel
theorem right_c {K S : List UInt8} {l : List (List UInt8 × List UInt8)} (h : rightB K S l = true) : RightC decF K S l ∧ l.length ≤ 20 ∧ ∀ p ∈ l, p.2.length ≤ 2000 := by
  unfold rightB at h
  simp only [Bool.and_eq_true, decide_eq_true_eq, List.all_eq_true] at h
  obtain ⟨h1, h2, h3, h4, h5, h6, h7⟩ := h
  refine ⟨⟨h3, h4, h1, h2, fun p hp => ?_, h7⟩, h5, fun p hp => ?_⟩
  · have := h6 p hp
    unfold okP namedB at this
    simp only [Bool.and_eq_true, decide_eq_true_eq] at this
    obtain ⟨⟨g1, g2, g3⟩, g4, g5⟩ := this
    refine ⟨⟨g2, g3, g1⟩, ?_⟩
    show Cs.decL (Cs.kindL utf8N) p.2 = p.2
    rw [kind_utf]
    exact repair_valid p.2 g5
  · have := h6 p hp
    unfold okP at this
    simp only [Bool.and_eq_true, decide_eq_true_eq] at this
    exact this.2.1
theorem line_len (F : List UInt8) : ∀ l : List (List UInt8 × List UInt8), (lineW F l).length ≤ F.length + 3 * (l.map fun p => p.1.length + p.2.length).sum + 12 * l.length := by
  intro l
  unfold lineW
  rw [List.length_append]
  suffices h : (l.flatMap fun p => 59 :: 32 :: rowW p).length ≤ 3 * (l.map fun p => p.1.length + p.2.length).sum + 12 * l.length by omega
  induction l with
  | nil => simp
  | cons p l ih =>
    rw [List.flatMap_cons, List.length_append, List.map_cons, List.sum_cons, List.length_cons, List.length_cons, List.length_cons]
    unfold rowW
    rw [List.length_append]
    have := fmt_len p.2
    unfold rowW at ih
    omega
/-- What Parse and Disposition make of what is written. -/
theorem bk_parse (K S : ByteArray) (l : List (List UInt8 × List UInt8)) (hr : RightC decF K.data.toList S.data.toList l) (hz : (lineW (K.data.toList ++ 47 :: S.data.toList) l).length ≤ 3900000) (w : World) (hv : Vr w) :
    Calls Tryz.prog 10 #[.string (strL (lineW (K.data.toList ++ 47 :: S.data.toList) l))] w fun e w' => ∃ a c, e = .returned (.tuple #[.agg #[.string K, .string S, .slice a l.length c], .bool true]) ∧ HasP w' (.slice a l.length c) l ∧ Below w.heap.size w w' := by
  have h := parse_c (strL (lineW (K.data.toList ++ 47 :: S.data.toList) l)) (by rw [strL_size]; exact hz) w hv
  rw [strL_list, (ct_back repF decF numF K.data.toList S.data.toList l hr).1, strL_of, strL_of] at h
  exact h.mono fun e w' ⟨a, c, h1, h2, h3⟩ => ⟨a, c, h1, own_has h2, h3⟩
theorem bk_disp (K S : ByteArray) (l : List (List UInt8 × List UInt8)) (hr : RightC decF K.data.toList S.data.toList l) (hz : (lineW K.data.toList l).length ≤ 3900000) (w : World) (hv : Vr w) :
    Calls Tryz.prog 12 #[.string (strL (lineW K.data.toList l))] w fun e w' => ∃ a c, e = .returned (.tuple #[.string K, .slice a l.length c]) ∧ HasP w' (.slice a l.length c) l ∧ Below w.heap.size w w' := by
  have h := disp_any (strL (lineW K.data.toList l)) (by rw [strL_size]; exact hz) w hv
  rw [strL_list, (ct_back repF decF numF K.data.toList S.data.toList l hr).2, strL_of] at h
  exact h.mono fun e w' ⟨a, c, h1, h2, h3⟩ => ⟨a, c, h1, own_has h2, h3⟩
end Go.Proofs.YtdinachiiimngaaGreatDoor
