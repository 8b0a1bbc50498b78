/- The model's UTF-8 decoder and the list decoder agree; what the library says of validity, of mapping and of encoding in those words; of no program. -/
import Derived.Test.YtnmdljadnlddeaaGreatDoorUtf
import Derived.Lib.MapLaws
import Derived.Lib.ValidLaws
import Derived.Lib.RuneCount
namespace Go.Proofs.YtnmdljadnlddeaaGreatDoor

/-- The library's encoding of a code point. -/
theorem encR_eq {n : Nat} (h : cpB n = true) : Lib.encodeRune (n : Int) = encL n := by
  have hc := (cp_iff n).1 h
  unfold Lib.encodeRune encL
  by_cases c1 : n < 128
  · rw [Lib.encodeRuneZ_one (by omega) (by omega), if_pos c1]
    simp only [List.map_cons, List.map_nil]
    congr 1
  · rw [if_neg c1]
    by_cases c2 : n < 2048
    · rw [Lib.encodeRuneZ_two (by omega) (by omega), if_pos c2]
      simp only [List.map_cons, List.map_nil]
      rw [show ((192 : Int) + (n : Int) / 64).toNat = 192 + n / 64 by omega, show ((128 : Int) + (n : Int) % 64).toNat = 128 + n % 64 by omega]
    · rw [if_neg c2]
      by_cases c3 : n < 65536
      · rw [Lib.encodeRuneZ_three (by omega), if_pos c3]
        simp only [List.map_cons, List.map_nil]
        rw [show ((224 : Int) + (n : Int) / 4096).toNat = 224 + n / 4096 by omega, show ((128 : Int) + (n : Int) / 64 % 64).toNat = 128 + n / 64 % 64 by omega, show ((128 : Int) + (n : Int) % 64).toNat = 128 + n % 64 by omega]
      · rw [Lib.encodeRuneZ_four (by omega) (by omega), if_neg c3]
        simp only [List.map_cons, List.map_nil]
        rw [show ((240 : Int) + (n : Int) / 262144).toNat = 240 + n / 262144 by omega, show ((128 : Int) + (n : Int) / 4096 % 64).toNat = 128 + n / 4096 % 64 by omega, show ((128 : Int) + (n : Int) / 64 % 64).toNat = 128 + n / 64 % 64 by omega, show ((128 : Int) + (n : Int) % 64).toNat = 128 + n % 64 by omega]
/-- .. and of anything else. -/
theorem encR_bad {r : Int} (h : r < 0 ∨ (55296 ≤ r ∧ r ≤ 57343) ∨ 1114111 < r) : Lib.encodeRune r = encL 65533 := by
  unfold Lib.encodeRune
  rw [Lib.encodeRuneZ_bad h]
  decide

/-- What the decoder makes of an encoding. -/
theorem decode_enc {n : Nat} (h : cpB n = true) (t : List UInt8) : Lib.decodeL (encL n ++ t) = (n, (encL n).length) := by
  have hc := (cp_iff n).1 h
  rw [Lib.decodeL_N]
  unfold encL Lib.decodeN
  by_cases c1 : n < 128
  · rw [if_pos c1]
    simp only [List.cons_append, List.nil_append, List.getD_cons_zero, List.length_cons, List.length_nil]
    rw [nat_byte (show n < 256 by omega), if_pos c1]
  · rw [if_neg c1]
    by_cases c2 : n < 2048
    · rw [if_pos c2]
      simp only [List.cons_append, List.nil_append, List.getD_cons_zero, List.getD_cons_succ, List.length_cons, List.length_nil]
      rw [nat_byte (show 192 + n / 64 < 256 by omega), nat_byte (show 128 + n % 64 < 256 by omega), if_neg (by omega), if_pos (by omega), if_pos (by omega)]
      exact Prod.ext (by simp only; omega) rfl
    · rw [if_neg c2]
      by_cases c3 : n < 65536
      · rw [if_pos c3]
        simp only [List.cons_append, List.nil_append, List.getD_cons_zero, List.getD_cons_succ, List.length_cons, List.length_nil]
        rw [nat_byte (show 224 + n / 4096 < 256 by omega), nat_byte (show 128 + n / 64 % 64 < 256 by omega), nat_byte (show 128 + n % 64 < 256 by omega), if_neg (by omega), if_neg (by omega), if_pos (by omega), if_pos (by omega)]
        exact Prod.ext (by simp only; omega) rfl
      · rw [if_neg c3]
        simp only [List.cons_append, List.nil_append, List.getD_cons_zero, List.getD_cons_succ, List.length_cons, List.length_nil]
        rw [nat_byte (show 240 + n / 262144 < 256 by omega), nat_byte (show 128 + n / 4096 % 64 < 256 by omega), nat_byte (show 128 + n / 64 % 64 < 256 by omega), nat_byte (show 128 + n % 64 < 256 by omega), if_neg (by omega), if_neg (by omega), if_neg (by omega), if_pos (by omega), if_pos (by omega)]
        exact Prod.ext (by simp only; omega) rfl
theorem decode_cp (l : List UInt8) : cpB (Lib.decodeL l).1 = true := by
  rw [Lib.decodeL_N, cp_iff]
  have k0 := (l.getD 0 0).toNat_lt
  rcases Lib.decodeN_shape l.length (l.getD 0 0).toNat (l.getD 1 0).toNat (l.getD 2 0).toNat (l.getD 3 0).toNat with ⟨c, e⟩ | ⟨c1, c2, c3, cv, e⟩ | ⟨c1, c2, c3, c4, cv, cs, e⟩ | ⟨c1, c2, c3, c4, c5, cv, cw, e⟩ | e
  all_goals (rw [e]; dsimp only; omega)
/-- The decoder in the list's words. -/
theorem decode_none {l : List UInt8} (hne : l ≠ []) (h : firstS l = none) : Lib.decodeL l = (65533, 1) := by
  by_cases hv : (Lib.decodeL l).1 = 65533 ∧ (Lib.decodeL l).2 = 1
  · exact Prod.ext hv.1 hv.2
  · have he := Lib.encode_decode l hne hv
    rw [encR_eq (decode_cp l)] at he
    have := first_enc (decode_cp l) (l.drop (Lib.decodeL l).2)
    rw [he, List.take_append_drop, h] at this
    cases this
theorem decode_some {l : List UInt8} {n : Nat} (h : firstS l = some n) : Lib.decodeL l = (n, (encL n).length) := by
  obtain ⟨hc, t, rfl⟩ := first_some' h
  exact decode_enc hc t

/-- A step of the decoder. -/
theorem runes_step (l : List UInt8) (hne : l ≠ []) : runesL l = (Lib.decodeL l).1 :: runesL (l.drop (Lib.decodeL l).2) := by
  cases hf : firstS l with
  | none =>
    rw [decode_none hne hf]
    cases l with
    | nil => exact absurd rfl hne
    | cons b t => rw [runes_none hf]; rfl
  | some n =>
    obtain ⟨hc, t, rfl⟩ := first_some' hf
    rw [decode_enc hc t, runes_enc hc, List.drop_left]
theorem runes_at (s : ByteArray) (pos : Nat) (h : pos < s.size) : runesL (s.data.toList.drop pos) = (Utf8.decode s pos).1 :: runesL (s.data.toList.drop (pos + (Utf8.decode s pos).2)) := by
  have hne : s.data.toList.drop pos ≠ [] := by
    intro e
    have := congrArg List.length e
    rw [List.length_drop, Array.length_toList] at this
    simp only [List.length_nil] at this
    have : s.size = s.data.size := rfl
    omega
  rw [runes_step _ hne, Lib.decodeL_drop, List.drop_drop]
theorem runes_over (s : ByteArray) (pos : Nat) (h : ¬ pos < s.size) : runesL (s.data.toList.drop pos) = [] := by
  rw [List.drop_eq_nil_of_le]
  · rfl
  · rw [Array.length_toList]
    have : s.size = s.data.size := rfl
    omega
theorem width_at (s : ByteArray) (pos : Nat) (h : pos < s.size) : 1 ≤ (Utf8.decode s pos).2 ∧ pos + (Utf8.decode s pos).2 ≤ s.size := by
  have hne : s.data.toList.drop pos ≠ [] := by
    intro e
    have := congrArg List.length e
    rw [List.length_drop, Array.length_toList] at this
    simp only [List.length_nil] at this
    have : s.size = s.data.size := rfl
    omega
  refine ⟨Lib.width_pos s pos, ?_⟩
  have := Lib.decodeL_le _ hne
  rw [Lib.decodeL_drop, List.length_drop, Array.length_toList] at this
  have e : s.size = s.data.size := rfl
  omega
/-- The library's count of code points. -/
theorem count_from (s : ByteArray) : ∀ (fuel pos : Nat), s.size ≤ pos + fuel → Lib.runeCountFrom s fuel pos = (runesL (s.data.toList.drop pos)).length
  | 0, pos, h => by rw [runes_over s pos (by omega)]; rfl
  | f + 1, pos, h => by
    by_cases hp : pos < s.size
    · rw [runes_at s pos hp]
      have := width_at s pos hp
      rw [Lib.runeCountFrom, if_pos hp, count_from s f _ (by omega), List.length_cons]
      omega
    · rw [runes_over s pos hp, Lib.runeCountFrom, if_neg hp]; rfl
theorem count_eq (s : ByteArray) : Lib.runeCount s = (runesL s.data.toList).length := by
  have := count_from s s.size 0 (by omega)
  rw [List.drop_zero] at this
  exact this
/-- The library's validity. -/
theorem valid_eq (l : List UInt8) : Lib.validD l = validL l := by
  refine utf_all (p := fun l => Lib.validD l = validL l) rfl ?_ ?_ l
  · intro n t hn ih
    rw [Lib.validD_step _ (fun e => enc_ne n (List.append_eq_nil_iff.1 e).1), decode_enc hn, valid_enc hn, if_neg, List.drop_left, ih]
    rintro ⟨e1, e2⟩
    simp only at e1 e2
    rw [e1, enc_bad_len] at e2
    omega
  · intro b t hf _
    rw [Lib.validD_step _ (by simp), decode_none (by simp) hf, valid_none hf]
    simp
/-- ASCII letters in lower case, by code points and by bytes. -/
def lowZ (r : Int) : Int := if 65 ≤ r ∧ r ≤ 90 then r + 32 else r
def lowB (b : UInt8) : UInt8 := if 65 ≤ b.toNat ∧ b.toNat ≤ 90 then UInt8.ofNat (b.toNat + 32) else b
theorem mapD_step (f : Int → Int) (l : List UInt8) (hne : l ≠ []) (h0 : 0 ≤ f (Lib.decodeL l).1) : Lib.mapD f l = Lib.encodeRune (f (Lib.decodeL l).1) ++ Lib.mapD f (l.drop (Lib.decodeL l).2) := by
  have hl : 0 < l.length := List.length_pos_iff.2 hne
  have hw := Lib.decodeL_width l
  obtain ⟨k, hk⟩ : ∃ k, l.length = k + 1 := ⟨l.length - 1, by omega⟩
  unfold Lib.mapD
  rw [hk, Lib.mapGoD, if_neg hne, if_pos h0]
  congr 1
  exact Lib.mapGoD_fuel f _ _ _ (by rw [List.length_drop]; omega) (Nat.le_refl _)
theorem enc_high {n : Nat} (h : 128 ≤ n) (hc : cpB n = true) : ∃ b r, encL n = b :: r ∧ 128 ≤ b.toNat := by
  have hcp := (cp_iff n).1 hc
  unfold encL
  rw [if_neg (by omega)]
  by_cases c2 : n < 2048
  · rw [if_pos c2]; exact ⟨_, _, rfl, by rw [nat_byte (by omega)]; omega⟩
  · rw [if_neg c2]
    by_cases c3 : n < 65536
    · rw [if_pos c3]; exact ⟨_, _, rfl, by rw [nat_byte (by omega)]; omega⟩
    · rw [if_neg c3]; exact ⟨_, _, rfl, by rw [nat_byte (by omega)]; omega⟩
theorem lowB_high {b : UInt8} (h : 128 ≤ b.toNat) : lowB b = b := by
  unfold lowB
  rw [if_neg (by omega)]
theorem low_two (l : List UInt8) : Lib.mapD lowZ l = l.map lowB ∨ ((∃ b ∈ Lib.mapD lowZ l, 128 ≤ b.toNat) ∧ (∃ b ∈ l.map lowB, 128 ≤ b.toNat)) := by
  refine utf_all (p := fun l => Lib.mapD lowZ l = l.map lowB ∨ ((∃ b ∈ Lib.mapD lowZ l, 128 ≤ b.toNat) ∧ (∃ b ∈ l.map lowB, 128 ≤ b.toNat))) (.inl rfl) ?_ ?_ l
  · intro n t hn ih
    have hne : encL n ++ t ≠ [] := fun e => enc_ne n (List.append_eq_nil_iff.1 e).1
    have h0 : 0 ≤ lowZ (Lib.decodeL (encL n ++ t)).1 := by unfold lowZ; split <;> omega
    rw [mapD_step lowZ _ hne h0, decode_enc hn, List.drop_left, List.map_append]
    simp only
    by_cases c : n < 128
    · have e : Lib.encodeRune (lowZ n) = (encL n).map lowB := by
        unfold encL
        rw [if_pos c, List.map_singleton]
        unfold lowZ lowB
        rw [nat_byte (by omega)]
        by_cases ca : 65 ≤ n ∧ n ≤ 90
        · rw [if_pos (by omega), if_pos ca, show (n : Int) + 32 = ((n + 32 : Nat) : Int) by omega, encR_eq ((cp_iff _).2 (by omega)), encL, if_pos (by omega)]
        · rw [if_neg (by omega), if_neg ca, encR_eq hn, encL, if_pos c]
      rw [e]
      rcases ih with ih | ⟨⟨b, hb, hb2⟩, d, hd, hd2⟩
      · exact .inl (by rw [ih])
      · exact .inr ⟨⟨b, List.mem_append_right _ hb, hb2⟩, d, List.mem_append_right _ hd, hd2⟩
    · obtain ⟨b, r, he, hb⟩ := enc_high (by omega) hn
      refine .inr ⟨⟨b, List.mem_append_left _ ?_, hb⟩, b, List.mem_append_left _ ?_, hb⟩
      · rw [show lowZ n = (n : Int) by unfold lowZ; rw [if_neg (by omega)], encR_eq hn, he]; simp
      · rw [he, List.map_cons, lowB_high hb]; simp
  · intro b t hf ih
    have h0 : 0 ≤ lowZ (Lib.decodeL (b :: t)).1 := by unfold lowZ; split <;> omega
    rw [mapD_step lowZ _ (by simp) h0, decode_none (by simp) hf]
    have hb : 128 ≤ b.toNat := by
      rcases Nat.lt_or_ge b.toNat 128 with h | h
      · unfold firstS at hf; simp only at hf; rw [if_pos h] at hf; cases hf
      · exact h
    refine .inr ⟨⟨239, List.mem_append_left _ ?_, by decide⟩, b, ?_, hb⟩
    · simp only; decide
    · rw [List.map_cons, lowB_high hb]; simp
/-- What is all ASCII comes out of either lowering at once. -/
theorem low_same (l key : List UInt8) (hk : ∀ b ∈ key, b.toNat < 128) : Lib.mapD lowZ l = key ↔ l.map lowB = key := by
  rcases low_two l with h | ⟨⟨b, hb, hb2⟩, d, hd, hd2⟩
  · rw [h]
  · constructor
    · intro e; rw [e] at hb; have := hk b hb; omega
    · intro e; rw [e] at hd; have := hk d hd; omega
end Go.Proofs.YtnmdljadnlddeaaGreatDoor
