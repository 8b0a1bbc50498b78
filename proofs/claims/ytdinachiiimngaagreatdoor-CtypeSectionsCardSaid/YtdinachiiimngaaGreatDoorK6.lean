/- The model's UTF-8 decoder and the list decoder agree; what the library says of validity, of mapping and of encoding in those words; of no program. Package charset: the variables that it reads; validity, the encoding of a code point, the code points of single bytes. The functions that byteDecoder makes: each byte of a string is a code point, and is encoded. The character sets' functions, and the map that charset.decoders makes of them. charset.Repair: the code points of a string, encoded anew. The map of character sets that charset.decoders makes, and a name in lower case. charset.Known and charset.Decode. The program's percentDecoded, decodedBytes, prefix and joined. The program's decodedBytes, prefix and joined. -/
import Derived.Test.YtdinachiiimngaaGreatDoorK5
import Derived.Lib.MapLaws
import Derived.Lib.ValidLaws
import Derived.Lib.RuneCount
import Derived.Test.YtdinachiiimngaaGreatDoorK3
import Derived.WalkKit
import Derived.ProofKit
import Derived.Lib.Hide
import Derived.BigCall
import Derived.Deep.RegionWith
import Derived.MapKept
import Derived.Deep.RegionHeld3
namespace Go.Proofs.YtdinachiiimngaaGreatDoor

/-- The library's encoding of a code point. -/
theorem encR_eq {n : Nat} (h : cpB n = true) : Lib.encodeRune (n : Int) = encL n := by
  have hc := (cp_iff n).1 h
  unfold Lib.encodeRune encL
  by_cases c1 : n < 128
  · rw [Lib.encodeRuneZ_one (by omega) (by omega), if_pos c1]
    simp only [List.map_cons, List.map_nil]
    congr 1
  · rw [if_neg c1]
    by_cases c2 : n < 2048
    · rw [Lib.encodeRuneZ_two (by omega) (by omega), if_pos c2]
      simp only [List.map_cons, List.map_nil]
      rw [show ((192 : Int) + (n : Int) / 64).toNat = 192 + n / 64 by omega, show ((128 : Int) + (n : Int) % 64).toNat = 128 + n % 64 by omega]
    · rw [if_neg c2]
      by_cases c3 : n < 65536
      · rw [Lib.encodeRuneZ_three (by omega), if_pos c3]
        simp only [List.map_cons, List.map_nil]
        rw [show ((224 : Int) + (n : Int) / 4096).toNat = 224 + n / 4096 by omega, show ((128 : Int) + (n : Int) / 64 % 64).toNat = 128 + n / 64 % 64 by omega, show ((128 : Int) + (n : Int) % 64).toNat = 128 + n % 64 by omega]
      · rw [Lib.encodeRuneZ_four (by omega) (by omega), if_neg c3]
        simp only [List.map_cons, List.map_nil]
        rw [show ((240 : Int) + (n : Int) / 262144).toNat = 240 + n / 262144 by omega, show ((128 : Int) + (n : Int) / 4096 % 64).toNat = 128 + n / 4096 % 64 by omega, show ((128 : Int) + (n : Int) / 64 % 64).toNat = 128 + n / 64 % 64 by omega, show ((128 : Int) + (n : Int) % 64).toNat = 128 + n % 64 by omega]
/-- .. and of anything else. -/
theorem encR_bad {r : Int} (h : r < 0 ∨ (55296 ≤ r ∧ r ≤ 57343) ∨ 1114111 < r) : Lib.encodeRune r = encL 65533 := by
  unfold Lib.encodeRune
  rw [Lib.encodeRuneZ_bad h]
  decide

/-- What the decoder makes of an encoding. -/
theorem decode_enc {n : Nat} (h : cpB n = true) (t : List UInt8) : Lib.decodeL (encL n ++ t) = (n, (encL n).length) := by
  have hc := (cp_iff n).1 h
  rw [Lib.decodeL_N]
  unfold encL Lib.decodeN
  by_cases c1 : n < 128
  · rw [if_pos c1]
    simp only [List.cons_append, List.nil_append, List.getD_cons_zero, List.length_cons, List.length_nil]
    rw [nat_byte (show n < 256 by omega), if_pos c1]
  · rw [if_neg c1]
    by_cases c2 : n < 2048
    · rw [if_pos c2]
      simp only [List.cons_append, List.nil_append, List.getD_cons_zero, List.getD_cons_succ, List.length_cons, List.length_nil]
      rw [nat_byte (show 192 + n / 64 < 256 by omega), nat_byte (show 128 + n % 64 < 256 by omega), if_neg (by omega), if_pos (by omega), if_pos (by omega)]
      exact Prod.ext (by simp only; omega) rfl
    · rw [if_neg c2]
      by_cases c3 : n < 65536
      · rw [if_pos c3]
        simp only [List.cons_append, List.nil_append, List.getD_cons_zero, List.getD_cons_succ, List.length_cons, List.length_nil]
        rw [nat_byte (show 224 + n / 4096 < 256 by omega), nat_byte (show 128 + n / 64 % 64 < 256 by omega), nat_byte (show 128 + n % 64 < 256 by omega), if_neg (by omega), if_neg (by omega), if_pos (by omega), if_pos (by omega)]
        exact Prod.ext (by simp only; omega) rfl
      · rw [if_neg c3]
        simp only [List.cons_append, List.nil_append, List.getD_cons_zero, List.getD_cons_succ, List.length_cons, List.length_nil]
        rw [nat_byte (show 240 + n / 262144 < 256 by omega), nat_byte (show 128 + n / 4096 % 64 < 256 by omega), nat_byte (show 128 + n / 64 % 64 < 256 by omega), nat_byte (show 128 + n % 64 < 256 by omega), if_neg (by omega), if_neg (by omega), if_neg (by omega), if_pos (by omega), if_pos (by omega)]
        exact Prod.ext (by simp only; omega) rfl
theorem decode_cp (l : List UInt8) : cpB (Lib.decodeL l).1 = true := by
  rw [Lib.decodeL_N, cp_iff]
  have k0 := (l.getD 0 0).toNat_lt
  rcases Lib.decodeN_shape l.length (l.getD 0 0).toNat (l.getD 1 0).toNat (l.getD 2 0).toNat (l.getD 3 0).toNat with ⟨c, e⟩ | ⟨c1, c2, c3, cv, e⟩ | ⟨c1, c2, c3, c4, cv, cs, e⟩ | ⟨c1, c2, c3, c4, c5, cv, cw, e⟩ | e
  all_goals (rw [e]; dsimp only; omega)
/-- The decoder in the list's words. -/
theorem decode_none {l : List UInt8} (hne : l ≠ []) (h : firstS l = none) : Lib.decodeL l = (65533, 1) := by
  by_cases hv : (Lib.decodeL l).1 = 65533 ∧ (Lib.decodeL l).2 = 1
  · exact Prod.ext hv.1 hv.2
  · have he := Lib.encode_decode l hne hv
    rw [encR_eq (decode_cp l)] at he
    have := first_enc (decode_cp l) (l.drop (Lib.decodeL l).2)
    rw [he, List.take_append_drop, h] at this
    cases this
theorem decode_some {l : List UInt8} {n : Nat} (h : firstS l = some n) : Lib.decodeL l = (n, (encL n).length) := by
  obtain ⟨hc, t, rfl⟩ := first_some' h
  exact decode_enc hc t

/-- A step of the decoder. -/
theorem runes_step (l : List UInt8) (hne : l ≠ []) : runesL l = (Lib.decodeL l).1 :: runesL (l.drop (Lib.decodeL l).2) := by
  cases hf : firstS l with
  | none =>
    rw [decode_none hne hf]
    cases l with
    | nil => exact absurd rfl hne
    | cons b t => rw [runes_none hf]; rfl
  | some n =>
    obtain ⟨hc, t, rfl⟩ := first_some' hf
    rw [decode_enc hc t, runes_enc hc, List.drop_left]
theorem runes_at (s : ByteArray) (pos : Nat) (h : pos < s.size) : runesL (s.data.toList.drop pos) = (Utf8.decode s pos).1 :: runesL (s.data.toList.drop (pos + (Utf8.decode s pos).2)) := by
  have hne : s.data.toList.drop pos ≠ [] := by
    intro e
    have := congrArg List.length e
    rw [List.length_drop, Array.length_toList] at this
    simp only [List.length_nil] at this
    have : s.size = s.data.size := rfl
    omega
  rw [runes_step _ hne, Lib.decodeL_drop, List.drop_drop]
theorem runes_over (s : ByteArray) (pos : Nat) (h : ¬ pos < s.size) : runesL (s.data.toList.drop pos) = [] := by
  rw [List.drop_eq_nil_of_le]
  · rfl
  · rw [Array.length_toList]
    have : s.size = s.data.size := rfl
    omega
theorem width_at (s : ByteArray) (pos : Nat) (h : pos < s.size) : 1 ≤ (Utf8.decode s pos).2 ∧ pos + (Utf8.decode s pos).2 ≤ s.size := by
  have hne : s.data.toList.drop pos ≠ [] := by
    intro e
    have := congrArg List.length e
    rw [List.length_drop, Array.length_toList] at this
    simp only [List.length_nil] at this
    have : s.size = s.data.size := rfl
    omega
  refine ⟨Lib.width_pos s pos, ?_⟩
  have := Lib.decodeL_le _ hne
  rw [Lib.decodeL_drop, List.length_drop, Array.length_toList] at this
  have e : s.size = s.data.size := rfl
  omega
/-- The library's count of code points. -/
theorem count_from (s : ByteArray) : ∀ (fuel pos : Nat), s.size ≤ pos + fuel → Lib.runeCountFrom s fuel pos = (runesL (s.data.toList.drop pos)).length
  | 0, pos, h => by rw [runes_over s pos (by omega)]; rfl
  | f + 1, pos, h => by
    by_cases hp : pos < s.size
    · rw [runes_at s pos hp]
      have := width_at s pos hp
      rw [Lib.runeCountFrom, if_pos hp, count_from s f _ (by omega), List.length_cons]
      omega
    · rw [runes_over s pos hp, Lib.runeCountFrom, if_neg hp]; rfl
theorem count_eq (s : ByteArray) : Lib.runeCount s = (runesL s.data.toList).length := by
  have := count_from s s.size 0 (by omega)
  rw [List.drop_zero] at this
  exact this
/-- The library's validity. -/
theorem valid_eq (l : List UInt8) : Lib.validD l = validL l := by
  refine utf_all (p := fun l => Lib.validD l = validL l) rfl ?_ ?_ l
  · intro n t hn ih
    rw [Lib.validD_step _ (fun e => enc_ne n (List.append_eq_nil_iff.1 e).1), decode_enc hn, valid_enc hn, if_neg, List.drop_left, ih]
    rintro ⟨e1, e2⟩
    simp only at e1 e2
    rw [e1, enc_bad_len] at e2
    omega
  · intro b t hf _
    rw [Lib.validD_step _ (by simp), decode_none (by simp) hf, valid_none hf]
    simp
/-- ASCII letters in lower case, by code points and by bytes. -/
def lowZ (r : Int) : Int := if 65 ≤ r ∧ r ≤ 90 then r + 32 else r
def lowB (b : UInt8) : UInt8 := if 65 ≤ b.toNat ∧ b.toNat ≤ 90 then UInt8.ofNat (b.toNat + 32) else b
theorem mapD_step (f : Int → Int) (l : List UInt8) (hne : l ≠ []) (h0 : 0 ≤ f (Lib.decodeL l).1) : Lib.mapD f l = Lib.encodeRune (f (Lib.decodeL l).1) ++ Lib.mapD f (l.drop (Lib.decodeL l).2) := by
  have hl : 0 < l.length := List.length_pos_iff.2 hne
  have hw := Lib.decodeL_width l
  obtain ⟨k, hk⟩ : ∃ k, l.length = k + 1 := ⟨l.length - 1, by omega⟩
  unfold Lib.mapD
  rw [hk, Lib.mapGoD, if_neg hne, if_pos h0]
  congr 1
  exact Lib.mapGoD_fuel f _ _ _ (by rw [List.length_drop]; omega) (Nat.le_refl _)
theorem enc_high {n : Nat} (h : 128 ≤ n) (hc : cpB n = true) : ∃ b r, encL n = b :: r ∧ 128 ≤ b.toNat := by
  have hcp := (cp_iff n).1 hc
  unfold encL
  rw [if_neg (by omega)]
  by_cases c2 : n < 2048
  · rw [if_pos c2]; exact ⟨_, _, rfl, by rw [nat_byte (by omega)]; omega⟩
  · rw [if_neg c2]
    by_cases c3 : n < 65536
    · rw [if_pos c3]; exact ⟨_, _, rfl, by rw [nat_byte (by omega)]; omega⟩
    · rw [if_neg c3]; exact ⟨_, _, rfl, by rw [nat_byte (by omega)]; omega⟩
theorem lowB_high {b : UInt8} (h : 128 ≤ b.toNat) : lowB b = b := by
  unfold lowB
  rw [if_neg (by omega)]
theorem low_two (l : List UInt8) : Lib.mapD lowZ l = l.map lowB ∨ ((∃ b ∈ Lib.mapD lowZ l, 128 ≤ b.toNat) ∧ (∃ b ∈ l.map lowB, 128 ≤ b.toNat)) := by
  refine utf_all (p := fun l => Lib.mapD lowZ l = l.map lowB ∨ ((∃ b ∈ Lib.mapD lowZ l, 128 ≤ b.toNat) ∧ (∃ b ∈ l.map lowB, 128 ≤ b.toNat))) (.inl rfl) ?_ ?_ l
  · intro n t hn ih
    have hne : encL n ++ t ≠ [] := fun e => enc_ne n (List.append_eq_nil_iff.1 e).1
    have h0 : 0 ≤ lowZ (Lib.decodeL (encL n ++ t)).1 := by unfold lowZ; split <;> omega
    rw [mapD_step lowZ _ hne h0, decode_enc hn, List.drop_left, List.map_append]
    simp only
    by_cases c : n < 128
    · have e : Lib.encodeRune (lowZ n) = (encL n).map lowB := by
        unfold encL
        rw [if_pos c, List.map_singleton]
        unfold lowZ lowB
        rw [nat_byte (by omega)]
        by_cases ca : 65 ≤ n ∧ n ≤ 90
        · rw [if_pos (by omega), if_pos ca, show (n : Int) + 32 = ((n + 32 : Nat) : Int) by omega, encR_eq ((cp_iff _).2 (by omega)), encL, if_pos (by omega)]
        · rw [if_neg (by omega), if_neg ca, encR_eq hn, encL, if_pos c]
      rw [e]
      rcases ih with ih | ⟨⟨b, hb, hb2⟩, d, hd, hd2⟩
      · exact .inl (by rw [ih])
      · exact .inr ⟨⟨b, List.mem_append_right _ hb, hb2⟩, d, List.mem_append_right _ hd, hd2⟩
    · obtain ⟨b, r, he, hb⟩ := enc_high (by omega) hn
      refine .inr ⟨⟨b, List.mem_append_left _ ?_, hb⟩, b, List.mem_append_left _ ?_, hb⟩
      · rw [show lowZ n = (n : Int) by unfold lowZ; rw [if_neg (by omega)], encR_eq hn, he]; simp
      · rw [he, List.map_cons, lowB_high hb]; simp
  · intro b t hf ih
    have h0 : 0 ≤ lowZ (Lib.decodeL (b :: t)).1 := by unfold lowZ; split <;> omega
    rw [mapD_step lowZ _ (by simp) h0, decode_none (by simp) hf]
    have hb : 128 ≤ b.toNat := by
      rcases Nat.lt_or_ge b.toNat 128 with h | h
      · unfold firstS at hf; simp only at hf; rw [if_pos h] at hf; cases hf
      · exact h
    refine .inr ⟨⟨239, List.mem_append_left _ ?_, by decide⟩, b, ?_, hb⟩
    · simp only; decide
    · rw [List.map_cons, lowB_high hb]; simp
/-- What is all ASCII comes out of either lowering at once. -/
theorem low_same (l key : List UInt8) (hk : ∀ b ∈ key, b.toNat < 128) : Lib.mapD lowZ l = key ↔ l.map lowB = key := by
  rcases low_two l with h | ⟨⟨b, hb, hb2⟩, d, hd, hd2⟩
  · rw [h]
  · constructor
    · intro e; rw [e] at hb; have := hk b hb; omega
    · intro e; rw [e] at hd; have := hk d hd; omega
end Go.Proofs.YtdinachiiimngaaGreatDoor
namespace Go.Proofs.YtdinachiiimngaaGreatDoor.Cs
open Go.ChangeShapes Go.WideShapes Go.ChangeAt Go.RowKit

/-- The code points of the bytes 128 to 159 in windows-1252. -/
def winL : List Nat := [8364, 129, 8218, 402, 8222, 8230, 8224, 8225, 710, 8240, 352, 8249, 338, 141, 381, 143, 144, 8216, 8217, 8220, 8221, 8226, 8211, 8212, 732, 8482, 353, 8250, 339, 157, 382, 376]
/-- What the package and the library read of their variables. -/
structure Vars (w : World) : Prop where
  tabs : Lib.Utf8Tabs 0 1 w
  win : ∀ i, i < 32 → w.cell? ⟨4, i, none⟩ = some (.int .u16 (winL.getD i 0 : Nat))
theorem Vars.lt {w : World} (h : Vars w) : 4 < w.heap.size := by
  rcases Nat.lt_or_ge 4 w.heap.size with h' | h'
  · exact h'
  · have := h.win 0 (by omega)
    simp [World.cell?, Array.getElem?_eq_none h'] at this
theorem Vars.below {w w' : World} (h : Vars w) (hb : Below w.heap.size w w') : Vars w' :=
  ⟨Utf8Tabs_below h.tabs hb, fun i hi => by rw [hb.cell (p := ⟨4, i, none⟩) h.lt]; exact h.win i hi⟩

/-- What Rune makes of an integer. -/
def runeL (n : Int) : List UInt8 := if 0 ≤ n ∧ cpB n.toNat = true then encL n.toNat else encL 65533
theorem encode_cp {n : Nat} (h : cpB n = true) : Utf8.encode (n : Int) = ⟨(encL n).toArray⟩ := by
  have hc := (cp_iff n).1 h
  have hv : Utf8.valid (n : Int) = true := by
    unfold Utf8.valid
    simp only [Bool.or_eq_true, Bool.and_eq_true, decide_eq_true_eq]
    omega
  unfold Utf8.encode encL
  simp only [hv, if_true, Int.toNat_natCast]
  by_cases c1 : n < 128
  · rw [if_pos c1, if_pos c1]
  · rw [if_neg c1, if_neg c1]
    by_cases c2 : n < 2048
    · rw [if_pos c2, if_pos c2]
    · rw [if_neg c2, if_neg c2]
      by_cases c3 : n < 65536
      · rw [if_pos c3, if_pos c3]
      · rw [if_neg c3, if_neg c3]
theorem encode_bad {n : Int} (h : ¬ (0 ≤ n ∧ cpB n.toNat = true)) : Utf8.encode n = ⟨(encL 65533).toArray⟩ := by
  have hv : Utf8.valid n = false := by
    rw [Bool.eq_false_iff]
    intro hv
    unfold Utf8.valid at hv
    simp only [Bool.or_eq_true, Bool.and_eq_true, decide_eq_true_eq] at hv
    exact h ⟨by omega, (cp_iff _).2 (by omega)⟩
  unfold Utf8.encode
  simp only [hv, Bool.false_eq_true, if_false]
  decide
theorem encode_any (n : Int) : Utf8.encode n = ⟨(runeL n).toArray⟩ := by
  unfold runeL
  split
  · rename_i h
    rw [← encode_cp h.2, Int.toNat_of_nonneg h.1]
  · rename_i h
    exact encode_bad h
/-- The code points of a single byte. -/
def asciiP (b : Nat) : Nat := if b ≥ 128 then 65533 else b
def winP (b : Nat) : Nat := if b < 128 ∨ b ≥ 160 then b else winL.getD (b - 128) 0
theorem ascii_any (b : Nat) (hb : b < 256) (w : World) :
    Calls Tryz.prog 183 #[.int .u8 b] w fun e w' => e = .returned (.int .i32 (asciiP b : Nat)) ∧ w = w' := by
  unfold asciiP
  by_cases h : b ≥ 128
  · rw [if_pos h]
    have h' : (128 : Int) ≤ (b : Int) := by omega
    go_enter Tryz.func183, Tryz.ntmps183
    go_wp2
    go_ret
    exact ⟨rfl, rfl⟩
  · rw [if_neg h]
    have h' : ¬ (128 : Int) ≤ (b : Int) := by omega
    go_enter Tryz.func183, Tryz.ntmps183
    go_wp2
    go_ret
    exact ⟨rfl, rfl⟩
theorem latin_any (b : Nat) (hb : b < 256) (w : World) :
    Calls Tryz.prog 184 #[.int .u8 b] w fun e w' => e = .returned (.int .i32 b) ∧ w = w' := by
  go_enter Tryz.func184, Tryz.ntmps184
  go_wp2
  go_ret
  exact ⟨rfl, rfl⟩
theorem win_any (b : Nat) (hb : b < 256) (w : World) (hv : Vars w) :
    Calls Tryz.prog 185 #[.int .u8 b] w fun e w' => e = .returned (.int .i32 (winP b : Nat)) ∧ w = w' := by
  unfold winP
  by_cases h1 : b < 128
  · rw [if_pos (Or.inl h1)]
    go_enter Tryz.func185, Tryz.ntmps185
    go_wp2
    go_ret
    exact ⟨rfl, rfl⟩
  · by_cases h2 : b ≥ 160
    · rw [if_pos (Or.inr h2)]
      go_enter Tryz.func185, Tryz.ntmps185
      go_wp2
      go_ret
      exact ⟨rfl, rfl⟩
    · rw [if_neg (by omega)]
      obtain ⟨i, rfl⟩ : ∃ i, b = 128 + i := ⟨b - 128, by omega⟩
      have hi : i < 32 := by omega
      have hc := hv.win i hi
      rw [show 128 + i - 128 = i by omega]
      have hx : winL.getD i 0 < 65536 := by
        have : ∀ j : Fin 32, winL.getD j.val 0 < 65536 := by decide
        exact this ⟨i, hi⟩
      generalize winL.getD i 0 = x at hc hx ⊢
      go_enter Tryz.func185, Tryz.ntmps185
      go_wp2
      go_ret
      exact ⟨rfl, rfl⟩
theorem asciiP_cp (b : Nat) (_hb : b < 256) : cpB (asciiP b) = true := by
  unfold asciiP
  split
  · decide
  · exact (cp_iff _).2 (by omega)
theorem winP_cp (b : Nat) (hb : b < 256) : cpB (winP b) = true := by
  have : ∀ j : Fin 256, cpB (winP j.val) = true := by decide +kernel
  exact this ⟨b, hb⟩
end Go.Proofs.YtdinachiiimngaaGreatDoor.Cs
namespace Go.Proofs.YtdinachiiimngaaGreatDoor.Cs
open Go.ChangeShapes Go.WideShapes Go.ChangeAt Go.RowKit

/-- What a string of single bytes becomes. -/
def byteL (p : Nat → Nat) (l : List UInt8) : List UInt8 := l.flatMap fun c => encL (p c.toNat)
theorem byteL_take (p : Nat → Nat) (s : ByteArray) (k : Nat) (h : k < s.size) : byteL p (s.data.toList.take (k + 1)) = byteL p (s.data.toList.take k) ++ encL (p (s[k].toNat)) := by
  have h' : k < s.data.toList.length := by rw [Array.length_toList]; exact h
  unfold byteL
  rw [List.take_succ_eq_append_getElem h', List.flatMap_append, List.flatMap_singleton]
  rfl
theorem byteL_len (p : Nat → Nat) (l : List UInt8) : (byteL p l).length ≤ 4 * l.length := by
  induction l with
  | nil => simp [byteL]
  | cons c l ih =>
    have := enc_len (p c.toNat)
    unfold byteL at ih ⊢
    rw [List.flatMap_cons, List.length_append, List.length_cons]; omega
theorem rune_cells {n : Nat} (h : cpB n = true) : Lib.runeCells (n : Int) = Lib.byteCells (encL n) := by rw [← encR_eq h, Lib.byteCells_encodeRune]
theorem run_index_str (s : ByteArray) (x : Int) (n : Nat) (hx : x = n) (h : n < s.size) (W : World) :
    (Instr.index 9 (.string s) (.int .i64 x)).run Tryz.prog W = .ok (.int .u8 (s[n].toNat : Int)) W := by
  subst hx
  go_simp

set_option maxHeartbeats 4000000 in
set_option maxRecDepth 1000000 in
theorem conv_ascii (s : ByteArray) (hs : s.size ≤ 4000000) (b : Nat) (w : World) (hb : b < w.heap.size) (hc : w.cell? ⟨b, 0, none⟩ = some (.func (.func 183) #[] #[])) :
    Calls Tryz.prog 211 #[.string s, .pointer (some ⟨b, 0, none⟩)] w fun e w' => e = .returned (.string ⟨(byteL asciiP s.data.toList).toArray⟩) ∧ Below w.heap.size w w' := by
  obtain ⟨ANS, hANS⟩ : ∃ ANS, byteL asciiP s.data.toList = ANS := ⟨_, rfl⟩
  rw [hANS]
  have HA := Lib.hid hANS
  clear hANS
  go_enter Tryz.func211, Tryz.ntmps211
  go_wp2_with (go_at_call 53; refine (Tryz.Builder_Grow_fresh w.heap.size w.heap.size s.size _ (Nat.le_refl _) (Go.heap_alloc_new _ _) (by simp) (by omega)).mono ?_)
  rintro e W1 ⟨rfl, hI0, hb0⟩
  have hb1 : Below w.heap.size w W1 := ((Below.refl _ w).alloc (Nat.le_refl _) _).trans hb0
  have hsz1 : w.heap.size ≤ W1.heap.size := hb1.size
  go_wp2
  go_loopw [11] (fun i wr => ∃ k : Nat, k ≤ s.size ∧ i = .int .i64 k ∧ Hid (Lib.IsBuilderF 61 5 w.heap.size w.heap.size (Lib.byteCells (byteL asciiP (s.data.toList.take k))) wr) ∧ Below w.heap.size w wr)
    (fun i _ => s.size - (intOf i).toNat)
  case atStart => exact ⟨0, Nat.zero_le _, rfl, Lib.hid (Lib.IsBuilderF.of (Or.inr hI0)), hb1⟩
  case round =>
    obtain ⟨k, hk, rfl, hI, hbw⟩ := hrel
    have hszr : w.heap.size ≤ wr.heap.size := hbw.size
    by_cases hlt : k < s.size
    · have hcr : wr.cell? ⟨b, 0, none⟩ = some (.func (.func 183) #[] #[]) := by rw [hbw.cell (p := ⟨b, 0, none⟩) hb]; exact hc
      have hcd : wr.drew.cell? ⟨b, 0, none⟩ = some (.func (.func 183) #[] #[]) := hcr
      have hq : ∀ W, (Instr.index 9 (.string s) (.int .i64 (k : Int))).run Tryz.prog W = .ok (.int .u8 (s[k].toNat : Int)) W := fun W => run_index_str s k k rfl hlt W
      have hl := byteL_len asciiP (s.data.toList.take k)
      have hl2 : (s.data.toList.take k).length ≤ k := by rw [List.length_take]; omega
      have hlt3 : (s[k]'hlt).toNat < 256 := UInt8.toNat_lt _
      have HTK := Lib.hid (byteL_take asciiP s k hlt)
      have hcp : cpB (asciiP (s[k]'hlt).toNat) = true := asciiP_cp _ hlt3
      have hcz := (cp_iff _).1 hcp
      have HID := Lib.hid (hI.out : Lib.IsBuilderF 61 5 w.heap.size w.heap.size _ wr.drew)
      have HBD : Below w.heap.size w wr.drew := hbw.drew
      have HRC := Lib.hid (rune_cells hcp)
      generalize hx : (s[k]'hlt).toNat = x at hq hlt3 hcp hcz HTK HRC
      skip
      generalize hy : asciiP x = y at HRC hcz HTK hcp
      have hcall : ∀ W, Below w.heap.size w W → Calls Tryz.prog 183 #[.int .u8 (x : Int)] W fun e w' => e = .returned (.int .i32 (y : Int)) ∧ W = w' := by
        intro W HW
        rw [← hy]
        exact ascii_any x hlt3 W
      have HCC := Lib.hid hcall
      clear hcall hx hy
      go_wp2_with fail
      go_region_with (first
        | (go_at_call 183; refine (HCC.out _ HBD).mono ?_; rintro e w2 ⟨rfl, rfl⟩)
        | (go_at_call 54; refine (Tryz.Builder_WriteRune_k w.heap.size w.heap.size _ (y : Int) (by omega) (by omega) wr.drew HID.out (by rw [Lib.byteCells_length]; omega) hszr).mono ?_; rintro e w2 ⟨rfl, h1, b1, k1⟩))
      all_goals go_wp2_with fail
      all_goals go_roundw
      all_goals first
        | (refine ⟨k + 1, by omega, by go_num, Lib.hid ?_, HBD.trans b1⟩; rw [HTK.out, Lib.byteCells_append, ← HRC.out]; exact Or.inr h1)
        | (simp [intOf]; omega)
    · have hend : k = s.size := by omega
      subst hend
      have hI2 := hI.out
      rw [List.take_of_length_le (by rw [Array.length_toList]; exact Nat.le_refl _), HA.out] at hI2
      clear HA hI
      go_wp2_with (go_at_call 44; refine (Tryz.Builder_String_any_k w.heap.size w.heap.size ANS _ hI2 hszr).mono ?_)
      rintro e W2 ⟨rfl, _, b1, _⟩
      go_wp2
      go_ret
      exact ⟨rfl, hbw.trans b1⟩
theorem latin_cp (b : Nat) (hb : b < 256) : cpB (id b) = true := (cp_iff _).2 (by simp only [id]; omega)

set_option maxHeartbeats 4000000 in
set_option maxRecDepth 1000000 in
theorem conv_latin (s : ByteArray) (hs : s.size ≤ 4000000) (b : Nat) (w : World) (hb : b < w.heap.size) (hc : w.cell? ⟨b, 0, none⟩ = some (.func (.func 184) #[] #[])) :
    Calls Tryz.prog 211 #[.string s, .pointer (some ⟨b, 0, none⟩)] w fun e w' => e = .returned (.string ⟨(byteL id s.data.toList).toArray⟩) ∧ Below w.heap.size w w' := by
  obtain ⟨ANS, hANS⟩ : ∃ ANS, byteL id s.data.toList = ANS := ⟨_, rfl⟩
  rw [hANS]
  have HA := Lib.hid hANS
  clear hANS
  go_enter Tryz.func211, Tryz.ntmps211
  go_wp2_with (go_at_call 53; refine (Tryz.Builder_Grow_fresh w.heap.size w.heap.size s.size _ (Nat.le_refl _) (Go.heap_alloc_new _ _) (by simp) (by omega)).mono ?_)
  rintro e W1 ⟨rfl, hI0, hb0⟩
  have hb1 : Below w.heap.size w W1 := ((Below.refl _ w).alloc (Nat.le_refl _) _).trans hb0
  have hsz1 : w.heap.size ≤ W1.heap.size := hb1.size
  go_wp2
  go_loopw [11] (fun i wr => ∃ k : Nat, k ≤ s.size ∧ i = .int .i64 k ∧ Hid (Lib.IsBuilderF 61 5 w.heap.size w.heap.size (Lib.byteCells (byteL id (s.data.toList.take k))) wr) ∧ Below w.heap.size w wr)
    (fun i _ => s.size - (intOf i).toNat)
  case atStart => exact ⟨0, Nat.zero_le _, rfl, Lib.hid (Lib.IsBuilderF.of (Or.inr hI0)), hb1⟩
  case round =>
    obtain ⟨k, hk, rfl, hI, hbw⟩ := hrel
    have hszr : w.heap.size ≤ wr.heap.size := hbw.size
    by_cases hlt : k < s.size
    · have hcr : wr.cell? ⟨b, 0, none⟩ = some (.func (.func 184) #[] #[]) := by rw [hbw.cell (p := ⟨b, 0, none⟩) hb]; exact hc
      have hcd : wr.drew.cell? ⟨b, 0, none⟩ = some (.func (.func 184) #[] #[]) := hcr
      have hq : ∀ W, (Instr.index 9 (.string s) (.int .i64 (k : Int))).run Tryz.prog W = .ok (.int .u8 (s[k].toNat : Int)) W := fun W => run_index_str s k k rfl hlt W
      have hl := byteL_len id (s.data.toList.take k)
      have hl2 : (s.data.toList.take k).length ≤ k := by rw [List.length_take]; omega
      have hlt3 : (s[k]'hlt).toNat < 256 := UInt8.toNat_lt _
      have HTK := Lib.hid (byteL_take id s k hlt)
      have hcp : cpB (id (s[k]'hlt).toNat) = true := latin_cp _ hlt3
      have hcz := (cp_iff _).1 hcp
      have HID := Lib.hid (hI.out : Lib.IsBuilderF 61 5 w.heap.size w.heap.size _ wr.drew)
      have HBD : Below w.heap.size w wr.drew := hbw.drew
      have HRC := Lib.hid (rune_cells hcp)
      generalize hx : (s[k]'hlt).toNat = x at hq hlt3 hcp hcz HTK HRC
      skip
      generalize hy : id x = y at HRC hcz HTK hcp
      have hcall : ∀ W, Below w.heap.size w W → Calls Tryz.prog 184 #[.int .u8 (x : Int)] W fun e w' => e = .returned (.int .i32 (y : Int)) ∧ W = w' := by
        intro W HW
        rw [← hy]
        exact latin_any x hlt3 W
      have HCC := Lib.hid hcall
      clear hcall hx hy
      go_wp2_with fail
      go_region_with (first
        | (go_at_call 184; refine (HCC.out _ HBD).mono ?_; rintro e w2 ⟨rfl, rfl⟩)
        | (go_at_call 54; refine (Tryz.Builder_WriteRune_k w.heap.size w.heap.size _ (y : Int) (by omega) (by omega) wr.drew HID.out (by rw [Lib.byteCells_length]; omega) hszr).mono ?_; rintro e w2 ⟨rfl, h1, b1, k1⟩))
      all_goals go_wp2_with fail
      all_goals go_roundw
      all_goals first
        | (refine ⟨k + 1, by omega, by go_num, Lib.hid ?_, HBD.trans b1⟩; rw [HTK.out, Lib.byteCells_append, ← HRC.out]; exact Or.inr h1)
        | (simp [intOf]; omega)
    · have hend : k = s.size := by omega
      subst hend
      have hI2 := hI.out
      rw [List.take_of_length_le (by rw [Array.length_toList]; exact Nat.le_refl _), HA.out] at hI2
      clear HA hI
      go_wp2_with (go_at_call 44; refine (Tryz.Builder_String_any_k w.heap.size w.heap.size ANS _ hI2 hszr).mono ?_)
      rintro e W2 ⟨rfl, _, b1, _⟩
      go_wp2
      go_ret
      exact ⟨rfl, hbw.trans b1⟩

set_option maxHeartbeats 4000000 in
set_option maxRecDepth 1000000 in
theorem conv_win (s : ByteArray) (hs : s.size ≤ 4000000) (b : Nat) (w : World) (hb : b < w.heap.size) (hc : w.cell? ⟨b, 0, none⟩ = some (.func (.func 185) #[] #[])) (hv : Vars w) :
    Calls Tryz.prog 211 #[.string s, .pointer (some ⟨b, 0, none⟩)] w fun e w' => e = .returned (.string ⟨(byteL winP s.data.toList).toArray⟩) ∧ Below w.heap.size w w' := by
  obtain ⟨ANS, hANS⟩ : ∃ ANS, byteL winP s.data.toList = ANS := ⟨_, rfl⟩
  rw [hANS]
  have HA := Lib.hid hANS
  clear hANS
  go_enter Tryz.func211, Tryz.ntmps211
  go_wp2_with (go_at_call 53; refine (Tryz.Builder_Grow_fresh w.heap.size w.heap.size s.size _ (Nat.le_refl _) (Go.heap_alloc_new _ _) (by simp) (by omega)).mono ?_)
  rintro e W1 ⟨rfl, hI0, hb0⟩
  have hb1 : Below w.heap.size w W1 := ((Below.refl _ w).alloc (Nat.le_refl _) _).trans hb0
  have hsz1 : w.heap.size ≤ W1.heap.size := hb1.size
  go_wp2
  go_loopw [11] (fun i wr => ∃ k : Nat, k ≤ s.size ∧ i = .int .i64 k ∧ Hid (Lib.IsBuilderF 61 5 w.heap.size w.heap.size (Lib.byteCells (byteL winP (s.data.toList.take k))) wr) ∧ Below w.heap.size w wr)
    (fun i _ => s.size - (intOf i).toNat)
  case atStart => exact ⟨0, Nat.zero_le _, rfl, Lib.hid (Lib.IsBuilderF.of (Or.inr hI0)), hb1⟩
  case round =>
    obtain ⟨k, hk, rfl, hI, hbw⟩ := hrel
    have hszr : w.heap.size ≤ wr.heap.size := hbw.size
    by_cases hlt : k < s.size
    · have hcr : wr.cell? ⟨b, 0, none⟩ = some (.func (.func 185) #[] #[]) := by rw [hbw.cell (p := ⟨b, 0, none⟩) hb]; exact hc
      have hcd : wr.drew.cell? ⟨b, 0, none⟩ = some (.func (.func 185) #[] #[]) := hcr
      have hq : ∀ W, (Instr.index 9 (.string s) (.int .i64 (k : Int))).run Tryz.prog W = .ok (.int .u8 (s[k].toNat : Int)) W := fun W => run_index_str s k k rfl hlt W
      have hl := byteL_len winP (s.data.toList.take k)
      have hl2 : (s.data.toList.take k).length ≤ k := by rw [List.length_take]; omega
      have hlt3 : (s[k]'hlt).toNat < 256 := UInt8.toNat_lt _
      have HTK := Lib.hid (byteL_take winP s k hlt)
      have hcp : cpB (winP (s[k]'hlt).toNat) = true := winP_cp _ hlt3
      have hcz := (cp_iff _).1 hcp
      have HID := Lib.hid (hI.out : Lib.IsBuilderF 61 5 w.heap.size w.heap.size _ wr.drew)
      have HBD : Below w.heap.size w wr.drew := hbw.drew
      have HRC := Lib.hid (rune_cells hcp)
      generalize hx : (s[k]'hlt).toNat = x at hq hlt3 hcp hcz HTK HRC
      skip
      generalize hy : winP x = y at HRC hcz HTK hcp
      have hcall : ∀ W, Below w.heap.size w W → Calls Tryz.prog 185 #[.int .u8 (x : Int)] W fun e w' => e = .returned (.int .i32 (y : Int)) ∧ W = w' := by
        intro W HW
        rw [← hy]
        exact win_any x hlt3 W (hv.below HW)
      have HCC := Lib.hid hcall
      clear hcall hx hy
      go_wp2_with fail
      go_region_with (first
        | (go_at_call 185; refine (HCC.out _ HBD).mono ?_; rintro e w2 ⟨rfl, rfl⟩)
        | (go_at_call 54; refine (Tryz.Builder_WriteRune_k w.heap.size w.heap.size _ (y : Int) (by omega) (by omega) wr.drew HID.out (by rw [Lib.byteCells_length]; omega) hszr).mono ?_; rintro e w2 ⟨rfl, h1, b1, k1⟩))
      all_goals go_wp2_with fail
      all_goals go_roundw
      all_goals first
        | (refine ⟨k + 1, by omega, by go_num, Lib.hid ?_, HBD.trans b1⟩; rw [HTK.out, Lib.byteCells_append, ← HRC.out]; exact Or.inr h1)
        | (simp [intOf]; omega)
    · have hend : k = s.size := by omega
      subst hend
      have hI2 := hI.out
      rw [List.take_of_length_le (by rw [Array.length_toList]; exact Nat.le_refl _), HA.out] at hI2
      clear HA hI
      go_wp2_with (go_at_call 44; refine (Tryz.Builder_String_any_k w.heap.size w.heap.size ANS _ hI2 hszr).mono ?_)
      rintro e W2 ⟨rfl, _, b1, _⟩
      go_wp2
      go_ret
      exact ⟨rfl, hbw.trans b1⟩
end Go.Proofs.YtdinachiiimngaaGreatDoor.Cs
namespace Go.Proofs.YtdinachiiimngaaGreatDoor.Cs
open Go.ChangeShapes Go.WideShapes Go.ChangeAt Go.RowKit

/-- An entry of a map literal, at a key that is not there yet. -/
theorem wpList_insert {P : Program} {ops : Array Oper} {rest : List Oper} {o : Oper} {a : Act} {w : World} {Q : Exit → Act → World → Prop}
    (hg : o.guard = none) (m x v : Operand) (t : TypeId) (hop : o.op = Op.insert t m x v) (kt e : TypeId) (ht : P.underlying t = some (.map kt e)) (hk : P.underlying kt = some .string)
    (M : Nat) (es : Array MapEntry) (c : Nat) (hb : w.heap[M]? = some (.map es c)) (hm : a.eval m = .map (some M)) (k : ByteArray) (val : Value) (hx : a.eval x = .string k) (hv : a.eval v = val)
    (hf : Instr.findNow .string (.string k) es.toList 0 = some none)
    (hK : ∀ w', w'.heap[M]? = some (.map (es.push { key := .string k, val := val, born := c }) (c + 1)) → Below M w w' → wpList P ops Q rest (a.put o.dst undef) w') :
    wpList P ops Q (o :: rest) a w := by
  refine wpList_plain hg fun K' hK' => ?_
  have hc : (Instr.checkKey false 10000 kt (.string k)).run P w = .ok () w := MapKept.run_checkKey (k := .string k) hk (by simp [MapKept.IsKey]) false 9999
  have hrun : (Instr.mapUpdate t (.map (some M)) (.string k) val).run P w = .ok () { w with heap := w.heap.setIfInBounds M (.map (es.push { key := .string k, val := val, born := c }) (c + 1)) } := by
    simp [Instr.mapUpdate, run_underlying ht, MapKept.run_getObj_map hb, hc, MapKept.run_findKey hk hf, MapKept.run_setObj_map _ hb, Result.andThen]
  unfold Oper.wp
  simp [execOp, hop, hm, hx, hv, hrun, Result.andThen]
  have hset := MapKept.heap_set (o' := .map (es.push { key := .string k, val := val, born := c }) (c + 1)) hb
  exact hK' _ _ (hK _ hset.1 ⟨rfl, rfl, rfl, by simp, fun i hi => hset.2 i (by omega)⟩)

/-- The functions that byteDecoder makes: the code points in the block b. -/
def decV (b : Nat) : Value := .func (.func 211) #[] #[.pointer (some ⟨b, 0, none⟩)]
theorem make_any (g : Nat) (w : World) :
    Calls Tryz.prog 182 #[.func (.func g) #[] #[]] w fun e w' => e = .returned (decV w.heap.size) ∧ w' = w.alloc (.cells #[.func (.func g) #[] #[]] 169) := by
  go_enter Tryz.func182, Tryz.ntmps182
  go_wp2
  go_ret
  exact ⟨rfl, rfl⟩
end Go.Proofs.YtdinachiiimngaaGreatDoor.Cs
namespace Go.Proofs.YtdinachiiimngaaGreatDoor.Cs
open Go.ChangeShapes Go.WideShapes Go.ChangeAt Go.RowKit

set_option maxHeartbeats 4000000 in
set_option maxRecDepth 1000000 in
theorem repair_any (s : ByteArray) (hs : s.size ≤ 4000000) (w : World) :
    Calls Tryz.prog 25 #[.string s] w fun e w' => e = .returned (.string ⟨(repairL s.data.toList).toArray⟩) ∧ Below w.heap.size w w' := by
  obtain ⟨ANS, hANS⟩ : ∃ ANS, repairL s.data.toList = ANS := ⟨_, rfl⟩
  rw [hANS]
  have HA := Lib.hid hANS
  clear hANS
  go_enter Tryz.func25, Tryz.ntmps25
  go_wp2_with (go_at_call 53; refine (Tryz.Builder_Grow_fresh w.heap.size w.heap.size s.size _ (Nat.le_refl _) (Go.heap_alloc_new _ _) (by simp) (by omega)).mono ?_)
  rintro e W1 ⟨rfl, hI0, hb0⟩
  have hb1 : Below w.heap.size w W1 := ((Below.refl _ w).alloc (Nat.le_refl _) _).trans hb0
  have hsz1 : w.heap.size ≤ W1.heap.size := hb1.size
  have hbs : w.heap.size < W1.heap.size := by
    obtain ⟨_, v, hb, _⟩ := hI0
    exact (Array.getElem?_eq_some_iff.1 hb).1
  go_wp2
  go_loopw [] (fun wr => ∃ (pos : Nat) (acc : List UInt8), Lib.IsBuilderF 61 5 w.heap.size w.heap.size (Lib.byteCells acc) wr ∧ wr.heap[W1.heap.size]? = some (.stringIter s pos) ∧ Below w.heap.size w wr ∧ acc ++ (runesL (s.data.toList.drop pos)).flatMap encL = ANS ∧ acc.length ≤ 4 * pos ∧ pos ≤ s.size) (fun wr => s.size - wr.iterPos W1.heap.size)
  case atStart =>
    refine ⟨0, [], (Lib.IsBuilderF.of (Or.inr hI0)).alloc _, World.iter_heap W1 s 0, hb1.alloc hsz1 _, ?_, by simp, by omega⟩
    rw [← HA.out, List.drop_zero]; rfl
  case round =>
    obtain ⟨pos, acc, hI, hit, hbw, hacc, hal, hps⟩ := hrel
    have hacc := Lib.hid hacc
    have hsz : W1.heap.size < wr.heap.size := (Array.getElem?_eq_some_iff.1 hit).1
    by_cases hp : pos < s.size
    · have hnx : ∀ ty, (Instr.next (.pointer (some ⟨W1.heap.size, 0, none⟩)) true ty).run Tryz.prog wr = _ := fun ty => Lib.run_next_any_at wr W1.heap.size s pos ty hit hp
      have hwd := width_at s pos hp
      have hd1 := decode_le s pos
      have hcp := decode_cp (s.data.toList.drop pos)
      have hstep := runes_at s pos hp
      rw [Lib.decodeL_drop] at hcp
      have hI2 := hI.iterAt hit (pos + (Utf8.decode s pos).2)
      have hit2 := Lib.iterAt_heap wr W1.heap.size s pos (pos + (Utf8.decode s pos).2) hit
      have hbw2 := Lib.below_iterAt hbw (k := W1.heap.size) (by omega) s (pos + (Utf8.decode s pos).2)
      have hsz2 : w.heap.size ≤ (wr.iterAt W1.heap.size s (pos + (Utf8.decode s pos).2)).heap.size := by rw [Lib.iterAt_size]; omega
      have HS := Lib.hid hstep
      clear hstep
      have HC := Lib.hid hcp
      clear hcp
      go_wp2_with (go_at_call 54; refine (Tryz.Builder_WriteRune_k w.heap.size w.heap.size _ _ (by omega) (by omega) _ hI2 (by rw [Lib.byteCells_length]; omega) hsz2).mono ?_)
      rintro e W2 ⟨rfl, h1, b1, k1⟩
      go_wp2
      go_roundw
      case rel =>
        have hl4 := enc_len (Utf8.decode s pos).1
        refine ⟨pos + (Utf8.decode s pos).2, acc ++ encL (Utf8.decode s pos).1, ?_, k1.iter hit2 (by omega), hbw2.trans b1, ?_, by rw [List.length_append]; omega, hwd.2⟩
        · rw [Lib.byteCells_append, ← encR_eq HC.out, Lib.byteCells_encodeRune]; exact Or.inr h1
        · rw [← hacc.out, HS.out, List.flatMap_cons, List.append_assoc]
      case measure =>
        simp only [World.iterPos, k1.iter hit2 (by omega), hit]
        omega
    · have hnx : ∀ ty, (Instr.next (.pointer (some ⟨W1.heap.size, 0, none⟩)) true ty).run Tryz.prog wr = _ := fun ty => Lib.run_next_end_at wr W1.heap.size s pos ty hit hp
      have hend : acc = ANS := by rw [← hacc.out, runes_over s pos hp]; simp
      subst hend
      go_wp2_with (go_at_call 44; refine (Tryz.Builder_String_any_k w.heap.size w.heap.size acc _ hI (by omega)).mono ?_)
      rintro e W2 ⟨rfl, _, b1, _⟩
      go_wp2
      go_ret
      exact ⟨rfl, hbw.trans b1⟩
end Go.Proofs.YtdinachiiimngaaGreatDoor.Cs
namespace Go.Proofs.YtdinachiiimngaaGreatDoor.Cs
open Go.ChangeShapes Go.WideShapes Go.ChangeAt Go.RowKit

def repV : Value := .func (.func 25) #[] #[]
def key0 : ByteArray := ⟨#[117, 115, 45, 97, 115, 99, 105, 105]⟩
def key1 : ByteArray := ⟨#[97, 115, 99, 105, 105]⟩
def key2 : ByteArray := ⟨#[117, 116, 102, 45, 56]⟩
def key3 : ByteArray := ⟨#[117, 116, 102, 56]⟩
def key4 : ByteArray := ⟨#[105, 115, 111, 45, 56, 56, 53, 57, 45, 49]⟩
def key5 : ByteArray := ⟨#[108, 97, 116, 105, 110, 49]⟩
def key6 : ByteArray := ⟨#[119, 105, 110, 100, 111, 119, 115, 45, 49, 50, 53, 50]⟩
def key7 : ByteArray := ⟨#[99, 112, 49, 50, 53, 50]⟩
/-- The entries: the names, with the functions that decode. -/
def setE (B : Nat) : Array MapEntry :=
  #[{ key := .string key0, val := decV B, born := 0 }, { key := .string key1, val := decV B, born := 1 }, { key := .string key2, val := repV, born := 2 }, { key := .string key3, val := repV, born := 3 }, { key := .string key4, val := decV (B + 1), born := 4 }, { key := .string key5, val := decV (B + 1), born := 5 }, { key := .string key6, val := decV (B + 2), born := 6 }, { key := .string key7, val := decV (B + 2), born := 7 }]
/-- The map lies three blocks behind the first of the captured variables. -/
structure SetsAt (B : Nat) (w : World) : Prop where
  c0 : w.cell? ⟨B, 0, none⟩ = some (.func (.func 183) #[] #[])
  c1 : w.cell? ⟨B + 1, 0, none⟩ = some (.func (.func 184) #[] #[])
  c2 : w.cell? ⟨B + 2, 0, none⟩ = some (.func (.func 185) #[] #[])
  m : w.heap[B + 3]? = some (.map (setE B) 8)
theorem SetsAt.lt {B : Nat} {w : World} (h : SetsAt B w) : B + 3 < w.heap.size := (Array.getElem?_eq_some_iff.1 h.m).1
theorem SetsAt.below {B : Nat} {w w' : World} (h : SetsAt B w) (hb : Below w.heap.size w w') : SetsAt B w' := by
  have hl := h.lt
  refine ⟨?_, ?_, ?_, ?_⟩
  · rw [hb.cell (p := ⟨B, 0, none⟩) (by simp only; omega)]; exact h.c0
  · rw [hb.cell (p := ⟨B + 1, 0, none⟩) (by simp only; omega)]; exact h.c1
  · rw [hb.cell (p := ⟨B + 2, 0, none⟩) (by simp only; omega)]; exact h.c2
  · rw [hb.block (B + 3) hl]; exact h.m

set_option maxHeartbeats 4000000 in
set_option maxRecDepth 1000000 in
theorem decoders_any (w : World) :
    Calls Tryz.prog 152 #[] w fun e w' => e = .returned (.map (some (w.heap.size + 3))) ∧ SetsAt w.heap.size w' ∧ Below w.heap.size w w' := by
  have hmm := @run_makeMap Tryz.prog
  obtain ⟨W3, hW3⟩ : ∃ W3, ((w.alloc (.cells #[.func (.func 183) #[] #[]] 169)).alloc (.cells #[.func (.func 184) #[] #[]] 169)).alloc (.cells #[.func (.func 185) #[] #[]] 169) = W3 := ⟨_, rfl⟩
  have hs3 : W3.heap.size = w.heap.size + 3 := by rw [← hW3]; simp
  have hb3 : Below w.heap.size w W3 := by
    rw [← hW3]
    exact (((Below.refl _ w).alloc (Nat.le_refl _) _).alloc (by simp) _).alloc (by simp; omega) _
  have g0 : W3.heap[w.heap.size]? = some (.cells #[.func (.func 183) #[] #[]] 169 (0, 0)) := by
    rw [← hW3, Below.heap_alloc _ _ _ (by simp; omega), Below.heap_alloc _ _ _ (by simp)]; exact Go.heap_alloc_new _ _
  have g1 : W3.heap[w.heap.size + 1]? = some (.cells #[.func (.func 184) #[] #[]] 169 (0, 0)) := by
    rw [← hW3, Below.heap_alloc _ _ _ (by simp)]
    have := Go.heap_alloc_new (w.alloc (.cells #[.func (.func 183) #[] #[]] 169)) (.cells #[.func (.func 184) #[] #[]] 169)
    simpa using this
  have g2 : W3.heap[w.heap.size + 2]? = some (.cells #[.func (.func 185) #[] #[]] 169 (0, 0)) := by
    rw [← hW3]
    have := Go.heap_alloc_new ((w.alloc (.cells #[.func (.func 183) #[] #[]] 169)).alloc (.cells #[.func (.func 184) #[] #[]] 169)) (.cells #[.func (.func 185) #[] #[]] 169)
    simpa using this
  have h0 : (W3.alloc (.map #[] 0)).heap[w.heap.size + 3]? = some (.map #[] 0) := by
    have := Go.heap_alloc_new W3 (.map #[] 0)
    rw [hs3] at this
    exact this
  go_enter Tryz.func152, Tryz.ntmps152
  go_upto_region 1 with fail
  go_wp2_with (first
    | (go_at_call 182; refine (make_any _ _).mono ?_; rintro e w1 ⟨rfl, rfl⟩)
    | (refine wpList_insert (w := (W3.alloc (.map #[] 0))) rfl (.tmp 7) (.const (.string key0)) _ 149 rfl 9 43 Tryz.underlying149 Tryz.underlying9 (w.heap.size + 3) _ 0 h0 rfl key0 _ rfl rfl rfl ?_; intro w1 h1 b1)
    | (refine wpList_insert (w := w1) rfl (.tmp 7) (.const (.string key1)) _ 149 rfl 9 43 Tryz.underlying149 Tryz.underlying9 (w.heap.size + 3) _ 1 h1 rfl key1 _ rfl rfl rfl ?_; intro w2 h2 b2)
    | (refine wpList_insert (w := w2) rfl (.tmp 7) (.const (.string key2)) _ 149 rfl 9 43 Tryz.underlying149 Tryz.underlying9 (w.heap.size + 3) _ 2 h2 rfl key2 _ rfl rfl rfl ?_; intro w3 h3 b3)
    | (refine wpList_insert (w := w3) rfl (.tmp 7) (.const (.string key3)) _ 149 rfl 9 43 Tryz.underlying149 Tryz.underlying9 (w.heap.size + 3) _ 3 h3 rfl key3 _ rfl rfl rfl ?_; intro w4 h4 b4)
    | (refine wpList_insert (w := w4) rfl (.tmp 7) (.const (.string key4)) _ 149 rfl 9 43 Tryz.underlying149 Tryz.underlying9 (w.heap.size + 3) _ 4 h4 rfl key4 _ rfl rfl rfl ?_; intro w5 h5 b5)
    | (refine wpList_insert (w := w5) rfl (.tmp 7) (.const (.string key5)) _ 149 rfl 9 43 Tryz.underlying149 Tryz.underlying9 (w.heap.size + 3) _ 5 h5 rfl key5 _ rfl rfl rfl ?_; intro w6 h6 b6)
    | (refine wpList_insert (w := w6) rfl (.tmp 7) (.const (.string key6)) _ 149 rfl 9 43 Tryz.underlying149 Tryz.underlying9 (w.heap.size + 3) _ 6 h6 rfl key6 _ rfl rfl rfl ?_; intro w7 h7 b7)
    | (refine wpList_insert (w := w7) rfl (.tmp 7) (.const (.string key7)) _ 149 rfl 9 43 Tryz.underlying149 Tryz.underlying9 (w.heap.size + 3) _ 7 h7 rfl key7 _ rfl rfl rfl ?_; intro w8 h8 b8))
  go_ret
  have hall := ((((((b1.trans b2).trans b3).trans b4).trans b5).trans b6).trans b7).trans b8
  have hl1 : (W3.alloc (.map #[] 0)).heap.size = w.heap.size + 4 := by simp; omega
  have k0 := hall.block w.heap.size (by omega)
  have k1 := hall.block (w.heap.size + 1) (by omega)
  have k2 := hall.block (w.heap.size + 2) (by omega)
  rw [Below.heap_alloc _ _ _ (by omega)] at k0 k1 k2
  refine ⟨rfl, ⟨?_, ?_, ?_, h8⟩, (hb3.alloc (by omega) (.map #[] 0)).trans (hall.mono (by omega))⟩
  · simp [World.cell?, k0, g0]
  · simp [World.cell?, k1, g1]
  · simp [World.cell?, k2, g2]

/-- The closure of lower: ASCII letters alone change. -/
theorem low_step (x : Nat) (hx : x ≤ 1114111) (w : World) :
    Calls Tryz.prog 186 #[.int .i32 (x : Int)] w fun e w' => e = .returned (.int .i32 (lowZ x)) ∧ w = w' := by
  unfold lowZ
  by_cases h1 : (65 : Int) ≤ (x : Int)
  · by_cases h2 : (x : Int) ≤ 90
    · rw [if_pos ⟨h1, h2⟩]
      go_enter Tryz.func186, Tryz.ntmps186
      go_wp2
      go_ret
      exact ⟨rfl, rfl⟩
    · rw [if_neg (by omega)]
      go_enter Tryz.func186, Tryz.ntmps186
      go_wp2
      go_ret
      exact ⟨rfl, rfl⟩
  · rw [if_neg (by omega)]
    go_enter Tryz.func186, Tryz.ntmps186
    go_wp2
    go_ret
    exact ⟨rfl, rfl⟩
theorem lower_any (s : ByteArray) (hs : s.size ≤ 4000000) (w : World) (hv : Vars w) :
    Calls Tryz.prog 153 #[.string s] w fun e w' => e = .returned (.string ⟨(Lib.mapD lowZ s.data.toList).toArray⟩) ∧ Below w.heap.size w w' := by
  have hT := Tryz.strings_Map_runes 186 #[] (enters_of Tryz.func186 (by kernel_rfl) rfl) lowZ s w (by omega) (fun W x hx _ => (low_step x hx W).mono fun e w' h => ⟨h.1, 0, by rw [← h.2]; rfl⟩) (fun x hx => by unfold lowZ; split <;> omega) hv.tabs
  generalize Lib.mapD lowZ s.data.toList = V at hT ⊢
  go_enter Tryz.func153, Tryz.ntmps153
  go_wp2_with (go_at_call 165; refine hT.mono ?_; rintro e w' ⟨rfl, hb⟩)
  go_ret
  exact ⟨rfl, hb⟩
end Go.Proofs.YtdinachiiimngaaGreatDoor.Cs
namespace Go.Proofs.YtdinachiiimngaaGreatDoor.Cs
open Go.ChangeShapes Go.WideShapes Go.ChangeAt Go.RowKit

/-- The number of a character set (1 to 4) by its name as the map has it; 0: unknown. -/
def kindK (k : ByteArray) : Nat :=
  if k = key0 then 1 else if k = key1 then 1 else if k = key2 then 2 else if k = key3 then 2 else if k = key4 then 3 else if k = key5 then 3 else if k = key6 then 4 else if k = key7 then 4 else 0
def kindL (l : List UInt8) : Nat := kindK ⟨(l.map lowB).toArray⟩
theorem kindK_le (k : ByteArray) : kindK k = 0 ∨ kindK k = 1 ∨ kindK k = 2 ∨ kindK k = 3 ∨ kindK k = 4 := by
  unfold kindK
  (repeat' split) <;> simp
theorem low_key (l : List UInt8) (key : ByteArray) (hk : ∀ b ∈ key.data.toList, b.toNat < 128) : (⟨(Lib.mapD lowZ l).toArray⟩ : ByteArray) = key ↔ (⟨(l.map lowB).toArray⟩ : ByteArray) = key := by
  have h := low_same l key.data.toList hk
  constructor
  · intro e
    have e1 := congrArg (fun b : ByteArray => b.data.toList) e
    simp only at e1
    have := h.1 e1
    rw [this]
  · intro e
    have e1 := congrArg (fun b : ByteArray => b.data.toList) e
    simp only at e1
    have := h.2 e1
    rw [this]
theorem kind_low (l : List UInt8) : kindK ⟨(Lib.mapD lowZ l).toArray⟩ = kindL l := by
  unfold kindL kindK
  simp only [low_key l key0 (by decide), low_key l key1 (by decide), low_key l key2 (by decide), low_key l key3 (by decide), low_key l key4 (by decide), low_key l key5 (by decide), low_key l key6 (by decide), low_key l key7 (by decide)]
def fnK (B : Nat) (k : Nat) : Value := if k = 1 then decV B else if k = 2 then repV else if k = 3 then decV (B + 1) else if k = 4 then decV (B + 2) else .nilFunc
theorem bytes_eqb (a b : ByteArray) : (a == b) = decide (a = b) := by
  rw [Bool.eq_iff_iff, MapKept.bytes_beq, decide_eq_true_eq]
theorem find_set (B : Nat) (k : ByteArray) : ∃ r, Instr.findNow .string (.string k) (setE B).toList 0 = some r ∧ ((kindK k = 0 ∧ r = none) ∨ (kindK k ≠ 0 ∧ ∃ i, r = some (i, fnK B (kindK k)))) := by
  unfold kindK
  have hb : ∀ a b : ByteArray, (a == b) = decide (a = b) := bytes_eqb
  by_cases h0 : k = key0
  · refine ⟨some (0, fnK B 1), ?_, .inr ⟨?_, 0, ?_⟩⟩
    · simp only [setE, Instr.findNow, Instr.sameNow, hb, eq_true h0, decide_true]
      rfl
    · simp only [eq_true h0, if_true]; decide
    · simp only [eq_true h0, if_true]
  · by_cases h1 : k = key1
    · refine ⟨some (1, fnK B 1), ?_, .inr ⟨?_, 1, ?_⟩⟩
      · simp only [setE, Instr.findNow, Instr.sameNow, hb, eq_false h0, eq_true h1, decide_true, decide_false]
        rfl
      · simp only [eq_false h0, eq_true h1, if_true, if_false]; decide
      · simp only [eq_false h0, eq_true h1, if_true, if_false]
    · by_cases h2 : k = key2
      · refine ⟨some (2, fnK B 2), ?_, .inr ⟨?_, 2, ?_⟩⟩
        · simp only [setE, Instr.findNow, Instr.sameNow, hb, eq_false h0, eq_false h1, eq_true h2, decide_true, decide_false]
          rfl
        · simp only [eq_false h0, eq_false h1, eq_true h2, if_true, if_false]; decide
        · simp only [eq_false h0, eq_false h1, eq_true h2, if_true, if_false]
      · by_cases h3 : k = key3
        · refine ⟨some (3, fnK B 2), ?_, .inr ⟨?_, 3, ?_⟩⟩
          · simp only [setE, Instr.findNow, Instr.sameNow, hb, eq_false h0, eq_false h1, eq_false h2, eq_true h3, decide_true, decide_false]
            rfl
          · simp only [eq_false h0, eq_false h1, eq_false h2, eq_true h3, if_true, if_false]; decide
          · simp only [eq_false h0, eq_false h1, eq_false h2, eq_true h3, if_true, if_false]
        · by_cases h4 : k = key4
          · refine ⟨some (4, fnK B 3), ?_, .inr ⟨?_, 4, ?_⟩⟩
            · simp only [setE, Instr.findNow, Instr.sameNow, hb, eq_false h0, eq_false h1, eq_false h2, eq_false h3, eq_true h4, decide_true, decide_false]
              rfl
            · simp only [eq_false h0, eq_false h1, eq_false h2, eq_false h3, eq_true h4, if_true, if_false]; decide
            · simp only [eq_false h0, eq_false h1, eq_false h2, eq_false h3, eq_true h4, if_true, if_false]
          · by_cases h5 : k = key5
            · refine ⟨some (5, fnK B 3), ?_, .inr ⟨?_, 5, ?_⟩⟩
              · simp only [setE, Instr.findNow, Instr.sameNow, hb, eq_false h0, eq_false h1, eq_false h2, eq_false h3, eq_false h4, eq_true h5, decide_true, decide_false]
                rfl
              · simp only [eq_false h0, eq_false h1, eq_false h2, eq_false h3, eq_false h4, eq_true h5, if_true, if_false]; decide
              · simp only [eq_false h0, eq_false h1, eq_false h2, eq_false h3, eq_false h4, eq_true h5, if_true, if_false]
            · by_cases h6 : k = key6
              · refine ⟨some (6, fnK B 4), ?_, .inr ⟨?_, 6, ?_⟩⟩
                · simp only [setE, Instr.findNow, Instr.sameNow, hb, eq_false h0, eq_false h1, eq_false h2, eq_false h3, eq_false h4, eq_false h5, eq_true h6, decide_true, decide_false]
                  rfl
                · simp only [eq_false h0, eq_false h1, eq_false h2, eq_false h3, eq_false h4, eq_false h5, eq_true h6, if_true, if_false]; decide
                · simp only [eq_false h0, eq_false h1, eq_false h2, eq_false h3, eq_false h4, eq_false h5, eq_true h6, if_true, if_false]
              · by_cases h7 : k = key7
                · refine ⟨some (7, fnK B 4), ?_, .inr ⟨?_, 7, ?_⟩⟩
                  · simp only [setE, Instr.findNow, Instr.sameNow, hb, eq_false h0, eq_false h1, eq_false h2, eq_false h3, eq_false h4, eq_false h5, eq_false h6, eq_true h7, decide_true, decide_false]
                    rfl
                  · simp only [eq_false h0, eq_false h1, eq_false h2, eq_false h3, eq_false h4, eq_false h5, eq_false h6, eq_true h7, if_true, if_false]; decide
                  · simp only [eq_false h0, eq_false h1, eq_false h2, eq_false h3, eq_false h4, eq_false h5, eq_false h6, eq_true h7, if_true, if_false]
                · refine ⟨none, ?_, .inl ⟨?_, rfl⟩⟩
                  · simp only [setE, Instr.findNow, Instr.sameNow, hb, eq_false h0, eq_false h1, eq_false h2, eq_false h3, eq_false h4, eq_false h5, eq_false h6, eq_false h7, decide_false]
                  · simp only [eq_false h0, eq_false h1, eq_false h2, eq_false h3, eq_false h4, eq_false h5, eq_false h6, eq_false h7, if_false]
theorem lookup_set {B : Nat} {w : World} (h : SetsAt B w) (k : ByteArray) (ok : Bool) :
    (Instr.lookup 149 (.map (some (B + 3))) (.string k) ok).run Tryz.prog w = .ok (if ok then .tuple #[fnK B (kindK k), .bool (decide (kindK k ≠ 0))] else fnK B (kindK k)) w := by
  have hc : (Instr.checkKey (setE B).isEmpty 10000 9 (.string k)).run Tryz.prog w = .ok () w := MapKept.run_checkKey (k := .string k) Tryz.underlying9 (by simp [MapKept.IsKey]) _ 9999
  obtain ⟨r, hr, hk⟩ := find_set B k
  have hz := Tryz.zeroValue43 w
  rcases hk with ⟨h0, rfl⟩ | ⟨h0, i, rfl⟩
  · simp [Instr.lookup, run_underlying Tryz.underlying149, MapKept.run_getObj_map h.m, hc, MapKept.run_findKey Tryz.underlying9 hr, Result.andThen, hz, h0, fnK]
  · simp [Instr.lookup, run_underlying Tryz.underlying149, MapKept.run_getObj_map h.m, hc, MapKept.run_findKey Tryz.underlying9 hr, Result.andThen, h0]

/-- What a string becomes, by the number of its character set. -/
def decL (k : Nat) (l : List UInt8) : List UInt8 := if k = 1 then byteL asciiP l else if k = 2 then repairL l else if k = 3 then byteL id l else byteL winP l

set_option maxHeartbeats 2000000 in
theorem decode_any (n s : ByteArray) (hn : n.size ≤ 4000000) (hs : s.size ≤ 4000000) (w : World) (hv : Vars w) :
    Calls Tryz.prog 109 #[.string n, .string s] w fun e w' => e = .returned (.tuple #[.string ⟨(decL (kindL n.data.toList) s.data.toList).toArray⟩, .bool (decide (kindL n.data.toList ≠ 0))]) ∧ Below w.heap.size w w' := by
  have hk := kind_low n.data.toList
  have hk5 := kindK_le ⟨(n.data.toList.map lowB).toArray⟩
  rw [show kindK ⟨(n.data.toList.map lowB).toArray⟩ = kindL n.data.toList from rfl] at hk5
  generalize kindL n.data.toList = kd at hk hk5 ⊢
  have HK := Lib.hid hk
  clear hk
  go_enter Tryz.func109, Tryz.ntmps109
  go_wp2_with (go_at_call 152; refine (decoders_any w).mono ?_; rintro e w1 ⟨rfl, hs1, hb1⟩)
  refine (lower_any n hn w1 (hv.below hb1)).mono ?_
  rintro e w2 ⟨rfl, hb2⟩
  have hs2 := hs1.below hb2
  have hb3 := hb1.trans (hb2.mono hb1.size)
  have hv2 := hv.below hb3
  have hl := lookup_set hs2 ⟨(Lib.mapD lowZ n.data.toList).toArray⟩ true
  rw [HK.out] at hl
  simp only [if_true] at hl
  have hlw := lookup_set hs2 key6 false
  have hlt := hs2.lt
  rcases hk5 with rfl | rfl | rfl | rfl | rfl
  · rw [show fnK w.heap.size 0 = .nilFunc from rfl, show decide ((0 : Nat) ≠ 0) = false from rfl] at hl
    rw [show kindK key6 = 4 from by decide, show fnK w.heap.size 4 = decV (w.heap.size + 2) from rfl] at hlw
    simp only [Bool.false_eq_true, if_false] at hlw
    unfold decV key6 at hlw
    go_wp2_with (go_at_call 211; refine (conv_win s hs _ w2 (by omega) hs2.c2 hv2).mono ?_; rintro e w3 ⟨rfl, hb4⟩)
    go_ret2
    exact ⟨rfl, hb3.trans (hb4.mono hb3.size)⟩
  · rw [show fnK w.heap.size 1 = decV w.heap.size from rfl, show decide ((1 : Nat) ≠ 0) = true from rfl] at hl
    unfold decV at hl
    go_wp2_with (go_at_call 211; refine (conv_ascii s hs _ w2 (by omega) hs2.c0).mono ?_; rintro e w3 ⟨rfl, hb4⟩)
    go_ret2
    exact ⟨rfl, hb3.trans (hb4.mono hb3.size)⟩
  · rw [show fnK w.heap.size 2 = repV from rfl, show decide ((2 : Nat) ≠ 0) = true from rfl] at hl
    unfold repV at hl
    go_wp2_with (go_at_call 25; refine (repair_any s hs w2).mono ?_; rintro e w3 ⟨rfl, hb4⟩)
    go_ret2
    exact ⟨rfl, hb3.trans (hb4.mono hb3.size)⟩
  · rw [show fnK w.heap.size 3 = decV (w.heap.size + 1) from rfl, show decide ((3 : Nat) ≠ 0) = true from rfl] at hl
    unfold decV at hl
    go_wp2_with (go_at_call 211; refine (conv_latin s hs _ w2 (by omega) hs2.c1).mono ?_; rintro e w3 ⟨rfl, hb4⟩)
    go_ret2
    exact ⟨rfl, hb3.trans (hb4.mono hb3.size)⟩
  · rw [show fnK w.heap.size 4 = decV (w.heap.size + 2) from rfl, show decide ((4 : Nat) ≠ 0) = true from rfl] at hl
    unfold decV at hl
    go_wp2_with (go_at_call 211; refine (conv_win s hs _ w2 (by omega) hs2.c2 hv2).mono ?_; rintro e w3 ⟨rfl, hb4⟩)
    go_ret2
    exact ⟨rfl, hb3.trans (hb4.mono hb3.size)⟩
end Go.Proofs.YtdinachiiimngaaGreatDoor.Cs
namespace Go.Proofs.YtdinachiiimngaaGreatDoor
open Go.ChangeShapes Go.WideShapes Go.ChangeAt Go.RowKit
open TokP AdrP CtP

theorem dig_facts : ∀ n : Fin 256, (hexV (UInt8.ofNat n.val)) = if Nu.dig (UInt8.ofNat n.val).toNat < 16 then some (Nu.dig (UInt8.ofNat n.val).toNat) else none := by decide +kernel
theorem dig_all (c : UInt8) : hexV c = if Nu.dig c.toNat < 16 then some (Nu.dig c.toNat) else none :=
  byte_all (P := fun c => hexV c = if Nu.dig c.toNat < 16 then some (Nu.dig c.toNat) else none) dig_facts c
theorem unhex_two (a b : UInt8) : Nu.unhexOk [a, b] = (hex2 [a, b]).isSome ∧ ∀ c, hex2 [a, b] = some c → Nu.unhexS [a, b] = [c] := by
  have h1 : Nu.unhexOk [a, b] = (decide (Nu.dig a.toNat < 16) && decide (Nu.dig b.toNat < 16)) := by
    unfold Nu.unhexOk
    simp
  have h2 : hex2 [a, b] = if Nu.dig a.toNat < 16 ∧ Nu.dig b.toNat < 16 then some (UInt8.ofNat (16 * Nu.dig a.toNat + Nu.dig b.toNat)) else none := by
    show (match hexV a, hexV b with
      | some x, some y => some (UInt8.ofNat (16 * x + y))
      | _, _ => none) = _
    rw [dig_all a, dig_all b]
    by_cases ha : Nu.dig a.toNat < 16
    · rw [if_pos ha]
      by_cases hb : Nu.dig b.toNat < 16
      · rw [if_pos hb, if_pos ⟨ha, hb⟩]
      · rw [if_neg hb, if_neg (fun h => hb h.2)]
    · rw [if_neg ha]
      exact (if_neg (fun h => ha h.1)).symm
  constructor
  · rw [h1, h2]
    by_cases h : Nu.dig a.toNat < 16 ∧ Nu.dig b.toNat < 16
    · rw [if_pos h, decide_eq_true h.1, decide_eq_true h.2]; rfl
    · rw [if_neg h]
      rw [← Bool.decide_and, decide_eq_false h]; rfl
  · intro c hc
    rw [h2] at hc
    by_cases h : Nu.dig a.toNat < 16 ∧ Nu.dig b.toNat < 16
    · rw [if_pos h] at hc
      unfold Nu.unhexS
      rw [if_pos (by rw [h1, decide_eq_true h.1, decide_eq_true h.2]; rfl), ← Option.some.inj hc]
      unfold Nu.bytesTo
      simp [List.range_succ, Nu.byteAt]
    · rw [if_neg h] at hc; exact absurd hc (by simp)
theorem unhex_ok (s : ByteArray) (hs : s.size = 2) (W : World) : Calls Tryz.prog 151 #[.string s] W fun e w' => ∃ T : ByteArray, e = .returned (.tuple #[.string T, .bool (hex2 s.data.toList).isSome]) ∧ (∀ b, hex2 s.data.toList = some b → T = strL [b]) ∧ Below W.heap.size W w' := by
  have c := Nu.unhex_any s (by omega) W
  have hz := size_list s
  rw [hs] at hz
  generalize s.data.toList = l at c hz ⊢
  obtain ⟨a, b, rfl⟩ : ∃ a b, l = [a, b] := by
    match l, hz with
    | [a, b], _ => exact ⟨a, b, rfl⟩
  obtain ⟨h1, h2⟩ := unhex_two a b
  rw [h1] at c
  refine c.mono fun e w' h => ⟨_, h.1, fun b hb => ?_, h.2⟩
  rw [h2 b hb]; rfl
set_option maxRecDepth 100000 in
set_option maxHeartbeats 4000000 in
theorem pct_any (s : ByteArray) (hs : s.size ≤ 4000000) (w : World) :
    Calls Tryz.prog 108 #[.string s] w fun e w' => e = .returned (.string (strL (pctL s.data.toList))) ∧ Below w.heap.size w w' := by
  obtain ⟨n, hn⟩ : ∃ n, s.size = n := ⟨_, rfl⟩
  have HN := Lib.hid hn
  have HL := Lib.hid (size_list s)
  rw [hn] at hs
  obtain ⟨R, hR⟩ : ∃ R, pctL s.data.toList = R := ⟨_, rfl⟩
  rw [hR]
  have HR := Lib.hid (show ([] : List UInt8) ++ pctS 0 (s.data.toList.drop 0) = R from hR)
  have H0 := Lib.hid (Wr.first (bk_new w))
  have HB0 := Lib.hid ((Below.refl w.heap.size w).alloc (Nat.le_refl _) (.cells #[.pointer none, .slice none 0 0] 61))
  obtain ⟨W0, hW0⟩ : ∃ W0, w.alloc (.cells #[.pointer none, .slice none 0 0] 61) = W0 := ⟨_, rfl⟩
  rw [hW0] at H0 HB0
  have HW0 := Lib.hid hW0
  clear hR hW0
  go_enter Tryz.func108, Tryz.ntmps108
  go_wp2_with fail
  rw [HW0.out]
  go_loopw [4] (fun i wr => ∃ (k : Nat) (T : List UInt8), k ≤ n ∧ i = .int .i64 k ∧ T.length ≤ k ∧ Hid (T ++ pctS 0 (s.data.toList.drop k) = R) ∧ Hid (Wr w.heap.size W0 wr T)) (fun i _ => n - (intOf i).toNat)
  case atStart => exact ⟨0, [], Nat.zero_le _, rfl, Nat.zero_le _, HR, H0⟩
  case round =>
    obtain ⟨k, T, hk, rfl, hTz, HG, HT⟩ := hrel
    clear H0
    have F1 : IntKind.i64.wrap ((k : Int) + 1) = (k : Int) + 1 := by rw [IntKind.wrap_i64]; omega
    have F2 : IntKind.i64.wrap ((k : Int) + 2) = (k : Int) + 2 := by rw [IntKind.wrap_i64]; omega
    have F3 : IntKind.i64.wrap ((k : Int) + 3) = (k : Int) + 3 := by rw [IntKind.wrap_i64]; omega
    have F4 : IntKind.i64.wrap ((k : Int) + 2 + 1) = (k : Int) + 2 + 1 := by rw [IntKind.wrap_i64]; omega
    by_cases hlt : k < n
    · have hlt' : (k : Int) < (n : Int) := by omega
      obtain ⟨d, y, hd, hy, hy2, S1⟩ := run_byte s k (by rw [hn]; exact hlt)
      have e37 := byte_is d y hy 37 (by decide)
      rw [show ((37 : Nat) : Int) = 37 from rfl] at e37
      have HPL := Lib.hid (fun (h : pctS 0 (s.data.toList.drop k) = d :: pctS 0 (s.data.toList.drop (k + 1))) => show (T ++ [d]) ++ pctS 0 (s.data.toList.drop (k + 1)) = R by
        rw [← HG.out, h, List.append_assoc]; rfl)
      have hT1 : (T ++ [d]).length ≤ k + 1 := by rw [List.length_append, List.length_singleton]; omega
      have c1 := fun W (h : Hid (Wr w.heap.size W0 W T)) => wr_byte d (y : Int) (by omega) h.out (by omega)
      by_cases h37 : d = 37
      · rw [show decide (d = UInt8.ofNat 37) = true from decide_eq_true h37] at e37
        by_cases h2 : k + 2 < n
        · have h2' : (k : Int) + 2 < (n : Int) := by omega
          have R2 := run_slice_str s (k + 1) (k + 3) ((k : Int) + 3) (by omega) (by omega) (by omega)
          have hX : (s.extract (k + 1) (k + 3)).data.toList = (s.data.toList.drop (k + 1)).take 2 := by
            rw [part_of s (k + 1) (k + 3) (by omega) (by omega), strL_list]
            rw [show k + 3 - (k + 1) = 2 by omega]
          have hXz : (s.extract (k + 1) (k + 3)).size = 2 := by rw [ByteArray.size_extract]; omega
          have cU := fun W => unhex_ok (s.extract (k + 1) (k + 3)) hXz W
          rw [hX, hex2_take] at cU
          generalize s.extract (k + 1) (k + 3) = X at R2 cU
          rw [show ((k + 1 : Nat) : Int) = (k : Int) + 1 by omega] at R2
          cases hh : hex2 (s.data.toList.drop (k + 1)) with
          | none =>
            rw [hh] at cU
            have HG2 := Lib.hid (HPL.out (pct_no hd hh))
            clear hh hX hXz hd hy HG HPL h37
            go_wp2_with (first
              | (go_at_call 151; (with_reducible refine (cU _).mono ?_); rintro e w2 ⟨V, rfl, _, hb2⟩; have HT2 := Lib.hid (HT.out.other hb2); clear hb2 cU)
              | (go_at_call 80; (with_reducible refine (c1 _ HT2).mono ?_); rintro e w3 ⟨rfl, hq3⟩; have HT3 := Lib.hid hq3; clear hq3 c1))
            go_roundw
            case rel => exact ⟨k + 1, _, by omega, by go_num, hT1, HG2, HT3⟩
            case measure => simp [intOf]; omega
          | some b =>
            rw [hh] at cU
            have hyes := pct_yes (h37 ▸ hd) hh
            have HG2 := Lib.hid (show (T ++ [b]) ++ pctS 0 (s.data.toList.drop (k + 3)) = R by rw [← HG.out, hyes, List.append_assoc]; rfl)
            have hT3 : (T ++ [b]).length ≤ k + 3 := by rw [List.length_append, List.length_singleton]; omega
            have c2 := fun W (h : Hid (Wr w.heap.size W0 W T)) => wr_str (strL [b]) h.out (by rw [strL_size, List.length_singleton]; omega)
            rw [strL_list] at c2
            have HV := Lib.hid (fun (V : ByteArray) (h : ∀ c, some b = some c → V = strL [c]) => h b rfl)
            generalize strL [b] = Z at HV c2
            clear hh hX hXz hd hy HG HPL h37 hT1 c1 hyes
            go_wp2_with (first
              | (go_at_call 151; (with_reducible refine (cU _).mono ?_); rintro e w2 ⟨V, rfl, hv, hb2⟩; have hv2 := HV.out V hv; subst hv2; have HT2 := Lib.hid (HT.out.other hb2); clear hb2 cU hv)
              | (go_at_call 42; (with_reducible refine (c2 _ HT2).mono ?_); rintro e w3 ⟨rfl, hq3⟩; have HT3 := Lib.hid hq3; clear hq3 c2))
            go_roundw
            case rel => exact ⟨k + 3, _, by omega, by go_num, hT3, HG2, HT3⟩
            case measure => simp [intOf]; omega
        · have h2' : ¬ (k : Int) + 2 < (n : Int) := by omega
          have hsh : hex2 (s.data.toList.drop (k + 1)) = none := hex2_short (by rw [List.length_drop, ← HL.out, hn]; omega)
          have HG2 := Lib.hid (HPL.out (pct_no hd hsh))
          clear hsh hd hy HG HPL h37
          go_wp2_with (go_at_call 80; (with_reducible refine (c1 _ HT).mono ?_); rintro e w3 ⟨rfl, hq3⟩; have HT3 := Lib.hid hq3; clear hq3 c1)
          go_roundw
          case rel => exact ⟨k + 1, _, by omega, by go_num, hT1, HG2, HT3⟩
          case measure => simp [intOf]; omega
      · rw [show decide (d = UInt8.ofNat 37) = false from decide_eq_false h37] at e37
        have HG2 := Lib.hid (HPL.out (pct_plain hd h37))
        clear hd hy HG HPL h37
        go_wp2_with (go_at_call 80; (with_reducible refine (c1 _ HT).mono ?_); rintro e w3 ⟨rfl, hq3⟩; have HT3 := Lib.hid hq3; clear hq3 c1)
        go_roundw
        case rel => exact ⟨k + 1, _, by omega, by go_num, hT1, HG2, HT3⟩
        case measure => simp [intOf]; omega
    · obtain rfl : k = n := by omega
      have hlt' : ¬ (k : Int) < (k : Int) := by omega
      have hg := HG.out
      rw [List.drop_eq_nil_of_le (by rw [← HL.out, hn]; exact Nat.le_refl _), pctS, List.append_nil] at hg
      subst hg
      have cO := fun W (h : Hid (Wr w.heap.size W0 W T)) => bk_out _ _ W h.out.bk
      clear HG HR
      go_wp2_with (go_at_call 44; (with_reducible refine (cO _ HT).mono ?_); rintro e w3 ⟨rfl, hb3⟩)
      go_ret
      exact ⟨rfl, (HB0.out.trans HT.out.below).trans hb3⟩
end Go.Proofs.YtdinachiiimngaaGreatDoor
namespace Go.Proofs.YtdinachiiimngaaGreatDoor
open Go.ChangeShapes Go.WideShapes Go.ChangeAt Go.RowKit
open TokP AdrP CtP

theorem pctS_len : ∀ (s : List UInt8) (k : Nat), (pctS k s).length ≤ s.length
  | [], k => by cases k <;> exact Nat.le_refl _
  | c :: r, k + 1 => by
    have := pctS_len r k
    rw [pctS, List.length_cons]; omega
  | c :: r, 0 => by
    have h0 := pctS_len r 0
    have h2 := pctS_len r 2
    rw [pctS, List.length_cons]
    split
    · split
      · rw [List.length_cons]; omega
      · rw [List.length_cons]; omega
    · rw [List.length_cons]; omega
theorem pctL_len (s : List UInt8) : (pctL s).length ≤ s.length := pctS_len s 0
/-- How many bytes the parts hold. -/
def szQ (l : List (List UInt8 × Bool)) : Nat := (l.map (fun p => p.1.length)).sum
theorem szQ_cons (p : List UInt8 × Bool) (l : List (List UInt8 × Bool)) : szQ (p :: l) = p.1.length + szQ l := by unfold szQ; rw [List.map_cons, List.sum_cons]
theorem szQ_app (a b : List (List UInt8 × Bool)) : szQ (a ++ b) = szQ a + szQ b := by unfold szQ; rw [List.map_append, List.sum_append]
theorem szQ_at {l : List (List UInt8 × Bool)} {k : Nat} {p : List UInt8 × Bool} (h : l[k]? = some p) : szQ (l.take k) + p.1.length ≤ szQ l := by
  obtain ⟨h1, h2⟩ := List.getElem?_eq_some_iff.1 h
  have e : l = l.take k ++ p :: l.drop (k + 1) := by rw [← h2, ← List.drop_eq_getElem_cons h1, List.take_append_drop]
  conv => rhs; rw [e]
  rw [szQ_app, szQ_cons]
  omega
def partB (p : List UInt8 × Bool) : List UInt8 := if p.2 = true then pctL p.1 else p.1
theorem partB_len (p : List UInt8 × Bool) : (partB p).length ≤ p.1.length := by
  unfold partB
  split
  · exact pctL_len _
  · exact Nat.le_refl _
theorem bytesL_len (l : List (List UInt8 × Bool)) : (bytesL l).length ≤ szQ l := by
  induction l with
  | nil => exact Nat.le_refl _
  | cons p l ih =>
    have := partB_len p
    rw [bytesL_cons, szQ_cons, List.length_append]
    unfold partB at this
    omega
theorem bytesL_step {l : List (List UInt8 × Bool)} {k : Nat} {p : List UInt8 × Bool} (h : l[k]? = some p) : bytesL (l.take (k + 1)) = bytesL (l.take k) ++ partB p := by
  unfold bytesL
  rw [List.take_add_one, h, Option.toList_some, List.flatMap_append, List.flatMap_singleton]
  rfl
/-- A part in the box g. -/
def Ptx (w : World) (g : Nat) (V : ByteArray) (E : Bool) : Prop := w.heap[g]? = some (.cells #[.string V, .bool E] 98 (0, 0))
theorem Ptx.lt {w : World} {g : Nat} {V : ByteArray} {E : Bool} (h : Ptx w g V E) : g < w.heap.size := (Array.getElem?_eq_some_iff.1 h).1
theorem Ptx.step {w w' : World} {g : Nat} {V : ByteArray} {E : Bool} (h : Ptx w g V E) (hb : Below w.heap.size w w') : Ptx w' g V E := (hb.block _ h.lt).trans h
theorem ptx_new (w : World) (V : ByteArray) (E : Bool) : Ptx (w.alloc (.cells #[.string V, .bool E] 98)) w.heap.size V E := World.alloc_heap_new w _
theorem Ptx.c0 {w : World} {g : Nat} {V : ByteArray} {E : Bool} (h : Ptx w g V E) : w.cell? ⟨g, 0, none⟩ = some (.string V) := by rw [Lib.cell_of_heap h]; rfl
theorem Ptx.c1 {w : World} {g : Nat} {V : ByteArray} {E : Bool} (h : Ptx w g V E) : w.cell? ⟨g, 1, none⟩ = some (.bool E) := by rw [Lib.cell_of_heap h]; rfl
theorem Ptx.fr {w : World} {g : Nat} {V : ByteArray} {E : Bool} (h : Ptx w g V E) (i : Nat) : w.frozen? ⟨g, i, none⟩ = false := Lib.frozen_of_heap h i
theorem Ptx.set {w : World} {g : Nat} {V V' : ByteArray} {E : Bool} (h : Ptx w g V E) : Ptx (w.setCell ⟨g, 0, none⟩ (.string V')) g V' E := by
  have h' : w.heap[g]? = some (.cells #[.string V, .bool E] 98 (0, 0)) := h
  show (w.setCell ⟨g, 0, none⟩ (.string V')).heap[g]? = _
  simp [World.setCell, Array.getElem?_modify, h']
theorem ownF_keep {w w' : World} {base : Nat} {e : TypeId} {size : Nat} {v : Value} {n : Nat} {xs : List Value} (h : w.ownsRowF base e size v n xs) (hk : ∀ (g : Nat) (cs : Array Value) (fz : Nat × Nat), w.heap[g]? = some (.cells cs e fz) → w'.heap[g]? = w.heap[g]?) : w'.ownsRowF base e size v n xs := by
  refine ⟨h.1, ?_⟩
  rcases h.2 with h1 | ⟨g, cap, cur, fz, rfl, hbg, hg, rest⟩
  · exact .inl h1
  · refine .inr ⟨g, cap, cur, fz, rfl, hbg, ?_, rest⟩
    rw [hk g _ _ hg]
    exact hg
theorem builtF_keep {T e : TypeId} {B b : Nat} {p : Value} {bs : List Value} {w w' : World} (h : Lib.BuilderAtF T e B b p bs w) (hk : ∀ (g : Nat) (cs : Array Value) (fz : Nat × Nat), w.heap[g]? = some (.cells cs e fz) → w'.heap[g]? = w.heap[g]?) (hb : w'.heap[b]? = w.heap[b]?) : Lib.BuilderAtF T e B b p bs w' := by
  obtain ⟨hB, v, hv, hown, hne⟩ := h
  exact ⟨hB, v, by rw [hb]; exact hv, ownF_keep hown hk, hne⟩
theorem Bk.set {w : World} {b g o : Nat} {l : List UInt8} (h : Bk w b l) {V : ByteArray} {E : Bool} (hx : Ptx w g V E) (hne : g ≠ b) (v : Value) : Bk (w.setCell ⟨g, o, none⟩ v) b l := by
  have hk : ∀ (j : Nat), j ≠ g → (w.setCell ⟨g, o, none⟩ v).heap[j]? = w.heap[j]? := fun j hj => Below.heap_setCell w _ v j hj
  have hr : ∀ (j : Nat) (cs : Array Value) (fz : Nat × Nat), w.heap[j]? = some (.cells cs 5 fz) → (w.setCell ⟨g, o, none⟩ v).heap[j]? = w.heap[j]? := fun j cs fz hj => hk j (by
    rintro rfl
    have hx' : w.heap[j]? = some (.cells #[.string V, .bool E] 98 (0, 0)) := hx
    rw [hx'] at hj
    have := Option.some.inj hj
    injection this with _ e2 _
    exact absurd e2 (by decide))
  exact h.elim (fun x => .inl (builtF_keep x hr (hk b (fun e => hne e.symm)))) (fun x => .inr (builtF_keep x hr (hk b (fun e => hne e.symm))))
set_option maxRecDepth 100000 in
set_option maxHeartbeats 4000000 in
theorem dec_bytes (v : Value) (l : List (List UInt8 × Bool)) (hl : l.length ≤ 4000000) (hz : szQ l ≤ 4000000) (w : World) (h : Hid (HasQ w v l)) :
    Calls Tryz.prog 106 #[v] w fun e w' => e = .returned (.string (strL (bytesL l))) ∧ Below w.heap.size w w' := by
  obtain ⟨a, c, rfl⟩ := h.out.form
  obtain ⟨n, hn⟩ : ∃ n, l.length = n := ⟨_, rfl⟩
  rw [hn] at h hl ⊢
  have HN := Lib.hid hn
  have HZ := Lib.hid hz
  have H0 := Lib.hid (show Bk (w.alloc (.cells #[.pointer none, .slice none 0 0] 61)) w.heap.size (bytesL (l.take 0)) ∧ Below w.heap.size w (w.alloc (.cells #[.pointer none, .slice none 0 0] 61)) from ⟨bk_new w, (Below.refl _ w).alloc (Nat.le_refl _) _⟩)
  clear hn hz
  go_enter Tryz.func106, Tryz.ntmps106
  go_wp2_with fail
  go_loopw [8] (fun i wr => ∃ k : Nat, k ≤ n ∧ i = .int .i64 k ∧ Hid (Bk wr w.heap.size (bytesL (l.take k)) ∧ Below w.heap.size w wr)) (fun i _ => n - (intOf i).toNat)
  case atStart => exact ⟨0, Nat.zero_le _, rfl, H0⟩
  case round =>
    obtain ⟨k, hk, rfl, HST⟩ := hrel
    have F1 : IntKind.i64.wrap ((k : Int) + 1) = (k : Int) + 1 := by rw [IntKind.wrap_i64]; omega
    clear H0
    by_cases hlt : k < n
    · have hlt' : (k : Int) < (n : Int) := by omega
      obtain ⟨g, o, rfl, hfa⟩ := h.out.at (by omega)
      obtain ⟨p, hp⟩ : ∃ p, l[k]? = some p := ⟨_, List.getElem?_eq_getElem (by rw [HN.out]; exact hlt)⟩
      obtain ⟨p0, p1⟩ := hfa.step HST.out.2 k p hp
      have hz := szQ_at hp
      have hzz := HZ.out
      have hTl := bytesL_len (l.take k)
      have hpb := partB_len p
      have HSTEP := Lib.hid (bytesL_step hp)
      generalize bytesL (l.take k) = T at HST hTl HSTEP
      have hne : wr.heap.size ≠ w.heap.size := by have := bk_lt HST.out.1; omega
      have hge : w.heap.size ≤ wr.heap.size := HST.out.2.size
      have hbx := ptx_new wr (strL p.1) p.2
      have hst1 : Bk (wr.alloc (.cells #[.string (strL p.1), .bool p.2] 98)) w.heap.size T ∧ Below w.heap.size w (wr.alloc (.cells #[.string (strL p.1), .bool p.2] 98)) := ⟨HST.out.1.alloc _, HST.out.2.alloc HST.out.2.size _⟩
      obtain ⟨W1, hW1⟩ : ∃ W1, wr.alloc (.cells #[.string (strL p.1), .bool p.2] 98) = W1 := ⟨_, rfl⟩
      rw [hW1] at hbx hst1
      have HW1 := Lib.hid hW1
      have HB := Lib.hid hbx
      have HS1 := Lib.hid hst1
      clear hW1
      cases he : p.2 with
      | true =>
        rw [he] at p1 HW1 HB
        have hpv : partB p = pctL p.1 := by unfold partB; rw [if_pos he]
        rw [hpv] at hpb HSTEP
        have cP := fun W => pct_any (strL p.1) (by rw [strL_size]; omega) W
        rw [strL_list] at cP
        have hyz : (strL (pctL p.1)).size ≤ 4000000 := by rw [strL_size]; omega
        have lY : (strL (pctL p.1)).data.toList = pctL p.1 := rfl
        rw [← lY] at HSTEP
        generalize strL (pctL p.1) = Y at cP hyz HSTEP
        have HNX := Lib.hid (fun (W : World) (hb : Below W1.heap.size W1 W) => show Ptx W wr.heap.size (strL p.1) true ∧ Bk (W.setCell ⟨wr.heap.size, 0, none⟩ (.string Y)) w.heap.size T ∧ Below w.heap.size w (W.setCell ⟨wr.heap.size, 0, none⟩ (.string Y)) from
          ⟨HB.out.step hb, (HS1.out.1.below hb).set (HB.out.step hb) hne _, below_at (HS1.out.2.trans (hb.mono HS1.out.2.size)) _ hge _⟩)
        have cW := fun W (h : Hid (Bk W w.heap.size T ∧ Below w.heap.size w W)) => bk_str Y _ _ W h.out.1 (by omega)
        have k1 := HB.out.c1
        generalize strL p.1 = x0 at p0 cP HW1 HB HNX
        clear hfa hp hz hzz hTl hpb hbx hst1 he hpv lY hyz
        go_wp2_with fail
        rw [HW1.out]
        have k0 := HB.out.c0
        go_wp2_with (first
          | (go_at_call 108; (with_reducible refine (cP _).mono ?_); rintro e w2 ⟨rfl, hb2⟩; obtain ⟨hx2, hy2, hz2⟩ := HNX.out w2 hb2; have j0 := hx2.c0; have jf := hx2.fr; have i0 := hx2.set.c0 (V := Y); have HY := Lib.hid (And.intro hy2 hz2); clear hb2 cP hx2 hy2 hz2)
          | (go_at_call 42; (with_reducible refine (cW _ HY).mono ?_); rintro e w3 ⟨rfl, hbk3, hb3, _⟩; have HY3 := Lib.hid (And.intro hbk3 (HY.out.2.trans hb3)); clear hbk3 hb3 cW))
        go_roundw
        case rel => exact ⟨k + 1, by omega, by go_num, by rw [HSTEP.out]; exact HY3⟩
        case measure => simp [intOf]; omega
      | false =>
        rw [he] at p1 HW1 HB
        have hpv : partB p = p.1 := by unfold partB; rw [if_neg (by rw [he]; exact Bool.false_ne_true)]
        rw [hpv] at HSTEP
        have lY : (strL p.1).data.toList = p.1 := rfl
        rw [← lY] at HSTEP
        have cW := fun W (h : Hid (Bk W w.heap.size T ∧ Below w.heap.size w W)) => bk_str (strL p.1) _ _ W h.out.1 (by rw [strL_size]; omega)
        have k1 := HB.out.c1
        generalize strL p.1 = x0 at p0 cW HW1 HB HSTEP
        clear hfa hp hz hzz hTl hpb hbx hst1 he hpv lY
        go_wp2_with fail
        rw [HW1.out]
        have k0 := HB.out.c0
        go_wp2_with (go_at_call 42; (with_reducible refine (cW _ HS1).mono ?_); rintro e w3 ⟨rfl, hbk3, hb3, _⟩; have HY3 := Lib.hid (And.intro hbk3 (HS1.out.2.trans hb3)); clear hbk3 hb3 cW)
        go_roundw
        case rel => exact ⟨k + 1, by omega, by go_num, by rw [HSTEP.out]; exact HY3⟩
        case measure => simp [intOf]; omega
    · obtain rfl : k = n := by omega
      have hlt' : ¬ (k : Int) < (k : Int) := by omega
      have hT : l.take k = l := List.take_of_length_le (by rw [HN.out]; exact Nat.le_refl _)
      rw [hT] at HST
      have cO := fun W (h : Hid (Bk W w.heap.size (bytesL l) ∧ Below w.heap.size w W)) => bk_out _ _ W h.out.1
      obtain ⟨X, hX⟩ : ∃ X, bytesL l = X := ⟨_, rfl⟩
      rw [hX] at HST cO
      have HX := Lib.hid hX
      clear hT hX
      go_wp2_with (go_at_call 44; (with_reducible refine (cO _ HST).mono ?_); rintro e w3 ⟨rfl, hb3⟩)
      go_ret
      rw [HX.out]
      exact ⟨rfl, HST.out.2.trans hb3⟩
/-- The variables that the program reads. -/
structure Vr (w : World) : Prop where
  num : Nu.Vars w
  set : Cs.Vars w
theorem Vr.below {w w' : World} (h : Vr w) (hb : Below w.heap.size w w') : Vr w' := ⟨h.num.below hb, h.set.below hb⟩
def repF (s : List UInt8) : List UInt8 := repairL s
def decF (n s : List UInt8) : List UInt8 := Cs.decL (Cs.kindL n) s
theorem split_len (s : List UInt8) : (splitQ s).1.length ≤ s.length ∧ (splitQ s).2.length ≤ s.length := by
  unfold splitQ
  split
  · have h1 : (upC 39 s).length ≤ s.length := (List.takeWhile_prefix _).length_le
    have h2 : (behind 39 s).length ≤ s.length := by unfold behind; rw [List.length_drop]; omega
    have h3 : (behind 39 (behind 39 s)).length ≤ (behind 39 s).length := by unfold behind; rw [List.length_drop, List.length_drop]; omega
    exact ⟨h1, Nat.le_trans h3 h2⟩
  · exact ⟨Nat.zero_le _, Nat.le_refl _⟩
set_option maxRecDepth 100000 in
set_option maxHeartbeats 2000000 in
theorem prefix_any (s : ByteArray) (hs : s.size ≤ 4000000) (w : World) :
    Calls Tryz.prog 107 #[.string s] w fun e w' => e = .returned (.tuple #[.string (strL (splitQ s.data.toList).1), .string (strL (splitQ s.data.toList).2)]) ∧ Below w.heap.size w w' := by
  have c1 := fun W => cut_all 39 s hs W
  have hz : (strL (behind 39 s.data.toList)).size ≤ 4000000 := by
    rw [strL_size]
    unfold behind
    rw [List.length_drop, ← size_list]
    omega
  have c2 := fun W => cut_all 39 (strL (behind 39 s.data.toList)) hz W
  rw [strL_list] at c2
  by_cases hf : 39 ∈ behind 39 s.data.toList
  · have hin : 39 ∈ s.data.toList := by
      unfold behind at hf
      exact List.mem_of_mem_drop hf
    have hq : splitQ s.data.toList = (upC 39 s.data.toList, behind 39 (behind 39 s.data.toList)) := by unfold splitQ; rw [if_pos ⟨hin, hf⟩]
    rw [List.contains_iff_mem.2 hf] at c2
    rw [hq]
    generalize strL (behind 39 (behind 39 s.data.toList)) = B2 at c2 ⊢
    generalize strL (behind 39 s.data.toList) = B1 at c1 c2 hz
    generalize strL (upC 39 s.data.toList) = A1 at c1 ⊢
    generalize strL (upC 39 (behind 39 s.data.toList)) = A2 at c2
    generalize s.data.toList.contains 39 = b1 at c1
    clear hf hin hq hz hs
    go_enter Tryz.func107, Tryz.ntmps107
    go_wp2_with (first
      | (go_at_call 30; (with_reducible refine (c1 _).mono ?_); rintro e w2 ⟨rfl, hb2⟩; have HB2 := Lib.hid hb2; clear hb2 c1)
      | (go_at_call 30; (with_reducible refine (c2 _).mono ?_); rintro e w3 ⟨rfl, hb3⟩; have HB3 := Lib.hid (HB2.out.trans (hb3.mono HB2.out.size)); clear hb3 c2))
    go_ret2
    exact ⟨rfl, HB3.out⟩
  · have hq : splitQ s.data.toList = ([], s.data.toList) := by unfold splitQ; rw [if_neg (fun h => hf h.2)]
    have hnc : (behind 39 s.data.toList).contains 39 = false := by rw [← Bool.not_eq_true, List.contains_iff_mem]; exact hf
    rw [hnc] at c2
    rw [hq]
    show Calls _ _ _ _ fun e w' => e = .returned (.tuple #[.string ⟨#[]⟩, .string (strL s.data.toList)]) ∧ _
    rw [strL_of]
    generalize strL (behind 39 (behind 39 s.data.toList)) = B2 at c2
    generalize strL (behind 39 s.data.toList) = B1 at c1 c2 hz
    generalize strL (upC 39 s.data.toList) = A1 at c1
    generalize strL (upC 39 (behind 39 s.data.toList)) = A2 at c2
    generalize s.data.toList.contains 39 = b1 at c1
    clear hf hnc hq hz hs
    go_enter Tryz.func107, Tryz.ntmps107
    go_wp2_with (first
      | (go_at_call 30; (with_reducible refine (c1 _).mono ?_); rintro e w2 ⟨rfl, hb2⟩; have HB2 := Lib.hid hb2; clear hb2 c1)
      | (go_at_call 30; (with_reducible refine (c2 _).mono ?_); rintro e w3 ⟨rfl, hb3⟩; have HB3 := Lib.hid (HB2.out.trans (hb3.mono HB2.out.size)); clear hb3 c2))
    go_ret2
    exact ⟨rfl, HB3.out⟩
set_option maxRecDepth 100000 in
set_option maxHeartbeats 8000000 in
theorem joined_any {a : Option Addr} {n c : Nat} {l : List (List UInt8 × Bool)} (hn : 0 < n) (hn2 : n ≤ 4000000) (hz : szQ l ≤ 4000000) (w : World) (h : HasR w (.slice a n c) l) (hv : Vr w) :
    Calls Tryz.prog 71 #[.slice a n c] w fun e w' => e = .returned (.string (strL (joinedL repF decF l))) ∧ Below w.heap.size w w' := by
  obtain ⟨hl, hc, hf⟩ := h.cap
  obtain ⟨p, r, rfl⟩ : ∃ p r, l = p :: r := by
    cases l with
    | nil => simp at hl; omega
    | cons p r => exact ⟨p, r, rfl⟩
  obtain ⟨A1, C1, R1, hR1⟩ := run_restQ h hn
  obtain ⟨g, o, rfl, hfa⟩ := hf.at hn
  obtain ⟨p0, p1⟩ := hfa 0 p rfl
  rw [Nat.zero_mul, Nat.add_zero] at p0 p1
  have hnI : (0 : Int) < (n : Int) := by omega
  have hnJ : (1 : Int) ≤ (n : Int) := by omega
  rw [szQ_cons] at hz
  have hbx := ptx_new w (strL p.1) p.2
  have HB0 := Lib.hid ((Below.refl w.heap.size w).alloc (Nat.le_refl _) (.cells #[.string (strL p.1), .bool p.2] 98))
  obtain ⟨W1, hW1⟩ : ∃ W1, w.alloc (.cells #[.string (strL p.1), .bool p.2] 98) = W1 := ⟨_, rfl⟩
  rw [hW1] at hbx HB0
  have HW1 := Lib.hid hW1
  have HX := Lib.hid hbx
  have HV := Lib.hid hv
  have HH := Lib.hid h
  clear hW1
  rw [List.drop_one, List.tail_cons] at hR1
  have HR1 := Lib.hid hR1
  cases he : p.2 with
  | false =>
    have hj : joinedL repF decF (p :: r) = bytesL (p :: r) := by rw [joinedL_cons, if_neg (by rw [he]; exact Bool.false_ne_true)]
    rw [hj]
    have cD := fun W (hb : Hid (Below w.heap.size w W)) => dec_bytes (.slice (some ⟨g, o, none⟩) n c) (p :: r) (by rw [← hl]; exact hn2) (by rw [szQ_cons]; exact hz) W (Lib.hid (HH.out.step hb.out).has)
    rw [he] at p1 HW1 HX
    have k1 := HX.out.c1
    generalize strL (bytesL (p :: r)) = ANS at cD ⊢
    generalize strL p.1 = x0 at p0 HW1 HX
    clear h hl hf hfa hz hbx hR1 he hj hv R1
    go_enter Tryz.func71, Tryz.ntmps71
    go_wp2_with fail
    rw [HW1.out]
    go_wp2_with (go_at_call 106; (with_reducible refine (cD _ HB0).mono ?_); rintro e w2 ⟨rfl, hb2⟩)
    go_ret
    exact ⟨rfl, HB0.out.trans (hb2.mono HB0.out.size)⟩
  | true =>
    have hj : joinedL repF decF (p :: r) = meantP repF decF (splitQ p.1).1 (pctL (splitQ p.1).2 ++ bytesL r) := by rw [joinedL_cons, if_pos he]
    rw [hj]
    obtain ⟨s1, s2⟩ := split_len p.1
    have s3 := pctL_len (splitQ p.1).2
    have s4 := bytesL_len r
    have cX := fun W => prefix_any (strL p.1) (by rw [strL_size]; omega) W
    rw [strL_list] at cX
    have cP := fun W => pct_any (strL (splitQ p.1).2) (by rw [strL_size]; omega) W
    rw [strL_list] at cP
    have hlr : r.length ≤ 4000000 := by rw [List.length_cons] at hl; omega
    have cD := fun W (hb : Hid (Below w.heap.size w W)) => dec_bytes (.slice A1 (n - 1) C1) r hlr (by omega) W (Lib.hid (HR1.out.step hb.out).has)
    have hq1 := fun Q (hb : Hid (Below w.heap.size w Q)) => (cP Q).mono (fun e w' hh => (⟨hh.1, Lib.hid (hb.out.trans (hh.2.mono hb.out.size))⟩ : e = .returned (.string (strL (pctL (splitQ p.1).2))) ∧ Hid (Below w.heap.size w w')))
    have hq2 := fun Q (hb : Hid (Below w.heap.size w Q)) => (cD Q hb).mono (fun e w' hh => (⟨hh.1, Lib.hid (hb.out.trans (hh.2.mono hb.out.size))⟩ : e = .returned (.string (strL (bytesL r))) ∧ Hid (Below w.heap.size w w')))
    have hcat : strL (pctL (splitQ p.1).2) ++ strL (bytesL r) = strL (pctL (splitQ p.1).2 ++ bytesL r) := strL_append _ _
    have hcz : (strL (pctL (splitQ p.1).2)).size + (strL (bytesL r)).size ≤ 8000000 := by rw [strL_size, strL_size]; omega
    have hxz : (strL (pctL (splitQ p.1).2 ++ bytesL r)).size ≤ 4000000 := by rw [strL_size, List.length_append]; omega
    have cR := fun W => Cs.repair_any (strL (pctL (splitQ p.1).2 ++ bytesL r)) hxz W
    have cE := fun W (hv : Hid (Cs.Vars W)) => Cs.decode_any (strL (splitQ p.1).1) (strL (pctL (splitQ p.1).2 ++ bytesL r)) (by rw [strL_size]; omega) hxz W hv.out
    rw [strL_list] at cR cE
    rw [strL_list] at cE
    obtain ⟨t1, t2⟩ := str_cmp (splitQ p.1).1
    rw [he] at p1 HW1 HX
    have k0 := HX.out.c0
    have k1 := HX.out.c1
    have HK := Lib.hid (fun Q (h : Hid (Below w.heap.size w Q)) => (⟨h, cell_below p0 h.out⟩ : Hid (Below w.heap.size w Q) ∧ Q.cell? ⟨g, o, none⟩ = some (.string (strL p.1))))
    have HVS := Lib.hid (fun Q (h : Hid (Below w.heap.size w Q)) => Lib.hid (HV.out.set.below h.out))
    rw [hcat.symm] at cR cE
    generalize hY1 : strL (pctL (splitQ p.1).2) = Y1 at hq1 hcz hcat cR cE
    generalize hY2 : strL (bytesL r) = Y2 at hq2 hcz hcat cR cE
    clear cP cD
    have hcy : ¬ (9223372036854775807 : Int) < (Y1.size : Int) + (Y2.size : Int) := by omega
    have hcatz : (Y1 ++ Y2).size ≤ 4000000 := by rw [hcat]; exact hxz
    by_cases hs0 : (splitQ p.1).1 = []
    · have hme : meantP repF decF (splitQ p.1).1 (pctL (splitQ p.1).2 ++ bytesL r) = repairL (pctL (splitQ p.1).2 ++ bytesL r) := by unfold meantP repF; rw [if_pos hs0]
      rw [hme]
      rw [show (splitQ p.1).1.isEmpty = true by rw [hs0]; rfl] at t1 t2
      have HA := Lib.hid (show (⟨(repairL (pctL (splitQ p.1).2 ++ bytesL r)).toArray⟩ : ByteArray) = strL (repairL (pctL (splitQ p.1).2 ++ bytesL r)) from rfl)
      generalize (⟨(repairL (pctL (splitQ p.1).2 ++ bytesL r)).toArray⟩ : ByteArray) = ANS at cR HA
      generalize strL (splitQ p.1).1 = S1 at cX t1 t2
      generalize strL (splitQ p.1).2 = S2 at cX hq1
      generalize strL p.1 = x0 at p0 HW1 HX HK cX k0
      rw [← HA.out]
      clear h hl hf hfa hz hbx hR1 he hj hv s1 s2 s3 s4 hlr hcat hxz hY1 hY2 hs0 hme cE HVS
      go_enter Tryz.func71, Tryz.ntmps71
      go_wp2_with fail
      rw [HW1.out]
      go_wp2_with (go_at_call 107; (with_reducible refine (cX _).mono ?_); rintro e w2 ⟨rfl, hb2⟩; have hb := Lib.hid (HB0.out.trans (hb2.mono HB0.out.size)); clear hb2 cX)
      refine wp_region_noPanic ?_
      refine wp_region_held_drew (S := (fun Q => Hid (Below w.heap.size w Q) ∧ Q.cell? ⟨g, o, none⟩ = some (.string x0))) (by kernel_rfl) (HK.out _ (Lib.hid hb.out.drew)) (fun hH0 => ?_)
      refine held_take (i := 0) (.string S2) rfl (by kernel_rfl) (by kernel_rfl) (by kernel_rfl) (by rfl) (fun w hSw => by obtain ⟨_, k9⟩ := hSw; go_simp) (by exact hH0) ?_
      simp only [Act.put, List.setIfInBounds_toArray, List.set_cons_zero, List.set_cons_succ]
      refine held_take (i := 2) (.slice (some ⟨g, o, none⟩) n c) rfl (by kernel_rfl) (by kernel_rfl) (by kernel_rfl) (by rfl) (fun w hSw => by obtain ⟨_, k9⟩ := hSw; go_simp) (by exact hH0) ?_
      simp only [Act.put, List.setIfInBounds_toArray, List.set_cons_zero, List.set_cons_succ]
      refine held_take (i := 3) (.slice A1 (n - 1) C1) rfl (by kernel_rfl) (by kernel_rfl) (by kernel_rfl) (by rfl) (fun w hSw => by obtain ⟨_, k9⟩ := hSw; go_simp) (by exact hH0) ?_
      simp only [Act.put, List.setIfInBounds_toArray, List.set_cons_zero, List.set_cons_succ]
      refine held_step (i := 1) (.string Y1) rfl (by kernel_rfl) (by rfl) (fun K hK => ?_) (fun wH1 hH1 => ?_)
      · go_simp
        refine (hq1 _ hH0.1).mono ?_
        rintro e w2 ⟨rfl, hS2⟩
        exact hK _ (HK.out _ hS2)
      simp only [Act.put, List.setIfInBounds_toArray, List.set_cons_zero, List.set_cons_succ]
      refine held_step (i := 4) (.string Y2) rfl (by kernel_rfl) (by rfl) (fun K hK => ?_) (fun wH2 hH2 => ?_)
      · go_simp
        refine (hq2 _ hH1.1).mono ?_
        rintro e w2 ⟨rfl, hS2⟩
        exact hK _ (HK.out _ hS2)
      simp only [Act.put, List.setIfInBounds_toArray, List.set_cons_zero, List.set_cons_succ]
      refine held_take (i := 5) (.string (Y1 ++ Y2)) rfl (by kernel_rfl) (by kernel_rfl) (by kernel_rfl) (by rfl) (fun w hSw => by obtain ⟨_, k9⟩ := hSw; go_simp; omega) (by exact hH2) ?_
      simp only [Act.put, List.setIfInBounds_toArray, List.set_cons_zero, List.set_cons_succ]
      refine held_take (i := 6) (.string (Y1 ++ Y2)) rfl (by kernel_rfl) (by kernel_rfl) (by kernel_rfl) (by rfl) (fun w hSw => by obtain ⟨_, k9⟩ := hSw; go_simp) (by exact hH2) ?_
      simp only [Act.put, List.setIfInBounds_toArray, List.set_cons_zero, List.set_cons_succ]
      refine wpAnyH_done (by kernel_rfl) ?_ _
      refine NoPanic.normal ?_
      have hs4 := hH2.1
      go_wp2_with (go_at_call 25; (with_reducible refine (cR _).mono ?_); rintro e w5 ⟨rfl, hb5⟩)
      go_ret
      exact ⟨rfl, hs4.out.trans (hb5.mono hs4.out.size)⟩
    · have hme : meantP repF decF (splitQ p.1).1 (pctL (splitQ p.1).2 ++ bytesL r) = Cs.decL (Cs.kindL (splitQ p.1).1) (pctL (splitQ p.1).2 ++ bytesL r) := by unfold meantP decF; rw [if_neg hs0]
      rw [hme]
      rw [show (splitQ p.1).1.isEmpty = false by cases hb : (splitQ p.1).1 with
        | nil => exact absurd hb hs0
        | cons _ _ => rfl] at t1 t2
      have HA := Lib.hid (show (⟨(Cs.decL (Cs.kindL (splitQ p.1).1) (pctL (splitQ p.1).2 ++ bytesL r)).toArray⟩ : ByteArray) = strL (Cs.decL (Cs.kindL (splitQ p.1).1) (pctL (splitQ p.1).2 ++ bytesL r)) from rfl)
      generalize (⟨(Cs.decL (Cs.kindL (splitQ p.1).1) (pctL (splitQ p.1).2 ++ bytesL r)).toArray⟩ : ByteArray) = ANS at cE HA
      generalize decide (Cs.kindL (splitQ p.1).1 ≠ 0) = kb at cE
      generalize strL (splitQ p.1).1 = S1 at cX t1 t2 cE
      generalize strL (splitQ p.1).2 = S2 at cX hq1
      generalize strL p.1 = x0 at p0 HW1 HX HK cX k0
      rw [← HA.out]
      clear h hl hf hfa hz hbx hR1 he hj hv s1 s2 s3 s4 hlr hcat hxz hY1 hY2 hs0 hme cR
      go_enter Tryz.func71, Tryz.ntmps71
      go_wp2_with fail
      rw [HW1.out]
      go_wp2_with (go_at_call 107; (with_reducible refine (cX _).mono ?_); rintro e w2 ⟨rfl, hb2⟩; have hb := Lib.hid (HB0.out.trans (hb2.mono HB0.out.size)); clear hb2 cX)
      refine wp_region_noPanic ?_
      refine wp_region_held_drew (S := (fun Q => Hid (Below w.heap.size w Q) ∧ Q.cell? ⟨g, o, none⟩ = some (.string x0))) (by kernel_rfl) (HK.out _ (Lib.hid hb.out.drew)) (fun hH0 => ?_)
      refine held_take (i := 0) (.string S2) rfl (by kernel_rfl) (by kernel_rfl) (by kernel_rfl) (by rfl) (fun w hSw => by obtain ⟨_, k9⟩ := hSw; go_simp) (by exact hH0) ?_
      simp only [Act.put, List.setIfInBounds_toArray, List.set_cons_zero, List.set_cons_succ]
      refine held_take (i := 2) (.slice (some ⟨g, o, none⟩) n c) rfl (by kernel_rfl) (by kernel_rfl) (by kernel_rfl) (by rfl) (fun w hSw => by obtain ⟨_, k9⟩ := hSw; go_simp) (by exact hH0) ?_
      simp only [Act.put, List.setIfInBounds_toArray, List.set_cons_zero, List.set_cons_succ]
      refine held_take (i := 3) (.slice A1 (n - 1) C1) rfl (by kernel_rfl) (by kernel_rfl) (by kernel_rfl) (by rfl) (fun w hSw => by obtain ⟨_, k9⟩ := hSw; go_simp) (by exact hH0) ?_
      simp only [Act.put, List.setIfInBounds_toArray, List.set_cons_zero, List.set_cons_succ]
      refine held_step (i := 1) (.string Y1) rfl (by kernel_rfl) (by rfl) (fun K hK => ?_) (fun wH1 hH1 => ?_)
      · go_simp
        refine (hq1 _ hH0.1).mono ?_
        rintro e w2 ⟨rfl, hS2⟩
        exact hK _ (HK.out _ hS2)
      simp only [Act.put, List.setIfInBounds_toArray, List.set_cons_zero, List.set_cons_succ]
      refine held_step (i := 4) (.string Y2) rfl (by kernel_rfl) (by rfl) (fun K hK => ?_) (fun wH2 hH2 => ?_)
      · go_simp
        refine (hq2 _ hH1.1).mono ?_
        rintro e w2 ⟨rfl, hS2⟩
        exact hK _ (HK.out _ hS2)
      simp only [Act.put, List.setIfInBounds_toArray, List.set_cons_zero, List.set_cons_succ]
      refine held_take (i := 5) (.string (Y1 ++ Y2)) rfl (by kernel_rfl) (by kernel_rfl) (by kernel_rfl) (by rfl) (fun w hSw => by obtain ⟨_, k9⟩ := hSw; go_simp; omega) (by exact hH2) ?_
      simp only [Act.put, List.setIfInBounds_toArray, List.set_cons_zero, List.set_cons_succ]
      refine held_take (i := 6) (.string (Y1 ++ Y2)) rfl (by kernel_rfl) (by kernel_rfl) (by kernel_rfl) (by rfl) (fun w hSw => by obtain ⟨_, k9⟩ := hSw; go_simp) (by exact hH2) ?_
      simp only [Act.put, List.setIfInBounds_toArray, List.set_cons_zero, List.set_cons_succ]
      refine wpAnyH_done (by kernel_rfl) ?_ _
      refine NoPanic.normal ?_
      have hs4 := hH2.1
      go_wp2_with (go_at_call 109; (with_reducible refine (cE _ (HVS.out _ (by first | exact hs4 | exact Lib.hid hs4.out.drew))).mono ?_); rintro e w5 ⟨rfl, hb5⟩)
      go_ret
      exact ⟨rfl, hs4.out.trans (hb5.mono hs4.out.size)⟩
end Go.Proofs.YtdinachiiimngaaGreatDoor
