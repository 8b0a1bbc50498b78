/- The program's writing of a value: isPrintable, writeQuoted, writeEncoded, writeValue. The reference's Open and Meant, from what its Unhex, Repair and Decode answer. The digit functions: the closure of num.Unhex and the reference's Digit; num.Pad and the reference's Pad. Hexadecimal decoding, num's and the reference's. UTF-8 on lists of bytes: decoding from left to right, and what holds of it; of no program. The model's UTF-8 decoder and the list decoder agree; what the library says of validity, of mapping and of encoding in those words; of no program. -/
import Derived.Test.YtdinachiiimngaaGreatDoorK6
import Derived.Test.YtdinachiiimngaaGreatDoorK1
import Derived.Test.YtdinachiiimngaaGreatDoorK3
import Derived.Test.YtdinachiiimngaaGreatDoorK2
import Derived.OneCell
import GoSem.Claim
import Derived.KernelRfl
import Derived.Lib.MapLaws
import Derived.Lib.ValidLaws
import Derived.Lib.RuneCount
namespace Go.Proofs.YtdinachiiimngaaGreatDoor
open Go.ChangeShapes Go.WideShapes Go.ChangeAt Go.RowKit
open TokP AdrP CtP

def esc1 (c : UInt8) : List UInt8 := if c = 34 ∨ c = 92 then [92, c] else [c]
theorem escQ_snoc : ∀ (X : List UInt8) (c : UInt8), escQ (X ++ [c]) = escQ X ++ esc1 c
  | [], c => by
    show (if c = 34 ∨ c = 92 then 92 :: c :: escQ [] else c :: escQ []) = [] ++ esc1 c
    unfold esc1
    split <;> rfl
  | d :: X, c => by
    rw [List.cons_append, escQ, escQ, escQ_snoc X c]
    split <;> rfl
theorem escQ_step {l : List UInt8} {k : Nat} {c : UInt8} (h : l[k]? = some c) : escQ (l.take (k + 1)) = escQ (l.take k) ++ esc1 c := by
  rw [List.take_add_one, h]
  exact escQ_snoc _ _
theorem escQ_len : ∀ l : List UInt8, (escQ l).length ≤ 2 * l.length
  | [] => Nat.le_refl _
  | c :: t => by
    have := escQ_len t
    rw [escQ]
    split
    · rw [List.length_cons, List.length_cons, List.length_cons]; omega
    · rw [List.length_cons, List.length_cons]; omega
theorem escQ_take (l : List UInt8) (k : Nat) : (escQ (l.take k)).length ≤ 2 * k := by
  have h1 := escQ_len (l.take k)
  have h2 := List.length_take_le k l
  omega
theorem pctE_step {l : List UInt8} {k : Nat} {c : UInt8} (h : l[k]? = some c) : pctE (l.take (k + 1)) = pctE (l.take k) ++ pctB c := by
  unfold pctE
  rw [List.take_add_one, h, List.flatMap_append]
  simp
theorem pctB_len (c : UInt8) : (pctB c).length ≤ 3 := by unfold pctB; split <;> simp
theorem pctE_len : ∀ l : List UInt8, (pctE l).length ≤ 3 * l.length
  | [] => Nat.le_refl _
  | c :: t => by
    have := pctE_len t
    have h3 := pctB_len c
    unfold pctE at this ⊢
    rw [List.flatMap_cons, List.length_append, List.length_cons]
    omega
theorem pctE_take (l : List UInt8) (k : Nat) : (pctE (l.take k)).length ≤ 3 * k := by
  have h1 := pctE_len (l.take k)
  have h2 := List.length_take_le k l
  omega
/-- The builder in block b holds L; what was there at w0 ahead of it is as it was, and so is what is no row of bytes. -/
structure Wr (b : Nat) (w0 w : World) (L : List UInt8) : Prop where
  bk : Bk w b L
  below : Below b w0 w
  kept : Lib.OthersKept 5 (some b) w0 w
theorem kept_below {w w' : World} (hb : Below w.heap.size w w') (e : TypeId) (o : Option Nat) : Lib.OthersKept e o w w' := fun g x hx _ _ => by
  rw [hb.block g (Array.getElem?_eq_some_iff.1 hx).1]; exact hx
theorem Wr.first {w : World} {b : Nat} {L : List UInt8} (h : Bk w b L) : Wr b w w L := ⟨h, Below.refl _ _, Lib.OthersKept.refl _ _ _⟩
theorem Wr.other {b : Nat} {w0 w w' : World} {L : List UInt8} (h : Wr b w0 w L) (hb : Below w.heap.size w w') : Wr b w0 w' L :=
  ⟨h.bk.below hb, h.below.trans (hb.mono (Nat.le_of_lt (bk_lt h.bk))), h.kept.trans (kept_below hb _ _)⟩
theorem wr_byte (c : UInt8) (x : Int) (hx : (c.toNat : Int) = x) {b : Nat} {w0 W : World} {L : List UInt8} (h : Wr b w0 W L) (hl : L.length + 1 ≤ 140737488355328) :
    Calls Tryz.prog 80 #[.pointer (some ⟨b, 0, none⟩), .int .u8 x] W fun e w' => e = .returned .nilIface ∧ Wr b w0 w' (L ++ [c]) :=
  (bk_byte c x hx b L W h.bk hl).mono fun _ _ ⟨h1, h2, h3, h4⟩ => ⟨h1, h2, h.below.trans h3, h.kept.trans h4⟩
theorem wr_str (s : ByteArray) {b : Nat} {w0 W : World} {L : List UInt8} (h : Wr b w0 W L) (hl : L.length + s.size ≤ 140737488355328) :
    Calls Tryz.prog 42 #[.pointer (some ⟨b, 0, none⟩), .string s] W fun e w' => e = .returned (.tuple #[.int .i64 s.size, .nilIface]) ∧ Wr b w0 w' (L ++ s.data.toList) :=
  (bk_str s b L W h.bk hl).mono fun _ _ ⟨h1, h2, h3, h4⟩ => ⟨h1, h2, h.below.trans h3, h.kept.trans h4⟩
set_option maxRecDepth 100000 in
set_option maxHeartbeats 2000000 in
theorem print_any (s : ByteArray) (hs : s.size ≤ 1000000000) (w : World) :
    Calls Tryz.prog 78 #[.string s] w fun e w' => e = .returned (.bool (quotedV s.data.toList)) ∧ w = w' := by
  obtain ⟨n, hn⟩ : ∃ n, s.size = n := ⟨_, rfl⟩
  have HN := Lib.hid hn
  have HL := Lib.hid (size_list s)
  rw [hn] at hs
  obtain ⟨r, hr⟩ : ∃ r, quotedV s.data.toList = r := ⟨_, rfl⟩
  rw [hr]
  have HR := Lib.hid hr
  clear hr
  go_enter Tryz.func78, Tryz.ntmps78
  go_wp2_with fail
  go_loopw [6] (fun i wr => ∃ k : Nat, k ≤ n ∧ i = .int .i64 k ∧ wr = w ∧ Hid (quotedV (s.data.toList.take k) = true)) (fun i _ => n - (intOf i).toNat)
  case atStart => exact ⟨0, Nat.zero_le _, rfl, rfl, rfl⟩
  case round =>
    obtain ⟨k, hk, rfl, rfl, HF⟩ := hrel
    have F1 : IntKind.i64.wrap ((k : Int) + 1) = (k : Int) + 1 := by rw [IntKind.wrap_i64]; omega
    by_cases hlt : k < n
    · have hlt' : (k : Int) < (n : Int) := by omega
      obtain ⟨d, y, hd, hy, hy2, S1⟩ := run_byte s k (by rw [hn]; exact hlt)
      have HNO := Lib.hid (fun (h : y < 32 ∨ 126 < y) => show false = r by
        rw [← HR.out]
        unfold quotedV
        symm
        rw [List.all_eq_false]
        refine ⟨d, List.mem_of_getElem? hd, ?_⟩
        rw [hy, Bool.and_eq_true, decide_eq_true_eq, decide_eq_true_eq]
        omega)
      by_cases h1 : y < 32
      · have g1 : (y : Int) < 32 := by omega
        obtain rfl := HNO.out (.inl h1)
        clear hd hy HF HR HNO
        go_wp2_with fail
        go_ret
        exact ⟨rfl, rfl⟩
      · have g1 : ¬ (y : Int) < 32 := by omega
        by_cases h2 : 126 < y
        · have g2 : (126 : Int) < (y : Int) := by omega
          obtain rfl := HNO.out (.inr h2)
          clear hd hy HF HR HNO
          go_wp2_with fail
          go_ret
          exact ⟨rfl, rfl⟩
        · have g2 : ¬ (126 : Int) < (y : Int) := by omega
          have HF2 := Lib.hid (show quotedV (s.data.toList.take (k + 1)) = true by
            have hf := HF.out
            unfold quotedV at hf ⊢
            rw [List.take_add_one, hd, List.all_append, hf]
            simp [hy]; omega)
          clear hd hy HF HR HNO
          go_wp2_with fail
          go_roundw
          case rel => exact ⟨k + 1, by omega, by go_num, trivial, HF2⟩
          case measure => simp [intOf]; omega
    · obtain rfl : k = n := by omega
      have hlt' : ¬ (k : Int) < (k : Int) := by omega
      have ha := HF.out
      rw [List.take_of_length_le (by rw [← HL.out, HN.out]; exact Nat.le_refl _)] at ha
      obtain rfl : true = r := by rw [← HR.out, ha]
      clear HF ha HR
      go_wp2_with fail
      go_ret
      exact ⟨rfl, rfl⟩
set_option maxRecDepth 100000 in
set_option maxHeartbeats 4000000 in
theorem quoted_any (s : ByteArray) (hs : s.size ≤ 4000000) (b : Nat) (L : List UInt8) (hL : L.length + 3 * s.size + 20 ≤ 140737488355328) (w : World) (hb : Bk w b L) :
    Calls Tryz.prog 81 #[.pointer (some ⟨b, 0, none⟩), .string s] w fun e w' => e = .returned (.tuple #[]) ∧ Wr b w w' (L ++ 34 :: (escQ s.data.toList ++ [34])) := by
  obtain ⟨n, hn⟩ : ∃ n, s.size = n := ⟨_, rfl⟩
  have HL := Lib.hid (size_list s)
  have HN := Lib.hid hn
  rw [hn] at hs hL
  have H0 := Lib.hid (Wr.first hb)
  have c1 := fun W (h : Hid (Wr b w W L)) => wr_byte 34 34 rfl h.out (by omega)
  clear hb
  go_enter Tryz.func81, Tryz.ntmps81
  go_wp2_with (go_at_call 80; (with_reducible refine (c1 _ H0).mono ?_); rintro e w1 ⟨rfl, hq1⟩; have H1 := Lib.hid hq1; clear hq1 c1)
  have HST : Hid (Wr b w w1 (L ++ 34 :: escQ (s.data.toList.take 0))) := H1
  clear H1 H0
  go_loopw [9] (fun i wr => ∃ k : Nat, k ≤ n ∧ i = .int .i64 k ∧ Hid (Wr b w wr (L ++ 34 :: escQ (s.data.toList.take k)))) (fun i _ => n - (intOf i).toNat)
  case atStart => exact ⟨0, Nat.zero_le _, rfl, HST⟩
  case round =>
    obtain ⟨k, hk, rfl, hst⟩ := hrel
    have F1 : IntKind.i64.wrap ((k : Int) + 1) = (k : Int) + 1 := by rw [IntKind.wrap_i64]; omega
    by_cases hlt : k < n
    · have hlt' : (k : Int) < (n : Int) := by omega
      obtain ⟨c, x, hc, hx, hx2, S1⟩ := run_byte s k (by rw [hn]; exact hlt)
      have hstep := escQ_step hc
      have hle := escQ_take s.data.toList k
      have e34 := byte_is c x hx 34 (by decide)
      have e92 := byte_is c x hx 92 (by decide)
      rw [show ((34 : Nat) : Int) = 34 from rfl] at e34
      rw [show ((92 : Nat) : Int) = 92 from rfl] at e92
      have hTl : (L ++ 34 :: escQ (s.data.toList.take k)).length ≤ L.length + 1 + 2 * k := by rw [List.length_append, List.length_cons]; omega
      have HSTEP := Lib.hid (show L ++ 34 :: escQ (s.data.toList.take (k + 1)) = (L ++ 34 :: escQ (s.data.toList.take k)) ++ esc1 c by rw [hstep]; simp)
      generalize L ++ 34 :: escQ (s.data.toList.take k) = T at hst hTl HSTEP
      have c1 := fun W (h : Hid (Wr b w W T)) => wr_byte 92 92 rfl h.out (by omega)
      have c2 := fun W (h : Hid (Wr b w W T)) => wr_byte c (x : Int) (by omega) h.out (by omega)
      have c3 := fun W (h : Hid (Wr b w W (T ++ [92]))) => wr_byte c (x : Int) (by omega) h.out (by rw [List.length_append, List.length_singleton]; omega)
      by_cases hq : c = 34 ∨ c = 92
      · have HR := Lib.hid (show (T ++ [92]) ++ [c] = L ++ 34 :: escQ (s.data.toList.take (k + 1)) by rw [HSTEP.out]; unfold esc1; rw [if_pos hq, List.append_assoc]; rfl)
        by_cases h34 : c = 34
        · rw [show decide (c = UInt8.ofNat 34) = true from decide_eq_true h34] at e34
          clear hc hx hx2 hstep hle h34 e92 hq c2 HSTEP
          go_wp2_with (first
            | (go_at_call 80; (with_reducible refine (c1 _ hst).mono ?_); rintro e w2 ⟨rfl, hq2⟩; have H2 := Lib.hid hq2; clear hq2 c1)
            | (go_at_call 80; (with_reducible refine (c3 _ H2).mono ?_); rintro e w3 ⟨rfl, hq3⟩; have H3 := Lib.hid hq3; clear hq3 c3))
          go_roundw
          case rel => exact ⟨k + 1, by omega, by go_num, by rw [← HR.out]; exact H3⟩
          case measure => simp [intOf]; omega
        · have h92 : c = 92 := hq.resolve_left h34
          rw [show decide (c = UInt8.ofNat 34) = false from decide_eq_false h34] at e34
          rw [show decide (c = UInt8.ofNat 92) = true from decide_eq_true h92] at e92
          clear hc hx hx2 hstep hle h34 h92 hq c2 HSTEP
          go_wp2_with (first
            | (go_at_call 80; (with_reducible refine (c1 _ hst).mono ?_); rintro e w2 ⟨rfl, hq2⟩; have H2 := Lib.hid hq2; clear hq2 c1)
            | (go_at_call 80; (with_reducible refine (c3 _ H2).mono ?_); rintro e w3 ⟨rfl, hq3⟩; have H3 := Lib.hid hq3; clear hq3 c3))
          go_roundw
          case rel => exact ⟨k + 1, by omega, by go_num, by rw [← HR.out]; exact H3⟩
          case measure => simp [intOf]; omega
      · have HR := Lib.hid (show T ++ [c] = L ++ 34 :: escQ (s.data.toList.take (k + 1)) by rw [HSTEP.out]; unfold esc1; rw [if_neg hq])
        rw [show decide (c = UInt8.ofNat 34) = false from decide_eq_false (fun e => hq (.inl e))] at e34
        rw [show decide (c = UInt8.ofNat 92) = false from decide_eq_false (fun e => hq (.inr e))] at e92
        clear hc hx hx2 hstep hle hq c1 c3 HSTEP
        go_wp2_with (go_at_call 80; (with_reducible refine (c2 _ hst).mono ?_); rintro e w3 ⟨rfl, hq3⟩; have H3 := Lib.hid hq3; clear hq3 c2)
        go_roundw
        case rel => exact ⟨k + 1, by omega, by go_num, by rw [← HR.out]; exact H3⟩
        case measure => simp [intOf]; omega
    · obtain rfl : k = n := by omega
      have hlt' : ¬ (k : Int) < (k : Int) := by omega
      have hT : s.data.toList.take k = s.data.toList := List.take_of_length_le (by rw [← HL.out, HN.out]; exact Nat.le_refl _)
      have hle := escQ_take s.data.toList k
      rw [hT] at hst hle
      have hTl : (L ++ 34 :: escQ s.data.toList).length ≤ L.length + 1 + 2 * k := by rw [List.length_append, List.length_cons]; omega
      have HR := Lib.hid (show (L ++ 34 :: escQ s.data.toList) ++ [34] = L ++ 34 :: (escQ s.data.toList ++ [34]) by simp)
      generalize L ++ 34 :: escQ s.data.toList = T at hst hTl HR
      have c2 := fun W (h : Hid (Wr b w W T)) => wr_byte 34 34 rfl h.out (by omega)
      clear hT hle
      go_wp2_with (go_at_call 80; (with_reducible refine (c2 _ hst).mono ?_); rintro e w3 ⟨rfl, hq3⟩; have H3 := Lib.hid hq3; clear hq3 c2)
      go_end0
      exact ⟨rfl, by rw [← HR.out]; exact H3.out⟩
theorem hex_facts : ∀ n : Fin 256, Lib.toUpperA (Nu.hexL [UInt8.ofNat n.val]) = [hexU ((UInt8.ofNat n.val).toNat / 16), hexU ((UInt8.ofNat n.val).toNat % 16)] ∧ ∀ b ∈ Nu.hexL [UInt8.ofNat n.val], b.toNat < 128 := by decide +kernel
theorem hex_all (c : UInt8) : Lib.toUpperA (Nu.hexL [c]) = [hexU (c.toNat / 16), hexU (c.toNat % 16)] ∧ ∀ b ∈ Nu.hexL [c], b.toNat < 128 :=
  byte_all (P := fun c => Lib.toUpperA (Nu.hexL [c]) = [hexU (c.toNat / 16), hexU (c.toNat % 16)] ∧ ∀ b ∈ Nu.hexL [c], b.toNat < 128) hex_facts c
theorem free_at (c : UInt8) : freeB c = (letterB c || (⟨#[45, 46, 95, 126]⟩ : ByteArray).data.toList.contains c) := rfl
set_option maxRecDepth 100000 in
set_option maxHeartbeats 4000000 in
theorem encoded_any (s : ByteArray) (hs : s.size ≤ 4000000) (b : Nat) (L : List UInt8) (hL : L.length + 3 * s.size + 20 ≤ 140737488355328) (w : World) (hb : Bk w b L) :
    Calls Tryz.prog 82 #[.pointer (some ⟨b, 0, none⟩), .string s] w fun e w' => e = .returned (.tuple #[]) ∧ Wr b w w' (L ++ pctE s.data.toList) := by
  obtain ⟨n, hn⟩ : ∃ n, s.size = n := ⟨_, rfl⟩
  have HL := Lib.hid (size_list s)
  have HN := Lib.hid hn
  rw [hn] at hs hL
  have H0 := Lib.hid (show Wr b w w (L ++ pctE (s.data.toList.take 0)) by
    have := Wr.first hb
    rw [show L ++ pctE (s.data.toList.take 0) = L by rw [List.take_zero]; exact List.append_nil _]
    exact this)
  clear hb
  go_enter Tryz.func82, Tryz.ntmps82
  go_wp2_with fail
  go_loopw [7] (fun i wr => ∃ k : Nat, k ≤ n ∧ i = .int .i64 k ∧ Hid (Wr b w wr (L ++ pctE (s.data.toList.take k)))) (fun i _ => n - (intOf i).toNat)
  case atStart => exact ⟨0, Nat.zero_le _, rfl, H0⟩
  case round =>
    obtain ⟨k, hk, rfl, hst⟩ := hrel
    have F1 : IntKind.i64.wrap ((k : Int) + 1) = (k : Int) + 1 := by rw [IntKind.wrap_i64]; omega
    by_cases hlt : k < n
    · have hlt' : (k : Int) < (n : Int) := by omega
      obtain ⟨c, x, hc, hx, hx2, S1⟩ := run_byte s k (by rw [hn]; exact hlt)
      have hstep := pctE_step hc
      have hle := pctE_take s.data.toList k
      have cH := fun W => at_byte ⟨#[45, 46, 95, 126]⟩ c x hx W
      have cL := fun W => letter_any c x hx W
      have hw := free_at c
      have hTl : (L ++ pctE (s.data.toList.take k)).length ≤ L.length + 3 * k := by rw [List.length_append]; omega
      have HSTEP := Lib.hid (show L ++ pctE (s.data.toList.take (k + 1)) = (L ++ pctE (s.data.toList.take k)) ++ pctB c by rw [hstep, List.append_assoc])
      generalize L ++ pctE (s.data.toList.take k) = T at hst hTl HSTEP
      have c2 := fun W (h : Hid (Wr b w W T)) => wr_byte c (x : Int) (by omega) h.out (by omega)
      have c1 := fun W (h : Hid (Wr b w W T)) => wr_byte 37 37 rfl h.out (by omega)
      rw [← index_in] at hw
      generalize Lib.indexByte (⟨#[45, 46, 95, 126]⟩ : ByteArray).data.toList c = z at cH hw
      generalize letterB c = b1 at cL hw
      cases hfr : freeB c with
      | true =>
        have HR := Lib.hid (show T ++ [c] = L ++ pctE (s.data.toList.take (k + 1)) by rw [HSTEP.out]; unfold pctB; rw [if_pos hfr])
        rw [hfr] at hw
        cases b1 with
        | true =>
          clear hc hx hx2 hstep hle hw c1 HSTEP hfr cH
          go_wp2_with (first
            | (go_at_call 66; (with_reducible refine (cL _).mono ?_); rintro e w5 ⟨rfl, rfl⟩)
            | (go_at_call 80; (with_reducible refine (c2 _ hst).mono ?_); rintro e w3 ⟨rfl, hq3⟩; have H3 := Lib.hid hq3; clear hq3 c2))
          go_roundw
          case rel => exact ⟨k + 1, by omega, by go_num, by rw [← HR.out]; exact H3⟩
          case measure => simp [intOf]; omega
        | false =>
          have hz : 0 ≤ z := by simpa using hw
          clear hc hx hx2 hstep hle hw c1 HSTEP hfr
          go_wp2_with (first
            | (go_at_call 66; (with_reducible refine (cL _).mono ?_); rintro e w5 ⟨rfl, rfl⟩)
            | (go_at_call 67; (with_reducible refine (cH _).mono ?_); rintro e w6 ⟨rfl, rfl⟩)
            | (go_at_call 80; (with_reducible refine (c2 _ hst).mono ?_); rintro e w3 ⟨rfl, hq3⟩; have H3 := Lib.hid hq3; clear hq3 c2))
          go_roundw
          case rel => exact ⟨k + 1, by omega, by go_num, by rw [← HR.out]; exact H3⟩
          case measure => simp [intOf]; omega
      | false =>
        have HR := Lib.hid (show (T ++ [37]) ++ [hexU (c.toNat / 16), hexU (c.toNat % 16)] = L ++ pctE (s.data.toList.take (k + 1)) by rw [HSTEP.out]; unfold pctB; rw [if_neg (by rw [hfr]; exact Bool.false_ne_true), List.append_assoc]; rfl)
        rw [hfr] at hw
        obtain ⟨rfl, hz⟩ : b1 = false ∧ z < 0 := by
          have := hw.symm
          rw [Bool.or_eq_false_iff, decide_eq_false_iff_not] at this
          exact ⟨this.1, by omega⟩
        have hz2 : ¬ 0 ≤ z := by omega
        have R1 := run_slice_str s k (k + 1) ((k : Int) + 1) (by omega) (by omega) (by omega)
        rw [show s.extract k (k + 1) = strL [c] by
          rw [part_of s k (k + 1) (by omega) (by omega), cons_at _ k c hc]
          congr 1
          rw [show k + 1 - k = 1 by omega]; rfl] at R1
        obtain ⟨hu1, hu2⟩ := hex_all c
        have cX := fun W => Nu.hex_any (strL [c]) (by rw [strL_size]; simp) W
        rw [strL_list] at cX
        have cU := fun W => Tryz.strings_ToUpper_ascii (strL (Nu.hexL [c])) W (by rw [strL_size]; unfold Nu.hexL; simp) (fun j d hd => hu2 d (List.mem_of_getElem? hd))
        rw [strL_list, hu1] at cU
        have c3 := fun W (h : Hid (Wr b w W (T ++ [37]))) => wr_str (strL [hexU (c.toNat / 16), hexU (c.toNat % 16)]) h.out (by rw [List.length_append, List.length_singleton, strL_size]; simp; omega)
        rw [strL_list] at c3
        have hsz2 : (strL [hexU (c.toNat / 16), hexU (c.toNat % 16)]).size = 2 := strL_size _
        rw [hsz2] at c3
        generalize hX1 : strL (Nu.hexL [c]) = X1 at cU
        have hX1' : (⟨(Nu.hexL [c]).toArray⟩ : ByteArray) = X1 := hX1
        rw [hX1'] at cX
        generalize hX2 : strL [hexU (c.toNat / 16), hexU (c.toNat % 16)] = X2 at c3
        have hX2' : (⟨[hexU (c.toNat / 16), hexU (c.toNat % 16)].toArray⟩ : ByteArray) = X2 := hX2
        rw [hX2'] at cU
        generalize strL [c] = X0 at R1 cX
        clear hc hx hx2 hstep hle hw c2 HSTEP hfr hu1 hu2 hX1 hX2 hX1' hX2' hsz2
        go_wp2_with (first
          | (go_at_call 66; (with_reducible refine (cL _).mono ?_); rintro e w5 ⟨rfl, rfl⟩)
          | (go_at_call 67; (with_reducible refine (cH _).mono ?_); rintro e w6 ⟨rfl, rfl⟩)
          | (go_at_call 80; (with_reducible refine (c1 _ hst).mono ?_); rintro e w2 ⟨rfl, hq2⟩; have H2 := Lib.hid hq2; clear hq2 c1)
          | (go_at_call 52; (with_reducible refine (cX _).mono ?_); rintro e w7 ⟨rfl, hq7⟩; have H7 := Lib.hid (H2.out.other hq7); clear hq7 cX)
          | (go_at_call 119; (with_reducible refine (cU _).mono ?_); rintro e w8 ⟨rfl, hq8⟩; have H8 := Lib.hid (H7.out.other hq8); clear hq8 cU)
          | (go_at_call 42; (with_reducible refine (c3 _ H8).mono ?_); rintro e w9 ⟨rfl, hq9⟩; have H9 := Lib.hid hq9; clear hq9 c3))
        go_roundw
        case rel => exact ⟨k + 1, by omega, by go_num, by rw [← HR.out]; exact H9⟩
        case measure => simp [intOf]; omega
    · obtain rfl : k = n := by omega
      have hlt' : ¬ (k : Int) < (k : Int) := by omega
      have hT : s.data.toList.take k = s.data.toList := List.take_of_length_le (by rw [← HL.out, HN.out]; exact Nat.le_refl _)
      rw [hT] at hst
      clear hT
      go_wp2_with fail
      go_end0
      exact ⟨rfl, hst.out⟩
end Go.Proofs.YtdinachiiimngaaGreatDoor
namespace Go.Proofs.YtdinachiiimngaaGreatDoor
open Go.ChangeShapes Go.WideShapes Go.ChangeAt Go.RowKit
open TokP AdrP CtP

/-- What is asked of the reference's Unhex, Repair and Decode. -/
def RUnhexOk : Prop := ∀ (s : ByteArray) (_ : s.size = 2) (W : World), Calls Tryz.prog 161 #[.string s] W fun e w' => ∃ T : ByteArray, e = .returned (.tuple #[.string T, .bool (hex2 s.data.toList).isSome]) ∧ (∀ b, hex2 s.data.toList = some b → T = strL [b]) ∧ Below W.heap.size W w'
def RRepairOk (rep : List UInt8 → List UInt8) : Prop := ∀ (s : ByteArray) (_ : s.size ≤ 4000000) (W : World), Calls Tryz.prog 159 #[.string s] W fun e w' => e = .returned (.string (strL (rep s.data.toList))) ∧ Below W.heap.size W w'
def RDecodeOk (dec : List UInt8 → List UInt8 → List UInt8) : Prop := ∀ (n s : ByteArray) (_ : n.size ≤ 4000000) (_ : s.size ≤ 4000000) (W : World), Calls Tryz.prog 160 #[.string n, .string s] W fun e w' => ∃ b, e = .returned (.tuple #[.string (strL (dec n.data.toList s.data.toList)), .bool b]) ∧ Below W.heap.size W w'
theorem rmeant_any {rep : List UInt8 → List UInt8} {dec : List UInt8 → List UInt8 → List UInt8} (cR : RRepairOk rep) (cD : RDecodeOk dec) (n s : ByteArray) (hn : n.size ≤ 4000000) (hs : s.size ≤ 4000000) (w : World) :
    Calls Tryz.prog 115 #[.string n, .string s] w fun e w' => e = .returned (.string (strL (meantP rep dec n.data.toList s.data.toList))) ∧ Below w.heap.size w w' := by
  have c1 := cR s hs w
  have c2 := cD n s hn hs w
  unfold meantP
  by_cases h0 : n.data.toList = []
  · rw [if_pos h0]
    have e1 : (n.toList == []) = true := by rw [ByteArray.toList_eq, h0]; rfl
    generalize strL (rep s.data.toList) = Z at c1 ⊢
    clear c2 hn hs h0
    go_enter Tryz.func115, Tryz.ntmps115
    go_wp2_with (go_at_call 159; (with_reducible refine c1.mono ?_); rintro e w2 ⟨rfl, hb2⟩)
    go_ret
    exact ⟨rfl, hb2⟩
  · rw [if_neg h0]
    have e1 : (n.toList == []) = false := by rw [ByteArray.toList_eq]; exact beq_eq_false_iff_ne.2 h0
    generalize strL (dec n.data.toList s.data.toList) = Z at c2 ⊢
    clear c1 hn hs h0
    go_enter Tryz.func115, Tryz.ntmps115
    go_wp2_with (go_at_call 160; (with_reducible refine c2.mono ?_); rintro e w2 ⟨b, rfl, hb2⟩)
    go_ret
    exact ⟨rfl, hb2⟩
/-! ### Open -/
theorem pct_plain {s : List UInt8} {k : Nat} {c : UInt8} (hk : s[k]? = some c) (h : c ≠ 37) : pctS 0 (s.drop k) = c :: pctS 0 (s.drop (k + 1)) := by
  obtain ⟨h1, h2⟩ := List.getElem?_eq_some_iff.1 hk
  rw [List.drop_eq_getElem_cons h1, h2, pctS, if_neg h]
theorem pct_no {s : List UInt8} {k : Nat} {c : UInt8} (hk : s[k]? = some c) (h : hex2 (s.drop (k + 1)) = none) : pctS 0 (s.drop k) = c :: pctS 0 (s.drop (k + 1)) := by
  obtain ⟨h1, h2⟩ := List.getElem?_eq_some_iff.1 hk
  rw [List.drop_eq_getElem_cons h1, h2, pctS, h]
  split <;> rfl
theorem pct_skip : ∀ (j : Nat) (s : List UInt8), pctS j s = pctS 0 (s.drop j)
  | 0, s => rfl
  | j + 1, [] => rfl
  | j + 1, c :: s => by
    show pctS j s = pctS 0 (s.drop j)
    exact pct_skip j s
theorem pct_yes {s : List UInt8} {k : Nat} {b : UInt8} (hk : s[k]? = some 37) (h : hex2 (s.drop (k + 1)) = some b) : pctS 0 (s.drop k) = b :: pctS 0 (s.drop (k + 3)) := by
  obtain ⟨h1, h2⟩ := List.getElem?_eq_some_iff.1 hk
  rw [List.drop_eq_getElem_cons h1, h2, pctS, if_pos rfl, h]
  show b :: pctS 2 (s.drop (k + 1)) = _
  rw [pct_skip 2, List.drop_drop]
theorem hex2_short {s : List UInt8} (h : s.length < 2) : hex2 s = none := by
  cases s with
  | nil => rfl
  | cons a r =>
    cases r with
    | nil => rfl
    | cons b t => simp at h; omega
theorem hex2_take (s : List UInt8) : hex2 (s.take 2) = hex2 s := by
  cases s with
  | nil => rfl
  | cons a r =>
    cases r with
    | nil => rfl
    | cons b t => rfl
set_option maxRecDepth 100000 in
set_option maxHeartbeats 4000000 in
theorem ropen_any (cU : RUnhexOk) (s : ByteArray) (hs : s.size ≤ 4000000) (w : World) :
    Calls Tryz.prog 116 #[.string s] w fun e w' => e = .returned (.string (strL (pctL s.data.toList))) ∧ Below w.heap.size w w' := by
  obtain ⟨n, hn⟩ : ∃ n, s.size = n := ⟨_, rfl⟩
  have HN := Lib.hid hn
  have HL := Lib.hid (size_list s)
  rw [hn] at hs
  obtain ⟨R, hR⟩ : ∃ R, pctL s.data.toList = R := ⟨_, rfl⟩
  rw [hR]
  have HR := Lib.hid (show (⟨#[]⟩ : ByteArray).data.toList ++ pctS 0 (s.data.toList.drop 0) = R from hR)
  have HU := Lib.hid cU
  clear hn hR cU
  go_enter Tryz.func116, Tryz.ntmps116
  go_wp2_with fail
  go_loopw [3, 4] (fun o i wr => ∃ (k : Nat) (T : ByteArray), k ≤ n ∧ o = .string T ∧ i = .int .i64 k ∧ T.size ≤ k ∧ Hid (T.data.toList ++ pctS 0 (s.data.toList.drop k) = R) ∧ Hid (Below w.heap.size w wr)) (fun _ i _ => n - (intOf i).toNat)
  case atStart => exact ⟨0, ⟨#[]⟩, Nat.zero_le _, rfl, rfl, Nat.zero_le _, HR, Below.refl _ _⟩
  case round =>
    obtain ⟨k, T, hk, rfl, rfl, hTz, HG, HB⟩ := hrel
    have F1 : IntKind.i64.wrap ((k : Int) + 1) = (k : Int) + 1 := by rw [IntKind.wrap_i64]; omega
    have F2 : IntKind.i64.wrap ((k : Int) + 2) = (k : Int) + 2 := by rw [IntKind.wrap_i64]; omega
    have F3 : IntKind.i64.wrap ((k : Int) + 3) = (k : Int) + 3 := by rw [IntKind.wrap_i64]; omega
    have F4 : IntKind.i64.wrap ((k : Int) + 2 + 1) = (k : Int) + 2 + 1 := by rw [IntKind.wrap_i64]; omega
    have hn : s.size = n := HN.out
    by_cases hlt : k < n
    · have hlt' : (k : Int) < (n : Int) := by omega
      obtain ⟨d, y, hd, hy, hy2, S1⟩ := run_byte s k (by rw [hn]; exact hlt)
      have e37 := byte_is d y hy 37 (by decide)
      rw [show ((37 : Nat) : Int) = 37 from rfl] at e37
      have R1 := run_slice_str s k (k + 1) ((k : Int) + 1) (by omega) (by omega) (by omega)
      rw [show s.extract k (k + 1) = strL [d] by
        rw [part_of s k (k + 1) (by omega) (by omega), cons_at _ k d hd]
        congr 1
        rw [show k + 1 - k = 1 by omega]; rfl] at R1
      have hz1 : (strL [d]).size = 1 := strL_size _
      have hz : T.size + (strL [d]).size ≤ 100000000 := by omega
      have hz2 : (T ++ strL [d]).size ≤ k + 1 := by rw [ByteArray.size_append]; omega
      have HPL := Lib.hid (fun (h : pctS 0 (s.data.toList.drop k) = d :: pctS 0 (s.data.toList.drop (k + 1))) => show (T ++ strL [d]).data.toList ++ pctS 0 (s.data.toList.drop (k + 1)) = R by
        rw [← HG.out, h, list_append, strL_list, List.append_assoc]; rfl)
      by_cases h37 : d = 37
      · rw [show decide (d = UInt8.ofNat 37) = true from decide_eq_true h37] at e37
        by_cases h2 : k + 2 < n
        · have h2' : (k : Int) + 2 < (n : Int) := by omega
          have R2 := run_slice_str s (k + 1) (k + 3) ((k : Int) + 3) (by omega) (by omega) (by omega)
          have hX : (s.extract (k + 1) (k + 3)).data.toList = (s.data.toList.drop (k + 1)).take 2 := by
            rw [part_of s (k + 1) (k + 3) (by omega) (by omega), strL_list]
            rw [show k + 3 - (k + 1) = 2 by omega]
          have hXz : (s.extract (k + 1) (k + 3)).size = 2 := by rw [ByteArray.size_extract]; omega
          have cU := fun W => HU.out (s.extract (k + 1) (k + 3)) hXz W
          rw [hX, hex2_take] at cU
          generalize s.extract (k + 1) (k + 3) = X at R2 cU
          rw [show ((k + 1 : Nat) : Int) = (k : Int) + 1 by omega] at R2
          cases hh : hex2 (s.data.toList.drop (k + 1)) with
          | none =>
            rw [hh] at cU
            have HG2 := Lib.hid (HPL.out (pct_no hd hh))
            generalize strL [d] = Z at R1 hz1 hz hz2 HG2
            clear hh hX hXz hd hy HG HPL h37 hz1
            go_wp2_with (go_at_call 161; (with_reducible refine (cU _).mono ?_); rintro e w2 ⟨V, rfl, _, hb2⟩; have HB2 := Lib.hid (HB.out.trans (hb2.mono HB.out.size)); clear hb2 cU)
            go_roundw
            case rel => exact ⟨k + 1, _, by omega, rfl, by go_num, hz2, HG2, HB2⟩
            case measure => simp [intOf]; omega
          | some b =>
            rw [hh] at cU
            have hyes := pct_yes (h37 ▸ hd) hh
            have HG2 := Lib.hid (show (T ++ strL [b]).data.toList ++ pctS 0 (s.data.toList.drop (k + 3)) = R by rw [← HG.out, hyes, list_append, strL_list, List.append_assoc]; rfl)
            have hbz : (strL [b]).size = 1 := strL_size _
            have hz3 : T.size + (strL [b]).size ≤ 100000000 := by omega
            have hz4 : (T ++ strL [b]).size ≤ k + 3 := by rw [ByteArray.size_append]; omega
            have HV := Lib.hid (fun (V : ByteArray) (h : ∀ c, some b = some c → V = strL [c]) => h b rfl)
            generalize strL [b] = Z at hbz hz3 hz4 HG2 HV
            clear hh hX hXz hd hy HG HPL h37 hz1 hz hz2 hyes hbz
            go_wp2_with (go_at_call 161; (with_reducible refine (cU _).mono ?_); rintro e w2 ⟨V, rfl, hv, hb2⟩; have hv2 := HV.out V hv; subst hv2; have HB2 := Lib.hid (HB.out.trans (hb2.mono HB.out.size)); clear hb2 cU hv)
            go_roundw
            case rel => exact ⟨k + 3, _, by omega, rfl, by go_num, hz4, HG2, HB2⟩
            case measure => simp [intOf]; omega
        · have h2' : ¬ (k : Int) + 2 < (n : Int) := by omega
          have hsh : hex2 (s.data.toList.drop (k + 1)) = none := hex2_short (by rw [List.length_drop, ← HL.out, hn]; omega)
          have HG2 := Lib.hid (HPL.out (pct_no hd hsh))
          generalize strL [d] = Z at R1 hz1 hz hz2 HG2
          clear hsh hd hy HG HPL h37 hz1
          go_wp2_with fail
          go_roundw
          case rel => exact ⟨k + 1, _, by omega, rfl, by go_num, hz2, HG2, HB⟩
          case measure => simp [intOf]; omega
      · rw [show decide (d = UInt8.ofNat 37) = false from decide_eq_false h37] at e37
        have HG2 := Lib.hid (HPL.out (pct_plain hd h37))
        generalize strL [d] = Z at R1 hz1 hz hz2 HG2
        clear hd hy HG HPL h37 hz1
        go_wp2_with fail
        go_roundw
        case rel => exact ⟨k + 1, _, by omega, rfl, by go_num, hz2, HG2, HB⟩
        case measure => simp [intOf]; omega
    · obtain rfl : k = n := by omega
      have hlt' : ¬ (k : Int) < (k : Int) := by omega
      have hg := HG.out
      rw [List.drop_eq_nil_of_le (by rw [← HL.out, hn]; exact Nat.le_refl _), pctS, List.append_nil] at hg
      have HT := Lib.hid (show T = strL R by rw [← hg, strL_of])
      clear hg HG
      go_wp2_with fail
      go_ret
      exact ⟨congrArg (fun z => Ending.returned (Value.string z)) HT.out, HB.out⟩
end Go.Proofs.YtdinachiiimngaaGreatDoor
namespace Go.Proofs.YtdinachiiimngaaGreatDoor.Nu
open Go.ChangeShapes Go.WideShapes Go.ChangeAt Go.RowKit

/-- The value of a hexadecimal digit, 16 if c is none. -/
def dig (c : Nat) : Nat := if 48 ≤ c ∧ c ≤ 57 then c - 48 else if 97 ≤ c ∧ c ≤ 102 then c - 97 + 10 else if 65 ≤ c ∧ c ≤ 70 then c - 65 + 10 else 16

theorem digitR_any (c : Nat) (hc : c < 256) (w : World) :
    Calls Tryz.prog 191 #[.int .u8 c] w fun e w' => e = .returned (.int .i64 (dig c)) ∧ w = w' := by
  rcases (show c < 48 ∨ (48 ≤ c ∧ c ≤ 57) ∨ (57 < c ∧ c < 65) ∨ (65 ≤ c ∧ c ≤ 70) ∨ (70 < c ∧ c < 97) ∨ (97 ≤ c ∧ c ≤ 102) ∨ 102 < c by omega) with h | h | h | h | h | h | h
  all_goals
    go_enter Tryz.func191, Tryz.ntmps191
    go_wp2
    go_ret
    refine ⟨?_, rfl⟩
    refine congrArg (fun n => Ending.returned (.int .i64 n)) ?_
    unfold dig
    (repeat' split) <;> omega

/-- The value of a hexadecimal digit, 0 if c is none. -/
def digv (c : Nat) : Nat := if dig c < 16 then dig c else 0
theorem grown_set (w : World) (b : Nat) (v : Value) : w.grownBy (w.setCell ⟨b, 0, none⟩ v) (some b) :=
  ⟨rfl, rfl, rfl, by simp [World.setCell], fun k _ hk => Below.heap_setCell _ _ _ _ (fun e => hk (by simp [e]))⟩

theorem closure_any (c : Nat) (hc : c < 256) (b : Nat) (v : Bool) (w : World) (hb : w.heap[b]? = some (.cells #[.bool v] 4 (0, 0))) :
    Calls Tryz.prog 181 #[.int .u8 c, .pointer (some ⟨b, 0, none⟩)] w fun e w' => e = .returned (.int .u8 (digv c)) ∧ w'.heap[b]? = some (.cells #[.bool (v && decide (dig c < 16))] 4 (0, 0)) ∧ w.grownBy w' (some b) := by
  have h1 := cell_of_one hb
  have h2 := free_of_one hb
  rcases (show c < 48 ∨ (48 ≤ c ∧ c ≤ 57) ∨ (57 < c ∧ c < 65) ∨ (65 ≤ c ∧ c ≤ 70) ∨ (70 < c ∧ c < 97) ∨ (97 ≤ c ∧ c ≤ 102) ∨ 102 < c by omega) with h | h | h | h | h | h | h
  all_goals
    have hd : dig c = dig c := rfl
    conv at hd => rhs; unfold dig
    have HD := Lib.hid hd
    have HB := Lib.hid hb
    clear hd hb
    go_enter Tryz.func181, Tryz.ntmps181
    go_wp2
    go_ret
    have hd := HD.out
    have hb := HB.out
    first
      | (have hx : dig c < 16 := by
           rw [hd]; (repeat' split) <;> omega
         refine ⟨congrArg (fun n => Ending.returned (.int .u8 n)) ?_, by simpa [hx] using hb, World.grownBy.refl _ _⟩
         unfold digv
         rw [if_pos hx, hd]
         (repeat' split) <;> omega)
      | (have hx : ¬ dig c < 16 := by
           rw [hd]; (repeat' split) <;> omega
         refine ⟨congrArg (fun n => Ending.returned (.int .u8 n)) ?_, by simpa [hx] using one_setCell hb, grown_set _ _ _⟩
         unfold digv
         rw [if_neg hx]; rfl)
end Go.Proofs.YtdinachiiimngaaGreatDoor.Nu
namespace Go.Proofs.YtdinachiiimngaaGreatDoor.Nu
open Go.ChangeShapes Go.WideShapes Go.ChangeAt Go.RowKit

/-- The byte that the digits at 2t and 2t + 1 spell. -/
def byteAt (l : List UInt8) (t : Nat) : UInt8 := UInt8.ofNat (16 * dig (l.getD (2 * t) 0).toNat + dig (l.getD (2 * t + 1) 0).toNat)
/-- The first j bytes. -/
def bytesTo (l : List UInt8) (j : Nat) : List UInt8 := (List.range j).map (byteAt l)
/-- Are the first n bytes hexadecimal digits? -/
def digsTo (l : List UInt8) (n : Nat) : Prop := ∀ t, t < n → dig (l.getD t 0).toNat < 16
/-- May l be decoded? -/
def unhexOk (l : List UInt8) : Bool := decide (l.length % 2 = 0) && l.all fun c => decide (dig c.toNat < 16)
/-- What is decoded; nothing if it may not be decoded. -/
def unhexS (l : List UInt8) : List UInt8 := if unhexOk l = true then bytesTo l (l.length / 2) else []

set_option maxRecDepth 100000 in
theorem bytesTo_length (l : List UInt8) (j : Nat) : (bytesTo l j).length = j := by simp [bytesTo]
set_option maxRecDepth 100000 in
theorem bytesTo_succ (l : List UInt8) (j : Nat) : bytesTo l (j + 1) = bytesTo l j ++ [byteAt l j] := by simp [bytesTo, List.range_succ]
set_option maxRecDepth 100000 in
theorem getD_byte (s : ByteArray) (k : Nat) (h : k < s.size) : s.data.toList.getD k 0 = s[k] := by
  rw [List.getD_eq_getElem?_getD, List.getElem?_eq_getElem (by simpa using h)]; rfl
set_option maxRecDepth 100000 in
theorem unhexOk_odd {l : List UInt8} (h : ¬ l.length % 2 = 0) : unhexOk l = false := by simp [unhexOk, h]
set_option maxRecDepth 100000 in
theorem unhexOk_all {l : List UInt8} (h : l.length % 2 = 0) (ha : digsTo l l.length) : unhexOk l = true := by
  simp only [unhexOk, h, decide_true, Bool.true_and, List.all_eq_true, decide_eq_true_eq]
  intro c hc
  obtain ⟨t, ht, rfl⟩ := List.getElem_of_mem hc
  have := ha t ht
  rwa [List.getD_eq_getElem?_getD, List.getElem?_eq_getElem ht] at this
set_option maxRecDepth 100000 in
theorem unhexOk_bad {l : List UInt8} {t : Nat} (ht : t < l.length) (h : ¬ dig (l.getD t 0).toNat < 16) : unhexOk l = false := by
  rw [Bool.eq_false_iff]
  intro hh
  simp only [unhexOk, Bool.and_eq_true, List.all_eq_true, decide_eq_true_eq] at hh
  refine h ?_
  rw [List.getD_eq_getElem?_getD, List.getElem?_eq_getElem ht]
  exact hh.2 _ (List.getElem_mem ht)
set_option maxRecDepth 100000 in
theorem digsTo_two {l : List UInt8} {j : Nat} (h : digsTo l (2 * j)) (h1 : dig (l.getD (2 * j) 0).toNat < 16) (h2 : dig (l.getD (2 * j + 1) 0).toNat < 16) : digsTo l (2 * (j + 1)) := by
  intro t ht
  rcases (show t < 2 * j ∨ t = 2 * j ∨ t = 2 * j + 1 by omega) with hh | rfl | rfl
  · exact h t hh
  · exact h1
  · exact h2
set_option maxRecDepth 100000 in
theorem dig_le (c : Nat) : dig c ≤ 16 := by unfold dig; (repeat' split) <;> omega

set_option maxRecDepth 100000 in
theorem unhexR_odd (s : ByteArray) (hs : s.size ≤ 1000) (ho : ¬ s.size % 2 = 0) (w : World) :
    Calls Tryz.prog 161 #[.string s] w fun e w' => e = .returned (.tuple #[.string ⟨(unhexS s.data.toList).toArray⟩, .bool (unhexOk s.data.toList)]) ∧ Below w.heap.size w w' := by
  have hk : unhexOk s.data.toList = false := unhexOk_odd (by simpa using ho)
  have hu : unhexS s.data.toList = [] := by simp [unhexS, hk]
  rw [hk, hu]
  have h1 : ((s.size : Int) % 2 != 0) = true := by rw [bne_iff_ne]; omega
  go_enter Tryz.func161, Tryz.ntmps161
  go_wp2_with fail
  go_ret2
  exact ⟨rfl, Below.refl _ _⟩

set_option maxRecDepth 100000 in
theorem unhexR_even (s : ByteArray) (hs : s.size ≤ 1000) (ho : s.size % 2 = 0) (w : World) :
    Calls Tryz.prog 161 #[.string s] w fun e w' => e = .returned (.tuple #[.string ⟨(unhexS s.data.toList).toArray⟩, .bool (unhexOk s.data.toList)]) ∧ Below w.heap.size w w' := by
  have h1 : ((s.size : Int) % 2 != 0) = false := by rw [bne_eq_false_iff_eq]; omega
  have ho' : s.data.toList.length % 2 = 0 := by simpa using ho
  have HO := Lib.hid ho
  have HO' := Lib.hid ho'
  clear ho ho'
  obtain ⟨i0, hi, hz0, hz1, hz2⟩ := info_parts info5
  go_enter Tryz.func161, Tryz.ntmps161
  go_wp2_with fail
  go_loopw [4, 5] (fun v i wr => ∃ j : Nat, 2 * j ≤ s.size ∧ i = .int .i64 (2 * (j : Int)) ∧ Hid (digsTo s.data.toList (2 * j)) ∧
      wr.ownsRow w.heap.size 5 1 v j (cellsOf (bytesTo s.data.toList j)) ∧ Below w.heap.size w wr)
    (fun _ i _ => s.size - (intOf i).toNat)
  case atStart => exact ⟨0, Nat.zero_le _, rfl, fun t ht => by omega, World.ownsRow_nil _ _ _ _, Below.refl _ _⟩
  case round =>
    obtain ⟨j, hj, rfl, hd, hown, hbel⟩ := hrel
    by_cases hlt : 2 * j < s.size
    · have hlt2 : 2 * j + 1 < s.size := by have := HO.out; omega
      by_cases ha : dig s[2 * j].toNat < 16
      · have ha' : ((dig s[2 * j].toNat : Nat) : Int) < 16 := by omega
        have ha1 : (((dig s[2 * j].toNat : Nat) : Int) == 16) = false := beq_eq_false_iff_ne.2 (by omega)
        by_cases hb : dig s[2 * j + 1].toNat < 16
        · have hb' : ((dig s[2 * j + 1].toNat : Nat) : Int) < 16 := by omega
          have hb1 : (((dig s[2 * j + 1].toNat : Nat) : Int) == 16) = false := beq_eq_false_iff_ne.2 (by omega)
          have hD := digsTo_two hd.out (by rw [getD_byte s _ hlt]; exact ha) (by rw [getD_byte s _ hlt2]; exact hb)
          have HD := Lib.hid hD
          have hq : 16 * ((dig s[2 * j].toNat : Nat) : Int) + ((dig s[2 * j + 1].toNat : Nat) : Int) = ((byteAt s.data.toList j).toNat : Int) := by
            unfold byteAt
            rw [getD_byte s _ hlt, getD_byte s _ hlt2, UInt8.toNat_ofNat']; omega
          have hsz := hbel.size
          clear ha hb hD hd
          go_wp2_with (first
            | (go_at_call 191; refine (digitR_any _ (UInt8.toNat_lt _) _).mono ?_; rintro e w' ⟨rfl, rfl⟩)
            | (at_builtin; (refine wpList_append_own _ rfl (.tmp 33) (.tmp 39) 59 rfl w.heap.size 5 i0 (.int .u8 0) 1 1 Tryz.underlying59 hi hz0 hz1 hz2 rfl (by decide) _ j (cellsOf (bytesTo s.data.toList j)) rfl (hown.alloc _) ⟨wr.heap.size, 0, none⟩ 1 1 (cellsOf [byteAt s.data.toList j]) rfl rfl (bytes_new _ [_]) (cellsOf_one _) (by unfold maxLen; omega) (by omega) (by simp; omega) ?_; intro v2 w2 hown2 hgrow2 hnil2)))
          go_roundw
          case rel =>
            exact ⟨j + 1, by omega, by go_num, HD.out, by rw [bytesTo_succ]; unfold cellsOf at hown2 ⊢; rw [List.map_append]; exact hown2, (hbel.alloc hbel.size _).grown hgrow2 (by have := hbel.size; simp; omega) (fun k h => (hown.lt k h).1)⟩
          case measure => simp [intOf]; omega
        · have hb1 : (((dig s[2 * j + 1].toNat : Nat) : Int) == 16) = true := beq_iff_eq.2 (by have := dig_le s[2 * j + 1].toNat; omega)
          have hk : unhexOk s.data.toList = false := unhexOk_bad (t := 2 * j + 1) (by simpa using hlt2) (by rw [getD_byte s _ hlt2]; exact hb)
          have hu : unhexS s.data.toList = [] := by simp [unhexS, hk]
          have HK := Lib.hid hk
          have HU := Lib.hid hu
          clear ha hb hk hu
          go_wp2_with (go_at_call 191; refine (digitR_any _ (UInt8.toNat_lt _) _).mono ?_; rintro e w' ⟨rfl, rfl⟩)
          go_ret2
          rw [HK.out, HU.out]
          exact ⟨rfl, hbel⟩
      · have ha1 : (((dig s[2 * j].toNat : Nat) : Int) == 16) = true := beq_iff_eq.2 (by have := dig_le s[2 * j].toNat; omega)
        have hk : unhexOk s.data.toList = false := unhexOk_bad (t := 2 * j) (by simpa using hlt) (by rw [getD_byte s _ hlt]; exact ha)
        have hu : unhexS s.data.toList = [] := by simp [unhexS, hk]
        have HK := Lib.hid hk
        have HU := Lib.hid hu
        clear ha hk hu
        go_wp2_with (go_at_call 191; refine (digitR_any _ (UInt8.toNat_lt _) _).mono ?_; rintro e w' ⟨rfl, rfl⟩)
        go_ret2
        rw [HK.out, HU.out]
        exact ⟨rfl, hbel⟩
    · have hj2 : 2 * j = s.size := by omega
      have hk : unhexOk s.data.toList = true := unhexOk_all HO'.out (by have := hd.out; rw [hj2] at this; simpa using this)
      have hu : unhexS s.data.toList = bytesTo s.data.toList j := by
        rw [unhexS, if_pos hk]; congr 1; simp; omega
      have hcv := conv_any (bytesTo_length _ _) hown
      have HK := Lib.hid hk
      have HU := Lib.hid hu
      clear hk hu hj2 hd
      go_wp2_with fail
      go_ret2
      rw [HK.out, HU.out]
      exact ⟨rfl, hbel⟩

set_option maxRecDepth 100000 in
theorem unhexR_any (s : ByteArray) (hs : s.size ≤ 1000) (w : World) :
    Calls Tryz.prog 161 #[.string s] w fun e w' => e = .returned (.tuple #[.string ⟨(unhexS s.data.toList).toArray⟩, .bool (unhexOk s.data.toList)]) ∧ Below w.heap.size w w' := by
  by_cases h : s.size % 2 = 0
  · exact unhexR_even s hs h w
  · exact unhexR_odd s hs h w
end Go.Proofs.YtdinachiiimngaaGreatDoor.Nu
namespace Go.Proofs.YtdinachiiimngaaGreatDoor

/-- Is n a code point? -/
def cpB (n : Nat) : Bool := decide (n < 55296) || (decide (57344 ≤ n) && decide (n ≤ 1114111))
theorem cp_iff (n : Nat) : cpB n = true ↔ n < 55296 ∨ (57344 ≤ n ∧ n ≤ 1114111) := by simp [cpB]
/-- Its encoding. -/
def encL (n : Nat) : List UInt8 :=
  if n < 128 then [UInt8.ofNat n]
  else if n < 2048 then [UInt8.ofNat (192 + n / 64), UInt8.ofNat (128 + n % 64)]
  else if n < 65536 then [UInt8.ofNat (224 + n / 4096), UInt8.ofNat (128 + n / 64 % 64), UInt8.ofNat (128 + n % 64)]
  else [UInt8.ofNat (240 + n / 262144), UInt8.ofNat (128 + n / 4096 % 64), UInt8.ofNat (128 + n / 64 % 64), UInt8.ofNat (128 + n % 64)]
/-- Does a byte continue an encoding? -/
def contB (b : UInt8) : Bool := decide (128 ≤ b.toNat) && decide (b.toNat < 192)
/-- The code point with whose encoding the bytes begin. -/
def firstS : List UInt8 → Option Nat
  | [] => none
  | b0 :: r =>
    if b0.toNat < 128 then some b0.toNat
    else if b0.toNat < 192 then none
    else if b0.toNat < 224 then match r with
      | b1 :: _ => if contB b1 && decide (128 ≤ (b0.toNat - 192) * 64 + (b1.toNat - 128)) then some ((b0.toNat - 192) * 64 + (b1.toNat - 128)) else none
      | [] => none
    else if b0.toNat < 240 then match r with
      | b1 :: b2 :: _ => if contB b1 && contB b2 && decide (2048 ≤ (b0.toNat - 224) * 4096 + (b1.toNat - 128) * 64 + (b2.toNat - 128)) && cpB ((b0.toNat - 224) * 4096 + (b1.toNat - 128) * 64 + (b2.toNat - 128)) then some ((b0.toNat - 224) * 4096 + (b1.toNat - 128) * 64 + (b2.toNat - 128)) else none
      | _ => none
    else if b0.toNat < 248 then match r with
      | b1 :: b2 :: b3 :: _ => if contB b1 && contB b2 && contB b3 && decide (65536 ≤ (b0.toNat - 240) * 262144 + (b1.toNat - 128) * 4096 + (b2.toNat - 128) * 64 + (b3.toNat - 128)) && cpB ((b0.toNat - 240) * 262144 + (b1.toNat - 128) * 4096 + (b2.toNat - 128) * 64 + (b3.toNat - 128)) then some ((b0.toNat - 240) * 262144 + (b1.toNat - 128) * 4096 + (b2.toNat - 128) * 64 + (b3.toNat - 128)) else none
      | _ => none
    else none

theorem byte_of {b : UInt8} {n : Nat} (h : n = b.toNat) : UInt8.ofNat n = b := by rw [h]; simp
theorem cont_iff (b : UInt8) : contB b = true ↔ 128 ≤ b.toNat ∧ b.toNat < 192 := by simp [contB]
/-- What is found is a code point, and the bytes begin with its encoding. -/
theorem first_some' {l : List UInt8} {n : Nat} (h : firstS l = some n) : cpB n = true ∧ ∃ t, l = encL n ++ t := by
  cases l with
  | nil => simp [firstS] at h
  | cons b0 r =>
    have h0 := b0.toNat_lt
    unfold firstS at h
    simp only at h
    by_cases c1 : b0.toNat < 128
    · rw [if_pos c1] at h
      injection h with h
      subst h
      refine ⟨(cp_iff _).2 (by omega), r, ?_⟩
      rw [encL, if_pos c1, byte_of rfl]; rfl
    · rw [if_neg c1] at h
      by_cases c2 : b0.toNat < 192
      · rw [if_pos c2] at h; cases h
      · rw [if_neg c2] at h
        by_cases c3 : b0.toNat < 224
        · rw [if_pos c3] at h
          cases r with
          | nil => cases h
          | cons b1 r =>
            have h1 := b1.toNat_lt
            simp only at h
            split at h
            · rename_i hc
              injection h with h
              simp only [Bool.and_eq_true, cont_iff, decide_eq_true_eq] at hc
              subst h
              refine ⟨(cp_iff _).2 (by omega), r, ?_⟩
              rw [encL, if_neg (by omega), if_pos (by omega), byte_of (b := b0) (by omega), byte_of (b := b1) (by omega)]; rfl
            · cases h
        · rw [if_neg c3] at h
          by_cases c4 : b0.toNat < 240
          · rw [if_pos c4] at h
            match r, h with
            | [], h => cases h
            | [_], h => cases h
            | b1 :: b2 :: r, h =>
              have h1 := b1.toNat_lt
              have h2 := b2.toNat_lt
              simp only at h
              split at h
              · rename_i hc
                injection h with h
                simp only [Bool.and_eq_true, cont_iff, decide_eq_true_eq] at hc
                obtain ⟨⟨⟨hc1, hc2⟩, hc3⟩, hc4⟩ := hc
                subst h
                refine ⟨hc4, r, ?_⟩
                rw [encL, if_neg (by omega), if_neg (by omega), if_pos (by omega), byte_of (b := b0) (by omega), byte_of (b := b1) (by omega), byte_of (b := b2) (by omega)]; rfl
              · cases h
          · rw [if_neg c4] at h
            by_cases c5 : b0.toNat < 248
            · rw [if_pos c5] at h
              match r, h with
              | [], h => cases h
              | [_], h => cases h
              | [_, _], h => cases h
              | b1 :: b2 :: b3 :: r, h =>
                have h1 := b1.toNat_lt
                have h2 := b2.toNat_lt
                have h3 := b3.toNat_lt
                simp only at h
                split at h
                · rename_i hc
                  injection h with h
                  simp only [Bool.and_eq_true, cont_iff, decide_eq_true_eq] at hc
                  obtain ⟨⟨⟨⟨hc1, hc2⟩, hc3⟩, hc4⟩, hc5⟩ := hc
                  subst h
                  refine ⟨hc5, r, ?_⟩
                  rw [encL, if_neg (by omega), if_neg (by omega), if_neg (by omega), byte_of (b := b0) (by omega), byte_of (b := b1) (by omega), byte_of (b := b2) (by omega), byte_of (b := b3) (by omega)]; rfl
                · cases h
            · rw [if_neg c5] at h; cases h
theorem nat_byte {n : Nat} (h : n < 256) : (UInt8.ofNat n).toNat = n := by rw [UInt8.toNat_ofNat']; omega
/-- A code point's encoding is found, whatever follows. -/
theorem first_enc {n : Nat} (h : cpB n = true) (t : List UInt8) : firstS (encL n ++ t) = some n := by
  have hc := (cp_iff n).1 h
  unfold encL
  by_cases c1 : n < 128
  · rw [if_pos c1, List.singleton_append]
    unfold firstS
    simp only
    rw [nat_byte (by omega), if_pos c1]
  · rw [if_neg c1]
    by_cases c2 : n < 2048
    · rw [if_pos c2]
      simp only [List.cons_append, List.nil_append]
      unfold firstS
      simp only
      rw [nat_byte (by omega), if_neg (by omega), if_neg (by omega), if_pos (by omega)]
      have e : (192 + n / 64 - 192) * 64 + ((UInt8.ofNat (128 + n % 64)).toNat - 128) = n := by rw [nat_byte (by omega)]; omega
      rw [e, if_pos]
      simp only [Bool.and_eq_true, cont_iff, decide_eq_true_eq]
      rw [nat_byte (by omega)]; omega
    · rw [if_neg c2]
      by_cases c3 : n < 65536
      · rw [if_pos c3]
        simp only [List.cons_append, List.nil_append]
        unfold firstS
        simp only
        rw [nat_byte (show 224 + n / 4096 < 256 by omega), if_neg (by omega), if_neg (by omega), if_neg (by omega), if_pos (by omega)]
        have e : (224 + n / 4096 - 224) * 4096 + ((UInt8.ofNat (128 + n / 64 % 64)).toNat - 128) * 64 + ((UInt8.ofNat (128 + n % 64)).toNat - 128) = n := by
          rw [nat_byte (by omega), nat_byte (by omega)]; omega
        rw [e, if_pos]
        simp only [Bool.and_eq_true, cont_iff, decide_eq_true_eq, h, and_true]
        rw [nat_byte (by omega), nat_byte (by omega)]; omega
      · rw [if_neg c3]
        simp only [List.cons_append, List.nil_append]
        unfold firstS
        simp only
        rw [nat_byte (show 240 + n / 262144 < 256 by omega), if_neg (by omega), if_neg (by omega), if_neg (by omega), if_neg (by omega), if_pos (by omega)]
        have e : (240 + n / 262144 - 240) * 262144 + ((UInt8.ofNat (128 + n / 4096 % 64)).toNat - 128) * 4096 + ((UInt8.ofNat (128 + n / 64 % 64)).toNat - 128) * 64 + ((UInt8.ofNat (128 + n % 64)).toNat - 128) = n := by
          rw [nat_byte (by omega), nat_byte (by omega), nat_byte (by omega)]; omega
        rw [e, if_pos]
        simp only [Bool.and_eq_true, cont_iff, decide_eq_true_eq, h, and_true]
        rw [nat_byte (by omega), nat_byte (by omega), nat_byte (by omega)]; omega
theorem enc_len (n : Nat) : 1 ≤ (encL n).length ∧ (encL n).length ≤ 4 := by
  unfold encL
  (repeat' split) <;> simp
theorem enc_ne (n : Nat) : encL n ≠ [] := fun h => by
  have := (enc_len n).1
  rw [h] at this
  simp at this

/-- Decoding from left to right, with fuel. -/
def runesF : Nat → List UInt8 → List Nat
  | 0, _ => []
  | _ + 1, [] => []
  | f + 1, b :: t => match firstS (b :: t) with
    | some n => n :: runesF f ((b :: t).drop (encL n).length)
    | none => 65533 :: runesF f t
def validF : Nat → List UInt8 → Bool
  | 0, _ => true
  | _ + 1, [] => true
  | f + 1, b :: t => match firstS (b :: t) with
    | some n => validF f ((b :: t).drop (encL n).length)
    | none => false
theorem runesF_more : ∀ (f : Nat) (l : List UInt8), l.length ≤ f → runesF f l = runesF l.length l := by
  intro f
  induction f using Nat.strongRecOn with
  | ind f ih =>
    intro l hl
    cases l with
    | nil => cases f <;> rfl
    | cons b t =>
      cases f with
      | zero => simp at hl
      | succ f =>
        simp only [List.length_cons, runesF]
        have hl2 : t.length ≤ f := by simpa using hl
        cases hf : firstS (b :: t) with
        | none => simp only; rw [ih f (by omega) t hl2]
        | some n =>
          simp only
          have hd : ((b :: t).drop (encL n).length).length ≤ t.length := by
            have := (enc_len n).1
            rw [List.length_drop, List.length_cons]; omega
          rw [ih f (by omega) _ (by omega)]
          by_cases e : t.length < f + 1
          · rw [ih t.length e _ hd]
          · omega
theorem validF_more : ∀ (f : Nat) (l : List UInt8), l.length ≤ f → validF f l = validF l.length l := by
  intro f
  induction f using Nat.strongRecOn with
  | ind f ih =>
    intro l hl
    cases l with
    | nil => cases f <;> rfl
    | cons b t =>
      cases f with
      | zero => simp at hl
      | succ f =>
        simp only [List.length_cons, validF]
        have hl2 : t.length ≤ f := by simpa using hl
        cases hf : firstS (b :: t) with
        | none => rfl
        | some n =>
          simp only
          have hd : ((b :: t).drop (encL n).length).length ≤ t.length := by
            have := (enc_len n).1
            rw [List.length_drop, List.length_cons]; omega
          rw [ih f (by omega) _ (by omega)]
          by_cases e : t.length < f + 1
          · rw [ih t.length e _ hd]
          · omega
def runesL (l : List UInt8) : List Nat := runesF l.length l
def validL (l : List UInt8) : Bool := validF l.length l
def repairL (l : List UInt8) : List UInt8 := (runesL l).flatMap encL
theorem runes_nil : runesL [] = [] := rfl
theorem valid_nil : validL [] = true := rfl
theorem runes_enc {n : Nat} (h : cpB n = true) (t : List UInt8) : runesL (encL n ++ t) = n :: runesL t := by
  unfold runesL
  have hf := first_enc h t
  cases e : encL n ++ t with
  | nil => exact absurd (List.append_eq_nil_iff.1 e).1 (enc_ne n)
  | cons b r =>
    rw [e] at hf
    simp only [List.length_cons, runesF, hf]
    rw [← e, List.drop_left]
    congr 1
    refine runesF_more _ _ ?_
    have := congrArg List.length e
    have h1 := (enc_len n).1
    rw [List.length_append, List.length_cons] at this
    omega
theorem runes_none {b : UInt8} {t : List UInt8} (h : firstS (b :: t) = none) : runesL (b :: t) = 65533 :: runesL t := by
  unfold runesL
  simp only [List.length_cons, runesF, h]
theorem valid_enc {n : Nat} (h : cpB n = true) (t : List UInt8) : validL (encL n ++ t) = validL t := by
  unfold validL
  have hf := first_enc h t
  cases e : encL n ++ t with
  | nil => exact absurd (List.append_eq_nil_iff.1 e).1 (enc_ne n)
  | cons b r =>
    rw [e] at hf
    simp only [List.length_cons, validF, hf]
    rw [← e, List.drop_left]
    refine validF_more _ _ ?_
    have := congrArg List.length e
    have h1 := (enc_len n).1
    rw [List.length_append, List.length_cons] at this
    omega
theorem valid_none {b : UInt8} {t : List UInt8} (h : firstS (b :: t) = none) : validL (b :: t) = false := by
  unfold validL
  simp only [List.length_cons, validF, h]
/-- Induction along the decoding. -/
theorem utf_ind {p : List UInt8 → Prop} (h0 : p []) (h1 : ∀ n t, cpB n = true → p t → p (encL n ++ t)) (h2 : ∀ b t, firstS (b :: t) = none → p t → p (b :: t)) : ∀ (k : Nat) (l : List UInt8), l.length ≤ k → p l := by
  intro k
  induction k with
  | zero =>
    intro l hl
    obtain rfl : l = [] := List.eq_nil_of_length_eq_zero (by omega)
    exact h0
  | succ k ih =>
    intro l hl
    cases l with
    | nil => exact h0
    | cons b t =>
      cases hf : firstS (b :: t) with
      | none => exact h2 b t hf (ih t (by simpa using hl))
      | some n =>
        obtain ⟨hc, r, hr⟩ := first_some' hf
        rw [hr]
        refine h1 n r hc (ih r ?_)
        have h3 := congrArg List.length hr
        have h4 := (enc_len n).1
        rw [List.length_append] at h3
        omega
theorem utf_all {p : List UInt8 → Prop} (h0 : p []) (h1 : ∀ n t, cpB n = true → p t → p (encL n ++ t)) (h2 : ∀ b t, firstS (b :: t) = none → p t → p (b :: t)) (l : List UInt8) : p l := utf_ind h0 h1 h2 l.length l (Nat.le_refl _)

theorem cp_bad : cpB 65533 = true := by decide
theorem runes_cp (l : List UInt8) : ∀ n ∈ runesL l, cpB n = true := by
  refine utf_all (p := fun l => ∀ n ∈ runesL l, cpB n = true) (by intro n h; simp [runes_nil] at h) ?_ ?_ l
  · intro m t hm ih n hn
    rw [runes_enc hm] at hn
    rcases List.mem_cons.1 hn with rfl | hn
    · exact hm
    · exact ih n hn
  · intro b t hf ih n hn
    rw [runes_none hf] at hn
    rcases List.mem_cons.1 hn with rfl | hn
    · exact cp_bad
    · exact ih n hn
/-- Encodings, joined, are read as what they encode, whatever follows. -/
theorem runes_flat : ∀ (ns : List Nat), (∀ n ∈ ns, cpB n = true) → ∀ t, runesL (ns.flatMap encL ++ t) = ns ++ runesL t
  | [], _, t => by simp
  | n :: ns, h, t => by
    rw [List.flatMap_cons, List.append_assoc, runes_enc (h n (by simp)), runes_flat ns (fun m hm => h m (by simp [hm]))]; rfl
theorem valid_flat : ∀ (ns : List Nat), (∀ n ∈ ns, cpB n = true) → ∀ t, validL (ns.flatMap encL ++ t) = validL t
  | [], _, t => by simp
  | n :: ns, h, t => by
    rw [List.flatMap_cons, List.append_assoc, valid_enc (h n (by simp)), valid_flat ns (fun m hm => h m (by simp [hm]))]
/-- What is repaired is read as before, also with more behind it. -/
theorem runes_repair (l t : List UInt8) : runesL (repairL l ++ t) = runesL l ++ runesL t := runes_flat _ (runes_cp l) t
theorem valid_repair (l t : List UInt8) : validL (repairL l ++ t) = validL t := valid_flat _ (runes_cp l) t
theorem runes_repair' (l : List UInt8) : runesL (repairL l) = runesL l := by
  have := runes_repair l []
  rw [List.append_nil, runes_nil, List.append_nil] at this
  exact this
theorem valid_repair' (l : List UInt8) : validL (repairL l) = true := by
  have := valid_repair l []
  rw [List.append_nil] at this
  exact this
theorem repair_repair (l t : List UInt8) : repairL (repairL l ++ t) = repairL l ++ repairL t := by
  unfold repairL
  rw [show runesL ((runesL l).flatMap encL ++ t) = runesL l ++ runesL t from runes_repair l t, List.flatMap_append]
theorem repair_fixed (l : List UInt8) : repairL (repairL l) = repairL l := by
  unfold repairL
  rw [show runesL ((runesL l).flatMap encL) = runesL l from runes_repair' l]
theorem repair_valid (l : List UInt8) : validL l = true → repairL l = l := by
  refine utf_all (p := fun l => validL l = true → repairL l = l) (fun _ => rfl) ?_ ?_ l
  · intro n t hn ih h
    rw [valid_enc hn] at h
    unfold repairL at ih ⊢
    rw [runes_enc hn, List.flatMap_cons, ih h]
  · intro b t hf _ h
    rw [valid_none hf] at h
    cases h
/-- A string is as its repair just if it is valid. -/
theorem repair_same (l : List UInt8) : repairL l = l ↔ validL l = true :=
  ⟨fun h => by rw [← h]; exact valid_repair' l, repair_valid l⟩
theorem runes_len (l : List UInt8) : (runesL l).length ≤ l.length ∧ l.length ≤ 4 * (runesL l).length := by
  refine utf_all (p := fun l => (runesL l).length ≤ l.length ∧ l.length ≤ 4 * (runesL l).length) (by simp [runes_nil]) ?_ ?_ l
  · intro n t hn ih
    have := enc_len n
    rw [runes_enc hn, List.length_append, List.length_cons]; omega
  · intro b t hf ih
    rw [runes_none hf, List.length_cons, List.length_cons]; omega
theorem enc_bad_len : (encL 65533).length = 3 := by decide
theorem repair_len (l : List UInt8) : (repairL l).length ≤ 3 * l.length := by
  refine utf_all (p := fun l => (repairL l).length ≤ 3 * l.length) (by simp [repairL, runes_nil]) ?_ ?_ l
  · intro n t hn ih
    unfold repairL at ih ⊢
    rw [runes_enc hn, List.flatMap_cons, List.length_append, List.length_append]
    omega
  · intro b t hf ih
    unfold repairL at ih ⊢
    rw [runes_none hf, List.flatMap_cons, List.length_append, enc_bad_len, List.length_cons]
    omega
/-- Each prefix of whole code points of a valid string is the string's, and valid. -/
theorem valid_prefix (l : List UInt8) (h : validL l = true) (k : Nat) : ((runesL l).take k).flatMap encL <+: l ∧ validL (((runesL l).take k).flatMap encL) = true := by
  refine ⟨?_, ?_⟩
  · have e := repair_valid l h
    unfold repairL at e
    conv => rhs; rw [← e]
    conv => rhs; rw [← List.take_append_drop k (runesL l), List.flatMap_append]
    exact List.prefix_append _ _
  · have := valid_flat ((runesL l).take k) (fun n hn => runes_cp l n (List.mem_of_mem_take hn)) []
    rw [List.append_nil] at this
    exact this
/-- One code point a byte: nothing is joined where each piece is an encoding. -/
theorem valid_all (ns : List Nat) (h : ∀ n ∈ ns, cpB n = true) : validL (ns.flatMap encL) = true ∧ runesL (ns.flatMap encL) = ns := by
  have h1 := valid_flat ns h []
  have h2 := runes_flat ns h []
  rw [List.append_nil] at h1 h2
  rw [runes_nil, List.append_nil] at h2
  exact ⟨h1, h2⟩
end Go.Proofs.YtdinachiiimngaaGreatDoor
namespace Go.Proofs.YtdinachiiimngaaGreatDoor

/-- The library's encoding of a code point. -/
theorem encR_eq {n : Nat} (h : cpB n = true) : Lib.encodeRune (n : Int) = encL n := by
  have hc := (cp_iff n).1 h
  unfold Lib.encodeRune encL
  by_cases c1 : n < 128
  · rw [Lib.encodeRuneZ_one (by omega) (by omega), if_pos c1]
    simp only [List.map_cons, List.map_nil]
    congr 1
  · rw [if_neg c1]
    by_cases c2 : n < 2048
    · rw [Lib.encodeRuneZ_two (by omega) (by omega), if_pos c2]
      simp only [List.map_cons, List.map_nil]
      rw [show ((192 : Int) + (n : Int) / 64).toNat = 192 + n / 64 by omega, show ((128 : Int) + (n : Int) % 64).toNat = 128 + n % 64 by omega]
    · rw [if_neg c2]
      by_cases c3 : n < 65536
      · rw [Lib.encodeRuneZ_three (by omega), if_pos c3]
        simp only [List.map_cons, List.map_nil]
        rw [show ((224 : Int) + (n : Int) / 4096).toNat = 224 + n / 4096 by omega, show ((128 : Int) + (n : Int) / 64 % 64).toNat = 128 + n / 64 % 64 by omega, show ((128 : Int) + (n : Int) % 64).toNat = 128 + n % 64 by omega]
      · rw [Lib.encodeRuneZ_four (by omega) (by omega), if_neg c3]
        simp only [List.map_cons, List.map_nil]
        rw [show ((240 : Int) + (n : Int) / 262144).toNat = 240 + n / 262144 by omega, show ((128 : Int) + (n : Int) / 4096 % 64).toNat = 128 + n / 4096 % 64 by omega, show ((128 : Int) + (n : Int) / 64 % 64).toNat = 128 + n / 64 % 64 by omega, show ((128 : Int) + (n : Int) % 64).toNat = 128 + n % 64 by omega]
/-- .. and of anything else. -/
theorem encR_bad {r : Int} (h : r < 0 ∨ (55296 ≤ r ∧ r ≤ 57343) ∨ 1114111 < r) : Lib.encodeRune r = encL 65533 := by
  unfold Lib.encodeRune
  rw [Lib.encodeRuneZ_bad h]
  decide

/-- What the decoder makes of an encoding. -/
theorem decode_enc {n : Nat} (h : cpB n = true) (t : List UInt8) : Lib.decodeL (encL n ++ t) = (n, (encL n).length) := by
  have hc := (cp_iff n).1 h
  rw [Lib.decodeL_N]
  unfold encL Lib.decodeN
  by_cases c1 : n < 128
  · rw [if_pos c1]
    simp only [List.cons_append, List.nil_append, List.getD_cons_zero, List.length_cons, List.length_nil]
    rw [nat_byte (show n < 256 by omega), if_pos c1]
  · rw [if_neg c1]
    by_cases c2 : n < 2048
    · rw [if_pos c2]
      simp only [List.cons_append, List.nil_append, List.getD_cons_zero, List.getD_cons_succ, List.length_cons, List.length_nil]
      rw [nat_byte (show 192 + n / 64 < 256 by omega), nat_byte (show 128 + n % 64 < 256 by omega), if_neg (by omega), if_pos (by omega), if_pos (by omega)]
      exact Prod.ext (by simp only; omega) rfl
    · rw [if_neg c2]
      by_cases c3 : n < 65536
      · rw [if_pos c3]
        simp only [List.cons_append, List.nil_append, List.getD_cons_zero, List.getD_cons_succ, List.length_cons, List.length_nil]
        rw [nat_byte (show 224 + n / 4096 < 256 by omega), nat_byte (show 128 + n / 64 % 64 < 256 by omega), nat_byte (show 128 + n % 64 < 256 by omega), if_neg (by omega), if_neg (by omega), if_pos (by omega), if_pos (by omega)]
        exact Prod.ext (by simp only; omega) rfl
      · rw [if_neg c3]
        simp only [List.cons_append, List.nil_append, List.getD_cons_zero, List.getD_cons_succ, List.length_cons, List.length_nil]
        rw [nat_byte (show 240 + n / 262144 < 256 by omega), nat_byte (show 128 + n / 4096 % 64 < 256 by omega), nat_byte (show 128 + n / 64 % 64 < 256 by omega), nat_byte (show 128 + n % 64 < 256 by omega), if_neg (by omega), if_neg (by omega), if_neg (by omega), if_pos (by omega), if_pos (by omega)]
        exact Prod.ext (by simp only; omega) rfl
theorem decode_cp (l : List UInt8) : cpB (Lib.decodeL l).1 = true := by
  rw [Lib.decodeL_N, cp_iff]
  have k0 := (l.getD 0 0).toNat_lt
  rcases Lib.decodeN_shape l.length (l.getD 0 0).toNat (l.getD 1 0).toNat (l.getD 2 0).toNat (l.getD 3 0).toNat with ⟨c, e⟩ | ⟨c1, c2, c3, cv, e⟩ | ⟨c1, c2, c3, c4, cv, cs, e⟩ | ⟨c1, c2, c3, c4, c5, cv, cw, e⟩ | e
  all_goals (rw [e]; dsimp only; omega)
/-- The decoder in the list's words. -/
theorem decode_none {l : List UInt8} (hne : l ≠ []) (h : firstS l = none) : Lib.decodeL l = (65533, 1) := by
  by_cases hv : (Lib.decodeL l).1 = 65533 ∧ (Lib.decodeL l).2 = 1
  · exact Prod.ext hv.1 hv.2
  · have he := Lib.encode_decode l hne hv
    rw [encR_eq (decode_cp l)] at he
    have := first_enc (decode_cp l) (l.drop (Lib.decodeL l).2)
    rw [he, List.take_append_drop, h] at this
    cases this
theorem decode_some {l : List UInt8} {n : Nat} (h : firstS l = some n) : Lib.decodeL l = (n, (encL n).length) := by
  obtain ⟨hc, t, rfl⟩ := first_some' h
  exact decode_enc hc t

/-- A step of the decoder. -/
theorem runes_step (l : List UInt8) (hne : l ≠ []) : runesL l = (Lib.decodeL l).1 :: runesL (l.drop (Lib.decodeL l).2) := by
  cases hf : firstS l with
  | none =>
    rw [decode_none hne hf]
    cases l with
    | nil => exact absurd rfl hne
    | cons b t => rw [runes_none hf]; rfl
  | some n =>
    obtain ⟨hc, t, rfl⟩ := first_some' hf
    rw [decode_enc hc t, runes_enc hc, List.drop_left]
theorem runes_at (s : ByteArray) (pos : Nat) (h : pos < s.size) : runesL (s.data.toList.drop pos) = (Utf8.decode s pos).1 :: runesL (s.data.toList.drop (pos + (Utf8.decode s pos).2)) := by
  have hne : s.data.toList.drop pos ≠ [] := by
    intro e
    have := congrArg List.length e
    rw [List.length_drop, Array.length_toList] at this
    simp only [List.length_nil] at this
    have : s.size = s.data.size := rfl
    omega
  rw [runes_step _ hne, Lib.decodeL_drop, List.drop_drop]
theorem runes_over (s : ByteArray) (pos : Nat) (h : ¬ pos < s.size) : runesL (s.data.toList.drop pos) = [] := by
  rw [List.drop_eq_nil_of_le]
  · rfl
  · rw [Array.length_toList]
    have : s.size = s.data.size := rfl
    omega
theorem width_at (s : ByteArray) (pos : Nat) (h : pos < s.size) : 1 ≤ (Utf8.decode s pos).2 ∧ pos + (Utf8.decode s pos).2 ≤ s.size := by
  have hne : s.data.toList.drop pos ≠ [] := by
    intro e
    have := congrArg List.length e
    rw [List.length_drop, Array.length_toList] at this
    simp only [List.length_nil] at this
    have : s.size = s.data.size := rfl
    omega
  refine ⟨Lib.width_pos s pos, ?_⟩
  have := Lib.decodeL_le _ hne
  rw [Lib.decodeL_drop, List.length_drop, Array.length_toList] at this
  have e : s.size = s.data.size := rfl
  omega
/-- The library's count of code points. -/
theorem count_from (s : ByteArray) : ∀ (fuel pos : Nat), s.size ≤ pos + fuel → Lib.runeCountFrom s fuel pos = (runesL (s.data.toList.drop pos)).length
  | 0, pos, h => by rw [runes_over s pos (by omega)]; rfl
  | f + 1, pos, h => by
    by_cases hp : pos < s.size
    · rw [runes_at s pos hp]
      have := width_at s pos hp
      rw [Lib.runeCountFrom, if_pos hp, count_from s f _ (by omega), List.length_cons]
      omega
    · rw [runes_over s pos hp, Lib.runeCountFrom, if_neg hp]; rfl
theorem count_eq (s : ByteArray) : Lib.runeCount s = (runesL s.data.toList).length := by
  have := count_from s s.size 0 (by omega)
  rw [List.drop_zero] at this
  exact this
/-- The library's validity. -/
theorem valid_eq (l : List UInt8) : Lib.validD l = validL l := by
  refine utf_all (p := fun l => Lib.validD l = validL l) rfl ?_ ?_ l
  · intro n t hn ih
    rw [Lib.validD_step _ (fun e => enc_ne n (List.append_eq_nil_iff.1 e).1), decode_enc hn, valid_enc hn, if_neg, List.drop_left, ih]
    rintro ⟨e1, e2⟩
    simp only at e1 e2
    rw [e1, enc_bad_len] at e2
    omega
  · intro b t hf _
    rw [Lib.validD_step _ (by simp), decode_none (by simp) hf, valid_none hf]
    simp
/-- ASCII letters in lower case, by code points and by bytes. -/
def lowZ (r : Int) : Int := if 65 ≤ r ∧ r ≤ 90 then r + 32 else r
def lowB (b : UInt8) : UInt8 := if 65 ≤ b.toNat ∧ b.toNat ≤ 90 then UInt8.ofNat (b.toNat + 32) else b
theorem mapD_step (f : Int → Int) (l : List UInt8) (hne : l ≠ []) (h0 : 0 ≤ f (Lib.decodeL l).1) : Lib.mapD f l = Lib.encodeRune (f (Lib.decodeL l).1) ++ Lib.mapD f (l.drop (Lib.decodeL l).2) := by
  have hl : 0 < l.length := List.length_pos_iff.2 hne
  have hw := Lib.decodeL_width l
  obtain ⟨k, hk⟩ : ∃ k, l.length = k + 1 := ⟨l.length - 1, by omega⟩
  unfold Lib.mapD
  rw [hk, Lib.mapGoD, if_neg hne, if_pos h0]
  congr 1
  exact Lib.mapGoD_fuel f _ _ _ (by rw [List.length_drop]; omega) (Nat.le_refl _)
theorem enc_high {n : Nat} (h : 128 ≤ n) (hc : cpB n = true) : ∃ b r, encL n = b :: r ∧ 128 ≤ b.toNat := by
  have hcp := (cp_iff n).1 hc
  unfold encL
  rw [if_neg (by omega)]
  by_cases c2 : n < 2048
  · rw [if_pos c2]; exact ⟨_, _, rfl, by rw [nat_byte (by omega)]; omega⟩
  · rw [if_neg c2]
    by_cases c3 : n < 65536
    · rw [if_pos c3]; exact ⟨_, _, rfl, by rw [nat_byte (by omega)]; omega⟩
    · rw [if_neg c3]; exact ⟨_, _, rfl, by rw [nat_byte (by omega)]; omega⟩
theorem lowB_high {b : UInt8} (h : 128 ≤ b.toNat) : lowB b = b := by
  unfold lowB
  rw [if_neg (by omega)]
theorem low_two (l : List UInt8) : Lib.mapD lowZ l = l.map lowB ∨ ((∃ b ∈ Lib.mapD lowZ l, 128 ≤ b.toNat) ∧ (∃ b ∈ l.map lowB, 128 ≤ b.toNat)) := by
  refine utf_all (p := fun l => Lib.mapD lowZ l = l.map lowB ∨ ((∃ b ∈ Lib.mapD lowZ l, 128 ≤ b.toNat) ∧ (∃ b ∈ l.map lowB, 128 ≤ b.toNat))) (.inl rfl) ?_ ?_ l
  · intro n t hn ih
    have hne : encL n ++ t ≠ [] := fun e => enc_ne n (List.append_eq_nil_iff.1 e).1
    have h0 : 0 ≤ lowZ (Lib.decodeL (encL n ++ t)).1 := by unfold lowZ; split <;> omega
    rw [mapD_step lowZ _ hne h0, decode_enc hn, List.drop_left, List.map_append]
    simp only
    by_cases c : n < 128
    · have e : Lib.encodeRune (lowZ n) = (encL n).map lowB := by
        unfold encL
        rw [if_pos c, List.map_singleton]
        unfold lowZ lowB
        rw [nat_byte (by omega)]
        by_cases ca : 65 ≤ n ∧ n ≤ 90
        · rw [if_pos (by omega), if_pos ca, show (n : Int) + 32 = ((n + 32 : Nat) : Int) by omega, encR_eq ((cp_iff _).2 (by omega)), encL, if_pos (by omega)]
        · rw [if_neg (by omega), if_neg ca, encR_eq hn, encL, if_pos c]
      rw [e]
      rcases ih with ih | ⟨⟨b, hb, hb2⟩, d, hd, hd2⟩
      · exact .inl (by rw [ih])
      · exact .inr ⟨⟨b, List.mem_append_right _ hb, hb2⟩, d, List.mem_append_right _ hd, hd2⟩
    · obtain ⟨b, r, he, hb⟩ := enc_high (by omega) hn
      refine .inr ⟨⟨b, List.mem_append_left _ ?_, hb⟩, b, List.mem_append_left _ ?_, hb⟩
      · rw [show lowZ n = (n : Int) by unfold lowZ; rw [if_neg (by omega)], encR_eq hn, he]; simp
      · rw [he, List.map_cons, lowB_high hb]; simp
  · intro b t hf ih
    have h0 : 0 ≤ lowZ (Lib.decodeL (b :: t)).1 := by unfold lowZ; split <;> omega
    rw [mapD_step lowZ _ (by simp) h0, decode_none (by simp) hf]
    have hb : 128 ≤ b.toNat := by
      rcases Nat.lt_or_ge b.toNat 128 with h | h
      · unfold firstS at hf; simp only at hf; rw [if_pos h] at hf; cases hf
      · exact h
    refine .inr ⟨⟨239, List.mem_append_left _ ?_, by decide⟩, b, ?_, hb⟩
    · simp only; decide
    · rw [List.map_cons, lowB_high hb]; simp
/-- What is all ASCII comes out of either lowering at once. -/
theorem low_same (l key : List UInt8) (hk : ∀ b ∈ key, b.toNat < 128) : Lib.mapD lowZ l = key ↔ l.map lowB = key := by
  rcases low_two l with h | ⟨⟨b, hb, hb2⟩, d, hd, hd2⟩
  · rw [h]
  · constructor
    · intro e; rw [e] at hb; have := hk b hb; omega
    · intro e; rw [e] at hd; have := hk d hd; omega
end Go.Proofs.YtdinachiiimngaaGreatDoor
