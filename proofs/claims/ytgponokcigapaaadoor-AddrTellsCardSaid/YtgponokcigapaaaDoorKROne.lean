/- The reference's One: the address of a piece. -/
import Derived.Test.YtgponokcigapaaaDoorKRSpec
import Derived.Test.YtgponokcigapaaaDoorK4
namespace Go.Proofs.YtgponokcigapaaaDoor
open Go.ChangeShapes Go.WideShapes Go.ChangeAt Go.RowKit
open TokP AdrP

/-- What the reference's One answers. -/
def ROn (R : Option Adr) (w : World) (e : Ending) (w' : World) : Prop := ∃ N L D : ByteArray, e = .returned (.tuple #[.agg #[.string N, .string L, .string D], .bool R.isSome]) ∧ (∀ q, R = some q → q = ⟨N.data.toList, L.data.toList, D.data.toList⟩) ∧ Below w.heap.size w w'
theorem ron_mk {R : Option Adr} {w w' : World} (N L D : ByteArray) {b : Bool} (hb : b = R.isSome) (hq : ∀ q, R = some q → q = ⟨N.data.toList, L.data.toList, D.data.toList⟩) (h : Below w.heap.size w w') : ROn R w (.returned (.tuple #[.agg #[.string N, .string L, .string D], .bool b])) w' := ⟨N, L, D, by rw [hb], hq, h⟩
theorem ron_named {RS R : Option Adr} {NL L D : List UInt8} (hR : RS.map (fun a => { a with name := NL }) = R) (h : ∀ q, RS = some q → q = ⟨[], L, D⟩) : RS.isSome = R.isSome ∧ ∀ q, R = some q → q = ⟨NL, L, D⟩ := by
  subst hR
  cases RS with
  | none => exact ⟨rfl, fun q hq => absurd hq (by simp)⟩
  | some a =>
    obtain rfl := h a rfl
    exact ⟨rfl, fun q hq => by rw [← Option.some.inj hq]⟩
theorem routed_no {M : List Tok} (h : ∀ t, M[0]? = some t → isS t 64 = false) : routed M = M := by
  unfold routed
  cases M with
  | nil => rfl
  | cons t r => dsimp only; rw [if_neg (by rw [h t rfl]; exact Bool.false_ne_true)]
theorem routed_dry {M : List Tok} (h : fromS 58 M = []) : routed M = M := by
  unfold routed
  cases M with
  | nil => rfl
  | cons t r =>
    dsimp only
    rw [h]
    split <;> rfl
theorem routed_wet {M : List Tok} {t x : Tok} {d : List Tok} (hM : M[0]? = some t) (ht : isS t 64 = true) (hf : fromS 58 M = x :: d) : routed M = d := by
  unfold routed
  cases M with
  | nil => exact absurd hM (by simp)
  | cons u r =>
    obtain rfl : u = t := by simpa using hM
    dsimp only
    rw [if_pos ht, hf]
theorem from_at {c : UInt8} {M : List Tok} {q : Nat} {x : Tok} (hq : M[q]? = some x) (hx : isS x c = true) (h : ∀ i, i < q → ∀ u, M[i]? = some u → isS u c = false) : fromS c M = x :: M.drop (q + 1) := by
  rw [from_drop, find_hit hq hx h]
  obtain ⟨h1, h2⟩ := List.getElem?_eq_some_iff.1 hq
  rw [← h2, ← List.drop_eq_getElem_cons h1]
theorem mid_at (l : List Tok) (p k q : Nat) (h : p + q < k) : ((l.take k).drop p)[q]? = l[p + q]? := by
  rw [List.getElem?_drop, List.getElem?_take, if_pos h]
theorem mid_end (l : List Tok) (p k q : Nat) (h : k ≤ p + q) : ((l.take k).drop p)[q]? = none := by
  rw [List.getElem?_drop, List.getElem?_take, if_neg (by omega)]
/-- Where the last piece of an address begins, looked for from its end. -/
def FromAt (l : List Tok) (i k m f : Nat) : Prop := (f = i + 1 ∧ ∀ q u, m < q → q < k → l[q]? = some u → isS u 58 = false) ∨ ∃ j x, m < j ∧ j < k ∧ f = j + 1 ∧ l[j]? = some x ∧ isS x 58 = true ∧ ∀ q u, m < q → q < j → l[q]? = some u → isS u 58 = false
theorem FromAt.le {l : List Tok} {i k m f : Nat} (h : FromAt l i k m f) (hik : i < k) (him : i ≤ m) : f ≤ k ∧ i < f := by
  rcases h with ⟨rfl, _⟩ | ⟨j, _, h1, h2, rfl, _⟩
  · omega
  · omega
theorem FromAt.routed {l : List Tok} {i k f : Nat} (h : FromAt l i k i f) {t : Tok} (ht : l[i + 1]? = some t) (h64 : isS t 64 = true) (hk : i + 1 < k) : routed ((l.take k).drop (i + 1)) = (l.take k).drop f := by
  rcases h with ⟨rfl, h⟩ | ⟨j, x, h1, h2, rfl, hx, hc, h⟩
  · refine routed_dry ?_
    rw [from_drop, find_no (fun q u hu => ?_), List.drop_length]
    by_cases hq : i + 1 + q < k
    · rw [mid_at l (i + 1) k q hq] at hu
      exact h _ u (by omega) hq hu
    · rw [mid_end l (i + 1) k q (by omega)] at hu
      exact absurd hu (by simp)
  · obtain ⟨q, rfl⟩ : ∃ q, j = i + 1 + q := ⟨j - (i + 1), by omega⟩
    have hf := from_at (M := (l.take k).drop (i + 1)) (q := q) (c := 58) (by rw [mid_at l (i + 1) k q h2]; exact hx) hc (fun p hp u hu => by
      rw [mid_at l (i + 1) k p (by omega)] at hu
      exact h _ u (by omega) (by omega) hu)
    rw [routed_wet (by rw [mid_at l (i + 1) k 0 (by omega)]; exact ht) h64 hf, List.drop_drop]
    congr 1
theorem FromAt.hit {l : List Tok} {i k m f : Nat} (_h : FromAt l i k (m + 1) f) {x : Tok} (hx : l[m + 1]? = some x) (hc : isS x 58 = true) (hk : m + 1 < k) : FromAt l i k m (m + 1 + 1) :=
  .inr ⟨m + 1, x, by omega, hk, rfl, hx, hc, fun q u h1 h2 => by omega⟩
theorem FromAt.miss {l : List Tok} {i k m f : Nat} (h : FromAt l i k (m + 1) f) {x : Tok} (hx : l[m + 1]? = some x) (hc : isS x 58 = false) : FromAt l i k m f := by
  have hone : ∀ u, l[m + 1]? = some u → isS u 58 = false := fun u hu => by rw [hx] at hu; rw [← Option.some.inj hu]; exact hc
  rcases h with ⟨rfl, h⟩ | ⟨j, y, h1, h2, rfl, hy, hcy, h⟩
  · exact .inl ⟨rfl, fun q u h1 h2 hu => by
      rcases (show q = m + 1 ∨ m + 1 < q by omega) with rfl | h3
      · exact hone u hu
      · exact h q u h3 h2 hu⟩
  · exact .inr ⟨j, y, by omega, h2, rfl, hy, hcy, fun q u h3 h4 hu => by
      rcases (show q = m + 1 ∨ m + 1 < q by omega) with rfl | h5
      · exact hone u hu
      · exact h q u h5 h4 hu⟩
set_option maxRecDepth 100000 in
set_option maxHeartbeats 8000000 in
theorem rone_p (v : Value) (l : List Tok) (hm : Mod l) (R : Option Adr) (hR : oneT l = R) (w : World) (h : Hid (HasT w v l)) :
    Calls Tryd.prog 30 #[v] w fun e w' => ROn R w e w' := by
  have HB := Lib.hid (below_box w (.cells #[.string ⟨#[]⟩, .string ⟨#[]⟩, .string ⟨#[]⟩] 34))
  have HX := Lib.hid (bx_new w ⟨#[]⟩ ⟨#[]⟩ ⟨#[]⟩)
  have HV := Lib.hid h.out
  obtain ⟨a, cp, rfl, _, hf0⟩ := h.out
  obtain ⟨n, hnn⟩ : ∃ n, l.length = n := ⟨_, rfl⟩
  have hn : n ≤ 1000000 := hnn ▸ hm.1
  rw [hnn] at hf0 HV ⊢
  have HN := Lib.hid hnn
  have H := Lib.hid hf0
  have HM := Lib.hid hm
  have HR := Lib.hid hR
  clear hnn hf0 h hm hR
  go_enter Tryd.func30, Tryd.ntmps30
  go_wp2_with fail
  go_loopw [4] (fun x wr => ∃ k : Nat, k ≤ n ∧ x = .int .i64 k ∧ Hid (Below w.heap.size w wr) ∧ Hid (Bx wr w.heap.size ⟨#[]⟩ ⟨#[]⟩ ⟨#[]⟩) ∧ Hid (∀ (i : Nat) (u : Tok), i < k → l[i]? = some u → isS u 60 = false)) (fun x _ => n - (intOf x).toNat)
  case atStart => exact ⟨0, Nat.zero_le _, rfl, HB, HX, fun i _ hi => absurd hi (Nat.not_lt_zero _)⟩
  case round =>
    obtain ⟨i, hi, rfl, HB1, HX1, HF⟩ := hrel
    have F1 : IntKind.i64.wrap ((i : Int) + 1) = (i : Int) + 1 := by rw [IntKind.wrap_i64]; omega
    by_cases hlt : i < n
    · have hlt' : (i : Int) < (n : Int) := by omega
      obtain ⟨g, o, rfl, hfa⟩ := H.out.at (by omega)
      obtain ⟨t, ht⟩ : ∃ t, l[i]? = some t := ⟨_, List.getElem?_eq_getElem (by rw [HN.out]; exact hlt)⟩
      obtain ⟨k0, k1⟩ := hfa.step HB1.out i t ht
      have HFA := Lib.hid hfa
      clear hfa
      cases h60 : isS t 60 with
      | false =>
        have cI := fun W => ris_tok t 60 false h60 W
        have HF2 := Lib.hid (fun (p : Nat) (u : Tok) (hp : p < i + 1) (hu : l[p]? = some u) => show isS u 60 = false by
          rcases (show p < i ∨ p = i by omega) with h | rfl
          · exact HF.out p u h hu
          · rw [ht] at hu; rw [← Option.some.inj hu]; exact h60)
        generalize strL t.text = X at k1 cI
        generalize ((t.kind : Nat) : Int) = K at k0 cI
        clear h60 ht HFA HF HR HV
        go_wp2_with (go_at_call 51; (with_reducible refine (cI _).mono ?_); rintro e w2 ⟨rfl, hb2⟩; have HB2 := Lib.hid (HB1.out.trans (hb2.mono HB1.out.size)); have HX2 := Lib.hid (HX1.out.step hb2); clear hb2)
        go_roundw
        case rel => exact ⟨i + 1, by omega, by go_num, HB2, HX2, HF2⟩
        case measure => simp [intOf]; omega
      | true =>
        have hin : ((i : Int) == (n : Int)) = false := beq_eq_false_iff_ne.2 (by omega)
        have cI := fun W => ris_tok t 60 true h60 W
        have hfN : findN 60 l = i := find_hit ht h60 (fun p hp u hu => HF.out p u hp hu)
        have hup : upToS 60 l = l.take i := by rw [up_take, hfN]
        have hfr : fromS 60 l = t :: l.drop (i + 1) := from_at ht h60 (fun p hp u hu => HF.out p u hp hu)
        have hR := HR.out
        rw [one_open hfr, hup] at hR
        replace HR := Lib.hid hR
        have HT0 := Lib.hid (show l[i]? = some t ∧ isS t 60 = true from ⟨ht, h60⟩)
        generalize strL t.text = X at k1 cI
        generalize ((t.kind : Nat) : Int) = K at k0 cI
        clear hR hup hfr hfN HF h60 ht
        go_wp2_with (go_at_call 51; (with_reducible refine (cI _).mono ?_); rintro e w2 ⟨rfl, hb2⟩; have HB2 := Lib.hid (HB1.out.trans (hb2.mono HB1.out.size)); have HX2 := Lib.hid (HX1.out.step hb2); clear hb2)
        clear k0 k1 HB1 HX1
        go_loopw [5, 6] (fun nm x wr => ∃ (j : Nat) (NM : ByteArray), j ≤ i ∧ nm = .string NM ∧ x = .int .i64 j ∧ NM.size ≤ j * 1000001 ∧ Hid (nameL (l.take j) = NM.data.toList) ∧ Hid ((l.take j).all nameT = true) ∧ Hid (Below w.heap.size w wr) ∧ Hid (Bx wr w.heap.size ⟨#[]⟩ ⟨#[]⟩ ⟨#[]⟩)) (fun _ x _ => i - (intOf x).toNat)
        case atStart => exact ⟨0, ⟨#[]⟩, Nat.zero_le _, rfl, rfl, Nat.zero_le _, rfl, rfl, HB2, HX2⟩
        case round =>
          obtain ⟨j, NM, hj, rfl, rfl, hNz, HN1, HA, HB3, HX3⟩ := hrel
          have G1 : IntKind.i64.wrap ((j : Int) + 1) = (j : Int) + 1 := by rw [IntKind.wrap_i64]; omega
          by_cases hjl : j < i
          · have hjl' : (j : Int) < (i : Int) := by omega
            have hjn' : (j : Int) < (n : Int) := by omega
            obtain ⟨u, hu⟩ : ∃ u, l[j]? = some u := ⟨_, List.getElem?_eq_getElem (by rw [HN.out]; omega)⟩
            obtain ⟨q0, q1⟩ := HFA.out.step HB3.out j u hu
            have htl : u.text.length ≤ 1000000 := HM.out.2 u (List.mem_of_getElem? hu)
            have cV := rtok_value u htl
            have hvl := value_le u
            have hsv : (strL (valueL u)).size ≤ 1000000 := by rw [strL_size]; omega
            have hz1 : NM.size + (strL (valueL u)).size ≤ 100000000000000 := by omega
            have hz0 : NM.size + 1 ≤ 100000000000000 := by omega
            have hz2 : (NM ++ (⟨#[32]⟩ : ByteArray)).size = NM.size + 1 := by rw [ByteArray.size_append]; rfl
            have hz3 : NM.size + 1 + (strL (valueL u)).size ≤ 100000000000000 := by omega
            have HS := Lib.hid (strL_list (valueL u))
            have HL0 := Lib.hid (show (NM ++ strL (valueL u)).size ≤ (j + 1) * 1000001 by rw [ByteArray.size_append]; omega)
            have HL1 := Lib.hid (show ((NM ++ (⟨#[32]⟩ : ByteArray)) ++ strL (valueL u)).size ≤ (j + 1) * 1000001 by rw [ByteArray.size_append, hz2]; omega)
            cases h46 : isS u 46 with
            | true =>
              have cI := fun W => ris_tok u 46 true h46 W
              have h4 : u.kind = 4 := by rw [(isS_iff u 46).1 h46]
              have e1 : (((u.kind : Nat) : Int) != 1) = true := by rw [bne_iff_ne]; omega
              have e2 : (((u.kind : Nat) : Int) != 2) = true := by rw [bne_iff_ne]; omega
              have hok : nameT u = true := by unfold nameT; rw [h46, Bool.or_true]
              have HA2 := Lib.hid (names_take hu HA.out hok)
              clear h4
              by_cases hj0 : j = 0
              · have gj : ¬ (0 : Int) < (j : Int) := by omega
                have HN2 := Lib.hid (show nameL (l.take (j + 1)) = (NM ++ strL (valueL u)).data.toList by rw [hj0, name_step0 (by rw [← hj0]; exact hu), list_append, HS.out, ← HN1.out, hj0]; rfl)
                generalize strL (valueL u) = S at cV hsv hz1 hz3 HS HL0 HL1 HN2
                generalize strL u.text = X at q1 cV cI
                generalize ((u.kind : Nat) : Int) = K at q0 cV cI e1 e2
                clear hu htl hvl h46 HN1 HA HR HV hj0 hok
                go_wp2_with (first
                  | (go_at_call 51; (with_reducible refine (cI _).mono ?_); rintro e w4 ⟨rfl, hb4⟩; have HB4 := Lib.hid (HB3.out.trans (hb4.mono HB3.out.size)); have HX4 := Lib.hid (HX3.out.step hb4); have q0b := cell_below q0 hb4; have q1b := cell_below q1 hb4; clear hb4 cI)
                  | (go_at_call 53; (with_reducible refine (cV _).mono ?_); rintro e w5 ⟨rfl, hb5⟩; have HB5 := Lib.hid (HB4.out.trans (hb5.mono HB4.out.size)); have HX5 := Lib.hid (HX4.out.step hb5); clear hb5 cV))
                go_roundw
                case rel => exact ⟨j + 1, _, by omega, rfl, by go_num, HL0.out, HN2, HA2, HB5, HX5⟩
                case measure => simp [intOf]; omega
              · have gj : (0 : Int) < (j : Int) := by omega
                have HN2 := Lib.hid (show nameL (l.take (j + 1)) = (NM ++ strL (valueL u)).data.toList by rw [name_step hu hj0, list_append, HS.out, HN1.out]; unfold sepL; rw [if_pos h46]; rfl)
                generalize strL (valueL u) = S at cV hsv hz1 hz3 HS HL0 HL1 HN2
                generalize strL u.text = X at q1 cV cI
                generalize ((u.kind : Nat) : Int) = K at q0 cV cI e1 e2
                clear hu htl hvl h46 HN1 HA HR HV hj0 hok
                go_wp2_with (first
                  | (go_at_call 51; (with_reducible refine (cI _).mono ?_); rintro e w4 ⟨rfl, hb4⟩; have HB4 := Lib.hid (HB3.out.trans (hb4.mono HB3.out.size)); have HX4 := Lib.hid (HX3.out.step hb4); have q0b := cell_below q0 hb4; have q1b := cell_below q1 hb4; clear hb4 cI)
                  | (go_at_call 53; (with_reducible refine (cV _).mono ?_); rintro e w5 ⟨rfl, hb5⟩; have HB5 := Lib.hid (HB4.out.trans (hb5.mono HB4.out.size)); have HX5 := Lib.hid (HX4.out.step hb5); clear hb5 cV))
                go_roundw
                case rel => exact ⟨j + 1, _, by omega, rfl, by go_num, HL0.out, HN2, HA2, HB5, HX5⟩
                case measure => simp [intOf]; omega
            | false =>
              have cI := fun W => ris_tok u 46 false h46 W
              by_cases h1 : u.kind = 1
              · have e1 : (((u.kind : Nat) : Int) != 1) = false := by rw [bne, beq_iff_eq.2 (by omega)]; rfl
                have e2 : (((u.kind : Nat) : Int) != 2) = true := by rw [bne_iff_ne]; omega
                have hok : nameT u = true := by unfold nameT wordT; rw [h1]; rfl
                have HA2 := Lib.hid (names_take hu HA.out hok)
                clear h1
                by_cases hj0 : j = 0
                · have gj : ¬ (0 : Int) < (j : Int) := by omega
                  have HN2 := Lib.hid (show nameL (l.take (j + 1)) = (NM ++ strL (valueL u)).data.toList by rw [hj0, name_step0 (by rw [← hj0]; exact hu), list_append, HS.out, ← HN1.out, hj0]; rfl)
                  generalize strL (valueL u) = S at cV hsv hz1 hz3 HS HL0 HL1 HN2
                  generalize strL u.text = X at q1 cV cI
                  generalize ((u.kind : Nat) : Int) = K at q0 cV cI e1 e2
                  clear hu htl hvl h46 HN1 HA HR HV hj0 hok
                  go_wp2_with (first
                    | (go_at_call 51; (with_reducible refine (cI _).mono ?_); rintro e w4 ⟨rfl, hb4⟩; have HB4 := Lib.hid (HB3.out.trans (hb4.mono HB3.out.size)); have HX4 := Lib.hid (HX3.out.step hb4); have q0b := cell_below q0 hb4; have q1b := cell_below q1 hb4; clear hb4 cI)
                    | (go_at_call 53; (with_reducible refine (cV _).mono ?_); rintro e w5 ⟨rfl, hb5⟩; have HB5 := Lib.hid (HB4.out.trans (hb5.mono HB4.out.size)); have HX5 := Lib.hid (HX4.out.step hb5); clear hb5 cV))
                  go_roundw
                  case rel => exact ⟨j + 1, _, by omega, rfl, by go_num, HL0.out, HN2, HA2, HB5, HX5⟩
                  case measure => simp [intOf]; omega
                · have gj : (0 : Int) < (j : Int) := by omega
                  have HN2 := Lib.hid (show nameL (l.take (j + 1)) = ((NM ++ (⟨#[32]⟩ : ByteArray)) ++ strL (valueL u)).data.toList by rw [name_step hu hj0, list_append, list_append, HS.out, HN1.out]; unfold sepL; rw [if_neg (by rw [h46]; exact Bool.false_ne_true)]; simp)
                  generalize strL (valueL u) = S at cV hsv hz1 hz3 HS HL0 HL1 HN2
                  generalize strL u.text = X at q1 cV cI
                  generalize ((u.kind : Nat) : Int) = K at q0 cV cI e1 e2
                  clear hu htl hvl h46 HN1 HA HR HV hj0 hok
                  go_wp2_with (first
                    | (go_at_call 51; (with_reducible refine (cI _).mono ?_); rintro e w4 ⟨rfl, hb4⟩; have HB4 := Lib.hid (HB3.out.trans (hb4.mono HB3.out.size)); have HX4 := Lib.hid (HX3.out.step hb4); have q0b := cell_below q0 hb4; have q1b := cell_below q1 hb4; clear hb4 cI)
                    | (go_at_call 53; (with_reducible refine (cV _).mono ?_); rintro e w5 ⟨rfl, hb5⟩; have HB5 := Lib.hid (HB4.out.trans (hb5.mono HB4.out.size)); have HX5 := Lib.hid (HX4.out.step hb5); clear hb5 cV))
                  go_roundw
                  case rel => exact ⟨j + 1, _, by omega, rfl, by go_num, HL1.out, HN2, HA2, HB5, HX5⟩
                  case measure => simp [intOf]; omega
              · by_cases h2 : u.kind = 2
                · have e1 : (((u.kind : Nat) : Int) != 1) = true := by rw [bne_iff_ne]; omega
                  have e2 : (((u.kind : Nat) : Int) != 2) = false := by rw [bne, beq_iff_eq.2 (by omega)]; rfl
                  have hok : nameT u = true := by unfold nameT wordT; rw [h2]; rfl
                  have HA2 := Lib.hid (names_take hu HA.out hok)
                  clear h1 h2
                  by_cases hj0 : j = 0
                  · have gj : ¬ (0 : Int) < (j : Int) := by omega
                    have HN2 := Lib.hid (show nameL (l.take (j + 1)) = (NM ++ strL (valueL u)).data.toList by rw [hj0, name_step0 (by rw [← hj0]; exact hu), list_append, HS.out, ← HN1.out, hj0]; rfl)
                    generalize strL (valueL u) = S at cV hsv hz1 hz3 HS HL0 HL1 HN2
                    generalize strL u.text = X at q1 cV cI
                    generalize ((u.kind : Nat) : Int) = K at q0 cV cI e1 e2
                    clear hu htl hvl h46 HN1 HA HR HV hj0 hok
                    go_wp2_with (first
                      | (go_at_call 51; (with_reducible refine (cI _).mono ?_); rintro e w4 ⟨rfl, hb4⟩; have HB4 := Lib.hid (HB3.out.trans (hb4.mono HB3.out.size)); have HX4 := Lib.hid (HX3.out.step hb4); have q0b := cell_below q0 hb4; have q1b := cell_below q1 hb4; clear hb4 cI)
                      | (go_at_call 53; (with_reducible refine (cV _).mono ?_); rintro e w5 ⟨rfl, hb5⟩; have HB5 := Lib.hid (HB4.out.trans (hb5.mono HB4.out.size)); have HX5 := Lib.hid (HX4.out.step hb5); clear hb5 cV))
                    go_roundw
                    case rel => exact ⟨j + 1, _, by omega, rfl, by go_num, HL0.out, HN2, HA2, HB5, HX5⟩
                    case measure => simp [intOf]; omega
                  · have gj : (0 : Int) < (j : Int) := by omega
                    have HN2 := Lib.hid (show nameL (l.take (j + 1)) = ((NM ++ (⟨#[32]⟩ : ByteArray)) ++ strL (valueL u)).data.toList by rw [name_step hu hj0, list_append, list_append, HS.out, HN1.out]; unfold sepL; rw [if_neg (by rw [h46]; exact Bool.false_ne_true)]; simp)
                    generalize strL (valueL u) = S at cV hsv hz1 hz3 HS HL0 HL1 HN2
                    generalize strL u.text = X at q1 cV cI
                    generalize ((u.kind : Nat) : Int) = K at q0 cV cI e1 e2
                    clear hu htl hvl h46 HN1 HA HR HV hj0 hok
                    go_wp2_with (first
                      | (go_at_call 51; (with_reducible refine (cI _).mono ?_); rintro e w4 ⟨rfl, hb4⟩; have HB4 := Lib.hid (HB3.out.trans (hb4.mono HB3.out.size)); have HX4 := Lib.hid (HX3.out.step hb4); have q0b := cell_below q0 hb4; have q1b := cell_below q1 hb4; clear hb4 cI)
                      | (go_at_call 53; (with_reducible refine (cV _).mono ?_); rintro e w5 ⟨rfl, hb5⟩; have HB5 := Lib.hid (HB4.out.trans (hb5.mono HB4.out.size)); have HX5 := Lib.hid (HX4.out.step hb5); clear hb5 cV))
                    go_roundw
                    case rel => exact ⟨j + 1, _, by omega, rfl, by go_num, HL1.out, HN2, HA2, HB5, HX5⟩
                    case measure => simp [intOf]; omega
                · have e1 : (((u.kind : Nat) : Int) != 1) = true := by rw [bne_iff_ne]; omega
                  have e2 : (((u.kind : Nat) : Int) != 2) = true := by rw [bne_iff_ne]; omega
                  have hok : nameT u = false := by
                    unfold nameT wordT
                    rw [h46, beq_eq_false_iff_ne.2 h1, beq_eq_false_iff_ne.2 h2]; rfl
                  obtain rfl : none = R := by
                    rw [← HR.out, if_neg (fun h => ?_)]
                    have hb := names_bad (l := l.take i) (k := j) (by rw [List.getElem?_take, if_pos hjl]; exact hu) hok
                    rw [h.1] at hb
                    exact absurd hb.symm Bool.false_ne_true
                  generalize strL (valueL u) = S at cV hsv hz1 hz3 HS HL0 HL1
                  generalize strL u.text = X at q1 cV cI
                  generalize ((u.kind : Nat) : Int) = K at q0 cV cI e1 e2
                  clear hu htl hvl h46 HN1 HA HR HV h1 h2 hok
                  go_wp2_with (go_at_call 51; (with_reducible refine (cI _).mono ?_); rintro e w4 ⟨rfl, hb4⟩; have HB4 := Lib.hid (HB3.out.trans (hb4.mono HB3.out.size)); have HX4 := Lib.hid (HX3.out.step hb4); have q0b := cell_below q0 hb4; have q1b := cell_below q1 hb4; have b0 := HX4.out.c0; have b1 := HX4.out.c1; have b2 := HX4.out.c2; have bf := HX4.out.fr; clear hb4 cI)
                  exact bodyPost_ret (results_adr rfl _ _ w.heap.size _ _ _ rfl (set_three HX4.out)) rfl (ron_mk _ _ _ rfl (fun q hq => absurd hq (by simp)) (below_three HB4.out (Nat.le_refl _) _ _ _))
          · obtain rfl : j = i := by omega
            clear G1
            have hjl' : ¬ (j : Int) < (j : Int) := by omega
            go_wp2_with fail
            go_loopw [8] (fun x wr => ∃ k : Nat, j ≤ k ∧ k ≤ n ∧ x = .int .i64 k ∧ Hid (Below w.heap.size w wr) ∧ Hid (Bx wr w.heap.size ⟨#[]⟩ ⟨#[]⟩ ⟨#[]⟩) ∧ Hid (∀ (q : Nat) (u : Tok), j < q → q < k → l[q]? = some u → isS u 62 = false)) (fun x _ => n - (intOf x).toNat)
            case atStart => exact ⟨j, Nat.le_refl _, by omega, rfl, HB3, HX3, fun q _ h1 h2 => by omega⟩
            case round =>
              clear HB3 HX3
              obtain ⟨k, hjk, hk, rfl, HB3, HX3, HF⟩ := hrel
              have G1 : IntKind.i64.wrap ((k : Int) + 1) = (k : Int) + 1 := by rw [IntKind.wrap_i64]; omega
              have G2 : IntKind.i64.wrap ((n : Int) - 1) = (n : Int) - 1 := by rw [IntKind.wrap_i64]; omega
              by_cases hkl : k < n
              · have hkl' : (k : Int) < (n : Int) := by omega
                obtain ⟨u, hu⟩ : ∃ u, l[k]? = some u := ⟨_, List.getElem?_eq_getElem (by rw [HN.out]; omega)⟩
                obtain ⟨q0, q1⟩ := HFA.out.step HB3.out k u hu
                cases h62 : isS u 62 with
                | false =>
                  have cI := fun W => ris_tok u 62 false h62 W
                  have HF2 := Lib.hid (fun (p : Nat) (x : Tok) (h1 : j < p) (hp : p < k + 1) (hx : l[p]? = some x) => show isS x 62 = false by
                    rcases (show p < k ∨ p = k by omega) with h | rfl
                    · exact HF.out p x h1 h hx
                    · rw [hu] at hx; rw [← Option.some.inj hx]; exact h62)
                  generalize strL u.text = X at q1 cI
                  generalize ((u.kind : Nat) : Int) = K at q0 cI
                  clear h62 hu HF HR HV
                  go_wp2_with (go_at_call 51; (with_reducible refine (cI _).mono ?_); rintro e w4 ⟨rfl, hb4⟩; have HB4 := Lib.hid (HB3.out.trans (hb4.mono HB3.out.size)); have HX4 := Lib.hid (HX3.out.step hb4); clear hb4)
                  go_roundw
                  case rel => exact ⟨k + 1, by omega, by omega, by go_num, HB4, HX4, HF2⟩
                  case measure => simp [intOf]; omega
                | true =>
                  have hjk2 : j < k := by
                    rcases (show j < k ∨ j = k by omega) with h | rfl
                    · exact h
                    · rw [HT0.out.1] at hu
                      rw [← Option.some.inj hu, isS_ne HT0.out.2 (by decide)] at h62
                      exact absurd h62 Bool.false_ne_true
                  have cI := fun W => ris_tok u 62 true h62 W
                  have hrk : (l.drop (j + 1))[k - (j + 1)]? = some u := by rw [List.getElem?_drop, show j + 1 + (k - (j + 1)) = k by omega]; exact hu
                  have hfN : findN 62 (l.drop (j + 1)) = k - (j + 1) := find_hit hrk h62 (fun p hp x hx => HF.out (j + 1 + p) x (by omega) (by omega) (by rw [List.getElem?_drop] at hx; exact hx))
                  have hup : upToS 62 (l.drop (j + 1)) = (l.take k).drop (j + 1) := by rw [up_take, hfN, List.drop_take]
                  have hfr : (fromS 62 (l.drop (j + 1))).length = n - k := by rw [from_drop, hfN, List.length_drop, List.length_drop, HN.out]; omega
                  have hR := HR.out
                  rw [hup, hfr] at hR
                  by_cases hkn : k + 1 = n
                  · have e1 : ((k : Int) != (n : Int) - 1) = false := by rw [bne, beq_iff_eq.2 (by omega)]; rfl
                    rw [if_pos ⟨HA.out, by omega⟩] at hR
                    rw [HN1.out] at hR
                    replace HR := Lib.hid hR
                    obtain ⟨f0, hf0⟩ : ∃ f, j + 1 = f := ⟨_, rfl⟩
                    replace F1 : IntKind.i64.wrap ((j : Int) + 1) = (f0 : Int) := by rw [IntKind.wrap_i64]; omega
                    have hfn : f0 < n := by omega
                    have hfn' : (f0 : Int) < (n : Int) := by omega
                    obtain ⟨y, hy⟩ : ∃ y, l[f0]? = some y := ⟨_, List.getElem?_eq_getElem (by rw [HN.out]; omega)⟩
                    obtain ⟨p0, p1⟩ := HFA.out.step HB3.out f0 y hy
                    have F3 : IntKind.i64.wrap ((k : Int) - 1) = (k : Int) - 1 := by rw [IntKind.wrap_i64]; omega
                    cases h64 : isS y 64 with
                    | false =>
                      have cJ := fun W => ris_tok y 64 false h64 W
                      have hrt : routed ((l.take k).drop (j + 1)) = (l.take k).drop f0 := by
                        rw [hf0]
                        refine routed_no fun t ht => ?_
                        by_cases h : f0 < k
                        · rw [mid_at l f0 k 0 (by omega), Nat.add_zero, hy] at ht
                          rw [← Option.some.inj ht]; exact h64
                        · rw [mid_end l f0 k 0 (by omega)] at ht
                          exact absurd ht (by simp)
                      rw [hrt] at hR
                      obtain ⟨A3, C3, hr3, ht3⟩ := run_sub HV.out f0 k f0 k rfl rfl (by omega) (by omega)
                      obtain ⟨m3, hm3⟩ : ∃ m, k - f0 = m := ⟨_, rfl⟩
                      rw [hm3] at hr3 ht3
                      obtain ⟨RS, hRS⟩ : ∃ RS, specT ((l.take k).drop f0) = RS := ⟨_, rfl⟩
                      rw [hRS] at hR
                      replace HR := Lib.hid hR
                      have cS := fun W (h : Hid (HasT W (.slice A3 m3 C3) ((l.take k).drop f0))) => rspec_p _ _ ((HM.out.take k).drop f0) RS hRS W h
                      have HT3 := Lib.hid (ht3.step HB3.out)
                      generalize strL u.text = X at q1 cI
                      generalize ((u.kind : Nat) : Int) = K at q0 cI
                      generalize strL y.text = X2 at p1 cJ
                      generalize ((y.kind : Nat) : Int) = K2 at p0 cJ
                      clear h62 hu HF HV hrk hfN hup hfr hR hy h64 hrt ht3 hm3 hRS HM HFA hf0 HN1 HA HT0
                      go_wp2_with (first
                        | (go_at_call 51; (with_reducible refine (cI _).mono ?_); rintro e w4 ⟨rfl, hb4⟩; have HB4 := Lib.hid (HB3.out.trans (hb4.mono HB3.out.size)); have HX4 := Lib.hid (HX3.out.step hb4); have HT4 := Lib.hid (HT3.out.step hb4); have p0b := cell_below p0 hb4; have p1b := cell_below p1 hb4; clear hb4 cI)
                        | (go_at_call 51; (with_reducible refine (cJ _).mono ?_); rintro e w5 ⟨rfl, hb5⟩; have HB5 := Lib.hid (HB4.out.trans (hb5.mono HB4.out.size)); have HX5 := Lib.hid (HX4.out.step hb5); have HT5 := Lib.hid (HT4.out.step hb5); clear hb5 cJ)
                        | (go_at_call 52; (with_reducible refine (cS _ HT5).mono ?_); rintro e w6 ⟨L, D, rfl, hq, hb6⟩; have HB6 := Lib.hid (HB5.out.trans (hb6.mono HB5.out.size)); have HX6 := Lib.hid (HX5.out.step hb6); have HQ := Lib.hid (ron_named HR.out hq); clear hb6 cS hq; have HX7 := Lib.hid (HX6.out.step (below_box w6 (.cells #[.string NM, .string L, .string D] 34))); have b0 := HX7.out.c0; have b1 := HX7.out.c1; have b2 := HX7.out.c2; have bf := HX7.out.fr))
                      exact bodyPost_ret (results_adr rfl _ _ w.heap.size _ _ _ rfl (set_three HX7.out)) rfl (by exact ron_mk _ _ _ HQ.out.1 HQ.out.2 (below_three (HB6.out.alloc HB6.out.size _) (Nat.le_refl _) _ _ _))
                    | true =>
                      have hfk : f0 < k := by
                        rcases (show f0 < k ∨ f0 = k by omega) with h | rfl
                        · exact h
                        · rw [hu] at hy
                          rw [Option.some.inj hy, isS_ne h64 (by decide)] at h62
                          exact absurd h62 Bool.false_ne_true
                      have cJ := fun W => ris_tok y 64 true h64 W
                      have HY := Lib.hid (show l[j + 1]? = some y ∧ isS y 64 = true from ⟨by rw [hf0]; exact hy, h64⟩)
                      obtain ⟨k1, hk1⟩ : ∃ q, k = q + 1 := ⟨k - 1, by omega⟩
                      replace F3 : IntKind.i64.wrap ((k : Int) - 1) = (k1 : Int) := by rw [IntKind.wrap_i64]; omega
                      replace hk1 := Lib.hid hk1
                      generalize strL u.text = X at q1 cI
                      generalize ((u.kind : Nat) : Int) = K at q0 cI
                      generalize strL y.text = X2 at p1 cJ
                      generalize ((y.kind : Nat) : Int) = K2 at p0 cJ
                      clear h62 hu HF hrk hfN hup hfr hR hy h64 HA HT0
                      go_wp2_with (first
                        | (go_at_call 51; (with_reducible refine (cI _).mono ?_); rintro e w4 ⟨rfl, hb4⟩; have HB4 := Lib.hid (HB3.out.trans (hb4.mono HB3.out.size)); have HX4 := Lib.hid (HX3.out.step hb4); have p0b := cell_below p0 hb4; have p1b := cell_below p1 hb4; clear hb4 cI)
                        | (go_at_call 51; (with_reducible refine (cJ _).mono ?_); rintro e w5 ⟨rfl, hb5⟩; have HB5 := Lib.hid (HB4.out.trans (hb5.mono HB4.out.size)); have HX5 := Lib.hid (HX4.out.step hb5); clear hb5 cJ))
                      clear q0 q1 p0 p1 p0b p1b HB3 HX3 HB4 HX4
                      go_loopw [9, 10] (fun y x wr => ∃ (m f : Nat), y = .int .i64 f ∧ x = .int .i64 m ∧ j ≤ m ∧ m < k ∧ Hid (FromAt l j k m f) ∧ Hid (Below w.heap.size w wr) ∧ Hid (Bx wr w.heap.size ⟨#[]⟩ ⟨#[]⟩ ⟨#[]⟩)) (fun _ x _ => (intOf x).toNat - j)
                      case atStart => exact ⟨k1, f0, rfl, rfl, by have := hk1.out; omega, by have := hk1.out; omega, Lib.hid (.inl ⟨hf0.symm, fun q u h1 h2 => by have := hk1.out; omega⟩), HB5, HX5⟩
                      case round =>
                        clear HB5 HX5
                        obtain ⟨m, f, rfl, rfl, hjm, hmk, HFm, HB5, HX5⟩ := hrel
                        have G3 : IntKind.i64.wrap ((m : Int) + 1) = (m : Int) + 1 := by rw [IntKind.wrap_i64]; omega
                        have G4 : IntKind.i64.wrap ((m : Int) - 1) = (m : Int) - 1 := by rw [IntKind.wrap_i64]; omega
                        by_cases hmj : j < m
                        · have hmj' : (j : Int) < (m : Int) := by omega
                          have hmn' : (m : Int) < (n : Int) := by omega
                          obtain ⟨u, hu⟩ : ∃ u, l[m]? = some u := ⟨_, List.getElem?_eq_getElem (by rw [HN.out]; omega)⟩
                          obtain ⟨q0, q1⟩ := HFA.out.step HB5.out m u hu
                          obtain ⟨m1, hm1⟩ : ∃ q, m = q + 1 := ⟨m - 1, by omega⟩
                          replace G4 : IntKind.i64.wrap ((m : Int) - 1) = (m1 : Int) := by rw [IntKind.wrap_i64]; omega
                          cases h58 : isS u 58 with
                          | false =>
                            have cI := fun W => ris_tok u 58 false h58 W
                            have HF2 := Lib.hid (show FromAt l j k m1 f from FromAt.miss (hm1 ▸ HFm.out) (hm1 ▸ hu) h58)
                            generalize strL u.text = X at q1 cI
                            generalize ((u.kind : Nat) : Int) = K at q0 cI
                            replace hm1 := Lib.hid hm1
                            clear h58 hu HFm HR HV
                            go_wp2_with (go_at_call 51; (with_reducible refine (cI _).mono ?_); rintro e w6 ⟨rfl, hb6⟩; have HB6 := Lib.hid (HB5.out.trans (hb6.mono HB5.out.size)); have HX6 := Lib.hid (HX5.out.step hb6); clear hb6)
                            go_roundw
                            case rel => exact ⟨m1, f, rfl, rfl, by have := hm1.out; omega, by have := hm1.out; omega, HF2, HB6, HX6⟩
                            case measure => have := hm1.out; simp [intOf]; omega
                          | true =>
                            have cI := fun W => ris_tok u 58 true h58 W
                            have HF2 := Lib.hid (show FromAt l j k m1 (m + 1) by have hm1 := hm1; subst hm1; exact FromAt.hit HFm.out hu h58 hmk)
                            generalize strL u.text = X at q1 cI
                            generalize ((u.kind : Nat) : Int) = K at q0 cI
                            replace hm1 := Lib.hid hm1
                            clear h58 hu HFm HR HV
                            go_wp2_with (go_at_call 51; (with_reducible refine (cI _).mono ?_); rintro e w6 ⟨rfl, hb6⟩; have HB6 := Lib.hid (HB5.out.trans (hb6.mono HB5.out.size)); have HX6 := Lib.hid (HX5.out.step hb6); clear hb6)
                            go_roundw
                            case rel => exact ⟨m1, m + 1, by go_num, rfl, by have := hm1.out; omega, by have := hm1.out; omega, HF2, HB6, HX6⟩
                            case measure => have := hm1.out; simp [intOf]; omega
                        · obtain rfl : m = j := by omega
                          have hmj' : ¬ (m : Int) < (m : Int) := by omega
                          have hrt := FromAt.routed HFm.out HY.out.1 HY.out.2 (by omega)
                          have hfl := HFm.out.le (by omega) (Nat.le_refl _)
                          have hR := HR.out
                          rw [hrt] at hR
                          obtain ⟨A3, C3, hr3, ht3⟩ := run_sub HV.out f k f k rfl rfl hfl.1 (by omega)
                          obtain ⟨m3, hm3⟩ : ∃ m, k - f = m := ⟨_, rfl⟩
                          rw [hm3] at hr3 ht3
                          obtain ⟨RS, hRS⟩ : ∃ RS, specT ((l.take k).drop f) = RS := ⟨_, rfl⟩
                          rw [hRS] at hR
                          replace HR := Lib.hid hR
                          have cS := fun W (h : Hid (HasT W (.slice A3 m3 C3) ((l.take k).drop f))) => rspec_p _ _ ((HM.out.take k).drop f) RS hRS W h
                          have HT5 := Lib.hid (ht3.step HB5.out)
                          clear HFm HV hR hrt ht3 hm3 hRS HM HFA HN1 HY
                          go_wp2_with (go_at_call 52; (with_reducible refine (cS _ HT5).mono ?_); rintro e w6 ⟨L, D, rfl, hq, hb6⟩; have HB6 := Lib.hid (HB5.out.trans (hb6.mono HB5.out.size)); have HX6 := Lib.hid (HX5.out.step hb6); have HQ := Lib.hid (ron_named HR.out hq); clear hb6 cS hq; have HX7 := Lib.hid (HX6.out.step (below_box w6 (.cells #[.string NM, .string L, .string D] 34))); have b0 := HX7.out.c0; have b1 := HX7.out.c1; have b2 := HX7.out.c2; have bf := HX7.out.fr)
                          exact bodyPost_ret (results_adr rfl _ _ w.heap.size _ _ _ rfl (set_three HX7.out)) rfl (by exact ron_mk _ _ _ HQ.out.1 HQ.out.2 (below_three (HB6.out.alloc HB6.out.size _) (Nat.le_refl _) _ _ _))
                  · have e1 : ((k : Int) != (n : Int) - 1) = true := by rw [bne_iff_ne]; omega
                    obtain rfl : none = R := by rw [← hR, if_neg (fun h => by have := h.2; omega)]
                    generalize strL u.text = X at q1 cI
                    generalize ((u.kind : Nat) : Int) = K at q0 cI
                    clear h62 hu HF HR HV hrk hfN hup hfr hR HN1 HA HT0
                    go_wp2_with (go_at_call 51; (with_reducible refine (cI _).mono ?_); rintro e w4 ⟨rfl, hb4⟩; have HB4 := Lib.hid (HB3.out.trans (hb4.mono HB3.out.size)); have HX4 := Lib.hid (HX3.out.step hb4); have b0 := HX4.out.c0; have b1 := HX4.out.c1; have b2 := HX4.out.c2; have bf := HX4.out.fr; clear hb4)
                    exact bodyPost_ret (results_adr rfl _ _ w.heap.size _ _ _ rfl (set_three HX4.out)) rfl (ron_mk _ _ _ rfl (fun q hq => absurd hq (by simp)) (below_three HB4.out (Nat.le_refl _) _ _ _))
              · obtain rfl : k = n := by omega
                have hkl' : ¬ (k : Int) < (k : Int) := by omega
                have e1 : ((k : Int) != (k : Int) - 1) = true := by rw [bne_iff_ne]; omega
                have hno : fromS 62 (l.drop (j + 1)) = [] := by
                  rw [from_drop, find_no (fun q u hu => ?_), List.drop_length]
                  rw [List.getElem?_drop] at hu
                  exact HF.out (j + 1 + q) u (by omega) (by have := (List.getElem?_eq_some_iff.1 hu).1; rw [HN.out] at this; exact this) hu
                have hR := HR.out
                obtain rfl : none = R := by rw [← hR, hno, if_neg (fun h => absurd h.2 (by simp))]
                have b0 := HX3.out.c0
                have b1 := HX3.out.c1
                have b2 := HX3.out.c2
                have bf := HX3.out.fr
                clear HF HR HV hno hR HN1 HA HT0
                go_wp2_with fail
                exact bodyPost_ret (results_adr rfl _ _ w.heap.size _ _ _ rfl (set_three HX3.out)) rfl (ron_mk _ _ _ rfl (fun q hq => absurd hq (by simp)) (below_three HB3.out (Nat.le_refl _) _ _ _))
    · obtain rfl : i = n := by omega
      have hlt' : ¬ (i : Int) < (i : Int) := by omega
      have hno : fromS 60 l = [] := by
        rw [from_drop, find_no (fun p u hu => HF.out p u (by have := (List.getElem?_eq_some_iff.1 hu).1; rw [HN.out] at this; exact this) hu), List.drop_length]
      have hs := (one_plain hno).symm.trans HR.out
      have cS := fun W (h : Hid (HasT W (.slice a i cp) l)) => rspec_p _ l HM.out R hs W h
      have HT1 := Lib.hid (HV.out.step HB1.out)
      clear HF hno HR HV HM hs
      go_wp2_with (go_at_call 52; (with_reducible refine (cS _ HT1).mono ?_); rintro e w6 ⟨L, D, rfl, hq, hb6⟩; have HB6 := Lib.hid (HB1.out.trans (hb6.mono HB1.out.size)); have HX6 := Lib.hid (HX1.out.step hb6); have HQ := Lib.hid hq; clear hb6 cS hq; have b0 := HX6.out.c0; have b1 := HX6.out.c1; have b2 := HX6.out.c2; have bf := HX6.out.fr)
      exact bodyPost_ret (results_adr rfl _ _ w.heap.size _ _ _ rfl (set_three HX6.out)) rfl (ron_mk _ _ _ rfl HQ.out (below_three HB6.out (Nat.le_refl _) _ _ _))
end Go.Proofs.YtgponokcigapaaaDoor
