/- Parts of a slice of tokens; slices.Index and slices.IndexFunc over tokens; the program's rows. -/
import Derived.Test.YtdinachiiimngaaGreatDoorKCtRows
import Derived.Test.YtdinachiiimngaaGreatDoorK2
namespace Go.Proofs.YtdinachiiimngaaGreatDoor
open Go.ChangeShapes Go.WideShapes Go.ChangeAt Go.RowKit
open TokP AdrP CtP

theorem HasF.at {w : World} {a : Option Addr} {n c : Nat} {l : List Tok} (h : HasF w (.slice a n c) l) (hn : 0 < n) : ∃ g o, a = some ⟨g, o, none⟩ ∧ FAt w g o l := by
  rcases h with ⟨e, _⟩ | ⟨g, o, c', e, h⟩
  · injection e with _ e _; omega
  · injection e with e _ _; exact ⟨g, o, e, h⟩
theorem HasT.cap {w : World} {a : Option Addr} {n c : Nat} {l : List Tok} (h : HasT w (.slice a n c) l) : n = l.length ∧ n ≤ c ∧ HasF w (.slice a n c) l := by
  obtain ⟨a', c', e, h1, h2⟩ := h
  injection e with _ e1 e2
  subst e2
  exact ⟨e1, by omega, h2⟩
theorem cut_at (l : List Tok) (p q i : Nat) (f : Tok) (h : ((l.take q).drop p)[i]? = some f) : l[p + i]? = some f := by
  rw [List.getElem?_drop] at h
  rw [List.getElem?_take] at h
  split at h
  · exact h
  · exact absurd h (by simp)
/-- A part of a slice of tokens. -/
theorem has_sub {a : Option Addr} {c : Nat} {l : List Tok} (p q : Nat) (hpq : p ≤ q) (hq : q ≤ l.length) (hc : l.length ≤ c) {w : World} (h : HasF w (.slice a l.length c) l) : HasT w (sliced a p q c 2) ((l.take q).drop p) := by
  have hl : ((l.take q).drop p).length = q - p := by rw [List.length_drop, List.length_take]; omega
  unfold sliced
  rcases h with ⟨e, rfl⟩ | ⟨g, o, c', e, h⟩
  · injection e with e1 e2 e3
    subst e1 e3
    obtain rfl : q = 0 := by simp at hq; exact hq
    obtain rfl : p = 0 := by omega
    exact ⟨none, 0, rfl, by simp, .inl ⟨rfl, rfl⟩⟩
  · injection e with e1 e2 e3
    subst e1 e3
    refine ⟨_, _, by rw [hl], by rw [hl]; omega, ?_⟩
    by_cases hcp : c = p
    · rw [if_pos hcp]
      refine .inr ⟨g, o, _, by rw [hl], fun i f hf => ?_⟩
      have : i < ((l.take q).drop p).length := (List.getElem?_eq_some_iff.1 hf).1
      omega
    · rw [if_neg hcp, Option.map_some, add_none]
      refine .inr ⟨g, o + p * 2, _, by rw [hl], fun i f hf => ?_⟩
      have := h (p + i) f (cut_at l p q i f hf)
      rw [show o + (p + i) * 2 = o + p * 2 + i * 2 by omega] at this
      exact this
theorem elem38 : Tryz.prog.elem 55 = 89 := by
  unfold Program.elem
  rw [Tryz.underlying55]
theorem under38 : Tryz.prog.underlying 55 = some (.slice (Tryz.prog.elem 55)) := by
  rw [elem38]
  exact Tryz.underlying55
theorem size43 (W : World) : (sizeOf (Tryz.prog.elem 55)).run Tryz.prog W = .ok 2 W := by
  rw [elem38]
  exact Tryz.sizeOf89 W
/-- How the walk takes a part of a slice of tokens. -/
theorem run_sub {w : World} {a : Option Addr} {n c : Nat} {l : List Tok} (h : HasT w (.slice a n c) l) (p q : Nat) (x y : Int) (hx : x = p) (hy : y = q) (hpq : p ≤ q) (hq : q ≤ n) :
    ∃ A C, (∀ W : World, (Instr.slice 55 (.slice a n c) (some (.int .i64 x)) (some (.int .i64 y)) none).run Tryz.prog W = .ok (.slice A (q - p) C) W) ∧ HasT w (.slice A (q - p) C) ((l.take q).drop p) := by
  subst hx hy
  obtain ⟨rfl, hc, hf⟩ := h.cap
  refine ⟨_, _, fun W => ?_, has_sub p q hpq hq hc hf⟩
  rw [run_slice_lh W 55 a l.length c under38 .i64 .i64 p q (by omega) (by omega) (by omega), size43]
  simp only [Result.andThen, Int.toNat_natCast]
  rfl
theorem run_sub_to {w : World} {a : Option Addr} {n c : Nat} {l : List Tok} (h : HasT w (.slice a n c) l) (q : Nat) (y : Int) (hy : y = q) (hq : q ≤ n) :
    ∃ A C, (∀ W : World, (Instr.slice 55 (.slice a n c) none (some (.int .i64 y)) none).run Tryz.prog W = .ok (.slice A q C) W) ∧ HasT w (.slice A q C) (l.take q) := by
  subst hy
  obtain ⟨rfl, hc, hf⟩ := h.cap
  refine ⟨_, _, fun W => ?_, has_sub 0 q (by omega) hq hc hf⟩
  rw [run_slice_h W 55 a l.length c under38 .i64 q (by omega) (by omega), size43]
  simp only [Result.andThen, Int.toNat_natCast]
  rfl
theorem run_sub_from {w : World} {a : Option Addr} {n c : Nat} {l : List Tok} (h : HasT w (.slice a n c) l) (p : Nat) (x : Int) (hx : x = p) (hp : p ≤ n) :
    ∃ A C, (∀ W : World, (Instr.slice 55 (.slice a n c) (some (.int .i64 x)) none none).run Tryz.prog W = .ok (.slice A (n - p) C) W) ∧ HasT w (.slice A (n - p) C) (l.drop p) := by
  subst hx
  obtain ⟨rfl, hc, hf⟩ := h.cap
  have h2 := has_sub p l.length hp (Nat.le_refl _) hc hf
  rw [List.take_of_length_le (Nat.le_refl _)] at h2
  refine ⟨_, _, fun W => ?_, h2⟩
  rw [run_slice_l W 55 a l.length c under38 .i64 p (by omega) (by omega), size43]
  simp only [Result.andThen, Int.toNat_natCast]
  rfl
/-- The place of the first semicolon, or -1. -/
def SemiAt (l : List TokP.Tok) (z : Int) : Prop := (z = -1 ∧ ∀ u ∈ l, isS u 59 = false) ∨ ∃ (k : Nat) (t : TokP.Tok), z = k ∧ l[k]? = some t ∧ isS t 59 = true ∧ ∀ i u, i < k → l[i]? = some u → isS u 59 = false
def EqAt (l : List TokP.Tok) (z : Int) : Prop := (z = -1 ∧ ∀ u ∈ l, hasEq u = false) ∨ ∃ (k : Nat) (t : TokP.Tok), z = k ∧ l[k]? = some t ∧ hasEq t = true ∧ ∀ i u, i < k → l[i]? = some u → hasEq u = false
theorem semi_is (t : TokP.Tok) : decide ((⟨4, [59]⟩ : TokP.Tok) = t) = isS t 59 := by
  unfold isS
  rw [Bool.eq_iff_iff, decide_eq_true_iff, Bool.and_eq_true, beq_iff_eq, beq_iff_eq]
  constructor
  · rintro rfl; exact ⟨rfl, rfl⟩
  · rintro ⟨h1, h2⟩; exact (tok_ext h1 h2).symm
theorem drew_belowT (w : World) (n : Nat) : Below w.heap.size w (w.drewN n) := ⟨rfl, rfl, rfl, Nat.le_refl _, fun _ _ => rfl⟩
set_option maxRecDepth 100000 in
set_option maxHeartbeats 2000000 in
theorem index_tok {a : Option Addr} {n c : Nat} {l : List TokP.Tok} {w : World} (h : HasT w (.slice a n c) l) (hn : n ≤ 4000000) :
    Calls Tryz.prog 64 #[.slice a n c, .agg #[.int .i64 4, .string ⟨#[59]⟩]] w fun e w' => ∃ z, e = .returned (.int .i64 z) ∧ SemiAt l z ∧ Below w.heap.size w w' := by
  obtain ⟨hl, hc, hf⟩ := h.cap
  have HL := Lib.hid hl
  have HF := Lib.hid hf
  have HB0 := Lib.hid ((Below.refl w.heap.size w).alloc (Nat.le_refl _) (.cells #[.int .i64 4, .string ⟨#[59]⟩] 89))
  have hnew := World.alloc_heap_new w (.cells #[.int .i64 4, .string ⟨#[59]⟩] 89)
  obtain ⟨W1, hW1⟩ : ∃ W1, w.alloc (.cells #[.int .i64 4, .string ⟨#[59]⟩] 89) = W1 := ⟨_, rfl⟩
  rw [hW1] at HB0 hnew
  have k0 : W1.cell? ⟨w.heap.size, 0, none⟩ = some (.int .i64 4) := by simp [World.cell?, hnew]
  have k1 : W1.cell? ⟨w.heap.size, 1, none⟩ = some (.string ⟨#[59]⟩) := by simp [World.cell?, hnew]
  have HK := Lib.hid (And.intro k0 k1)
  have HLT : Hid (W1.heap.size = w.heap.size + 1) := by rw [← hW1]; exact Lib.hid (World.size_alloc _ _)
  have HW1 := Lib.hid hW1
  clear h hl hf hnew k0 k1 hW1
  go_enter Tryz.func64, Tryz.ntmps64
  go_wp2_with fail
  rw [HW1.out]
  go_loopw [8] (fun i wr => ∃ k : Nat, k ≤ n ∧ i = .int .i64 k ∧ Hid (Below W1.heap.size W1 wr) ∧ Hid (∀ i u, i < k → l[i]? = some u → isS u 59 = false)) (fun i _ => n - (intOf i).toNat)
  case atStart => exact ⟨0, Nat.zero_le _, rfl, Lib.hid (Below.refl _ _), Lib.hid (fun i u hi => absurd hi (Nat.not_lt_zero _))⟩
  case round =>
    obtain ⟨k, hk, rfl, HD, HNO⟩ := hrel
    have F1 : IntKind.i64.wrap ((k : Int) + 1) = (k : Int) + 1 := by rw [IntKind.wrap_i64]; omega
    by_cases hlt : k < n
    · have hlt' : (k : Int) < (n : Int) := by omega
      obtain ⟨g, o, rfl, hfa⟩ := HF.out.at (by omega)
      obtain ⟨t, ht⟩ : ∃ t, l[k]? = some t := ⟨_, List.getElem?_eq_getElem (by rw [← HL.out]; exact hlt)⟩
      obtain ⟨q0, q1⟩ := (hfa.step HB0.out).step HD.out k t ht
      have p0 := cell_below HK.out.1 HD.out
      have p1 := cell_below HK.out.2 HD.out
      have hEq := run_equal_tok ⟨4, [59]⟩ t
      rw [semi_is] at hEq
      have e4 : strL [59] = (⟨#[59]⟩ : ByteArray) := rfl
      simp only [e4] at hEq
      rw [show (((4 : Nat)) : Int) = 4 from rfl] at hEq
      cases hs : isS t 59 with
      | true =>
        rw [hs] at hEq
        have HA := Lib.hid (show SemiAt l k from .inr ⟨k, t, rfl, ht, hs, HNO.out⟩)
        generalize ((t.kind : Nat) : Int) = x1 at q0 hEq
        generalize strL t.text = x2 at q1 hEq
        clear hs ht hfa HNO e4
        go_wp2_with fail
        go_quiet (fail)
        go_wp2_with fail
        go_ret
        exact ⟨_, rfl, HA.out, HB0.out.trans ((HD.out.trans ((drew_belowT wr _).mono HD.out.size)).mono HB0.out.size)⟩
      | false =>
        rw [hs] at hEq
        have HN2 := Lib.hid (fun (i : Nat) (u : TokP.Tok) (hi : i < k + 1) (hu : l[i]? = some u) => show isS u 59 = false by
          rcases (show i < k ∨ i = k by omega) with h | rfl
          · exact HNO.out i u h hu
          · rw [ht] at hu; rw [← Option.some.inj hu]; exact hs)
        generalize ((t.kind : Nat) : Int) = x1 at q0 hEq
        generalize strL t.text = x2 at q1 hEq
        clear hs ht hfa HNO e4
        go_wp2_with fail
        go_quiet (fail)
        go_wp2_with fail
        go_roundw
        case rel => exact ⟨k + 1, by omega, by go_num, Lib.hid (HD.out.trans ((drew_belowT wr _).mono HD.out.size)), HN2⟩
        case measure => simp [intOf]; omega
    · obtain rfl : k = n := by omega
      have hlt' : ¬ (k : Int) < (k : Int) := by omega
      have HA := Lib.hid (show SemiAt l (-1) from .inl ⟨rfl, fun u hu => by
        obtain ⟨i, hi, rfl⟩ := List.mem_iff_getElem.1 hu
        exact HNO.out i _ (by rw [HL.out]; exact hi) (List.getElem?_eq_getElem hi)⟩)
      clear HNO
      go_wp2_with fail
      go_ret
      exact ⟨_, rfl, HA.out, HB0.out.trans (HD.out.mono HB0.out.size)⟩
/-! ### slices.IndexFunc with the row's test -/
set_option maxRecDepth 100000 in
set_option maxHeartbeats 2000000 in
theorem test_tok (t : TokP.Tok) (b : Bool) (hb : hasEq t = b) (x : Int) (hx : (t.kind : Int) = x) (X : ByteArray) (hX : strL t.text = X) (w : World) :
    Calls Tryz.prog 100 #[.agg #[.int .i64 x, .string X]] w fun e w' => e = .returned (.bool b) ∧ Below w.heap.size w w' := by
  have cC := fun W => Tryz.strings_Contains_one X 61 W
  have hi := index_in X.data.toList 61
  rw [← hX, strL_list] at hi
  rw [show X.data.toList = t.text by rw [← hX]; rfl] at cC
  have HB0 := Lib.hid ((Below.refl w.heap.size w).alloc (Nat.le_refl _) (.cells #[.int .i64 x, .string X] 89))
  unfold hasEq at hb
  rw [← hi] at hb
  generalize decide (0 ≤ Lib.indexByte t.text 61) = d at cC hb
  by_cases h1 : t.kind = 1
  · have e1 : (x == 1) = true := by rw [← hx, h1]; rfl
    rw [decide_eq_true h1, Bool.true_and] at hb
    subst hb
    clear hi hx hX h1
    go_enter Tryz.func100, Tryz.ntmps100
    go_wp2_with (go_at_call 101; refine (cC _).mono ?_; rintro e w2 ⟨rfl, rfl⟩)
    go_ret
    exact ⟨rfl, HB0.out⟩
  · have e1 : (x == 1) = false := beq_eq_false_iff_ne.2 (by rw [← hx]; omega)
    rw [decide_eq_false h1, Bool.false_and] at hb
    subst hb
    clear hi hx hX h1 cC
    go_enter Tryz.func100, Tryz.ntmps100
    go_wp2_with fail
    go_ret
    exact ⟨rfl, HB0.out⟩
set_option maxRecDepth 100000 in
set_option maxHeartbeats 2000000 in
theorem index_eq {a : Option Addr} {n c : Nat} {l : List TokP.Tok} {w : World} (h : HasT w (.slice a n c) l) (hn : n ≤ 4000000) :
    Calls Tryz.prog 99 #[.slice a n c, .func (.func 100) #[] #[]] w fun e w' => ∃ z, e = .returned (.int .i64 z) ∧ EqAt l z ∧ Below w.heap.size w w' := by
  obtain ⟨hl, hc, hf⟩ := h.cap
  have HL := Lib.hid hl
  have HF := Lib.hid hf
  clear h hl hf
  go_enter Tryz.func99, Tryz.ntmps99
  go_wp2_with fail
  go_loopw [8] (fun i wr => ∃ k : Nat, k ≤ n ∧ i = .int .i64 k ∧ Hid (Below w.heap.size w wr) ∧ Hid (∀ i u, i < k → l[i]? = some u → hasEq u = false)) (fun i _ => n - (intOf i).toNat)
  case atStart => exact ⟨0, Nat.zero_le _, rfl, Lib.hid (Below.refl _ _), Lib.hid (fun i u hi => absurd hi (Nat.not_lt_zero _))⟩
  case round =>
    obtain ⟨k, hk, rfl, HD, HNO⟩ := hrel
    have F1 : IntKind.i64.wrap ((k : Int) + 1) = (k : Int) + 1 := by rw [IntKind.wrap_i64]; omega
    by_cases hlt : k < n
    · have hlt' : (k : Int) < (n : Int) := by omega
      obtain ⟨g, o, rfl, hfa⟩ := HF.out.at (by omega)
      obtain ⟨t, ht⟩ : ∃ t, l[k]? = some t := ⟨_, List.getElem?_eq_getElem (by rw [← HL.out]; exact hlt)⟩
      obtain ⟨q0, q1⟩ := hfa.step HD.out k t ht
      cases hs : hasEq t with
      | true =>
        have cT := fun W => test_tok t true hs _ rfl _ rfl W
        have HA := Lib.hid (show EqAt l k from .inr ⟨k, t, rfl, ht, hs, HNO.out⟩)
        generalize ((t.kind : Nat) : Int) = x1 at q0 cT
        generalize strL t.text = x2 at q1 cT
        clear hs ht hfa HNO
        go_wp2_with (go_at_call 100; (with_reducible refine (cT _).mono ?_); rintro e w2 ⟨rfl, hb2⟩; have HB2 := Lib.hid (HD.out.trans (hb2.mono HD.out.size)); clear hb2 cT)
        go_ret
        exact ⟨_, rfl, HA.out, HB2.out⟩
      | false =>
        have cT := fun W => test_tok t false hs _ rfl _ rfl W
        have HN2 := Lib.hid (fun (i : Nat) (u : TokP.Tok) (hi : i < k + 1) (hu : l[i]? = some u) => show hasEq u = false by
          rcases (show i < k ∨ i = k by omega) with h | rfl
          · exact HNO.out i u h hu
          · rw [ht] at hu; rw [← Option.some.inj hu]; exact hs)
        generalize ((t.kind : Nat) : Int) = x1 at q0 cT
        generalize strL t.text = x2 at q1 cT
        clear hs ht hfa HNO
        go_wp2_with (go_at_call 100; (with_reducible refine (cT _).mono ?_); rintro e w2 ⟨rfl, hb2⟩; have HB2 := Lib.hid (HD.out.trans (hb2.mono HD.out.size)); clear hb2 cT)
        go_roundw
        case rel => exact ⟨k + 1, by omega, by go_num, HB2, HN2⟩
        case measure => simp [intOf]; omega
    · obtain rfl : k = n := by omega
      have hlt' : ¬ (k : Int) < (k : Int) := by omega
      have HA := Lib.hid (show EqAt l (-1) from .inl ⟨rfl, fun u hu => by
        obtain ⟨i, hi, rfl⟩ := List.mem_iff_getElem.1 hu
        exact HNO.out i _ (by rw [HL.out]; exact hi) (List.getElem?_eq_getElem hi)⟩)
      clear HNO
      go_wp2_with fail
      go_ret
      exact ⟨_, rfl, HA.out, HD.out⟩
/-! ### rows -/
theorem text_mem (l : List TokP.Tok) (t : TokP.Tok) (h : t ∈ l) : t.text.length ≤ (joinL l).length := by
  obtain ⟨k, hk, rfl⟩ := List.mem_iff_getElem.1 h
  have := text_le l k _ (List.getElem?_eq_getElem hk)
  omega
theorem first_ex (p : TokP.Tok → Bool) : ∀ l : List TokP.Tok, (∀ u ∈ l, p u = false) ∨ ∃ (k : Nat) (t : TokP.Tok), l[k]? = some t ∧ p t = true ∧ ∀ i u, i < k → l[i]? = some u → p u = false
  | [] => .inl (fun u hu => absurd hu (by simp))
  | t :: l => by
    cases ht : p t with
    | true => exact .inr ⟨0, t, rfl, ht, fun i u hi => absurd hi (Nat.not_lt_zero _)⟩
    | false =>
      rcases first_ex p l with h | ⟨k, u, h1, h2, h3⟩
      · exact .inl (fun u hu => by
          rcases List.mem_cons.1 hu with rfl | hu
          · exact ht
          · exact h u hu)
      · refine .inr ⟨k + 1, u, h1, h2, fun i v hi hv => ?_⟩
        cases i with
        | zero => rw [← Option.some.inj hv]; exact ht
        | succ i => exact h3 i v (by omega) hv
theorem first_uniq {p : TokP.Tok → Bool} {l : List TokP.Tok} {z z' : Int} (h : (z = -1 ∧ ∀ u ∈ l, p u = false) ∨ ∃ (k : Nat) (t : TokP.Tok), z = k ∧ l[k]? = some t ∧ p t = true ∧ ∀ i u, i < k → l[i]? = some u → p u = false)
    (h' : (z' = -1 ∧ ∀ u ∈ l, p u = false) ∨ ∃ (k : Nat) (t : TokP.Tok), z' = k ∧ l[k]? = some t ∧ p t = true ∧ ∀ i u, i < k → l[i]? = some u → p u = false) : z = z' := by
  rcases h with ⟨rfl, h⟩ | ⟨k, t, rfl, h1, h2, h3⟩
  · rcases h' with ⟨rfl, _⟩ | ⟨k, t, rfl, h1, h2, _⟩
    · rfl
    · rw [h t (List.mem_of_getElem? h1)] at h2; exact absurd h2 (by decide)
  · rcases h' with ⟨rfl, h⟩ | ⟨k', t', rfl, h1', h2', h3'⟩
    · rw [h t (List.mem_of_getElem? h1)] at h2; exact absurd h2 (by decide)
    · rcases Nat.lt_trichotomy k k' with hl | rfl | hl
      · rw [h3' k t hl h1] at h2; exact absurd h2 (by decide)
      · rfl
      · rw [h3 k' t' hl h1'] at h2'; exact absurd h2' (by decide)
theorem index_is {a : Option Addr} {n c : Nat} {l : List TokP.Tok} {w : World} (h : HasT w (.slice a n c) l) (hn : n ≤ 4000000) (z : Int) (hz : SemiAt l z) :
    Calls Tryz.prog 64 #[.slice a n c, .agg #[.int .i64 4, .string ⟨#[59]⟩]] w fun e w' => e = .returned (.int .i64 z) ∧ Below w.heap.size w w' :=
  (index_tok h hn).mono fun _ _ ⟨z', h1, h2, h3⟩ => ⟨by rw [h1, first_uniq h2 hz], h3⟩
theorem indexE_is {a : Option Addr} {n c : Nat} {l : List TokP.Tok} {w : World} (h : HasT w (.slice a n c) l) (hn : n ≤ 4000000) (z : Int) (hz : EqAt l z) :
    Calls Tryz.prog 99 #[.slice a n c, .func (.func 100) #[] #[]] w fun e w' => e = .returned (.int .i64 z) ∧ Below w.heap.size w w' :=
  (index_eq h hn).mono fun _ _ ⟨z', h1, h2, h3⟩ => ⟨by rw [h1, first_uniq h2 hz], h3⟩
def lenS : Value → Nat
  | .slice _ n _ => n
  | _ => 0
/-- A slice of rows in a block of its own, from B on; the rows as they read in w0. -/
def Rws (w0 w : World) (B : Nat) (pv : Value) (P : List (List TokP.Tok)) : Prop := ∃ us, w.ownsRow B 55 1 pv P.length us ∧ ∀ (i : Nat) (x : List TokP.Tok), P[i]? = some x → ∃ u, us[i]? = some u ∧ HasT w0 u x
theorem Rws.first (w0 w : World) (B : Nat) : Rws w0 w B (.slice none 0 0) [] := ⟨[], World.ownsRow_nil _ _ _ _, fun i x h => absurd h (by simp)⟩
theorem Rws.step {w0 w w' : World} {B : Nat} {pv : Value} {P : List (List TokP.Tok)} (h : Rws w0 w B pv P) (hb : Below w.heap.size w w') : Rws w0 w' B pv P := by
  obtain ⟨us, h1, h2⟩ := h
  exact ⟨us, own_below h1 hb, h2⟩
theorem wpList_rw {ops : Array Oper} {rest : List Oper} {o : Oper} {a : Act} {w : World} {Q : Exit → Act → World → Prop} (hgd : o.guard = none) (s x : Operand)
    (ho : o.op = .call { callee := .builtin .append, args := #[s, x], argTypes := #[50, 50] }) (w0 : World) (B : Nat) {v cv : Value} {P : List (List TokP.Tok)} {C : List TokP.Tok} {p : Nat} (hs : a.eval s = v) (hx : a.eval x = .slice (some ⟨w.heap.size, 0, none⟩) 1 1)
    (hst : Rws w0 w B v P) (hT : HasT w0 cv C) (hp : P.length = p) (hb : B ≤ w.heap.size) (hl : p ≤ 4000000)
    (h : ∀ a' c' w', Rws w0 w' B (.slice a' (p + 1) c') (P ++ [C]) → Below B w w' → wpList Tryz.prog ops Q rest (a.put o.dst (.slice a' (p + 1) c')) w') :
    wpList Tryz.prog ops Q (o :: rest) a (w.alloc (.cells #[cv] 55)) := by
  obtain ⟨i0, hi, hz0, hz1, hz2⟩ := info_parts info38
  obtain ⟨us, h1, h2⟩ := hst
  have hT2 := hT
  obtain ⟨ca, cc, hcv, _⟩ := hT2
  subst hp
  refine wpList_append_own_at _ hgd s x 50 ho B 55 i0 (.slice none 0 0) 1 24 Tryz.underlying50 hi hz0 hz1 hz2 rfl (by decide) v P.length us hs (World.ownsRow.alloc h1 _) ⟨w.heap.size, 0, none⟩ 1 1 [cv] hx rfl (cell_one_new _ _ _) (fun u hu => by rw [List.mem_singleton.1 hu, hcv]; rfl) (by unfold maxLen; omega) (by omega) (by rw [World.size_alloc]; omega) ?_
  intro v' w' e1 e2 _ e4
  have hlen : us.length = P.length := by rw [h1.1, Nat.mul_one]
  rw [← List.length_singleton (a := C), ← List.length_append] at e1
  obtain ⟨a', c', rfl⟩ : ∃ a' c', v' = .slice a' (P.length + 1) c' := by
    rcases e1.2 with ⟨rfl, h0⟩ | ⟨g, cap, cur, rfl, _⟩
    · simp at h0
    · exact ⟨_, _, by rw [List.length_append]; rfl⟩
  refine h a' c' w' ⟨us ++ [cv], e1, fun i x hx => ?_⟩ (((Below.refl B w).alloc hb _).trans (grown_below e2 (fun k e => (h1.lt k e).1) (by rw [World.size_alloc]; omega)))
  by_cases hi : i < P.length
  · rw [List.getElem?_append_left hi] at hx
    obtain ⟨u, hu, hh⟩ := h2 i x hx
    exact ⟨u, by rw [List.getElem?_append_left (by omega)]; exact hu, hh⟩
  · have hi2 : i = P.length := by
      have := (List.getElem?_eq_some_iff.1 hx).1
      rw [List.length_append, List.length_singleton] at this
      omega
    subst hi2
    obtain rfl : C = x := by
      rw [List.getElem?_append_right (Nat.le_refl _), Nat.sub_self] at hx
      exact Option.some.inj hx
    exact ⟨cv, by rw [List.getElem?_append_right (by omega), hlen, Nat.sub_self]; rfl, hT⟩
theorem Rws.pcs {w0 w : World} {B : Nat} {pv : Value} {P : List (List TokP.Tok)} (h : Rws w0 w B pv P) (hP : P ≠ []) (hb : Below w0.heap.size w0 w) : PcsOf w pv P := by
  obtain ⟨us, h1, h2⟩ := h
  have hpos := List.length_pos_iff.2 hP
  rcases h1.2 with ⟨_, h0⟩ | ⟨g, cap, cur, rfl, _, _, hcap, _⟩
  · omega
  · refine ⟨g, cap, rfl, hcap, fun i x hx => ?_⟩
    obtain ⟨u, hu, ho⟩ := h2 i x hx
    have hc := h1.cells (g := g) rfl i u hu
    rw [add_none, Nat.zero_add] at hc
    exact ⟨u, hc, ho.step hb⟩
set_option maxRecDepth 100000 in
set_option maxHeartbeats 8000000 in
theorem rows_p (S : ByteArray) (hS : S.size ≤ 4000000) (ALL : List (List TokP.Tok)) (hALL : rowsT [] (bareT (scanL S.data.toList)) = ALL) (N : Nat) (hN : ALL.length = N) (w : World) :
    Calls Tryz.prog 29 #[.string S] w fun e w' => ∃ g c, e = .returned (.slice (some ⟨g, 0, none⟩) N c) ∧ PcsOf w' (.slice (some ⟨g, 0, none⟩) N c) ALL ∧ Below w.heap.size w w' := by
  have cA := fun W => scan_any S (by omega) W
  have hln := scan_len S.data.toList
  have htx : ∀ t ∈ scanL S.data.toList, t.text.length ≤ 4000000 := fun t ht => by
    have := text_mem _ t ht
    rw [join_scan, ← size_list] at this
    omega
  rw [← size_list] at hln
  generalize scanL S.data.toList = q at cA hALL hln htx
  have cB := fun W v (h : Hid (OwnF W v q)) => bare_any v q W h.out.has (by omega) htx
  have hbl := bare_len q q.length
  rw [List.take_length] at hbl
  obtain ⟨l, hl⟩ : ∃ l, bareL q = l := ⟨_, rfl⟩
  rw [show bareT q = l from hl] at hALL
  rw [hl] at cB hbl
  obtain ⟨n, hn⟩ : ∃ n, l.length = n := ⟨_, rfl⟩
  obtain ⟨nq, hnq⟩ : ∃ n, q.length = n := ⟨_, rfl⟩
  rw [hn] at cB hbl
  rw [hnq] at cA hbl hln
  have hn6 : n ≤ 4000000 := by omega
  have HL := Lib.hid hn
  have HALL := Lib.hid hALL
  have HN := Lib.hid hN
  clear htx
  clear hALL hN hn hl hln hbl hnq hS
  go_enter Tryz.func29, Tryz.ntmps29
  go_wp2_with (first
    | (go_at_call 63; (with_reducible refine (cA _).mono ?_); rintro e w1 ⟨a1, c1, rfl, h1, hb1⟩; replace h1 := Lib.hid h1; have HB1 := Lib.hid hb1; clear hb1 cA)
    | (go_at_call 62; (with_reducible refine (cB _ _ h1).mono ?_); rintro e w2 ⟨a2, c2, rfl, h2, hb2⟩; have HB2 := Lib.hid (HB1.out.trans (hb2.mono HB1.out.size)); clear hb2 cB))
  have HF := Lib.hid h2.hasT
  clear h1 h2
  go_loopw [3, 4] (fun rv pv wr => ∃ (P : List (List TokP.Tok)) (R : List TokP.Tok) (p m : Nat), p + m ≤ n ∧ (∃ a c, rv = .slice a m c ∧ Hid (HasT w2 (.slice a m c) R)) ∧ (∃ a c, pv = .slice a p c) ∧ Hid (P.length = p) ∧ Hid (Rws w2 wr w2.heap.size pv P) ∧ Hid (Below w2.heap.size w2 wr) ∧ Hid (P ++ rowsT [] R = ALL)) (fun rv _ _ => lenS rv)
  case atStart => exact ⟨[], l, 0, n, by omega, ⟨_, _, rfl, HF⟩, ⟨none, 0, rfl⟩, Lib.hid rfl, Lib.hid (Rws.first w2 w2 _), Lib.hid (Below.refl _ _), Lib.hid (by rw [List.nil_append]; exact HALL.out)⟩
  case round =>
    obtain ⟨P, R, p, m, hpm, ⟨ra, rc, rfl, HR⟩, ⟨pa, pc, rfl⟩, HP, ST0, HB3, HG⟩ := hrel
    have HR3 := Lib.hid (HR.out.step HB3.out)
    have hpz : p ≤ 4000000 := by omega
    obtain ⟨hm, hmc, _⟩ := HR.out.cap
    have HM := Lib.hid hm
    clear hm
    clear HF
    rcases first_ex (fun u => isS u 59) R with hno | ⟨k, t, hk, ht, hno⟩
    · have cY := index_is HR3.out (by omega) (-1) (.inl ⟨rfl, hno⟩)
      have HFIN := Lib.hid (show P ++ [R] = ALL by rw [← HG.out, rows_not hno])
      have HPN := Lib.hid (show p + 1 = N by rw [← HN.out, ← HFIN.out, List.length_append, HP.out]; rfl)
      clear hno HG
      go_wp2_with (first
        | (go_at_call 64; (with_reducible refine cY.mono ?_); rintro e w4 ⟨rfl, hb4⟩; have HB4 := Lib.hid (HB3.out.trans (hb4.mono HB3.out.size)); have ST4 := Lib.hid (ST0.out.step hb4); clear hb4 cY)
        | (at_builtin; refine wpList_rw rfl (.tmp 14) (.tmp 16) rfl w2 w2.heap.size rfl rfl ST4.out HR.out HP.out HB4.out.size hpz ?_; intro a5 c5 w5 h5 hb5; replace h5 := Lib.hid h5; have HB5 := Lib.hid (HB4.out.trans (hb5.mono (Nat.le_refl _))); clear hb5))
      go_ret
      have hpc := h5.out.pcs (by simp) HB5.out
      rw [HFIN.out] at hpc
      obtain ⟨g, c, hge, _⟩ := id hpc
      rw [HN.out] at hge
      rw [hge] at hpc ⊢
      exact ⟨g, c, rfl, hpc, HB2.out.trans (HB5.out.mono HB2.out.size)⟩
    · have hkm := (List.getElem?_eq_some_iff.1 hk).1
      rw [← HM.out] at hkm
      have cY := index_is HR3.out (by omega) k (.inr ⟨k, t, rfl, hk, ht, hno⟩)
      have hk0 : ¬ (k : Int) < 0 := by omega
      have F1 : IntKind.i64.wrap ((k : Int) + 1) = (k : Int) + 1 := by rw [IntKind.wrap_i64]; omega
      obtain ⟨A1, C1, R1, hT1⟩ := run_sub_to HR.out k (k : Int) rfl (by omega)
      obtain ⟨A2, C2, R2, hT2⟩ := run_sub_from HR.out (k + 1) ((k : Int) + 1) (by omega) (by omega)
      have HT1 := Lib.hid hT1
      have HT2 := Lib.hid hT2
      have HFIN := Lib.hid (show (P ++ [R.take k]) ++ rowsT [] (R.drop (k + 1)) = ALL by rw [← HG.out, rows_at hk ht hno, List.append_assoc]; rfl)
      have HPN := Lib.hid (show (P ++ [R.take k]).length = p + 1 by rw [List.length_append, HP.out]; rfl)
      clear hno HG hk ht hT1 hT2
      go_wp2_with (first
        | (go_at_call 64; (with_reducible refine cY.mono ?_); rintro e w4 ⟨rfl, hb4⟩; have HB4 := Lib.hid (HB3.out.trans (hb4.mono HB3.out.size)); have ST4 := Lib.hid (ST0.out.step hb4); clear hb4 cY)
        | (at_builtin; refine wpList_rw rfl (.tmp 18) (.tmp 22) rfl w2 w2.heap.size rfl rfl ST4.out HT1.out HP.out HB4.out.size hpz ?_; intro a5 c5 w5 h5 hb5; replace h5 := Lib.hid h5; have HB5 := Lib.hid (HB4.out.trans (hb5.mono (Nat.le_refl _))); clear hb5))
      go_roundw
      case rel => exact ⟨_, _, p + 1, m - (k + 1), by omega, ⟨_, _, rfl, HT2⟩, ⟨_, _, rfl⟩, HPN, h5, HB5, HFIN⟩
      case measure => simp [lenS]; omega
end Go.Proofs.YtdinachiiimngaaGreatDoor
