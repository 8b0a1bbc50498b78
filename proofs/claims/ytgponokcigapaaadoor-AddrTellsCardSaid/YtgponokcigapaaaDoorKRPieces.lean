/- The reference's Pieces: slices of tokens in a slice. -/
import Derived.Test.YtgponokcigapaaaDoorKRDots
import Derived.Test.YtgponokcigapaaaDoorKRefS
import Derived.Test.YtgponokcigapaaaDoorKRefA
import Derived.Maps.AppendAt
namespace Go.Proofs.YtgponokcigapaaaDoor
open Go.ChangeShapes Go.WideShapes Go.ChangeAt Go.RowKit
open TokP AdrP

theorem Below.grownN {w w' : World} (h : Below w.heap.size w w') : w.grownBy w' none := ⟨h.os, h.tape, h.output, h.size, fun k hk _ => h.block k hk⟩
theorem grown_below {B : Nat} {w w' : World} {row : Option Nat} (hg : w.grownBy w' row) (hr : ∀ k, row = some k → B ≤ k) (hB : B ≤ w.heap.size) : Below B w w' :=
  ⟨hg.os, hg.tape, hg.output, hg.size, fun k hk => hg.block k (by omega) (fun e => by have := hr k e.symm; omega)⟩
/-- The state of the loop: the pieces so far, the piece that grows, each in a block of its own from B on. -/
def St (w : World) (B : Nat) (pv cv : Value) (P : List (List Tok)) (C : List Tok) : Prop :=
  ∃ us : List Value, w.ownsRow B 38 1 pv P.length us ∧ w.ownsRow B 43 2 cv C.length (toksV C) ∧
    (∀ g, pv.ownBlock = some g → cv.ownBlock ≠ some g) ∧
    ∀ (i : Nat) (x : List Tok), P[i]? = some x → ∃ u, us[i]? = some u ∧ w.ownsRow B 43 2 u x.length (toksV x) ∧ ∀ g, u.ownBlock = some g → pv.ownBlock ≠ some g ∧ cv.ownBlock ≠ some g
theorem St.first (w : World) (B : Nat) : St w B (.slice none 0 0) (.slice none 0 0) [] [] :=
  ⟨[], World.ownsRow_nil _ _ _ _, World.ownsRow_nil _ _ _ _, fun g h => absurd h (by simp [Value.ownBlock]), fun i x h => absurd h (by simp)⟩
theorem St.step {w w' : World} {B : Nat} {pv cv : Value} {P : List (List Tok)} {C : List Tok} (h : St w B pv cv P C) (hb : Below w.heap.size w w') : St w' B pv cv P C := by
  obtain ⟨us, h1, h2, h3, h4⟩ := h
  have hg := Below.grownN hb
  have hn : ∀ v : Value, v.ownBlock = none ∨ v.ownBlock ≠ none := fun v => by cases v.ownBlock <;> simp
  refine ⟨us, h1.kept hg (hn _), h2.kept hg (hn _), h3, fun i x hx => ?_⟩
  obtain ⟨u, hu, ho, hne⟩ := h4 i x hx
  exact ⟨u, hu, ho.kept hg (hn _), hne⟩
theorem St.nil {w : World} {B : Nat} {pv cv : Value} {P : List (List Tok)} {C : List Tok} (h : St w B pv cv P C) : St w B pv (.slice none 0 0) P [] := by
  obtain ⟨us, h1, h2, h3, h4⟩ := h
  refine ⟨us, h1, World.ownsRow_nil _ _ _ _, fun g _ => by simp [Value.ownBlock], fun i x hx => ?_⟩
  obtain ⟨u, hu, ho, hne⟩ := h4 i x hx
  exact ⟨u, hu, ho, fun g hg => ⟨(hne g hg).1, by simp [Value.ownBlock]⟩⟩
theorem ne_row {a b : Option Nat} (h : ∀ g, a = some g → b ≠ some g) : a = none ∨ a ≠ b := by
  cases a with
  | none => exact .inl rfl
  | some g => exact .inr fun e => h g rfl e.symm
theorem St.cur {w w' : World} {o : Obj} {B : Nat} {pv cv cv' : Value} {P : List (List Tok)} {C : List Tok} {t : Tok} (h : St w B pv cv P C) (hown : w'.ownsRow B 43 2 cv' (C ++ [t]).length (toksV (C ++ [t])))
    (hg : (w.alloc o).grownBy w' cv.ownBlock) (hb : cv'.ownBlock = cv.ownBlock ∨ cv'.ownBlock = some (w.alloc o).heap.size) : St w' B pv cv' P (C ++ [t]) := by
  obtain ⟨us, h1, h2, h3, h4⟩ := h
  have hz : (w.alloc o).heap.size = w.heap.size + 1 := by rw [World.size_alloc]
  have hnew : ∀ (v : Value) g, v.ownBlock = some g → (∀ k, v.ownBlock = some k → k < w.heap.size) → cv.ownBlock ≠ some g → cv'.ownBlock ≠ some g := fun v g hv hl hne e => by
    rcases hb with hb | hb
    · exact hne (hb ▸ e)
    · rw [hb] at e
      have := hl g hv
      have := Option.some.inj e
      omega
  refine ⟨us, (World.ownsRow.alloc h1 o).kept hg (ne_row h3), hown, fun g hp => hnew pv g hp (fun k e => (h1.lt k e).2) (h3 g hp), fun i x hx => ?_⟩
  obtain ⟨u, hu, ho, hne⟩ := h4 i x hx
  refine ⟨u, hu, (World.ownsRow.alloc ho o).kept hg (ne_row fun g e => (hne g e).2), fun g e => ⟨(hne g e).1, hnew u g e (fun k e => (ho.lt k e).2) (hne g e).2⟩⟩
theorem St.put {w w' : World} {o : Obj} {B : Nat} {pv pv' cv : Value} {P : List (List Tok)} {C : List Tok} {us : List Value} (h1 : w.ownsRow B 38 1 pv P.length us) (h2 : w.ownsRow B 43 2 cv C.length (toksV C))
    (h3 : ∀ g, pv.ownBlock = some g → cv.ownBlock ≠ some g)
    (h4 : ∀ (i : Nat) (x : List Tok), P[i]? = some x → ∃ u, us[i]? = some u ∧ w.ownsRow B 43 2 u x.length (toksV x) ∧ ∀ g, u.ownBlock = some g → pv.ownBlock ≠ some g ∧ cv.ownBlock ≠ some g)
    (hown : w'.ownsRow B 38 1 pv' (P ++ [C]).length (us ++ [cv])) (hg : (w.alloc o).grownBy w' pv.ownBlock) (hb : pv'.ownBlock = pv.ownBlock ∨ pv'.ownBlock = some (w.alloc o).heap.size) :
    St w' B pv' (.slice none 0 0) (P ++ [C]) [] := by
  have hz : (w.alloc o).heap.size = w.heap.size + 1 := by rw [World.size_alloc]
  have hlen : us.length = P.length := by rw [h1.1, Nat.mul_one]
  have hnew : ∀ (v : Value) g, v.ownBlock = some g → (∀ k, v.ownBlock = some k → k < w.heap.size) → pv.ownBlock ≠ some g → pv'.ownBlock ≠ some g := fun v g hv hl hne e => by
    rcases hb with hb | hb
    · exact hne (hb ▸ e)
    · rw [hb] at e
      have := hl g hv
      have := Option.some.inj e
      omega
  refine ⟨us ++ [cv], hown, World.ownsRow_nil _ _ _ _, fun g _ => by simp [Value.ownBlock], fun i x hx => ?_⟩
  by_cases hi : i < P.length
  · rw [List.getElem?_append_left hi] at hx
    obtain ⟨u, hu, ho, hne⟩ := h4 i x hx
    exact ⟨u, by rw [List.getElem?_append_left (by omega)]; exact hu, (World.ownsRow.alloc ho o).kept hg (ne_row fun g e => (hne g e).1), fun g e => ⟨hnew u g e (fun k e => (ho.lt k e).2) (hne g e).1, by simp [Value.ownBlock]⟩⟩
  · have hi2 : i = P.length := by
      have := (List.getElem?_eq_some_iff.1 hx).1
      rw [List.length_append, List.length_singleton] at this
      omega
    subst hi2
    obtain rfl : C = x := by
      rw [List.getElem?_append_right (Nat.le_refl _), Nat.sub_self] at hx
      exact Option.some.inj hx
    have hne : ∀ g, cv.ownBlock = some g → pv.ownBlock ≠ some g := fun g e e2 => h3 g e2 e
    exact ⟨cv, by rw [List.getElem?_append_right (by omega), hlen, Nat.sub_self]; rfl, (World.ownsRow.alloc h2 o).kept hg (ne_row hne), fun g e => ⟨hnew cv g e (fun k e => (h2.lt k e).2) (hne g e), by simp [Value.ownBlock]⟩⟩
theorem info38 : (Tryd.prog.info? 38).map (fun i => (i.zero, i.size, i.bytes)) = some (some (.slice none 0 0), 1, 24) := by kernel_rfl
/-- A token is appended to the piece that grows. -/
theorem wpList_cur {ops : Array Oper} {rest : List Oper} {o : Oper} {a : Act} {w : World} {Q : Exit → Act → World → Prop} (hgd : o.guard = none) (s x : Operand)
    (ho : o.op = .call { callee := .builtin .append, args := #[s, x], argTypes := #[38, 38] }) (B : Nat) {pv v : Value} {P : List (List Tok)} {C : List Tok} {m : Nat} (f : Tok) (hs : a.eval s = v) (hx : a.eval x = .slice (some ⟨w.heap.size, 0, none⟩) 1 1)
    (hst : St w B pv v P C) (hm : C.length = m) (hb : B ≤ w.heap.size) (hl : m ≤ 1000000)
    (h : ∀ a' c' w', St w' B pv (.slice a' (m + 1) c') P (C ++ [f]) → Below B w w' → wpList Tryd.prog ops Q rest (a.put o.dst (.slice a' (m + 1) c')) w') :
    wpList Tryd.prog ops Q (o :: rest) a (w.alloc (.cells #[.int .i64 (f.kind : Nat), .string (strL f.text)] 43)) := by
  obtain ⟨i0, hi, hz0, hz1, hz2⟩ := info_parts info23
  obtain ⟨us, h1, h2, h3, h4⟩ := hst
  subst hm
  refine wpList_append_own_at _ hgd s x 38 ho B 43 i0 (.agg #[.int .i64 0, .string ⟨#[]⟩]) 2 24 Tryd.underlying38 hi hz0 hz1 hz2 rfl (by decide) v C.length (toksV C) hs (World.ownsRow.alloc h2 _) ⟨w.heap.size, 0, none⟩ 1 1 (tokV f) hx rfl (news_tok w f) (tokV_one f) (by unfold maxLen; omega) (by omega) (by rw [World.size_alloc]; omega) ?_
  intro v' w' e1 e2 _ e4
  rw [← toksV_one, toksV_app, ← List.length_singleton (a := f), ← List.length_append] at e1
  obtain ⟨a', c', rfl⟩ : ∃ a' c', v' = .slice a' (C.length + 1) c' := by
    rcases e1.2 with ⟨rfl, h0⟩ | ⟨g, cap, cur, rfl, _⟩
    · simp at h0
    · exact ⟨_, _, by rw [List.length_append]; rfl⟩
  exact h a' c' w' (St.cur ⟨us, h1, h2, h3, h4⟩ e1 e2 e4) (((Below.refl B w).alloc hb _).trans (grown_below e2 (fun k e => (h2.lt k e).1) (by rw [World.size_alloc]; omega)))
/-- The piece that has grown is put behind the others. -/
theorem wpList_put {ops : Array Oper} {rest : List Oper} {o : Oper} {a : Act} {w : World} {Q : Exit → Act → World → Prop} (hgd : o.guard = none) (s x : Operand)
    (ho : o.op = .call { callee := .builtin .append, args := #[s, x], argTypes := #[51, 51] }) (B : Nat) {v cv : Value} {P : List (List Tok)} {C : List Tok} {m p : Nat} {ca : Option Addr} {cc : Nat} (hcv : cv = .slice ca m cc) (hs : a.eval s = v) (hx : a.eval x = .slice (some ⟨w.heap.size, 0, none⟩) 1 1)
    (hst : St w B v cv P C) (hp : P.length = p) (hb : B ≤ w.heap.size) (hl : p ≤ 1000000)
    (h : ∀ a' c' w', St w' B (.slice a' (p + 1) c') (.slice none 0 0) (P ++ [C]) [] → Below B w w' → wpList Tryd.prog ops Q rest (a.put o.dst (.slice a' (p + 1) c')) w') :
    wpList Tryd.prog ops Q (o :: rest) a (w.alloc (.cells #[cv] 38)) := by
  obtain ⟨i0, hi, hz0, hz1, hz2⟩ := info_parts info38
  obtain ⟨us, h1, h2, h3, h4⟩ := hst
  subst hp
  refine wpList_append_own_at _ hgd s x 51 ho B 38 i0 (.slice none 0 0) 1 24 Tryd.underlying51 hi hz0 hz1 hz2 rfl (by decide) v P.length us hs (World.ownsRow.alloc h1 _) ⟨w.heap.size, 0, none⟩ 1 1 [cv] hx rfl (cell_one_new _ _ _) (fun u hu => by rw [List.mem_singleton.1 hu, hcv]; rfl) (by unfold maxLen; omega) (by omega) (by rw [World.size_alloc]; omega) ?_
  intro v' w' e1 e2 _ e4
  rw [← List.length_singleton (a := C), ← List.length_append] at e1
  obtain ⟨a', c', rfl⟩ : ∃ a' c', v' = .slice a' (P.length + 1) c' := by
    rcases e1.2 with ⟨rfl, h0⟩ | ⟨g, cap, cur, rfl, _⟩
    · simp at h0
    · exact ⟨_, _, by rw [List.length_append]; rfl⟩
  exact h a' c' w' (St.put h1 h2 h3 h4 e1 e2 e4) (((Below.refl B w).alloc hb _).trans (grown_below e2 (fun k e => (h1.lt k e).1) (by rw [World.size_alloc]; omega)))
/-- The slice v reads as pieces of tokens. -/
def PcsOf (w : World) (v : Value) (P : List (List Tok)) : Prop := ∃ g c, v = .slice (some ⟨g, 0, none⟩) P.length c ∧ ∀ (i : Nat) (x : List Tok), P[i]? = some x → ∃ u, w.cell? ⟨g, i, none⟩ = some u ∧ HasT w u x
theorem PcsOf.step {w w' : World} {v : Value} {P : List (List Tok)} (h : PcsOf w v P) (hb : Below w.heap.size w w') : PcsOf w' v P := by
  obtain ⟨g, c, e, h⟩ := h
  refine ⟨g, c, e, fun i x hx => ?_⟩
  obtain ⟨u, hu, ht⟩ := h i x hx
  exact ⟨u, cell_below hu hb, ht.step hb⟩
theorem St.pcs {w : World} {B : Nat} {pv cv : Value} {P : List (List Tok)} {C : List Tok} (h : St w B pv cv P C) (hP : P ≠ []) : PcsOf w pv P := by
  obtain ⟨us, h1, h2, h3, h4⟩ := h
  have hpos := List.length_pos_iff.2 hP
  rcases h1.2 with ⟨_, h0⟩ | ⟨g, cap, cur, rfl, _⟩
  · omega
  · refine ⟨g, cap, rfl, fun i x hx => ?_⟩
    obtain ⟨u, hu, ho, _⟩ := h4 i x hx
    have hc := h1.cells (g := g) rfl i u hu
    rw [add_none, Nat.zero_add] at hc
    exact ⟨u, hc, OwnF.hasT ⟨B, ho⟩⟩
theorem pcs_in {l : List Tok} {k : Nat} {t : Tok} (h : l[k]? = some t) (C : List Tok) : pcs true C (l.drop k) = pcs (!isS t 62) (C ++ [t]) (l.drop (k + 1)) := by
  obtain ⟨h1, h2⟩ := List.getElem?_eq_some_iff.1 h
  rw [List.drop_eq_getElem_cons h1, h2, pcs]
theorem pcs_cut {l : List Tok} {k : Nat} {t : Tok} (h : l[k]? = some t) (C : List Tok) (hc : isS t 44 = true ∨ isS t 59 = true) : pcs false C (l.drop k) = C :: pcs false [] (l.drop (k + 1)) := by
  obtain ⟨h1, h2⟩ := List.getElem?_eq_some_iff.1 h
  rw [List.drop_eq_getElem_cons h1, h2, pcs, if_pos hc]
theorem pcs_go {l : List Tok} {k : Nat} {t : Tok} (h : l[k]? = some t) (C : List Tok) (hc : ¬ (isS t 44 = true ∨ isS t 59 = true)) : pcs false C (l.drop k) = pcs (isS t 60) (if isS t 58 = true then [] else C ++ [t]) (l.drop (k + 1)) := by
  obtain ⟨h1, h2⟩ := List.getElem?_eq_some_iff.1 h
  rw [List.drop_eq_getElem_cons h1, h2, pcs, if_neg hc]
set_option maxRecDepth 100000 in
set_option maxHeartbeats 8000000 in
theorem rpieces_p (S : ByteArray) (hS : S.size ≤ 100000) (ALL : List (List Tok)) (hALL : pcs false [] (bareT (scanL S.data.toList)) = ALL) (N : Nat) (hN : ALL.length = N) (w : World) :
    Calls Tryd.prog 29 #[.string S] w fun e w' => ∃ g c, e = .returned (.slice (some ⟨g, 0, none⟩) N c) ∧ PcsOf w' (.slice (some ⟨g, 0, none⟩) N c) ALL ∧ Below w.heap.size w w' := by
  have cA := fun W => rscan_any S (by omega) W
  have hln := scan_len S.data.toList
  rw [← size_list] at hln
  generalize scanL S.data.toList = q at cA hALL hln
  have cB := fun W v (h : Hid (OwnF W v q)) => rbare_any v q W h.out.has (by omega)
  have hbl := bare_len q q.length
  rw [List.take_length] at hbl
  obtain ⟨l, hl⟩ : ∃ l, bareL q = l := ⟨_, rfl⟩
  rw [show bareT q = l from hl] at hALL
  rw [hl] at cB hbl
  obtain ⟨n, hn⟩ : ∃ n, l.length = n := ⟨_, rfl⟩
  obtain ⟨nq, hnq⟩ : ∃ n, q.length = n := ⟨_, rfl⟩
  rw [hn] at cB hbl
  rw [hnq] at cA hbl hln
  have hn6 : n ≤ 100000 := by omega
  have HL := Lib.hid hn
  have HALL := Lib.hid hALL
  have HN := Lib.hid hN
  clear hALL hN hn hl hln hbl hnq hS
  go_enter Tryd.func29, Tryd.ntmps29
  go_wp2_with (first
    | (go_at_call 50; (with_reducible refine (cA _).mono ?_); rintro e w1 ⟨a1, c1, rfl, h1, hb1⟩; replace h1 := Lib.hid h1; have HB1 := Lib.hid hb1; clear hb1 cA)
    | (go_at_call 49; (with_reducible refine (cB _ _ h1).mono ?_); rintro e w2 ⟨a2, c2, rfl, h2, hb2⟩; have HB2 := Lib.hid (HB1.out.trans (hb2.mono HB1.out.size)); clear hb2 cB))
  have HF := Lib.hid h2.has
  clear h2 h1
  go_loopw [4, 5, 6, 7] (fun pv cv ins x wr => ∃ (k : Nat) (P : List (List Tok)) (C : List Tok) (b : Bool) (p m : Nat), k ≤ n ∧ p ≤ k ∧ m ≤ k ∧ (∃ a c, pv = .slice a p c) ∧ (∃ a c, cv = .slice a m c) ∧ ins = .bool b ∧ x = .int .i64 k ∧ Hid (P.length = p ∧ C.length = m) ∧ Hid (St wr w2.heap.size pv cv P C) ∧ Hid (Below w2.heap.size w2 wr) ∧ Hid (P ++ pcs b C (l.drop k) = ALL)) (fun _ _ _ x _ => n - (intOf x).toNat)
  case atStart => exact ⟨0, [], [], false, 0, 0, Nat.zero_le _, Nat.le_refl _, Nat.le_refl _, ⟨none, 0, rfl⟩, ⟨none, 0, rfl⟩, rfl, rfl, Lib.hid ⟨rfl, rfl⟩, Lib.hid (St.first w2 _), Lib.hid (Below.refl _ _), Lib.hid (by rw [List.drop_zero, List.nil_append]; exact HALL.out)⟩
  case round =>
    obtain ⟨k, P, C, b, p, m, hk, hpk, hmk, ⟨pa, pc, rfl⟩, ⟨ca, cc, rfl⟩, rfl, rfl, HPC, ST0, HB3, HG⟩ := hrel
    have F1 : IntKind.i64.wrap ((k : Int) + 1) = (k : Int) + 1 := by rw [IntKind.wrap_i64]; omega
    by_cases hlt : k < n
    · have hlt' : (k : Int) < (n : Int) := by omega
      obtain ⟨g, o, rfl, hfa⟩ := HF.out.at (by omega)
      obtain ⟨t, ht⟩ : ∃ t, l[k]? = some t := ⟨_, List.getElem?_eq_getElem (by rw [HL.out]; exact hlt)⟩
      have HC := Lib.hid (fun W (hb : Below w2.heap.size w2 W) => hfa.step hb k t ht)
      obtain ⟨k0, k1⟩ := HC.out _ HB3.out
      have hg := HG.out
      have cI := fun c r (hr : isS t c = r) W => ris_tok t c r hr W
      clear hfa
      cases b with
      | true =>
        rw [pcs_in ht] at hg
        have HG2 := Lib.hid hg
        have c62 := cI 62 _ rfl
        have HPC2 := Lib.hid (show P.length = p ∧ (C ++ [t]).length = m + 1 from ⟨HPC.out.1, by rw [List.length_append, HPC.out.2]; rfl⟩)
        generalize isS t 62 = r at c62 HG2 hg
        clear cI hg ht HG
        go_wp2_with (first
          | (go_at_call 51; (with_reducible refine (c62 _).mono ?_); rintro e w4 ⟨rfl, hb4⟩; have HB4 := Lib.hid (HB3.out.trans (hb4.mono HB3.out.size)); have ST4 := Lib.hid (ST0.out.step hb4); obtain ⟨k04, k14⟩ := HC.out _ HB4.out; clear hb4 c62)
          | (at_builtin; refine wpList_cur rfl (.tmp 24) (.tmp 29) rfl w2.heap.size t rfl rfl ST4.out HPC.out.2 HB4.out.size (by omega) ?_; intro a5 c5 w5 st5 bl5; have ST5 := Lib.hid st5; have HB5 := Lib.hid (HB4.out.trans bl5); obtain ⟨k05, k15⟩ := HC.out _ HB5.out; clear st5 bl5))
        go_roundw
        case rel => exact ⟨k + 1, P, C ++ [t], !r, p, m + 1, by omega, by omega, by omega, ⟨pa, pc, rfl⟩, ⟨_, _, rfl⟩, by go_num, by go_num, HPC2, ST5, HB5, HG2⟩
        case measure => simp [intOf]; omega
      | false =>
        have hpz : p ≤ 1000000 := by omega
        cases h44 : isS t 44 with
        | true =>
          rw [pcs_cut ht C (.inl h44)] at hg
          have HG2 := Lib.hid (show (P ++ [C]) ++ pcs false [] (l.drop (k + 1)) = ALL by rw [← hg]; simp)
          have c44 := cI 44 true h44
          have HPC2 := Lib.hid (show (P ++ [C]).length = p + 1 ∧ ([] : List Tok).length = 0 from ⟨by rw [List.length_append, HPC.out.1]; rfl, rfl⟩)
          clear cI hg ht HG h44
          go_wp2_with (first
            | (go_at_call 51; (with_reducible refine (c44 _).mono ?_); rintro e w4 ⟨rfl, hb4⟩; have HB4 := Lib.hid (HB3.out.trans (hb4.mono HB3.out.size)); have ST4 := Lib.hid (ST0.out.step hb4); obtain ⟨k04, k14⟩ := HC.out _ HB4.out; clear hb4 c44)
            | (at_builtin; refine wpList_put rfl (.tmp 43) (.tmp 45) rfl w2.heap.size rfl rfl rfl ST4.out HPC.out.1 HB4.out.size hpz ?_; intro a5 c5 w5 st5 bl5; have ST5 := Lib.hid st5; have HB5 := Lib.hid (HB4.out.trans bl5); clear st5 bl5))
          go_roundw
          case rel => exact ⟨k + 1, P ++ [C], [], false, p + 1, 0, by omega, by omega, by omega, ⟨_, _, rfl⟩, ⟨none, 0, rfl⟩, rfl, by go_num, HPC2, ST5, HB5, HG2⟩
          case measure => simp [intOf]; omega
        | false =>
          have c44 := cI 44 false h44
          cases h59 : isS t 59 with
          | true =>
            rw [pcs_cut ht C (.inr h59)] at hg
            have HG2 := Lib.hid (show (P ++ [C]) ++ pcs false [] (l.drop (k + 1)) = ALL by rw [← hg]; simp)
            have c59 := cI 59 true h59
            have HPC2 := Lib.hid (show (P ++ [C]).length = p + 1 ∧ ([] : List Tok).length = 0 from ⟨by rw [List.length_append, HPC.out.1]; rfl, rfl⟩)
            clear cI hg ht HG h44 h59
            go_wp2_with (first
              | (go_at_call 51; (with_reducible refine (c44 _).mono ?_); rintro e w4 ⟨rfl, hb4⟩; have HB4 := Lib.hid (HB3.out.trans (hb4.mono HB3.out.size)); have ST4 := Lib.hid (ST0.out.step hb4); obtain ⟨k04, k14⟩ := HC.out _ HB4.out; clear hb4 c44)
              | (go_at_call 51; (with_reducible refine (c59 _).mono ?_); rintro e w5 ⟨rfl, hb5⟩; have HB5 := Lib.hid (HB4.out.trans (hb5.mono HB4.out.size)); have ST5 := Lib.hid (ST4.out.step hb5); obtain ⟨k05, k15⟩ := HC.out _ HB5.out; clear hb5 c59)
              | (at_builtin; refine wpList_put rfl (.tmp 43) (.tmp 45) rfl w2.heap.size rfl rfl rfl ST5.out HPC.out.1 HB5.out.size hpz ?_; intro a6 c6 w6 st6 bl6; have ST6 := Lib.hid st6; have HB6 := Lib.hid (HB5.out.trans bl6); clear st6 bl6))
            go_roundw
            case rel => exact ⟨k + 1, P ++ [C], [], false, p + 1, 0, by omega, by omega, by omega, ⟨_, _, rfl⟩, ⟨none, 0, rfl⟩, rfl, by go_num, HPC2, ST6, HB6, HG2⟩
            case measure => simp [intOf]; omega
          | false =>
            have c59 := cI 59 false h59
            have hno : ¬ (isS t 44 = true ∨ isS t 59 = true) := by rw [h44, h59]; exact fun h => h.elim Bool.false_ne_true Bool.false_ne_true
            rw [pcs_go ht C hno] at hg
            have c60 := cI 60 _ rfl
            cases h58 : isS t 58 with
            | true =>
              have c58 := cI 58 true h58
              rw [h58, if_pos rfl] at hg
              have HG2 := Lib.hid hg
              have HPC2 := Lib.hid (show P.length = p ∧ ([] : List Tok).length = 0 from ⟨HPC.out.1, rfl⟩)
              generalize isS t 60 = r at c60 HG2 hg
              clear cI hg ht HG h44 h59 h58 hno
              go_wp2_with (first
                | (go_at_call 51; (with_reducible refine (c44 _).mono ?_); rintro e w4 ⟨rfl, hb4⟩; have HB4 := Lib.hid (HB3.out.trans (hb4.mono HB3.out.size)); have ST4 := Lib.hid (ST0.out.step hb4); obtain ⟨k04, k14⟩ := HC.out _ HB4.out; clear hb4 c44)
                | (go_at_call 51; (with_reducible refine (c59 _).mono ?_); rintro e w5 ⟨rfl, hb5⟩; have HB5 := Lib.hid (HB4.out.trans (hb5.mono HB4.out.size)); have ST5 := Lib.hid (ST4.out.step hb5); obtain ⟨k05, k15⟩ := HC.out _ HB5.out; clear hb5 c59)
                | (at_builtin; refine wpList_cur rfl (.tmp 47) (.tmp 52) rfl w2.heap.size t rfl rfl ST5.out HPC.out.2 HB5.out.size (by omega) ?_; intro a6 c6 w6 st6 bl6; have ST6 := Lib.hid st6; have HB6 := Lib.hid (HB5.out.trans bl6); obtain ⟨k06, k16⟩ := HC.out _ HB6.out; clear st6 bl6)
                | (go_at_call 51; (with_reducible refine (c58 _).mono ?_); rintro e w7 ⟨rfl, hb7⟩; have HB7 := Lib.hid (HB6.out.trans (hb7.mono HB6.out.size)); have ST7 := Lib.hid (ST6.out.step hb7); obtain ⟨k07, k17⟩ := HC.out _ HB7.out; clear hb7 c58)
                | (go_at_call 51; (with_reducible refine (c60 _).mono ?_); rintro e w8 ⟨rfl, hb8⟩; have HB8 := Lib.hid (HB7.out.trans (hb8.mono HB7.out.size)); have ST8 := Lib.hid (ST7.out.step hb8); obtain ⟨k08, k18⟩ := HC.out _ HB8.out; clear hb8 c60))
              go_roundw
              case rel => exact ⟨k + 1, P, [], r, p, 0, by omega, by omega, by omega, ⟨pa, pc, rfl⟩, ⟨none, 0, rfl⟩, rfl, by go_num, HPC2, Lib.hid ST8.out.nil, HB8, HG2⟩
              case measure => simp [intOf]; omega
            | false =>
              have c58 := cI 58 false h58
              rw [h58, if_neg Bool.false_ne_true] at hg
              have HG2 := Lib.hid hg
              have HPC2 := Lib.hid (show P.length = p ∧ (C ++ [t]).length = m + 1 from ⟨HPC.out.1, by rw [List.length_append, HPC.out.2]; rfl⟩)
              generalize isS t 60 = r at c60 HG2 hg
              clear cI hg ht HG h44 h59 h58 hno
              go_wp2_with (first
                | (go_at_call 51; (with_reducible refine (c44 _).mono ?_); rintro e w4 ⟨rfl, hb4⟩; have HB4 := Lib.hid (HB3.out.trans (hb4.mono HB3.out.size)); have ST4 := Lib.hid (ST0.out.step hb4); obtain ⟨k04, k14⟩ := HC.out _ HB4.out; clear hb4 c44)
                | (go_at_call 51; (with_reducible refine (c59 _).mono ?_); rintro e w5 ⟨rfl, hb5⟩; have HB5 := Lib.hid (HB4.out.trans (hb5.mono HB4.out.size)); have ST5 := Lib.hid (ST4.out.step hb5); obtain ⟨k05, k15⟩ := HC.out _ HB5.out; clear hb5 c59)
                | (at_builtin; refine wpList_cur rfl (.tmp 47) (.tmp 52) rfl w2.heap.size t rfl rfl ST5.out HPC.out.2 HB5.out.size (by omega) ?_; intro a6 c6 w6 st6 bl6; have ST6 := Lib.hid st6; have HB6 := Lib.hid (HB5.out.trans bl6); obtain ⟨k06, k16⟩ := HC.out _ HB6.out; clear st6 bl6)
                | (go_at_call 51; (with_reducible refine (c58 _).mono ?_); rintro e w7 ⟨rfl, hb7⟩; have HB7 := Lib.hid (HB6.out.trans (hb7.mono HB6.out.size)); have ST7 := Lib.hid (ST6.out.step hb7); obtain ⟨k07, k17⟩ := HC.out _ HB7.out; clear hb7 c58)
                | (go_at_call 51; (with_reducible refine (c60 _).mono ?_); rintro e w8 ⟨rfl, hb8⟩; have HB8 := Lib.hid (HB7.out.trans (hb8.mono HB7.out.size)); have ST8 := Lib.hid (ST7.out.step hb8); obtain ⟨k08, k18⟩ := HC.out _ HB8.out; clear hb8 c60))
              go_roundw
              case rel => exact ⟨k + 1, P, C ++ [t], r, p, m + 1, by omega, by omega, by omega, ⟨pa, pc, rfl⟩, ⟨_, _, rfl⟩, rfl, by go_num, HPC2, ST8, HB8, HG2⟩
              case measure => simp [intOf]; omega
    · obtain rfl : k = n := by omega
      have hlt' : ¬ (k : Int) < (k : Int) := by omega
      have hnil : l.drop k = [] := List.drop_eq_nil_of_le (by rw [HL.out]; exact Nat.le_refl _)
      have hg := HG.out
      rw [hnil] at hg
      have hpc : pcs b C [] = [C] := by cases b <;> rfl
      rw [hpc] at hg
      have hpz : p ≤ 1000000 := by omega
      have HE := Lib.hid (show P ++ [C] = ALL ∧ p + 1 = N from ⟨hg, by rw [← HN.out, ← hg, List.length_append, HPC.out.1]; rfl⟩)
      clear hg hpc hnil HG
      go_wp2_with (at_builtin; refine wpList_put rfl (.tmp 64) (.tmp 66) rfl w2.heap.size rfl rfl rfl ST0.out HPC.out.1 HB3.out.size hpz ?_; intro a5 c5 w5 st5 bl5; have ST5 := Lib.hid st5; have HB5 := Lib.hid (HB3.out.trans bl5); clear st5 bl5)
      go_ret
      obtain ⟨e1, e2⟩ := HE.out
      subst e1 e2
      obtain ⟨g, c, e, hpp⟩ := ST5.out.pcs (by simp)
      have e' := e
      injection e' with f1 f2 f3
      subst f1
      exact ⟨g, _, rfl, ⟨g, c, e, hpp⟩, HB2.out.trans (HB5.out.mono HB2.out.size)⟩
end Go.Proofs.YtgponokcigapaaaDoor
