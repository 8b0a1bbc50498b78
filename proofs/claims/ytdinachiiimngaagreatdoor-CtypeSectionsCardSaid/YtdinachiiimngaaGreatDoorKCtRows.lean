/- The reference's Rows: slices of tokens in a slice. -/
import Derived.Test.YtdinachiiimngaaGreatDoorK2
import Derived.Maps.AppendAt
namespace Go.Proofs.YtdinachiiimngaaGreatDoor
open Go.ChangeShapes Go.WideShapes Go.ChangeAt Go.RowKit
open TokP AdrP CtP

/-- A slice of tokens whose length is within its capacity. -/
def HasT (w : World) (v : Value) (l : List TokP.Tok) : Prop := ∃ a c, v = .slice a l.length c ∧ l.length ≤ c ∧ HasF w v l
theorem HasT.step {w w' : World} {v : Value} {l : List TokP.Tok} (h : HasT w v l) (hb : Below w.heap.size w w') : HasT w' v l := by
  obtain ⟨a, c, e, h1, h2⟩ := h
  exact ⟨a, c, e, h1, h2.step hb⟩
theorem OwnF.hasT {w : World} {v : Value} {l : List TokP.Tok} (h : OwnF w v l) : HasT w v l := by
  have h2 := h.has
  obtain ⟨b, ho⟩ := h
  rcases ho.2 with ⟨rfl, h0⟩ | ⟨g, cap, cur, rfl, _, _, hc, _⟩
  · exact ⟨none, 0, by rw [h0], by omega, h2⟩
  · exact ⟨_, _, rfl, hc, h2⟩
theorem Below.grownN {w w' : World} (h : Below w.heap.size w w') : w.grownBy w' none := ⟨h.os, h.tape, h.output, h.size, fun k hk _ => h.block k hk⟩
theorem grown_below {B : Nat} {w w' : World} {row : Option Nat} (hg : w.grownBy w' row) (hr : ∀ k, row = some k → B ≤ k) (hB : B ≤ w.heap.size) : Below B w w' :=
  ⟨hg.os, hg.tape, hg.output, hg.size, fun k hk => hg.block k (by omega) (fun e => by have := hr k e.symm; omega)⟩
/-- The state of the loop: the pieces so far, the piece that grows, each in a block of its own from B on. -/
def St (w : World) (B : Nat) (pv cv : Value) (P : List (List TokP.Tok)) (C : List TokP.Tok) : Prop :=
  ∃ us : List Value, w.ownsRow B 55 1 pv P.length us ∧ w.ownsRow B 89 2 cv C.length (toksV C) ∧
    (∀ g, pv.ownBlock = some g → cv.ownBlock ≠ some g) ∧
    ∀ (i : Nat) (x : List TokP.Tok), P[i]? = some x → ∃ u, us[i]? = some u ∧ w.ownsRow B 89 2 u x.length (toksV x) ∧ ∀ g, u.ownBlock = some g → pv.ownBlock ≠ some g ∧ cv.ownBlock ≠ some g
theorem St.first (w : World) (B : Nat) : St w B (.slice none 0 0) (.slice none 0 0) [] [] :=
  ⟨[], World.ownsRow_nil _ _ _ _, World.ownsRow_nil _ _ _ _, fun g h => absurd h (by simp [Value.ownBlock]), fun i x h => absurd h (by simp)⟩
theorem St.step {w w' : World} {B : Nat} {pv cv : Value} {P : List (List TokP.Tok)} {C : List TokP.Tok} (h : St w B pv cv P C) (hb : Below w.heap.size w w') : St w' B pv cv P C := by
  obtain ⟨us, h1, h2, h3, h4⟩ := h
  have hg := Below.grownN hb
  have hn : ∀ v : Value, v.ownBlock = none ∨ v.ownBlock ≠ none := fun v => by cases v.ownBlock <;> simp
  refine ⟨us, h1.kept hg (hn _), h2.kept hg (hn _), h3, fun i x hx => ?_⟩
  obtain ⟨u, hu, ho, hne⟩ := h4 i x hx
  exact ⟨u, hu, ho.kept hg (hn _), hne⟩
theorem St.nil {w : World} {B : Nat} {pv cv : Value} {P : List (List TokP.Tok)} {C : List TokP.Tok} (h : St w B pv cv P C) : St w B pv (.slice none 0 0) P [] := by
  obtain ⟨us, h1, h2, h3, h4⟩ := h
  refine ⟨us, h1, World.ownsRow_nil _ _ _ _, fun g _ => by simp [Value.ownBlock], fun i x hx => ?_⟩
  obtain ⟨u, hu, ho, hne⟩ := h4 i x hx
  exact ⟨u, hu, ho, fun g hg => ⟨(hne g hg).1, by simp [Value.ownBlock]⟩⟩
theorem ne_row {a b : Option Nat} (h : ∀ g, a = some g → b ≠ some g) : a = none ∨ a ≠ b := by
  cases a with
  | none => exact .inl rfl
  | some g => exact .inr fun e => h g rfl e.symm
theorem St.cur {w w' : World} {o : Obj} {B : Nat} {pv cv cv' : Value} {P : List (List TokP.Tok)} {C : List TokP.Tok} {t : TokP.Tok} (h : St w B pv cv P C) (hown : w'.ownsRow B 89 2 cv' (C ++ [t]).length (toksV (C ++ [t])))
    (hg : (w.alloc o).grownBy w' cv.ownBlock) (hb : cv'.ownBlock = cv.ownBlock ∨ cv'.ownBlock = some (w.alloc o).heap.size) : St w' B pv cv' P (C ++ [t]) := by
  obtain ⟨us, h1, h2, h3, h4⟩ := h
  have hz : (w.alloc o).heap.size = w.heap.size + 1 := by rw [World.size_alloc]
  have hnew : ∀ (v : Value) g, v.ownBlock = some g → (∀ k, v.ownBlock = some k → k < w.heap.size) → cv.ownBlock ≠ some g → cv'.ownBlock ≠ some g := fun v g hv hl hne e => by
    rcases hb with hb | hb
    · exact hne (hb ▸ e)
    · rw [hb] at e
      have := hl g hv
      have := Option.some.inj e
      omega
  refine ⟨us, (World.ownsRow.alloc h1 o).kept hg (ne_row h3), hown, fun g hp => hnew pv g hp (fun k e => (h1.lt k e).2) (h3 g hp), fun i x hx => ?_⟩
  obtain ⟨u, hu, ho, hne⟩ := h4 i x hx
  refine ⟨u, hu, (World.ownsRow.alloc ho o).kept hg (ne_row fun g e => (hne g e).2), fun g e => ⟨(hne g e).1, hnew u g e (fun k e => (ho.lt k e).2) (hne g e).2⟩⟩
theorem St.put {w w' : World} {o : Obj} {B : Nat} {pv pv' cv : Value} {P : List (List TokP.Tok)} {C : List TokP.Tok} {us : List Value} (h1 : w.ownsRow B 55 1 pv P.length us) (h2 : w.ownsRow B 89 2 cv C.length (toksV C))
    (h3 : ∀ g, pv.ownBlock = some g → cv.ownBlock ≠ some g)
    (h4 : ∀ (i : Nat) (x : List TokP.Tok), P[i]? = some x → ∃ u, us[i]? = some u ∧ w.ownsRow B 89 2 u x.length (toksV x) ∧ ∀ g, u.ownBlock = some g → pv.ownBlock ≠ some g ∧ cv.ownBlock ≠ some g)
    (hown : w'.ownsRow B 55 1 pv' (P ++ [C]).length (us ++ [cv])) (hg : (w.alloc o).grownBy w' pv.ownBlock) (hb : pv'.ownBlock = pv.ownBlock ∨ pv'.ownBlock = some (w.alloc o).heap.size) :
    St w' B pv' (.slice none 0 0) (P ++ [C]) [] := by
  have hz : (w.alloc o).heap.size = w.heap.size + 1 := by rw [World.size_alloc]
  have hlen : us.length = P.length := by rw [h1.1, Nat.mul_one]
  have hnew : ∀ (v : Value) g, v.ownBlock = some g → (∀ k, v.ownBlock = some k → k < w.heap.size) → pv.ownBlock ≠ some g → pv'.ownBlock ≠ some g := fun v g hv hl hne e => by
    rcases hb with hb | hb
    · exact hne (hb ▸ e)
    · rw [hb] at e
      have := hl g hv
      have := Option.some.inj e
      omega
  refine ⟨us ++ [cv], hown, World.ownsRow_nil _ _ _ _, fun g _ => by simp [Value.ownBlock], fun i x hx => ?_⟩
  by_cases hi : i < P.length
  · rw [List.getElem?_append_left hi] at hx
    obtain ⟨u, hu, ho, hne⟩ := h4 i x hx
    exact ⟨u, by rw [List.getElem?_append_left (by omega)]; exact hu, (World.ownsRow.alloc ho o).kept hg (ne_row fun g e => (hne g e).1), fun g e => ⟨hnew u g e (fun k e => (ho.lt k e).2) (hne g e).1, by simp [Value.ownBlock]⟩⟩
  · have hi2 : i = P.length := by
      have := (List.getElem?_eq_some_iff.1 hx).1
      rw [List.length_append, List.length_singleton] at this
      omega
    subst hi2
    obtain rfl : C = x := by
      rw [List.getElem?_append_right (Nat.le_refl _), Nat.sub_self] at hx
      exact Option.some.inj hx
    have hne : ∀ g, cv.ownBlock = some g → pv.ownBlock ≠ some g := fun g e e2 => h3 g e2 e
    exact ⟨cv, by rw [List.getElem?_append_right (by omega), hlen, Nat.sub_self]; rfl, (World.ownsRow.alloc h2 o).kept hg (ne_row hne), fun g e => ⟨hnew cv g e (fun k e => (h2.lt k e).2) (hne g e), by simp [Value.ownBlock]⟩⟩
theorem info38 : (Tryz.prog.info? 55).map (fun i => (i.zero, i.size, i.bytes)) = some (some (.slice none 0 0), 1, 24) := by kernel_rfl
/-- A token is appended to the piece that grows. -/
theorem wpList_cur {ops : Array Oper} {rest : List Oper} {o : Oper} {a : Act} {w : World} {Q : Exit → Act → World → Prop} (hgd : o.guard = none) (s x : Operand)
    (ho : o.op = .call { callee := .builtin .append, args := #[s, x], argTypes := #[55, 55] }) (B : Nat) {pv v : Value} {P : List (List TokP.Tok)} {C : List TokP.Tok} {m : Nat} (f : TokP.Tok) (hs : a.eval s = v) (hx : a.eval x = .slice (some ⟨w.heap.size, 0, none⟩) 1 1)
    (hst : St w B pv v P C) (hm : C.length = m) (hb : B ≤ w.heap.size) (hl : m ≤ 4000000)
    (h : ∀ a' c' w', St w' B pv (.slice a' (m + 1) c') P (C ++ [f]) → Below B w w' → wpList Tryz.prog ops Q rest (a.put o.dst (.slice a' (m + 1) c')) w') :
    wpList Tryz.prog ops Q (o :: rest) a (w.alloc (.cells #[.int .i64 (f.kind : Nat), .string (strL f.text)] 89)) := by
  obtain ⟨i0, hi, hz0, hz1, hz2⟩ := info_parts info23
  obtain ⟨us, h1, h2, h3, h4⟩ := hst
  subst hm
  refine wpList_append_own_at _ hgd s x 55 ho B 89 i0 (.agg #[.int .i64 0, .string ⟨#[]⟩]) 2 24 Tryz.underlying55 hi hz0 hz1 hz2 rfl (by decide) v C.length (toksV C) hs (World.ownsRow.alloc h2 _) ⟨w.heap.size, 0, none⟩ 1 1 (tokV f) hx rfl (news_tok w f) (tokV_one f) (by unfold maxLen; omega) (by omega) (by rw [World.size_alloc]; omega) ?_
  intro v' w' e1 e2 _ e4
  rw [← toksV_one, toksV_app, ← List.length_singleton (a := f), ← List.length_append] at e1
  obtain ⟨a', c', rfl⟩ : ∃ a' c', v' = .slice a' (C.length + 1) c' := by
    rcases e1.2 with ⟨rfl, h0⟩ | ⟨g, cap, cur, rfl, _⟩
    · simp at h0
    · exact ⟨_, _, by rw [List.length_append]; rfl⟩
  exact h a' c' w' (St.cur ⟨us, h1, h2, h3, h4⟩ e1 e2 e4) (((Below.refl B w).alloc hb _).trans (grown_below e2 (fun k e => (h2.lt k e).1) (by rw [World.size_alloc]; omega)))
/-- The piece that has grown is put behind the others. -/
theorem wpList_put {ops : Array Oper} {rest : List Oper} {o : Oper} {a : Act} {w : World} {Q : Exit → Act → World → Prop} (hgd : o.guard = none) (s x : Operand)
    (ho : o.op = .call { callee := .builtin .append, args := #[s, x], argTypes := #[50, 50] }) (B : Nat) {v cv : Value} {P : List (List TokP.Tok)} {C : List TokP.Tok} {m p : Nat} {ca : Option Addr} {cc : Nat} (hcv : cv = .slice ca m cc) (hs : a.eval s = v) (hx : a.eval x = .slice (some ⟨w.heap.size, 0, none⟩) 1 1)
    (hst : St w B v cv P C) (hp : P.length = p) (hb : B ≤ w.heap.size) (hl : p ≤ 4000000)
    (h : ∀ a' c' w', St w' B (.slice a' (p + 1) c') (.slice none 0 0) (P ++ [C]) [] → Below B w w' → wpList Tryz.prog ops Q rest (a.put o.dst (.slice a' (p + 1) c')) w') :
    wpList Tryz.prog ops Q (o :: rest) a (w.alloc (.cells #[cv] 55)) := by
  obtain ⟨i0, hi, hz0, hz1, hz2⟩ := info_parts info38
  obtain ⟨us, h1, h2, h3, h4⟩ := hst
  subst hp
  refine wpList_append_own_at _ hgd s x 50 ho B 55 i0 (.slice none 0 0) 1 24 Tryz.underlying50 hi hz0 hz1 hz2 rfl (by decide) v P.length us hs (World.ownsRow.alloc h1 _) ⟨w.heap.size, 0, none⟩ 1 1 [cv] hx rfl (cell_one_new _ _ _) (fun u hu => by rw [List.mem_singleton.1 hu, hcv]; rfl) (by unfold maxLen; omega) (by omega) (by rw [World.size_alloc]; omega) ?_
  intro v' w' e1 e2 _ e4
  rw [← List.length_singleton (a := C), ← List.length_append] at e1
  obtain ⟨a', c', rfl⟩ : ∃ a' c', v' = .slice a' (P.length + 1) c' := by
    rcases e1.2 with ⟨rfl, h0⟩ | ⟨g, cap, cur, rfl, _⟩
    · simp at h0
    · exact ⟨_, _, by rw [List.length_append]; rfl⟩
  exact h a' c' w' (St.put h1 h2 h3 h4 e1 e2 e4) (((Below.refl B w).alloc hb _).trans (grown_below e2 (fun k e => (h1.lt k e).1) (by rw [World.size_alloc]; omega)))
/-- The slice v reads as pieces of tokens. -/
def PcsOf (w : World) (v : Value) (P : List (List TokP.Tok)) : Prop := ∃ g c, v = .slice (some ⟨g, 0, none⟩) P.length c ∧ P.length ≤ c ∧ ∀ (i : Nat) (x : List TokP.Tok), P[i]? = some x → ∃ u, w.cell? ⟨g, i, none⟩ = some u ∧ HasT w u x
theorem PcsOf.step {w w' : World} {v : Value} {P : List (List TokP.Tok)} (h : PcsOf w v P) (hb : Below w.heap.size w w') : PcsOf w' v P := by
  obtain ⟨g, c, e, hc, h⟩ := h
  refine ⟨g, c, e, hc, fun i x hx => ?_⟩
  obtain ⟨u, hu, ht⟩ := h i x hx
  exact ⟨u, cell_below hu hb, ht.step hb⟩
theorem St.pcs {w : World} {B : Nat} {pv cv : Value} {P : List (List TokP.Tok)} {C : List TokP.Tok} (h : St w B pv cv P C) (hP : P ≠ []) : PcsOf w pv P := by
  obtain ⟨us, h1, h2, h3, h4⟩ := h
  have hpos := List.length_pos_iff.2 hP
  rcases h1.2 with ⟨_, h0⟩ | ⟨g, cap, cur, rfl, _, _, hcap, _⟩
  · omega
  · refine ⟨g, cap, rfl, hcap, fun i x hx => ?_⟩
    obtain ⟨u, hu, ho, _⟩ := h4 i x hx
    have hc := h1.cells (g := g) rfl i u hu
    rw [add_none, Nat.zero_add] at hc
    exact ⟨u, hc, OwnF.hasT ⟨B, ho⟩⟩
theorem rows_one {l : List TokP.Tok} {k : Nat} {t : TokP.Tok} (h : l[k]? = some t) (C : List TokP.Tok) : rowsT C (l.drop k) = if isS t 59 = true then C :: rowsT [] (l.drop (k + 1)) else rowsT (C ++ [t]) (l.drop (k + 1)) := by
  obtain ⟨h1, h2⟩ := List.getElem?_eq_some_iff.1 h
  rw [List.drop_eq_getElem_cons h1, h2, rowsT]
/-- What is asked of the reference's Scan. -/
def RScanOk : Prop := ∀ (s : ByteArray) (_ : s.size ≤ 4000000) (W : World), Calls Tryz.prog 73 #[.string s] W fun e w' => ∃ a c, e = .returned (.slice a (scanL s.data.toList).length c) ∧ OwnF w' (.slice a (scanL s.data.toList).length c) (scanL s.data.toList) ∧ Below W.heap.size W w'
set_option maxRecDepth 100000 in
set_option maxHeartbeats 8000000 in
theorem rrows_p (cSc : RScanOk) (S : ByteArray) (hS : S.size ≤ 4000000) (ALL : List (List TokP.Tok)) (hALL : rowsT [] (bareT (scanL S.data.toList)) = ALL) (N : Nat) (hN : ALL.length = N) (w : World) :
    Calls Tryz.prog 35 #[.string S] w fun e w' => ∃ g c, e = .returned (.slice (some ⟨g, 0, none⟩) N c) ∧ PcsOf w' (.slice (some ⟨g, 0, none⟩) N c) ALL ∧ Below w.heap.size w w' := by
  have cA := fun W => cSc S (by omega) W
  have hln := scan_len S.data.toList
  rw [← size_list] at hln
  generalize scanL S.data.toList = q at cA hALL hln
  have cB := fun W v (h : Hid (OwnF W v q)) => rbare_any v q W h.out.has (by omega)
  have hbl := bare_len q q.length
  rw [List.take_length] at hbl
  obtain ⟨l, hl⟩ : ∃ l, bareL q = l := ⟨_, rfl⟩
  rw [show bareT q = l from hl] at hALL
  rw [hl] at cB hbl
  obtain ⟨n, hn⟩ : ∃ n, l.length = n := ⟨_, rfl⟩
  obtain ⟨nq, hnq⟩ : ∃ n, q.length = n := ⟨_, rfl⟩
  rw [hn] at cB hbl
  rw [hnq] at cA hbl hln
  have hn6 : n ≤ 4000000 := by omega
  have HL := Lib.hid hn
  have HALL := Lib.hid hALL
  have HN := Lib.hid hN
  clear hALL hN hn hl hln hbl hnq hS cSc
  go_enter Tryz.func35, Tryz.ntmps35
  go_wp2_with (first
    | (go_at_call 73; (with_reducible refine (cA _).mono ?_); rintro e w1 ⟨a1, c1, rfl, h1, hb1⟩; replace h1 := Lib.hid h1; have HB1 := Lib.hid hb1; clear hb1 cA)
    | (go_at_call 72; (with_reducible refine (cB _ _ h1).mono ?_); rintro e w2 ⟨a2, c2, rfl, h2, hb2⟩; have HB2 := Lib.hid (HB1.out.trans (hb2.mono HB1.out.size)); clear hb2 cB))
  have HF := Lib.hid h2
  clear h1
  go_loopw [4, 5, 6] (fun pv cv x wr => ∃ (k : Nat) (P : List (List TokP.Tok)) (C : List TokP.Tok) (p m : Nat), k ≤ n ∧ p ≤ k ∧ m ≤ k ∧ (∃ a c, pv = .slice a p c) ∧ (∃ a c, cv = .slice a m c) ∧ x = .int .i64 k ∧ Hid (P.length = p ∧ C.length = m) ∧ Hid (St wr w2.heap.size pv cv P C) ∧ Hid (Below w2.heap.size w2 wr) ∧ Hid (P ++ rowsT C (l.drop k) = ALL)) (fun _ _ x _ => n - (intOf x).toNat)
  case atStart => exact ⟨0, [], [], 0, 0, Nat.zero_le _, Nat.le_refl _, Nat.le_refl _, ⟨none, 0, rfl⟩, ⟨none, 0, rfl⟩, rfl, Lib.hid ⟨rfl, rfl⟩, Lib.hid (St.first w2 _), Lib.hid (Below.refl _ _), Lib.hid (by rw [List.drop_zero, List.nil_append]; exact HALL.out)⟩
  case round =>
    obtain ⟨k, P, C, p, m, hk, hpk, hmk, ⟨pa, pc, rfl⟩, ⟨ca, cc, rfl⟩, rfl, HPC, ST0, HB3, HG⟩ := hrel
    have F1 : IntKind.i64.wrap ((k : Int) + 1) = (k : Int) + 1 := by rw [IntKind.wrap_i64]; omega
    have hpz : p ≤ 4000000 := by omega
    by_cases hlt : k < n
    · have hlt' : (k : Int) < (n : Int) := by omega
      obtain ⟨g, rfl, hfa⟩ := HF.out.at (by omega)
      obtain ⟨t, ht⟩ : ∃ t, l[k]? = some t := ⟨_, List.getElem?_eq_getElem (by rw [HL.out]; exact hlt)⟩
      obtain ⟨k0, k1⟩ := hfa.step HB3.out k t ht
      rw [Nat.zero_add] at k0 k1
      have hg := HG.out
      rw [rows_one ht] at hg
      have hPC1 : P.length = p ∧ (C ++ [t]).length = m + 1 := ⟨HPC.out.1, by rw [List.length_append, HPC.out.2]; rfl⟩
      have hPC2 : (P ++ [C]).length = p + 1 ∧ ([] : List TokP.Tok).length = 0 := ⟨by rw [List.length_append, HPC.out.1]; rfl, rfl⟩
      clear hfa
      by_cases h4 : t.kind = 4
      · have e1 : (((t.kind : Nat) : Int) == 4) = true := beq_iff_eq.2 (by omega)
        by_cases h59 : t.text = [59]
        · have e2 : ((strL t.text).toList == [59]) = true := by rw [ByteArray.toList_eq, strL_list, h59]; rfl
          have hs : isS t 59 = true := (isS_iff t 59).2 (by cases t; simp only at h4 h59; rw [h4, h59])
          rw [if_pos hs] at hg
          have HG2 := Lib.hid (show (P ++ [C]) ++ rowsT [] (l.drop (k + 1)) = ALL by rw [← hg]; simp)
          have HPC2 := Lib.hid hPC2
          clear hg ht HG h4 h59 hs hPC1 hPC2
          go_wp2_with (at_builtin; refine wpList_put rfl (.tmp 30) (.tmp 32) rfl w2.heap.size rfl rfl rfl ST0.out HPC.out.1 HB3.out.size hpz ?_; intro a5 c5 w5 st5 bl5; have ST5 := Lib.hid st5; have HB5 := Lib.hid (HB3.out.trans bl5); clear st5 bl5)
          go_roundw
          case rel => exact ⟨k + 1, P ++ [C], [], p + 1, 0, by omega, by omega, by omega, ⟨_, _, rfl⟩, ⟨none, 0, rfl⟩, by go_num, HPC2, ST5, HB5, HG2⟩
          case measure => simp [intOf]; omega
        · have e2 : ((strL t.text).toList == [59]) = false := by rw [ByteArray.toList_eq, strL_list]; exact beq_eq_false_iff_ne.2 h59
          have hs : ¬ isS t 59 = true := fun h => h59 (by rw [(isS_iff t 59).1 h])
          rw [if_neg hs] at hg
          have HG2 := Lib.hid hg
          have HPC2 := Lib.hid hPC1
          clear hg ht HG h4 h59 hs hPC1 hPC2
          go_wp2_with (at_builtin; refine wpList_cur rfl (.tmp 34) (.tmp 39) rfl w2.heap.size t rfl rfl ST0.out HPC.out.2 HB3.out.size (by omega) ?_; intro a5 c5 w5 st5 bl5; have ST5 := Lib.hid st5; have HB5 := Lib.hid (HB3.out.trans bl5); clear st5 bl5)
          go_roundw
          case rel => exact ⟨k + 1, P, C ++ [t], p, m + 1, by omega, by omega, by omega, ⟨pa, pc, rfl⟩, ⟨_, _, rfl⟩, by go_num, HPC2, ST5, HB5, HG2⟩
          case measure => simp [intOf]; omega
      · have e1 : (((t.kind : Nat) : Int) == 4) = false := beq_eq_false_iff_ne.2 (by omega)
        have hs : ¬ isS t 59 = true := fun h => h4 (by rw [(isS_iff t 59).1 h])
        rw [if_neg hs] at hg
        have HG2 := Lib.hid hg
        have HPC2 := Lib.hid hPC1
        clear hg ht HG h4 hs hPC1 hPC2
        go_wp2_with (at_builtin; refine wpList_cur rfl (.tmp 34) (.tmp 39) rfl w2.heap.size t rfl rfl ST0.out HPC.out.2 HB3.out.size (by omega) ?_; intro a5 c5 w5 st5 bl5; have ST5 := Lib.hid st5; have HB5 := Lib.hid (HB3.out.trans bl5); clear st5 bl5)
        go_roundw
        case rel => exact ⟨k + 1, P, C ++ [t], p, m + 1, by omega, by omega, by omega, ⟨pa, pc, rfl⟩, ⟨_, _, rfl⟩, by go_num, HPC2, ST5, HB5, HG2⟩
        case measure => simp [intOf]; omega
    · obtain rfl : k = n := by omega
      have hlt' : ¬ (k : Int) < (k : Int) := by omega
      have hg := HG.out
      rw [List.drop_eq_nil_of_le (by rw [HL.out]; exact Nat.le_refl _), rowsT] at hg
      have HE := Lib.hid (show P ++ [C] = ALL ∧ p + 1 = N from ⟨hg, by rw [← HN.out, ← hg, List.length_append, HPC.out.1]; rfl⟩)
      clear hg HG
      go_wp2_with (at_builtin; refine wpList_put rfl (.tmp 41) (.tmp 43) rfl w2.heap.size rfl rfl rfl ST0.out HPC.out.1 HB3.out.size hpz ?_; intro a5 c5 w5 st5 bl5; have ST5 := Lib.hid st5; have HB5 := Lib.hid (HB3.out.trans bl5); clear st5 bl5)
      go_ret
      obtain ⟨e1, e2⟩ := HE.out
      subst e1 e2
      obtain ⟨g, c, e, hcc, hpp⟩ := ST5.out.pcs (by simp)
      have e' := e
      injection e' with f1 f2 f3
      subst f1
      exact ⟨g, _, rfl, ⟨g, c, e, hcc, hpp⟩, HB2.out.trans (HB5.out.mono HB2.out.size)⟩
end Go.Proofs.YtdinachiiimngaaGreatDoor
