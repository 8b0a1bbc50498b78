/- Bare: the tokens that are neither white space nor comments. -/
import Derived.Test.YtmpgclimgbjeoaaDoorJoin
namespace Go.Proofs.YtmpgclimgbjeoaaDoor
open Go.ChangeShapes Go.WideShapes Go.ChangeAt Go.RowKit
open TokP

theorem cell_below {w w' : World} {a : Addr} {v : Value} (h : w.cell? a = some v) (hb : Below w.heap.size w w') : w'.cell? a = some v := by
  rw [World.cell?_of_block (w := w) (hb.block _ (World.block_lt_of_cell? w a h))]; exact h
theorem cell_alloc {w : World} {a : Addr} {v : Value} (h : w.cell? a = some v) (o : Obj) : (w.alloc o).cell? a = some v := cell_below h ((Below.refl _ _).alloc (Nat.le_refl _) o)
theorem cell_grown {w w' : World} {a : Addr} {v : Value} {r : Option Nat} (h : w.cell? a = some v) (hg : w.grownBy w' r) (hr : r ≠ some a.block) : w'.cell? a = some v := by
  rw [World.cell?_of_block (w := w) (hg.block _ (World.block_lt_of_cell? w a h) (fun e => hr e.symm))]; exact h
theorem copy_kind (w : World) (a b : Value) (t : TypeId) : (w.alloc (.cells #[a, b] t)).cell? ⟨w.heap.size, 0, none⟩ = some a := by
  rw [Lib.cell_of_heap (World.alloc_heap_new w _)]; rfl
theorem copy_text (w : World) (a b : Value) (t : TypeId) : (w.alloc (.cells #[a, b] t)).cell? ⟨w.heap.size, 1, none⟩ = some b := by
  rw [Lib.cell_of_heap (World.alloc_heap_new w _)]; rfl
theorem step_append_own {P : Program} {ops : Array Oper} {o : Oper} {a : Act} {w : World} {K : Act → World → Prop} {Q : Exit → Act → World → Prop} {E : Prop}
    (hg : o.guard = none) (s x : Operand) (t : TypeId) (hop : o.op = Op.call { callee := Callee.builtin Builtin.append, args := #[s, x], argTypes := #[t, t] })
    (base : Nat) (e : TypeId) (i : TypeInfo) (z : Value) (size bytes : Nat) (h1 : P.underlying t = some (.slice e)) (h2 : P.info? e = some i) (h3 : i.zero = some z) (h4 : i.size = size) (h5 : i.bytes = bytes) (h6 : z.cells.size = size) (h7 : 0 < size)
    (v : Value) (n : Nat) (xs : List Value) (hs : a.eval s = v) (hown : w.ownsRow base e size v n xs) (ad : Addr) (m c : Nat) (news : List Value) (hx : a.eval x = .slice (some ad) m c) (hn : news.length = m * size)
    (hc : ∀ j u, news[j]? = some u → w.cell? (ad.add j) = some u) (h1c : ∀ u ∈ news, u.oneCell' = true) (b1 : n + m ≤ maxLen) (b2 : (n + m) * bytes ≤ 140737488355328) (hb : base ≤ w.heap.size)
    (hK : ∀ v' w', w'.ownsRow base e size v' (n + m) (xs ++ news) → w.grownBy w' v.ownBlock → K (a.put o.dst v') w') :
    if Region.wanted o (yielded ops a.tmps) = true then Oper.wp P o a w K Q else E := by
  have hw : Region.wanted o (yielded ops a.tmps) = true := by simp [Region.wanted, hg]
  rw [if_pos hw]
  obtain ⟨v', w', hrun, r1, r2, _⟩ := run_append_own (P := P) w base t o.type e i z size bytes h1 h2 h3 h4 h5 h6 h7 v n xs hown ad m c news hn hc h1c b1 b2 hb
  unfold Oper.wp
  simp [execOp, hop, resolve, invoke, builtin, hs, hx, hrun, Result.andThen]
  exact hK v' w' r1 r2
/-- A token is appended in a region that draws its order. -/
theorem step_appF {ops : Array Oper} {o : Oper} {a : Act} {w : World} {K : Act → World → Prop} {Q : Exit → Act → World → Prop} {E : Prop} (hgd : o.guard = none) (d x : Operand)
    (ho : o.op = .call { callee := .builtin .append, args := #[d, x], argTypes := #[26, 26] }) (B : Nat) (out : List Tok) (f : Tok) (m : Nat) {v : Value} (hown : w.ownsRow B 23 2 v out.length (toksV out)) (hm : out.length = m) (hd : a.eval d = v)
    (hx : a.eval x = .slice (some ⟨w.heap.size, 0, none⟩) 1 1) (hlen : m ≤ 1000000) (hB : B ≤ w.heap.size)
    (h : ∀ a' c' w', w'.ownsRow B 23 2 (.slice a' (m + 1) c') (out ++ [f]).length (toksV (out ++ [f])) → (w.alloc (.cells #[.int .i64 (f.kind : Nat), .string (strL f.text)] 23)).grownBy w' v.ownBlock → K (a.put o.dst (.slice a' (m + 1) c')) w') :
    if Region.wanted o (yielded ops a.tmps) = true then Oper.wp Tryd.prog o a (w.alloc (.cells #[.int .i64 (f.kind : Nat), .string (strL f.text)] 23)) K Q else E := by
  obtain ⟨i0, hi, hz0, hz1, hz2⟩ := info_parts info23
  subst hm
  refine step_append_own hgd d x 26 ho B 23 i0 _ 2 24 Tryd.underlying26 hi hz0 hz1 hz2 rfl (by decide) v out.length (toksV out) hd (World.ownsRow.alloc hown _) ⟨w.heap.size, 0, none⟩ 1 1 (tokV f) hx rfl (news_tok w f) (tokV_one f) (by unfold maxLen; omega) (by omega) (by rw [World.size_alloc]; omega) ?_
  intro v' w' h1 h2
  rw [← toksV_one, toksV_app, ← List.length_singleton (a := f), ← List.length_append] at h1
  obtain ⟨a', c', rfl⟩ : ∃ a' c', v' = .slice a' (out.length + 1) c' := by
    rcases h1.2 with ⟨rfl, h0⟩ | ⟨g, cap, cur, rfl, _⟩
    · simp at h0
    · exact ⟨_, _, by rw [List.length_append]; rfl⟩
  exact h a' c' w' h1 h2
def bareL (l : List Tok) : List Tok := l.filter (fun t => t.kind != 6 && t.kind != 3)
theorem bare_step (l : List Tok) (k : Nat) (f : Tok) (h : l[k]? = some f) : bareL (l.take (k + 1)) = bareL (l.take k) ++ (if f.kind = 6 ∨ f.kind = 3 then [] else [f]) := by
  unfold bareL
  rw [List.take_add_one, h, List.filter_append]
  simp only [Option.toList_some, List.filter_cons, List.filter_nil, Bool.and_eq_true, bne_iff_ne]
  by_cases h6 : f.kind = 6
  · simp [h6]
  · by_cases h3 : f.kind = 3
    · simp [h3]
    · simp [h6, h3]
theorem bare_len (l : List Tok) (k : Nat) : (bareL (l.take k)).length ≤ k := by
  have h1 : (bareL (l.take k)).length ≤ (l.take k).length := (List.filter_sublist).length_le
  have h2 := List.length_take_le k l
  omega
set_option maxRecDepth 100000 in
set_option maxHeartbeats 2000000 in
theorem bare_any (v : Value) (l : List Tok) (w : World) (h : HasF w v l) (hn : l.length ≤ 1000000) (ht : ∀ t ∈ l, t.text.length ≤ 1000000) :
    Calls Tryd.prog 12 #[v] w fun e w' => ∃ a c, e = .returned (.slice a (bareL l).length c) ∧ OwnF w' (.slice a (bareL l).length c) (bareL l) ∧ Below w.heap.size w w' := by
  rcases h with ⟨rfl, rfl⟩ | ⟨g, o, c, rfl, h⟩
  · clear ht hn
    go_enter Tryd.func12, Tryd.ntmps12
    go_wp2_with fail
    go_loopw [3, 8] (fun r i wr => i = .int .i64 0 ∧ r = .slice none 0 0 ∧ wr = w) (fun _ _ _ => 0)
    case atStart => exact ⟨rfl, rfl, rfl⟩
    case round =>
      obtain ⟨rfl, rfl, rfl⟩ := hrel
      go_wp2_with fail
      go_ret
      exact ⟨none, 0, rfl, ⟨0, rfl, .inl ⟨rfl, rfl⟩⟩, Below.refl _ _⟩
  · obtain ⟨n, hnn⟩ : ∃ n, l.length = n := ⟨_, rfl⟩
    rw [hnn] at hn ⊢
    have HN := Lib.hid hnn
    have HT := Lib.hid ht
    have H := Lib.hid h
    clear hnn h ht
    go_enter Tryd.func12, Tryd.ntmps12
    go_wp2_with fail
    go_loopw [3, 8] (fun r i wr => ∃ (k m : Nat), k ≤ n ∧ m ≤ k ∧ i = .int .i64 k ∧ (∃ a c, r = .slice a m c) ∧ Hid ((bareL (l.take k)).length = m) ∧ Hid (wr.ownsRow w.heap.size 23 2 r (bareL (l.take k)).length (toksV (bareL (l.take k)))) ∧ Hid (Below w.heap.size w wr)) (fun _ i _ => n - (intOf i).toNat)
    case atStart => exact ⟨0, 0, Nat.zero_le _, Nat.le_refl _, rfl, ⟨none, 0, rfl⟩, rfl, ⟨rfl, .inl ⟨rfl, rfl⟩⟩, Below.refl _ _⟩
    case round =>
      obtain ⟨k, m, hk, hmk, rfl, ⟨a, c2, rfl⟩, hm, ho, hb⟩ := hrel
      have F1 : IntKind.i64.wrap ((k : Int) + 1) = (k : Int) + 1 := by rw [IntKind.wrap_i64]; omega
      by_cases hlt : k < n
      · have hlt' : (k : Int) < (n : Int) := by omega
        obtain ⟨f, hf⟩ : ∃ f, l[k]? = some f := ⟨_, List.getElem?_eq_getElem (by rw [HN.out]; exact hlt)⟩
        obtain ⟨k0, k1⟩ := H.out.step hb.out k f hf
        have hstep := bare_step l k f hf
        by_cases h6 : f.kind = 6
        · rw [if_pos (.inl h6), List.append_nil] at hstep
          have HST := Lib.hid hstep
          rw [h6] at k0
          have HA := Lib.hid (hb.out.alloc hb.out.size (.cells #[.int .i64 (6 : Nat), .string (strL f.text)] 23))
          have HO := Lib.hid (World.ownsRow.alloc ho.out (.cells #[.int .i64 (6 : Nat), .string (strL f.text)] 23))
          clear hstep hf h6
          go_wp2_with fail
          go_roundw
          case rel => exact ⟨k + 1, m, by omega, by omega, by go_num, ⟨a, c2, rfl⟩, by rw [HST.out]; exact hm, by rw [HST.out]; exact HO, HA⟩
          case measure => simp [intOf]; omega
        · by_cases h3 : f.kind = 3
          · rw [if_pos (.inr h3), List.append_nil] at hstep
            have HST := Lib.hid hstep
            rw [h3] at k0
            have HA := Lib.hid (hb.out.alloc hb.out.size (.cells #[.int .i64 (3 : Nat), .string (strL f.text)] 23))
            have HO := Lib.hid (World.ownsRow.alloc ho.out (.cells #[.int .i64 (3 : Nat), .string (strL f.text)] 23))
            clear hstep hf h6 h3
            go_wp2_with fail
            go_roundw
            case rel => exact ⟨k + 1, m, by omega, by omega, by go_num, ⟨a, c2, rfl⟩, by rw [HST.out]; exact hm, by rw [HST.out]; exact HO, HA⟩
            case measure => simp [intOf]; omega
          · rw [if_neg (fun e => e.elim h6 h3)] at hstep
            have HST := Lib.hid hstep
            have g6 : (((f.kind : Nat) : Int) == 6) = false := by rw [beq_eq_false_iff_ne]; omega
            have g3 : (((f.kind : Nat) : Int) == 3) = false := by rw [beq_eq_false_iff_ne]; omega
            have cC := fun W => clone_any (strL f.text) W (by rw [strL_size]; exact HT.out f (List.mem_of_getElem? hf))
            have cA := copy_kind wr (.int .i64 (f.kind : Nat)) (.string (strL f.text)) 23
            have cB := copy_text wr (.int .i64 (f.kind : Nat)) (.string (strL f.text)) 23
            have HA := Lib.hid (hb.out.alloc hb.out.size (.cells #[.int .i64 (f.kind : Nat), .string (strL f.text)] 23))
            have HO := Lib.hid (World.ownsRow.alloc ho.out (.cells #[.int .i64 (f.kind : Nat), .string (strL f.text)] 23))
            have HE : Hid ((Value.slice a m c2).ownBlock ≠ some wr.heap.size) := fun e => by have := (ho.out.lt _ e).2; omega
            have hm1 : m ≤ 1000000 := by omega
            clear hstep hf h6 h3 hlt
            go_wp2_with fail
            obtain ⟨W1, hW1⟩ : ∃ W1, wr.alloc (.cells #[.int .i64 (f.kind : Nat), .string (strL f.text)] 23) = W1 := ⟨_, rfl⟩
            rw [hW1] at cA cB HA HO ⊢
            replace cA : W1.drew.cell? ⟨wr.heap.size, 0, none⟩ = some (.int .i64 (f.kind : Nat)) := cA
            replace cB : W1.drew.cell? ⟨wr.heap.size, 1, none⟩ = some (.string (strL f.text)) := cB
            replace HA := Lib.hid HA.out.drew
            replace HO : Hid (W1.drew.ownsRow w.heap.size 23 2 (.slice a m c2) (bareL (l.take k)).length (toksV (bareL (l.take k)))) := HO
            clear hW1
            go_region_held3 (fun w' => w'.cell? ⟨wr.heap.size, 0, none⟩ = some (.int .i64 (f.kind : Nat)) ∧ w'.cell? ⟨wr.heap.size, 1, none⟩ = some (.string (strL f.text)))
              (first | exact ⟨cA, cB⟩ | exact ⟨cell_below cA hb2, cell_below cB hb2⟩ | exact ⟨cell_alloc (cell_below cA hb2) _, cell_alloc (cell_below cB hb2) _⟩ | exact ⟨cell_grown (cell_alloc (cell_below cA hb2) _) hg2 HE.out, cell_grown (cell_alloc (cell_below cB hb2) _) hg2 HE.out⟩)
              (first
                | (go_at_call 20; (with_reducible refine (cC _).mono ?_); rintro e w2 ⟨rfl, hb2⟩)
                | (refine step_appF rfl (.tmp 18) (.tmp 25) rfl w.heap.size (bareL (l.take k)) f m (own_below HO.out hb2) hm.out rfl rfl hm1 (Nat.le_trans HA.out.size hb2.size) ?_; intro a2 c3 w3 ho3 hg2))
            have HO3 := Lib.hid ho3
            have HB3 := Lib.hid ((HA.out.trans ((hb2.mono HA.out.size).alloc (by have := HA.out.size; have := hb2.size; omega) _)).grown hg2 (by have := HA.out.size; have := hb2.size; rw [World.size_alloc]; omega) (fun k e => (ho.out.lt k e).1))
            clear ho3 hb2 hg2 cA cB
            go_wp2_with fail
            go_roundw
            case rel => exact ⟨k + 1, m + 1, by omega, by omega, by go_num, ⟨a2, c3, rfl⟩, Lib.hid (by rw [HST.out, List.length_append, hm.out]; rfl), Lib.hid (by rw [HST.out]; exact HO3.out), HB3⟩
            case measure => simp [intOf]; omega
      · obtain rfl : k = n := by omega
        have hT : l.take k = l := List.take_of_length_le (by rw [HN.out]; exact Nat.le_refl _)
        rw [hT] at ho hm
        have hlt' : ¬ (k : Int) < (k : Int) := by omega
        clear hT
        go_wp2_with fail
        go_ret
        have e := hm.out
        subst e
        exact ⟨a, c2, rfl, ⟨_, ho.out⟩, hb.out⟩
end Go.Proofs.YtmpgclimgbjeoaaDoor
