/- Bare: the tokens that are neither white space nor comments. The reference's Bare. The reference's Rows: slices of tokens in a slice. Parts of a slice of tokens; slices.Index and slices.IndexFunc over tokens; the program's rows. Parts of a value (a string and whether it is encoded) as values; slices of parts. Parameters as they were written (the reference's One) as values; slices of them: in a block of their own, or read at an address. -/
import Derived.Test.YtdinachiiimngaaGreatDoorK3
import Derived.RangeFuncRecord
import Derived.Test.YtdinachiiimngaaGreatDoorK1
import Derived.Maps.AppendAt
import Derived.BigQuiet
namespace Go.Proofs.YtdinachiiimngaaGreatDoor
open Go.ChangeShapes Go.WideShapes Go.ChangeAt Go.RowKit
open TokP

theorem cell_below {w w' : World} {a : Addr} {v : Value} (h : w.cell? a = some v) (hb : Below w.heap.size w w') : w'.cell? a = some v := by
  rw [World.cell?_of_block (w := w) (hb.block _ (World.block_lt_of_cell? w a h))]; exact h
theorem cell_alloc {w : World} {a : Addr} {v : Value} (h : w.cell? a = some v) (o : Obj) : (w.alloc o).cell? a = some v := cell_below h ((Below.refl _ _).alloc (Nat.le_refl _) o)
theorem cell_grown {w w' : World} {a : Addr} {v : Value} {r : Option Nat} (h : w.cell? a = some v) (hg : w.grownBy w' r) (hr : r ≠ some a.block) : w'.cell? a = some v := by
  rw [World.cell?_of_block (w := w) (hg.block _ (World.block_lt_of_cell? w a h) (fun e => hr e.symm))]; exact h
theorem copy_kind (w : World) (a b : Value) (t : TypeId) : (w.alloc (.cells #[a, b] t)).cell? ⟨w.heap.size, 0, none⟩ = some a := by
  rw [Lib.cell_of_heap (World.alloc_heap_new w _)]; rfl
theorem copy_text (w : World) (a b : Value) (t : TypeId) : (w.alloc (.cells #[a, b] t)).cell? ⟨w.heap.size, 1, none⟩ = some b := by
  rw [Lib.cell_of_heap (World.alloc_heap_new w _)]; rfl
theorem step_append_own {P : Program} {ops : Array Oper} {o : Oper} {a : Act} {w : World} {K : Act → World → Prop} {Q : Exit → Act → World → Prop} {E : Prop}
    (hg : o.guard = none) (s x : Operand) (t : TypeId) (hop : o.op = Op.call { callee := Callee.builtin Builtin.append, args := #[s, x], argTypes := #[t, t] })
    (base : Nat) (e : TypeId) (i : TypeInfo) (z : Value) (size bytes : Nat) (h1 : P.underlying t = some (.slice e)) (h2 : P.info? e = some i) (h3 : i.zero = some z) (h4 : i.size = size) (h5 : i.bytes = bytes) (h6 : z.cells.size = size) (h7 : 0 < size)
    (v : Value) (n : Nat) (xs : List Value) (hs : a.eval s = v) (hown : w.ownsRow base e size v n xs) (ad : Addr) (m c : Nat) (news : List Value) (hx : a.eval x = .slice (some ad) m c) (hn : news.length = m * size)
    (hc : ∀ j u, news[j]? = some u → w.cell? (ad.add j) = some u) (h1c : ∀ u ∈ news, u.oneCell' = true) (b1 : n + m ≤ maxLen) (b2 : (n + m) * bytes ≤ 140737488355328) (hb : base ≤ w.heap.size)
    (hK : ∀ v' w', w'.ownsRow base e size v' (n + m) (xs ++ news) → w.grownBy w' v.ownBlock → K (a.put o.dst v') w') :
    if Region.wanted o (yielded ops a.tmps) = true then Oper.wp P o a w K Q else E := by
  have hw : Region.wanted o (yielded ops a.tmps) = true := by simp [Region.wanted, hg]
  rw [if_pos hw]
  obtain ⟨v', w', hrun, r1, r2, _⟩ := run_append_own (P := P) w base t o.type e i z size bytes h1 h2 h3 h4 h5 h6 h7 v n xs hown ad m c news hn hc h1c b1 b2 hb
  unfold Oper.wp
  simp [execOp, hop, resolve, invoke, builtin, hs, hx, hrun, Result.andThen]
  exact hK v' w' r1 r2
/-- A token is appended in a region that draws its order. -/
theorem step_appF {ops : Array Oper} {o : Oper} {a : Act} {w : World} {K : Act → World → Prop} {Q : Exit → Act → World → Prop} {E : Prop} (hgd : o.guard = none) (d x : Operand)
    (ho : o.op = .call { callee := .builtin .append, args := #[d, x], argTypes := #[55, 55] }) (B : Nat) (out : List Tok) (f : Tok) (m : Nat) {v : Value} (hown : w.ownsRow B 89 2 v out.length (toksV out)) (hm : out.length = m) (hd : a.eval d = v)
    (hx : a.eval x = .slice (some ⟨w.heap.size, 0, none⟩) 1 1) (hlen : m ≤ 4000000) (hB : B ≤ w.heap.size)
    (h : ∀ a' c' w', w'.ownsRow B 89 2 (.slice a' (m + 1) c') (out ++ [f]).length (toksV (out ++ [f])) → (w.alloc (.cells #[.int .i64 (f.kind : Nat), .string (strL f.text)] 89)).grownBy w' v.ownBlock → K (a.put o.dst (.slice a' (m + 1) c')) w') :
    if Region.wanted o (yielded ops a.tmps) = true then Oper.wp Tryz.prog o a (w.alloc (.cells #[.int .i64 (f.kind : Nat), .string (strL f.text)] 89)) K Q else E := by
  obtain ⟨i0, hi, hz0, hz1, hz2⟩ := info_parts info23
  subst hm
  refine step_append_own hgd d x 55 ho B 89 i0 _ 2 24 Tryz.underlying55 hi hz0 hz1 hz2 rfl (by decide) v out.length (toksV out) hd (World.ownsRow.alloc hown _) ⟨w.heap.size, 0, none⟩ 1 1 (tokV f) hx rfl (news_tok w f) (tokV_one f) (by unfold maxLen; omega) (by omega) (by rw [World.size_alloc]; omega) ?_
  intro v' w' h1 h2
  rw [← toksV_one, toksV_app, ← List.length_singleton (a := f), ← List.length_append] at h1
  obtain ⟨a', c', rfl⟩ : ∃ a' c', v' = .slice a' (out.length + 1) c' := by
    rcases h1.2 with ⟨rfl, h0⟩ | ⟨g, cap, cur, rfl, _⟩
    · simp at h0
    · exact ⟨_, _, by rw [List.length_append]; rfl⟩
  exact h a' c' w' h1 h2
def bareL (l : List Tok) : List Tok := l.filter (fun t => t.kind != 6 && t.kind != 3)
theorem bare_step (l : List Tok) (k : Nat) (f : Tok) (h : l[k]? = some f) : bareL (l.take (k + 1)) = bareL (l.take k) ++ (if f.kind = 6 ∨ f.kind = 3 then [] else [f]) := by
  unfold bareL
  rw [List.take_add_one, h, List.filter_append]
  simp only [Option.toList_some, List.filter_cons, List.filter_nil, Bool.and_eq_true, bne_iff_ne]
  by_cases h6 : f.kind = 6
  · simp [h6]
  · by_cases h3 : f.kind = 3
    · simp [h3]
    · simp [h6, h3]
theorem bare_len (l : List Tok) (k : Nat) : (bareL (l.take k)).length ≤ k := by
  have h1 : (bareL (l.take k)).length ≤ (l.take k).length := (List.filter_sublist).length_le
  have h2 := List.length_take_le k l
  omega
set_option maxRecDepth 100000 in
set_option maxHeartbeats 2000000 in
theorem bare_any (v : Value) (l : List Tok) (w : World) (h : HasF w v l) (hn : l.length ≤ 4000000) (ht : ∀ t ∈ l, t.text.length ≤ 4000000) :
    Calls Tryz.prog 62 #[v] w fun e w' => ∃ a c, e = .returned (.slice a (bareL l).length c) ∧ OwnF w' (.slice a (bareL l).length c) (bareL l) ∧ Below w.heap.size w w' := by
  rcases h with ⟨rfl, rfl⟩ | ⟨g, o, c, rfl, h⟩
  · clear ht hn
    go_enter Tryz.func62, Tryz.ntmps62
    go_wp2_with fail
    go_loopw [3, 8] (fun r i wr => i = .int .i64 0 ∧ r = .slice none 0 0 ∧ wr = w) (fun _ _ _ => 0)
    case atStart => exact ⟨rfl, rfl, rfl⟩
    case round =>
      obtain ⟨rfl, rfl, rfl⟩ := hrel
      go_wp2_with fail
      go_ret
      exact ⟨none, 0, rfl, ⟨0, rfl, .inl ⟨rfl, rfl⟩⟩, Below.refl _ _⟩
  · obtain ⟨n, hnn⟩ : ∃ n, l.length = n := ⟨_, rfl⟩
    rw [hnn] at hn ⊢
    have HN := Lib.hid hnn
    have HT := Lib.hid ht
    have H := Lib.hid h
    clear hnn h ht
    go_enter Tryz.func62, Tryz.ntmps62
    go_wp2_with fail
    go_loopw [3, 8] (fun r i wr => ∃ (k m : Nat), k ≤ n ∧ m ≤ k ∧ i = .int .i64 k ∧ (∃ a c, r = .slice a m c) ∧ Hid ((bareL (l.take k)).length = m) ∧ Hid (wr.ownsRow w.heap.size 89 2 r (bareL (l.take k)).length (toksV (bareL (l.take k)))) ∧ Hid (Below w.heap.size w wr)) (fun _ i _ => n - (intOf i).toNat)
    case atStart => exact ⟨0, 0, Nat.zero_le _, Nat.le_refl _, rfl, ⟨none, 0, rfl⟩, rfl, ⟨rfl, .inl ⟨rfl, rfl⟩⟩, Below.refl _ _⟩
    case round =>
      obtain ⟨k, m, hk, hmk, rfl, ⟨a, c2, rfl⟩, hm, ho, hb⟩ := hrel
      have F1 : IntKind.i64.wrap ((k : Int) + 1) = (k : Int) + 1 := by rw [IntKind.wrap_i64]; omega
      by_cases hlt : k < n
      · have hlt' : (k : Int) < (n : Int) := by omega
        obtain ⟨f, hf⟩ : ∃ f, l[k]? = some f := ⟨_, List.getElem?_eq_getElem (by rw [HN.out]; exact hlt)⟩
        obtain ⟨k0, k1⟩ := H.out.step hb.out k f hf
        have hstep := bare_step l k f hf
        by_cases h6 : f.kind = 6
        · rw [if_pos (.inl h6), List.append_nil] at hstep
          have HST := Lib.hid hstep
          rw [h6] at k0
          have HA := Lib.hid (hb.out.alloc hb.out.size (.cells #[.int .i64 (6 : Nat), .string (strL f.text)] 89))
          have HO := Lib.hid (World.ownsRow.alloc ho.out (.cells #[.int .i64 (6 : Nat), .string (strL f.text)] 89))
          clear hstep hf h6
          go_wp2_with fail
          go_roundw
          case rel => exact ⟨k + 1, m, by omega, by omega, by go_num, ⟨a, c2, rfl⟩, by rw [HST.out]; exact hm, by rw [HST.out]; exact HO, HA⟩
          case measure => simp [intOf]; omega
        · by_cases h3 : f.kind = 3
          · rw [if_pos (.inr h3), List.append_nil] at hstep
            have HST := Lib.hid hstep
            rw [h3] at k0
            have HA := Lib.hid (hb.out.alloc hb.out.size (.cells #[.int .i64 (3 : Nat), .string (strL f.text)] 89))
            have HO := Lib.hid (World.ownsRow.alloc ho.out (.cells #[.int .i64 (3 : Nat), .string (strL f.text)] 89))
            clear hstep hf h6 h3
            go_wp2_with fail
            go_roundw
            case rel => exact ⟨k + 1, m, by omega, by omega, by go_num, ⟨a, c2, rfl⟩, by rw [HST.out]; exact hm, by rw [HST.out]; exact HO, HA⟩
            case measure => simp [intOf]; omega
          · rw [if_neg (fun e => e.elim h6 h3)] at hstep
            have HST := Lib.hid hstep
            have g6 : (((f.kind : Nat) : Int) == 6) = false := by rw [beq_eq_false_iff_ne]; omega
            have g3 : (((f.kind : Nat) : Int) == 3) = false := by rw [beq_eq_false_iff_ne]; omega
            have cC := fun W => clone_any (strL f.text) W (by rw [strL_size]; exact HT.out f (List.mem_of_getElem? hf))
            have cA := copy_kind wr (.int .i64 (f.kind : Nat)) (.string (strL f.text)) 89
            have cB := copy_text wr (.int .i64 (f.kind : Nat)) (.string (strL f.text)) 89
            have HA := Lib.hid (hb.out.alloc hb.out.size (.cells #[.int .i64 (f.kind : Nat), .string (strL f.text)] 89))
            have HO := Lib.hid (World.ownsRow.alloc ho.out (.cells #[.int .i64 (f.kind : Nat), .string (strL f.text)] 89))
            have HE : Hid ((Value.slice a m c2).ownBlock ≠ some wr.heap.size) := fun e => by have := (ho.out.lt _ e).2; omega
            have hm1 : m ≤ 4000000 := by omega
            clear hstep hf h6 h3 hlt
            go_wp2_with fail
            obtain ⟨W1, hW1⟩ : ∃ W1, wr.alloc (.cells #[.int .i64 (f.kind : Nat), .string (strL f.text)] 89) = W1 := ⟨_, rfl⟩
            rw [hW1] at cA cB HA HO ⊢
            replace cA : W1.drew.cell? ⟨wr.heap.size, 0, none⟩ = some (.int .i64 (f.kind : Nat)) := cA
            replace cB : W1.drew.cell? ⟨wr.heap.size, 1, none⟩ = some (.string (strL f.text)) := cB
            replace HA := Lib.hid HA.out.drew
            replace HO : Hid (W1.drew.ownsRow w.heap.size 89 2 (.slice a m c2) (bareL (l.take k)).length (toksV (bareL (l.take k)))) := HO
            clear hW1
            go_region_held3 (fun w' => w'.cell? ⟨wr.heap.size, 0, none⟩ = some (.int .i64 (f.kind : Nat)) ∧ w'.cell? ⟨wr.heap.size, 1, none⟩ = some (.string (strL f.text)))
              (first | exact ⟨cA, cB⟩ | exact ⟨cell_below cA hb2, cell_below cB hb2⟩ | exact ⟨cell_alloc (cell_below cA hb2) _, cell_alloc (cell_below cB hb2) _⟩ | exact ⟨cell_grown (cell_alloc (cell_below cA hb2) _) hg2 HE.out, cell_grown (cell_alloc (cell_below cB hb2) _) hg2 HE.out⟩)
              (first
                | (go_at_call 41; (with_reducible refine (cC _).mono ?_); rintro e w2 ⟨rfl, hb2⟩)
                | (refine step_appF rfl (.tmp 18) (.tmp 25) rfl w.heap.size (bareL (l.take k)) f m (own_below HO.out hb2) hm.out rfl rfl hm1 (Nat.le_trans HA.out.size hb2.size) ?_; intro a2 c3 w3 ho3 hg2))
            have HO3 := Lib.hid ho3
            have HB3 := Lib.hid ((HA.out.trans ((hb2.mono HA.out.size).alloc (by have := HA.out.size; have := hb2.size; omega) _)).grown hg2 (by have := HA.out.size; have := hb2.size; rw [World.size_alloc]; omega) (fun k e => (ho.out.lt k e).1))
            clear ho3 hb2 hg2 cA cB
            go_wp2_with fail
            go_roundw
            case rel => exact ⟨k + 1, m + 1, by omega, by omega, by go_num, ⟨a2, c3, rfl⟩, Lib.hid (by rw [HST.out, List.length_append, hm.out]; rfl), Lib.hid (by rw [HST.out]; exact HO3.out), HB3⟩
            case measure => simp [intOf]; omega
      · obtain rfl : k = n := by omega
        have hT : l.take k = l := List.take_of_length_le (by rw [HN.out]; exact Nat.le_refl _)
        rw [hT] at ho hm
        have hlt' : ¬ (k : Int) < (k : Int) := by omega
        clear hT
        go_wp2_with fail
        go_ret
        have e := hm.out
        subst e
        exact ⟨a, c2, rfl, ⟨_, ho.out⟩, hb.out⟩
end Go.Proofs.YtdinachiiimngaaGreatDoor
namespace Go.Proofs.YtdinachiiimngaaGreatDoor
open Go.ChangeShapes Go.WideShapes Go.ChangeAt Go.RowKit
open TokP

set_option maxRecDepth 100000 in
set_option maxHeartbeats 2000000 in
theorem rbare_any (v : Value) (l : List Tok) (w : World) (h : HasF w v l) (hn : l.length ≤ 4000000) :
    Calls Tryz.prog 72 #[v] w fun e w' => ∃ a c, e = .returned (.slice a (bareL l).length c) ∧ OwnF w' (.slice a (bareL l).length c) (bareL l) ∧ Below w.heap.size w w' := by
  rcases h with ⟨rfl, rfl⟩ | ⟨g, o, c, rfl, h⟩
  · clear hn
    go_enter Tryz.func72, Tryz.ntmps72
    go_wp2_with fail
    go_loopw [3, 4] (fun r i wr => i = .int .i64 0 ∧ r = .slice none 0 0 ∧ wr = w) (fun _ _ _ => 0)
    case atStart => exact ⟨rfl, rfl, rfl⟩
    case round =>
      obtain ⟨rfl, rfl, rfl⟩ := hrel
      go_wp2_with fail
      go_ret
      exact ⟨none, 0, rfl, ⟨0, rfl, .inl ⟨rfl, rfl⟩⟩, Below.refl _ _⟩
  · obtain ⟨n, hnn⟩ : ∃ n, l.length = n := ⟨_, rfl⟩
    rw [hnn] at hn ⊢
    have HN := Lib.hid hnn
    have H := Lib.hid h
    clear hnn h
    go_enter Tryz.func72, Tryz.ntmps72
    go_wp2_with fail
    go_loopw [3, 4] (fun r i wr => ∃ (k m : Nat), k ≤ n ∧ m ≤ k ∧ i = .int .i64 k ∧ (∃ a c, r = .slice a m c) ∧ Hid ((bareL (l.take k)).length = m) ∧ Hid (wr.ownsRow w.heap.size 89 2 r (bareL (l.take k)).length (toksV (bareL (l.take k)))) ∧ Hid (Below w.heap.size w wr)) (fun _ i _ => n - (intOf i).toNat)
    case atStart => exact ⟨0, 0, Nat.zero_le _, Nat.le_refl _, rfl, ⟨none, 0, rfl⟩, rfl, ⟨rfl, .inl ⟨rfl, rfl⟩⟩, Below.refl _ _⟩
    case round =>
      obtain ⟨k, m, hk, hmk, rfl, ⟨a, c2, rfl⟩, hm, ho, hb⟩ := hrel
      have F1 : IntKind.i64.wrap ((k : Int) + 1) = (k : Int) + 1 := by rw [IntKind.wrap_i64]; omega
      by_cases hlt : k < n
      · have hlt' : (k : Int) < (n : Int) := by omega
        obtain ⟨f, hf⟩ : ∃ f, l[k]? = some f := ⟨_, List.getElem?_eq_getElem (by rw [HN.out]; exact hlt)⟩
        obtain ⟨k0, k1⟩ := H.out.step hb.out k f hf
        have hstep := bare_step l k f hf
        by_cases h6 : f.kind = 6
        · rw [if_pos (.inl h6), List.append_nil] at hstep
          have HST := Lib.hid hstep
          rw [h6] at k0
          clear hstep hf h6 k1
          go_wp2_with fail
          go_roundw
          case rel => exact ⟨k + 1, m, by omega, by omega, by go_num, ⟨a, c2, rfl⟩, by rw [HST.out]; exact hm, by rw [HST.out]; exact ho, hb⟩
          case measure => simp [intOf]; omega
        · by_cases h3 : f.kind = 3
          · rw [if_pos (.inr h3), List.append_nil] at hstep
            have HST := Lib.hid hstep
            rw [h3] at k0
            clear hstep hf h6 h3 k1
            go_wp2_with fail
            go_roundw
            case rel => exact ⟨k + 1, m, by omega, by omega, by go_num, ⟨a, c2, rfl⟩, by rw [HST.out]; exact hm, by rw [HST.out]; exact ho, hb⟩
            case measure => simp [intOf]; omega
          · rw [if_neg (fun e => e.elim h6 h3)] at hstep
            have HST := Lib.hid hstep
            have g6 : (((f.kind : Nat) : Int) != 6) = true := by rw [bne_iff_ne]; omega
            have g3 : (((f.kind : Nat) : Int) != 3) = true := by rw [bne_iff_ne]; omega
            have n6 : ¬ f.kind = 6 := h6
            have n3 : ¬ f.kind = 3 := h3
            have hm1 : m ≤ 4000000 := by omega
            clear hstep hf hlt h6 h3
            go_wp2_with (at_builtin; refine wpList_appF (by rfl) (.tmp 25) (.tmp 30) rfl rfl w.heap.size f rfl rfl ho.out hm.out hb.out.size hm1 ?_; intro a2 c3 w2 h2 g2; replace h2 := Lib.hid h2; replace g2 := Lib.hid g2)
            go_roundw
            case rel => exact ⟨k + 1, m + 1, by omega, by omega, by go_num, ⟨a2, c3, rfl⟩, Lib.hid (by rw [HST.out, List.length_append, hm.out]; rfl), Lib.hid (by rw [HST.out]; exact h2.out), (hb.out.alloc hb.out.size _).grown g2.out (by have := hb.out.size; rw [World.size_alloc]; omega) (fun k e => (ho.out.lt k e).1)⟩
            case measure => simp [intOf]; omega
      · obtain rfl : k = n := by omega
        have hT : l.take k = l := List.take_of_length_le (by rw [HN.out]; exact Nat.le_refl _)
        rw [hT] at ho hm
        have hlt' : ¬ (k : Int) < (k : Int) := by omega
        clear hT
        go_wp2_with fail
        go_ret
        have e := hm.out
        subst e
        exact ⟨a, c2, rfl, ⟨_, ho.out⟩, hb.out⟩
end Go.Proofs.YtdinachiiimngaaGreatDoor
namespace Go.Proofs.YtdinachiiimngaaGreatDoor
open Go.ChangeShapes Go.WideShapes Go.ChangeAt Go.RowKit
open TokP AdrP CtP

/-- A slice of tokens whose length is within its capacity. -/
def HasT (w : World) (v : Value) (l : List TokP.Tok) : Prop := ∃ a c, v = .slice a l.length c ∧ l.length ≤ c ∧ HasF w v l
theorem HasT.step {w w' : World} {v : Value} {l : List TokP.Tok} (h : HasT w v l) (hb : Below w.heap.size w w') : HasT w' v l := by
  obtain ⟨a, c, e, h1, h2⟩ := h
  exact ⟨a, c, e, h1, h2.step hb⟩
theorem OwnF.hasT {w : World} {v : Value} {l : List TokP.Tok} (h : OwnF w v l) : HasT w v l := by
  have h2 := h.has
  obtain ⟨b, ho⟩ := h
  rcases ho.2 with ⟨rfl, h0⟩ | ⟨g, cap, cur, rfl, _, _, hc, _⟩
  · exact ⟨none, 0, by rw [h0], by omega, h2⟩
  · exact ⟨_, _, rfl, hc, h2⟩
theorem Below.grownN {w w' : World} (h : Below w.heap.size w w') : w.grownBy w' none := ⟨h.os, h.tape, h.output, h.size, fun k hk _ => h.block k hk⟩
theorem grown_below {B : Nat} {w w' : World} {row : Option Nat} (hg : w.grownBy w' row) (hr : ∀ k, row = some k → B ≤ k) (hB : B ≤ w.heap.size) : Below B w w' :=
  ⟨hg.os, hg.tape, hg.output, hg.size, fun k hk => hg.block k (by omega) (fun e => by have := hr k e.symm; omega)⟩
/-- The state of the loop: the pieces so far, the piece that grows, each in a block of its own from B on. -/
def St (w : World) (B : Nat) (pv cv : Value) (P : List (List TokP.Tok)) (C : List TokP.Tok) : Prop :=
  ∃ us : List Value, w.ownsRow B 55 1 pv P.length us ∧ w.ownsRow B 89 2 cv C.length (toksV C) ∧
    (∀ g, pv.ownBlock = some g → cv.ownBlock ≠ some g) ∧
    ∀ (i : Nat) (x : List TokP.Tok), P[i]? = some x → ∃ u, us[i]? = some u ∧ w.ownsRow B 89 2 u x.length (toksV x) ∧ ∀ g, u.ownBlock = some g → pv.ownBlock ≠ some g ∧ cv.ownBlock ≠ some g
theorem St.first (w : World) (B : Nat) : St w B (.slice none 0 0) (.slice none 0 0) [] [] :=
  ⟨[], World.ownsRow_nil _ _ _ _, World.ownsRow_nil _ _ _ _, fun g h => absurd h (by simp [Value.ownBlock]), fun i x h => absurd h (by simp)⟩
theorem St.step {w w' : World} {B : Nat} {pv cv : Value} {P : List (List TokP.Tok)} {C : List TokP.Tok} (h : St w B pv cv P C) (hb : Below w.heap.size w w') : St w' B pv cv P C := by
  obtain ⟨us, h1, h2, h3, h4⟩ := h
  have hg := Below.grownN hb
  have hn : ∀ v : Value, v.ownBlock = none ∨ v.ownBlock ≠ none := fun v => by cases v.ownBlock <;> simp
  refine ⟨us, h1.kept hg (hn _), h2.kept hg (hn _), h3, fun i x hx => ?_⟩
  obtain ⟨u, hu, ho, hne⟩ := h4 i x hx
  exact ⟨u, hu, ho.kept hg (hn _), hne⟩
theorem St.nil {w : World} {B : Nat} {pv cv : Value} {P : List (List TokP.Tok)} {C : List TokP.Tok} (h : St w B pv cv P C) : St w B pv (.slice none 0 0) P [] := by
  obtain ⟨us, h1, h2, h3, h4⟩ := h
  refine ⟨us, h1, World.ownsRow_nil _ _ _ _, fun g _ => by simp [Value.ownBlock], fun i x hx => ?_⟩
  obtain ⟨u, hu, ho, hne⟩ := h4 i x hx
  exact ⟨u, hu, ho, fun g hg => ⟨(hne g hg).1, by simp [Value.ownBlock]⟩⟩
theorem ne_row {a b : Option Nat} (h : ∀ g, a = some g → b ≠ some g) : a = none ∨ a ≠ b := by
  cases a with
  | none => exact .inl rfl
  | some g => exact .inr fun e => h g rfl e.symm
theorem St.cur {w w' : World} {o : Obj} {B : Nat} {pv cv cv' : Value} {P : List (List TokP.Tok)} {C : List TokP.Tok} {t : TokP.Tok} (h : St w B pv cv P C) (hown : w'.ownsRow B 89 2 cv' (C ++ [t]).length (toksV (C ++ [t])))
    (hg : (w.alloc o).grownBy w' cv.ownBlock) (hb : cv'.ownBlock = cv.ownBlock ∨ cv'.ownBlock = some (w.alloc o).heap.size) : St w' B pv cv' P (C ++ [t]) := by
  obtain ⟨us, h1, h2, h3, h4⟩ := h
  have hz : (w.alloc o).heap.size = w.heap.size + 1 := by rw [World.size_alloc]
  have hnew : ∀ (v : Value) g, v.ownBlock = some g → (∀ k, v.ownBlock = some k → k < w.heap.size) → cv.ownBlock ≠ some g → cv'.ownBlock ≠ some g := fun v g hv hl hne e => by
    rcases hb with hb | hb
    · exact hne (hb ▸ e)
    · rw [hb] at e
      have := hl g hv
      have := Option.some.inj e
      omega
  refine ⟨us, (World.ownsRow.alloc h1 o).kept hg (ne_row h3), hown, fun g hp => hnew pv g hp (fun k e => (h1.lt k e).2) (h3 g hp), fun i x hx => ?_⟩
  obtain ⟨u, hu, ho, hne⟩ := h4 i x hx
  refine ⟨u, hu, (World.ownsRow.alloc ho o).kept hg (ne_row fun g e => (hne g e).2), fun g e => ⟨(hne g e).1, hnew u g e (fun k e => (ho.lt k e).2) (hne g e).2⟩⟩
theorem St.put {w w' : World} {o : Obj} {B : Nat} {pv pv' cv : Value} {P : List (List TokP.Tok)} {C : List TokP.Tok} {us : List Value} (h1 : w.ownsRow B 55 1 pv P.length us) (h2 : w.ownsRow B 89 2 cv C.length (toksV C))
    (h3 : ∀ g, pv.ownBlock = some g → cv.ownBlock ≠ some g)
    (h4 : ∀ (i : Nat) (x : List TokP.Tok), P[i]? = some x → ∃ u, us[i]? = some u ∧ w.ownsRow B 89 2 u x.length (toksV x) ∧ ∀ g, u.ownBlock = some g → pv.ownBlock ≠ some g ∧ cv.ownBlock ≠ some g)
    (hown : w'.ownsRow B 55 1 pv' (P ++ [C]).length (us ++ [cv])) (hg : (w.alloc o).grownBy w' pv.ownBlock) (hb : pv'.ownBlock = pv.ownBlock ∨ pv'.ownBlock = some (w.alloc o).heap.size) :
    St w' B pv' (.slice none 0 0) (P ++ [C]) [] := by
  have hz : (w.alloc o).heap.size = w.heap.size + 1 := by rw [World.size_alloc]
  have hlen : us.length = P.length := by rw [h1.1, Nat.mul_one]
  have hnew : ∀ (v : Value) g, v.ownBlock = some g → (∀ k, v.ownBlock = some k → k < w.heap.size) → pv.ownBlock ≠ some g → pv'.ownBlock ≠ some g := fun v g hv hl hne e => by
    rcases hb with hb | hb
    · exact hne (hb ▸ e)
    · rw [hb] at e
      have := hl g hv
      have := Option.some.inj e
      omega
  refine ⟨us ++ [cv], hown, World.ownsRow_nil _ _ _ _, fun g _ => by simp [Value.ownBlock], fun i x hx => ?_⟩
  by_cases hi : i < P.length
  · rw [List.getElem?_append_left hi] at hx
    obtain ⟨u, hu, ho, hne⟩ := h4 i x hx
    exact ⟨u, by rw [List.getElem?_append_left (by omega)]; exact hu, (World.ownsRow.alloc ho o).kept hg (ne_row fun g e => (hne g e).1), fun g e => ⟨hnew u g e (fun k e => (ho.lt k e).2) (hne g e).1, by simp [Value.ownBlock]⟩⟩
  · have hi2 : i = P.length := by
      have := (List.getElem?_eq_some_iff.1 hx).1
      rw [List.length_append, List.length_singleton] at this
      omega
    subst hi2
    obtain rfl : C = x := by
      rw [List.getElem?_append_right (Nat.le_refl _), Nat.sub_self] at hx
      exact Option.some.inj hx
    have hne : ∀ g, cv.ownBlock = some g → pv.ownBlock ≠ some g := fun g e e2 => h3 g e2 e
    exact ⟨cv, by rw [List.getElem?_append_right (by omega), hlen, Nat.sub_self]; rfl, (World.ownsRow.alloc h2 o).kept hg (ne_row hne), fun g e => ⟨hnew cv g e (fun k e => (h2.lt k e).2) (hne g e), by simp [Value.ownBlock]⟩⟩
theorem info38 : (Tryz.prog.info? 55).map (fun i => (i.zero, i.size, i.bytes)) = some (some (.slice none 0 0), 1, 24) := by kernel_rfl
/-- A token is appended to the piece that grows. -/
theorem wpList_cur {ops : Array Oper} {rest : List Oper} {o : Oper} {a : Act} {w : World} {Q : Exit → Act → World → Prop} (hgd : o.guard = none) (s x : Operand)
    (ho : o.op = .call { callee := .builtin .append, args := #[s, x], argTypes := #[55, 55] }) (B : Nat) {pv v : Value} {P : List (List TokP.Tok)} {C : List TokP.Tok} {m : Nat} (f : TokP.Tok) (hs : a.eval s = v) (hx : a.eval x = .slice (some ⟨w.heap.size, 0, none⟩) 1 1)
    (hst : St w B pv v P C) (hm : C.length = m) (hb : B ≤ w.heap.size) (hl : m ≤ 4000000)
    (h : ∀ a' c' w', St w' B pv (.slice a' (m + 1) c') P (C ++ [f]) → Below B w w' → wpList Tryz.prog ops Q rest (a.put o.dst (.slice a' (m + 1) c')) w') :
    wpList Tryz.prog ops Q (o :: rest) a (w.alloc (.cells #[.int .i64 (f.kind : Nat), .string (strL f.text)] 89)) := by
  obtain ⟨i0, hi, hz0, hz1, hz2⟩ := info_parts info23
  obtain ⟨us, h1, h2, h3, h4⟩ := hst
  subst hm
  refine wpList_append_own_at _ hgd s x 55 ho B 89 i0 (.agg #[.int .i64 0, .string ⟨#[]⟩]) 2 24 Tryz.underlying55 hi hz0 hz1 hz2 rfl (by decide) v C.length (toksV C) hs (World.ownsRow.alloc h2 _) ⟨w.heap.size, 0, none⟩ 1 1 (tokV f) hx rfl (news_tok w f) (tokV_one f) (by unfold maxLen; omega) (by omega) (by rw [World.size_alloc]; omega) ?_
  intro v' w' e1 e2 _ e4
  rw [← toksV_one, toksV_app, ← List.length_singleton (a := f), ← List.length_append] at e1
  obtain ⟨a', c', rfl⟩ : ∃ a' c', v' = .slice a' (C.length + 1) c' := by
    rcases e1.2 with ⟨rfl, h0⟩ | ⟨g, cap, cur, rfl, _⟩
    · simp at h0
    · exact ⟨_, _, by rw [List.length_append]; rfl⟩
  exact h a' c' w' (St.cur ⟨us, h1, h2, h3, h4⟩ e1 e2 e4) (((Below.refl B w).alloc hb _).trans (grown_below e2 (fun k e => (h2.lt k e).1) (by rw [World.size_alloc]; omega)))
/-- The piece that has grown is put behind the others. -/
theorem wpList_put {ops : Array Oper} {rest : List Oper} {o : Oper} {a : Act} {w : World} {Q : Exit → Act → World → Prop} (hgd : o.guard = none) (s x : Operand)
    (ho : o.op = .call { callee := .builtin .append, args := #[s, x], argTypes := #[50, 50] }) (B : Nat) {v cv : Value} {P : List (List TokP.Tok)} {C : List TokP.Tok} {m p : Nat} {ca : Option Addr} {cc : Nat} (hcv : cv = .slice ca m cc) (hs : a.eval s = v) (hx : a.eval x = .slice (some ⟨w.heap.size, 0, none⟩) 1 1)
    (hst : St w B v cv P C) (hp : P.length = p) (hb : B ≤ w.heap.size) (hl : p ≤ 4000000)
    (h : ∀ a' c' w', St w' B (.slice a' (p + 1) c') (.slice none 0 0) (P ++ [C]) [] → Below B w w' → wpList Tryz.prog ops Q rest (a.put o.dst (.slice a' (p + 1) c')) w') :
    wpList Tryz.prog ops Q (o :: rest) a (w.alloc (.cells #[cv] 55)) := by
  obtain ⟨i0, hi, hz0, hz1, hz2⟩ := info_parts info38
  obtain ⟨us, h1, h2, h3, h4⟩ := hst
  subst hp
  refine wpList_append_own_at _ hgd s x 50 ho B 55 i0 (.slice none 0 0) 1 24 Tryz.underlying50 hi hz0 hz1 hz2 rfl (by decide) v P.length us hs (World.ownsRow.alloc h1 _) ⟨w.heap.size, 0, none⟩ 1 1 [cv] hx rfl (cell_one_new _ _ _) (fun u hu => by rw [List.mem_singleton.1 hu, hcv]; rfl) (by unfold maxLen; omega) (by omega) (by rw [World.size_alloc]; omega) ?_
  intro v' w' e1 e2 _ e4
  rw [← List.length_singleton (a := C), ← List.length_append] at e1
  obtain ⟨a', c', rfl⟩ : ∃ a' c', v' = .slice a' (P.length + 1) c' := by
    rcases e1.2 with ⟨rfl, h0⟩ | ⟨g, cap, cur, rfl, _⟩
    · simp at h0
    · exact ⟨_, _, by rw [List.length_append]; rfl⟩
  exact h a' c' w' (St.put h1 h2 h3 h4 e1 e2 e4) (((Below.refl B w).alloc hb _).trans (grown_below e2 (fun k e => (h1.lt k e).1) (by rw [World.size_alloc]; omega)))
/-- The slice v reads as pieces of tokens. -/
def PcsOf (w : World) (v : Value) (P : List (List TokP.Tok)) : Prop := ∃ g c, v = .slice (some ⟨g, 0, none⟩) P.length c ∧ P.length ≤ c ∧ ∀ (i : Nat) (x : List TokP.Tok), P[i]? = some x → ∃ u, w.cell? ⟨g, i, none⟩ = some u ∧ HasT w u x
theorem PcsOf.step {w w' : World} {v : Value} {P : List (List TokP.Tok)} (h : PcsOf w v P) (hb : Below w.heap.size w w') : PcsOf w' v P := by
  obtain ⟨g, c, e, hc, h⟩ := h
  refine ⟨g, c, e, hc, fun i x hx => ?_⟩
  obtain ⟨u, hu, ht⟩ := h i x hx
  exact ⟨u, cell_below hu hb, ht.step hb⟩
theorem St.pcs {w : World} {B : Nat} {pv cv : Value} {P : List (List TokP.Tok)} {C : List TokP.Tok} (h : St w B pv cv P C) (hP : P ≠ []) : PcsOf w pv P := by
  obtain ⟨us, h1, h2, h3, h4⟩ := h
  have hpos := List.length_pos_iff.2 hP
  rcases h1.2 with ⟨_, h0⟩ | ⟨g, cap, cur, rfl, _, _, hcap, _⟩
  · omega
  · refine ⟨g, cap, rfl, hcap, fun i x hx => ?_⟩
    obtain ⟨u, hu, ho, _⟩ := h4 i x hx
    have hc := h1.cells (g := g) rfl i u hu
    rw [add_none, Nat.zero_add] at hc
    exact ⟨u, hc, OwnF.hasT ⟨B, ho⟩⟩
theorem rows_one {l : List TokP.Tok} {k : Nat} {t : TokP.Tok} (h : l[k]? = some t) (C : List TokP.Tok) : rowsT C (l.drop k) = if isS t 59 = true then C :: rowsT [] (l.drop (k + 1)) else rowsT (C ++ [t]) (l.drop (k + 1)) := by
  obtain ⟨h1, h2⟩ := List.getElem?_eq_some_iff.1 h
  rw [List.drop_eq_getElem_cons h1, h2, rowsT]
/-- What is asked of the reference's Scan. -/
def RScanOk : Prop := ∀ (s : ByteArray) (_ : s.size ≤ 4000000) (W : World), Calls Tryz.prog 73 #[.string s] W fun e w' => ∃ a c, e = .returned (.slice a (scanL s.data.toList).length c) ∧ OwnF w' (.slice a (scanL s.data.toList).length c) (scanL s.data.toList) ∧ Below W.heap.size W w'
set_option maxRecDepth 100000 in
set_option maxHeartbeats 8000000 in
theorem rrows_p (cSc : RScanOk) (S : ByteArray) (hS : S.size ≤ 4000000) (ALL : List (List TokP.Tok)) (hALL : rowsT [] (bareT (scanL S.data.toList)) = ALL) (N : Nat) (hN : ALL.length = N) (w : World) :
    Calls Tryz.prog 35 #[.string S] w fun e w' => ∃ g c, e = .returned (.slice (some ⟨g, 0, none⟩) N c) ∧ PcsOf w' (.slice (some ⟨g, 0, none⟩) N c) ALL ∧ Below w.heap.size w w' := by
  have cA := fun W => cSc S (by omega) W
  have hln := scan_len S.data.toList
  rw [← size_list] at hln
  generalize scanL S.data.toList = q at cA hALL hln
  have cB := fun W v (h : Hid (OwnF W v q)) => rbare_any v q W h.out.has (by omega)
  have hbl := bare_len q q.length
  rw [List.take_length] at hbl
  obtain ⟨l, hl⟩ : ∃ l, bareL q = l := ⟨_, rfl⟩
  rw [show bareT q = l from hl] at hALL
  rw [hl] at cB hbl
  obtain ⟨n, hn⟩ : ∃ n, l.length = n := ⟨_, rfl⟩
  obtain ⟨nq, hnq⟩ : ∃ n, q.length = n := ⟨_, rfl⟩
  rw [hn] at cB hbl
  rw [hnq] at cA hbl hln
  have hn6 : n ≤ 4000000 := by omega
  have HL := Lib.hid hn
  have HALL := Lib.hid hALL
  have HN := Lib.hid hN
  clear hALL hN hn hl hln hbl hnq hS cSc
  go_enter Tryz.func35, Tryz.ntmps35
  go_wp2_with (first
    | (go_at_call 73; (with_reducible refine (cA _).mono ?_); rintro e w1 ⟨a1, c1, rfl, h1, hb1⟩; replace h1 := Lib.hid h1; have HB1 := Lib.hid hb1; clear hb1 cA)
    | (go_at_call 72; (with_reducible refine (cB _ _ h1).mono ?_); rintro e w2 ⟨a2, c2, rfl, h2, hb2⟩; have HB2 := Lib.hid (HB1.out.trans (hb2.mono HB1.out.size)); clear hb2 cB))
  have HF := Lib.hid h2
  clear h1
  go_loopw [4, 5, 6] (fun pv cv x wr => ∃ (k : Nat) (P : List (List TokP.Tok)) (C : List TokP.Tok) (p m : Nat), k ≤ n ∧ p ≤ k ∧ m ≤ k ∧ (∃ a c, pv = .slice a p c) ∧ (∃ a c, cv = .slice a m c) ∧ x = .int .i64 k ∧ Hid (P.length = p ∧ C.length = m) ∧ Hid (St wr w2.heap.size pv cv P C) ∧ Hid (Below w2.heap.size w2 wr) ∧ Hid (P ++ rowsT C (l.drop k) = ALL)) (fun _ _ x _ => n - (intOf x).toNat)
  case atStart => exact ⟨0, [], [], 0, 0, Nat.zero_le _, Nat.le_refl _, Nat.le_refl _, ⟨none, 0, rfl⟩, ⟨none, 0, rfl⟩, rfl, Lib.hid ⟨rfl, rfl⟩, Lib.hid (St.first w2 _), Lib.hid (Below.refl _ _), Lib.hid (by rw [List.drop_zero, List.nil_append]; exact HALL.out)⟩
  case round =>
    obtain ⟨k, P, C, p, m, hk, hpk, hmk, ⟨pa, pc, rfl⟩, ⟨ca, cc, rfl⟩, rfl, HPC, ST0, HB3, HG⟩ := hrel
    have F1 : IntKind.i64.wrap ((k : Int) + 1) = (k : Int) + 1 := by rw [IntKind.wrap_i64]; omega
    have hpz : p ≤ 4000000 := by omega
    by_cases hlt : k < n
    · have hlt' : (k : Int) < (n : Int) := by omega
      obtain ⟨g, rfl, hfa⟩ := HF.out.at (by omega)
      obtain ⟨t, ht⟩ : ∃ t, l[k]? = some t := ⟨_, List.getElem?_eq_getElem (by rw [HL.out]; exact hlt)⟩
      obtain ⟨k0, k1⟩ := hfa.step HB3.out k t ht
      rw [Nat.zero_add] at k0 k1
      have hg := HG.out
      rw [rows_one ht] at hg
      have hPC1 : P.length = p ∧ (C ++ [t]).length = m + 1 := ⟨HPC.out.1, by rw [List.length_append, HPC.out.2]; rfl⟩
      have hPC2 : (P ++ [C]).length = p + 1 ∧ ([] : List TokP.Tok).length = 0 := ⟨by rw [List.length_append, HPC.out.1]; rfl, rfl⟩
      clear hfa
      by_cases h4 : t.kind = 4
      · have e1 : (((t.kind : Nat) : Int) == 4) = true := beq_iff_eq.2 (by omega)
        by_cases h59 : t.text = [59]
        · have e2 : ((strL t.text).toList == [59]) = true := by rw [ByteArray.toList_eq, strL_list, h59]; rfl
          have hs : isS t 59 = true := (isS_iff t 59).2 (by cases t; simp only at h4 h59; rw [h4, h59])
          rw [if_pos hs] at hg
          have HG2 := Lib.hid (show (P ++ [C]) ++ rowsT [] (l.drop (k + 1)) = ALL by rw [← hg]; simp)
          have HPC2 := Lib.hid hPC2
          clear hg ht HG h4 h59 hs hPC1 hPC2
          go_wp2_with (at_builtin; refine wpList_put rfl (.tmp 30) (.tmp 32) rfl w2.heap.size rfl rfl rfl ST0.out HPC.out.1 HB3.out.size hpz ?_; intro a5 c5 w5 st5 bl5; have ST5 := Lib.hid st5; have HB5 := Lib.hid (HB3.out.trans bl5); clear st5 bl5)
          go_roundw
          case rel => exact ⟨k + 1, P ++ [C], [], p + 1, 0, by omega, by omega, by omega, ⟨_, _, rfl⟩, ⟨none, 0, rfl⟩, by go_num, HPC2, ST5, HB5, HG2⟩
          case measure => simp [intOf]; omega
        · have e2 : ((strL t.text).toList == [59]) = false := by rw [ByteArray.toList_eq, strL_list]; exact beq_eq_false_iff_ne.2 h59
          have hs : ¬ isS t 59 = true := fun h => h59 (by rw [(isS_iff t 59).1 h])
          rw [if_neg hs] at hg
          have HG2 := Lib.hid hg
          have HPC2 := Lib.hid hPC1
          clear hg ht HG h4 h59 hs hPC1 hPC2
          go_wp2_with (at_builtin; refine wpList_cur rfl (.tmp 34) (.tmp 39) rfl w2.heap.size t rfl rfl ST0.out HPC.out.2 HB3.out.size (by omega) ?_; intro a5 c5 w5 st5 bl5; have ST5 := Lib.hid st5; have HB5 := Lib.hid (HB3.out.trans bl5); clear st5 bl5)
          go_roundw
          case rel => exact ⟨k + 1, P, C ++ [t], p, m + 1, by omega, by omega, by omega, ⟨pa, pc, rfl⟩, ⟨_, _, rfl⟩, by go_num, HPC2, ST5, HB5, HG2⟩
          case measure => simp [intOf]; omega
      · have e1 : (((t.kind : Nat) : Int) == 4) = false := beq_eq_false_iff_ne.2 (by omega)
        have hs : ¬ isS t 59 = true := fun h => h4 (by rw [(isS_iff t 59).1 h])
        rw [if_neg hs] at hg
        have HG2 := Lib.hid hg
        have HPC2 := Lib.hid hPC1
        clear hg ht HG h4 hs hPC1 hPC2
        go_wp2_with (at_builtin; refine wpList_cur rfl (.tmp 34) (.tmp 39) rfl w2.heap.size t rfl rfl ST0.out HPC.out.2 HB3.out.size (by omega) ?_; intro a5 c5 w5 st5 bl5; have ST5 := Lib.hid st5; have HB5 := Lib.hid (HB3.out.trans bl5); clear st5 bl5)
        go_roundw
        case rel => exact ⟨k + 1, P, C ++ [t], p, m + 1, by omega, by omega, by omega, ⟨pa, pc, rfl⟩, ⟨_, _, rfl⟩, by go_num, HPC2, ST5, HB5, HG2⟩
        case measure => simp [intOf]; omega
    · obtain rfl : k = n := by omega
      have hlt' : ¬ (k : Int) < (k : Int) := by omega
      have hg := HG.out
      rw [List.drop_eq_nil_of_le (by rw [HL.out]; exact Nat.le_refl _), rowsT] at hg
      have HE := Lib.hid (show P ++ [C] = ALL ∧ p + 1 = N from ⟨hg, by rw [← HN.out, ← hg, List.length_append, HPC.out.1]; rfl⟩)
      clear hg HG
      go_wp2_with (at_builtin; refine wpList_put rfl (.tmp 41) (.tmp 43) rfl w2.heap.size rfl rfl rfl ST0.out HPC.out.1 HB3.out.size hpz ?_; intro a5 c5 w5 st5 bl5; have ST5 := Lib.hid st5; have HB5 := Lib.hid (HB3.out.trans bl5); clear st5 bl5)
      go_ret
      obtain ⟨e1, e2⟩ := HE.out
      subst e1 e2
      obtain ⟨g, c, e, hcc, hpp⟩ := ST5.out.pcs (by simp)
      have e' := e
      injection e' with f1 f2 f3
      subst f1
      exact ⟨g, _, rfl, ⟨g, c, e, hcc, hpp⟩, HB2.out.trans (HB5.out.mono HB2.out.size)⟩
end Go.Proofs.YtdinachiiimngaaGreatDoor
namespace Go.Proofs.YtdinachiiimngaaGreatDoor
open Go.ChangeShapes Go.WideShapes Go.ChangeAt Go.RowKit
open TokP AdrP CtP

theorem HasF.at {w : World} {a : Option Addr} {n c : Nat} {l : List Tok} (h : HasF w (.slice a n c) l) (hn : 0 < n) : ∃ g o, a = some ⟨g, o, none⟩ ∧ FAt w g o l := by
  rcases h with ⟨e, _⟩ | ⟨g, o, c', e, h⟩
  · injection e with _ e _; omega
  · injection e with e _ _; exact ⟨g, o, e, h⟩
theorem HasT.cap {w : World} {a : Option Addr} {n c : Nat} {l : List Tok} (h : HasT w (.slice a n c) l) : n = l.length ∧ n ≤ c ∧ HasF w (.slice a n c) l := by
  obtain ⟨a', c', e, h1, h2⟩ := h
  injection e with _ e1 e2
  subst e2
  exact ⟨e1, by omega, h2⟩
theorem cut_at (l : List Tok) (p q i : Nat) (f : Tok) (h : ((l.take q).drop p)[i]? = some f) : l[p + i]? = some f := by
  rw [List.getElem?_drop] at h
  rw [List.getElem?_take] at h
  split at h
  · exact h
  · exact absurd h (by simp)
/-- A part of a slice of tokens. -/
theorem has_sub {a : Option Addr} {c : Nat} {l : List Tok} (p q : Nat) (hpq : p ≤ q) (hq : q ≤ l.length) (hc : l.length ≤ c) {w : World} (h : HasF w (.slice a l.length c) l) : HasT w (sliced a p q c 2) ((l.take q).drop p) := by
  have hl : ((l.take q).drop p).length = q - p := by rw [List.length_drop, List.length_take]; omega
  unfold sliced
  rcases h with ⟨e, rfl⟩ | ⟨g, o, c', e, h⟩
  · injection e with e1 e2 e3
    subst e1 e3
    obtain rfl : q = 0 := by simp at hq; exact hq
    obtain rfl : p = 0 := by omega
    exact ⟨none, 0, rfl, by simp, .inl ⟨rfl, rfl⟩⟩
  · injection e with e1 e2 e3
    subst e1 e3
    refine ⟨_, _, by rw [hl], by rw [hl]; omega, ?_⟩
    by_cases hcp : c = p
    · rw [if_pos hcp]
      refine .inr ⟨g, o, _, by rw [hl], fun i f hf => ?_⟩
      have : i < ((l.take q).drop p).length := (List.getElem?_eq_some_iff.1 hf).1
      omega
    · rw [if_neg hcp, Option.map_some, add_none]
      refine .inr ⟨g, o + p * 2, _, by rw [hl], fun i f hf => ?_⟩
      have := h (p + i) f (cut_at l p q i f hf)
      rw [show o + (p + i) * 2 = o + p * 2 + i * 2 by omega] at this
      exact this
theorem elem38 : Tryz.prog.elem 55 = 89 := by
  unfold Program.elem
  rw [Tryz.underlying55]
theorem under38 : Tryz.prog.underlying 55 = some (.slice (Tryz.prog.elem 55)) := by
  rw [elem38]
  exact Tryz.underlying55
theorem size43 (W : World) : (sizeOf (Tryz.prog.elem 55)).run Tryz.prog W = .ok 2 W := by
  rw [elem38]
  exact Tryz.sizeOf89 W
/-- How the walk takes a part of a slice of tokens. -/
theorem run_sub {w : World} {a : Option Addr} {n c : Nat} {l : List Tok} (h : HasT w (.slice a n c) l) (p q : Nat) (x y : Int) (hx : x = p) (hy : y = q) (hpq : p ≤ q) (hq : q ≤ n) :
    ∃ A C, (∀ W : World, (Instr.slice 55 (.slice a n c) (some (.int .i64 x)) (some (.int .i64 y)) none).run Tryz.prog W = .ok (.slice A (q - p) C) W) ∧ HasT w (.slice A (q - p) C) ((l.take q).drop p) := by
  subst hx hy
  obtain ⟨rfl, hc, hf⟩ := h.cap
  refine ⟨_, _, fun W => ?_, has_sub p q hpq hq hc hf⟩
  rw [run_slice_lh W 55 a l.length c under38 .i64 .i64 p q (by omega) (by omega) (by omega), size43]
  simp only [Result.andThen, Int.toNat_natCast]
  rfl
theorem run_sub_to {w : World} {a : Option Addr} {n c : Nat} {l : List Tok} (h : HasT w (.slice a n c) l) (q : Nat) (y : Int) (hy : y = q) (hq : q ≤ n) :
    ∃ A C, (∀ W : World, (Instr.slice 55 (.slice a n c) none (some (.int .i64 y)) none).run Tryz.prog W = .ok (.slice A q C) W) ∧ HasT w (.slice A q C) (l.take q) := by
  subst hy
  obtain ⟨rfl, hc, hf⟩ := h.cap
  refine ⟨_, _, fun W => ?_, has_sub 0 q (by omega) hq hc hf⟩
  rw [run_slice_h W 55 a l.length c under38 .i64 q (by omega) (by omega), size43]
  simp only [Result.andThen, Int.toNat_natCast]
  rfl
theorem run_sub_from {w : World} {a : Option Addr} {n c : Nat} {l : List Tok} (h : HasT w (.slice a n c) l) (p : Nat) (x : Int) (hx : x = p) (hp : p ≤ n) :
    ∃ A C, (∀ W : World, (Instr.slice 55 (.slice a n c) (some (.int .i64 x)) none none).run Tryz.prog W = .ok (.slice A (n - p) C) W) ∧ HasT w (.slice A (n - p) C) (l.drop p) := by
  subst hx
  obtain ⟨rfl, hc, hf⟩ := h.cap
  have h2 := has_sub p l.length hp (Nat.le_refl _) hc hf
  rw [List.take_of_length_le (Nat.le_refl _)] at h2
  refine ⟨_, _, fun W => ?_, h2⟩
  rw [run_slice_l W 55 a l.length c under38 .i64 p (by omega) (by omega), size43]
  simp only [Result.andThen, Int.toNat_natCast]
  rfl
/-- The place of the first semicolon, or -1. -/
def SemiAt (l : List TokP.Tok) (z : Int) : Prop := (z = -1 ∧ ∀ u ∈ l, isS u 59 = false) ∨ ∃ (k : Nat) (t : TokP.Tok), z = k ∧ l[k]? = some t ∧ isS t 59 = true ∧ ∀ i u, i < k → l[i]? = some u → isS u 59 = false
def EqAt (l : List TokP.Tok) (z : Int) : Prop := (z = -1 ∧ ∀ u ∈ l, hasEq u = false) ∨ ∃ (k : Nat) (t : TokP.Tok), z = k ∧ l[k]? = some t ∧ hasEq t = true ∧ ∀ i u, i < k → l[i]? = some u → hasEq u = false
theorem semi_is (t : TokP.Tok) : decide ((⟨4, [59]⟩ : TokP.Tok) = t) = isS t 59 := by
  unfold isS
  rw [Bool.eq_iff_iff, decide_eq_true_iff, Bool.and_eq_true, beq_iff_eq, beq_iff_eq]
  constructor
  · rintro rfl; exact ⟨rfl, rfl⟩
  · rintro ⟨h1, h2⟩; exact (tok_ext h1 h2).symm
theorem drew_belowT (w : World) (n : Nat) : Below w.heap.size w (w.drewN n) := ⟨rfl, rfl, rfl, Nat.le_refl _, fun _ _ => rfl⟩
set_option maxRecDepth 100000 in
set_option maxHeartbeats 2000000 in
theorem index_tok {a : Option Addr} {n c : Nat} {l : List TokP.Tok} {w : World} (h : HasT w (.slice a n c) l) (hn : n ≤ 4000000) :
    Calls Tryz.prog 64 #[.slice a n c, .agg #[.int .i64 4, .string ⟨#[59]⟩]] w fun e w' => ∃ z, e = .returned (.int .i64 z) ∧ SemiAt l z ∧ Below w.heap.size w w' := by
  obtain ⟨hl, hc, hf⟩ := h.cap
  have HL := Lib.hid hl
  have HF := Lib.hid hf
  have HB0 := Lib.hid ((Below.refl w.heap.size w).alloc (Nat.le_refl _) (.cells #[.int .i64 4, .string ⟨#[59]⟩] 89))
  have hnew := World.alloc_heap_new w (.cells #[.int .i64 4, .string ⟨#[59]⟩] 89)
  obtain ⟨W1, hW1⟩ : ∃ W1, w.alloc (.cells #[.int .i64 4, .string ⟨#[59]⟩] 89) = W1 := ⟨_, rfl⟩
  rw [hW1] at HB0 hnew
  have k0 : W1.cell? ⟨w.heap.size, 0, none⟩ = some (.int .i64 4) := by simp [World.cell?, hnew]
  have k1 : W1.cell? ⟨w.heap.size, 1, none⟩ = some (.string ⟨#[59]⟩) := by simp [World.cell?, hnew]
  have HK := Lib.hid (And.intro k0 k1)
  have HLT : Hid (W1.heap.size = w.heap.size + 1) := by rw [← hW1]; exact Lib.hid (World.size_alloc _ _)
  have HW1 := Lib.hid hW1
  clear h hl hf hnew k0 k1 hW1
  go_enter Tryz.func64, Tryz.ntmps64
  go_wp2_with fail
  rw [HW1.out]
  go_loopw [8] (fun i wr => ∃ k : Nat, k ≤ n ∧ i = .int .i64 k ∧ Hid (Below W1.heap.size W1 wr) ∧ Hid (∀ i u, i < k → l[i]? = some u → isS u 59 = false)) (fun i _ => n - (intOf i).toNat)
  case atStart => exact ⟨0, Nat.zero_le _, rfl, Lib.hid (Below.refl _ _), Lib.hid (fun i u hi => absurd hi (Nat.not_lt_zero _))⟩
  case round =>
    obtain ⟨k, hk, rfl, HD, HNO⟩ := hrel
    have F1 : IntKind.i64.wrap ((k : Int) + 1) = (k : Int) + 1 := by rw [IntKind.wrap_i64]; omega
    by_cases hlt : k < n
    · have hlt' : (k : Int) < (n : Int) := by omega
      obtain ⟨g, o, rfl, hfa⟩ := HF.out.at (by omega)
      obtain ⟨t, ht⟩ : ∃ t, l[k]? = some t := ⟨_, List.getElem?_eq_getElem (by rw [← HL.out]; exact hlt)⟩
      obtain ⟨q0, q1⟩ := (hfa.step HB0.out).step HD.out k t ht
      have p0 := cell_below HK.out.1 HD.out
      have p1 := cell_below HK.out.2 HD.out
      have hEq := run_equal_tok ⟨4, [59]⟩ t
      rw [semi_is] at hEq
      have e4 : strL [59] = (⟨#[59]⟩ : ByteArray) := rfl
      simp only [e4] at hEq
      rw [show (((4 : Nat)) : Int) = 4 from rfl] at hEq
      cases hs : isS t 59 with
      | true =>
        rw [hs] at hEq
        have HA := Lib.hid (show SemiAt l k from .inr ⟨k, t, rfl, ht, hs, HNO.out⟩)
        generalize ((t.kind : Nat) : Int) = x1 at q0 hEq
        generalize strL t.text = x2 at q1 hEq
        clear hs ht hfa HNO e4
        go_wp2_with fail
        go_quiet (fail)
        go_wp2_with fail
        go_ret
        exact ⟨_, rfl, HA.out, HB0.out.trans ((HD.out.trans ((drew_belowT wr _).mono HD.out.size)).mono HB0.out.size)⟩
      | false =>
        rw [hs] at hEq
        have HN2 := Lib.hid (fun (i : Nat) (u : TokP.Tok) (hi : i < k + 1) (hu : l[i]? = some u) => show isS u 59 = false by
          rcases (show i < k ∨ i = k by omega) with h | rfl
          · exact HNO.out i u h hu
          · rw [ht] at hu; rw [← Option.some.inj hu]; exact hs)
        generalize ((t.kind : Nat) : Int) = x1 at q0 hEq
        generalize strL t.text = x2 at q1 hEq
        clear hs ht hfa HNO e4
        go_wp2_with fail
        go_quiet (fail)
        go_wp2_with fail
        go_roundw
        case rel => exact ⟨k + 1, by omega, by go_num, Lib.hid (HD.out.trans ((drew_belowT wr _).mono HD.out.size)), HN2⟩
        case measure => simp [intOf]; omega
    · obtain rfl : k = n := by omega
      have hlt' : ¬ (k : Int) < (k : Int) := by omega
      have HA := Lib.hid (show SemiAt l (-1) from .inl ⟨rfl, fun u hu => by
        obtain ⟨i, hi, rfl⟩ := List.mem_iff_getElem.1 hu
        exact HNO.out i _ (by rw [HL.out]; exact hi) (List.getElem?_eq_getElem hi)⟩)
      clear HNO
      go_wp2_with fail
      go_ret
      exact ⟨_, rfl, HA.out, HB0.out.trans (HD.out.mono HB0.out.size)⟩
/-! ### slices.IndexFunc with the row's test -/
set_option maxRecDepth 100000 in
set_option maxHeartbeats 2000000 in
theorem test_tok (t : TokP.Tok) (b : Bool) (hb : hasEq t = b) (x : Int) (hx : (t.kind : Int) = x) (X : ByteArray) (hX : strL t.text = X) (w : World) :
    Calls Tryz.prog 100 #[.agg #[.int .i64 x, .string X]] w fun e w' => e = .returned (.bool b) ∧ Below w.heap.size w w' := by
  have cC := fun W => Tryz.strings_Contains_one X 61 W
  have hi := index_in X.data.toList 61
  rw [← hX, strL_list] at hi
  rw [show X.data.toList = t.text by rw [← hX]; rfl] at cC
  have HB0 := Lib.hid ((Below.refl w.heap.size w).alloc (Nat.le_refl _) (.cells #[.int .i64 x, .string X] 89))
  unfold hasEq at hb
  rw [← hi] at hb
  generalize decide (0 ≤ Lib.indexByte t.text 61) = d at cC hb
  by_cases h1 : t.kind = 1
  · have e1 : (x == 1) = true := by rw [← hx, h1]; rfl
    rw [decide_eq_true h1, Bool.true_and] at hb
    subst hb
    clear hi hx hX h1
    go_enter Tryz.func100, Tryz.ntmps100
    go_wp2_with (go_at_call 101; refine (cC _).mono ?_; rintro e w2 ⟨rfl, rfl⟩)
    go_ret
    exact ⟨rfl, HB0.out⟩
  · have e1 : (x == 1) = false := beq_eq_false_iff_ne.2 (by rw [← hx]; omega)
    rw [decide_eq_false h1, Bool.false_and] at hb
    subst hb
    clear hi hx hX h1 cC
    go_enter Tryz.func100, Tryz.ntmps100
    go_wp2_with fail
    go_ret
    exact ⟨rfl, HB0.out⟩
set_option maxRecDepth 100000 in
set_option maxHeartbeats 2000000 in
theorem index_eq {a : Option Addr} {n c : Nat} {l : List TokP.Tok} {w : World} (h : HasT w (.slice a n c) l) (hn : n ≤ 4000000) :
    Calls Tryz.prog 99 #[.slice a n c, .func (.func 100) #[] #[]] w fun e w' => ∃ z, e = .returned (.int .i64 z) ∧ EqAt l z ∧ Below w.heap.size w w' := by
  obtain ⟨hl, hc, hf⟩ := h.cap
  have HL := Lib.hid hl
  have HF := Lib.hid hf
  clear h hl hf
  go_enter Tryz.func99, Tryz.ntmps99
  go_wp2_with fail
  go_loopw [8] (fun i wr => ∃ k : Nat, k ≤ n ∧ i = .int .i64 k ∧ Hid (Below w.heap.size w wr) ∧ Hid (∀ i u, i < k → l[i]? = some u → hasEq u = false)) (fun i _ => n - (intOf i).toNat)
  case atStart => exact ⟨0, Nat.zero_le _, rfl, Lib.hid (Below.refl _ _), Lib.hid (fun i u hi => absurd hi (Nat.not_lt_zero _))⟩
  case round =>
    obtain ⟨k, hk, rfl, HD, HNO⟩ := hrel
    have F1 : IntKind.i64.wrap ((k : Int) + 1) = (k : Int) + 1 := by rw [IntKind.wrap_i64]; omega
    by_cases hlt : k < n
    · have hlt' : (k : Int) < (n : Int) := by omega
      obtain ⟨g, o, rfl, hfa⟩ := HF.out.at (by omega)
      obtain ⟨t, ht⟩ : ∃ t, l[k]? = some t := ⟨_, List.getElem?_eq_getElem (by rw [← HL.out]; exact hlt)⟩
      obtain ⟨q0, q1⟩ := hfa.step HD.out k t ht
      cases hs : hasEq t with
      | true =>
        have cT := fun W => test_tok t true hs _ rfl _ rfl W
        have HA := Lib.hid (show EqAt l k from .inr ⟨k, t, rfl, ht, hs, HNO.out⟩)
        generalize ((t.kind : Nat) : Int) = x1 at q0 cT
        generalize strL t.text = x2 at q1 cT
        clear hs ht hfa HNO
        go_wp2_with (go_at_call 100; (with_reducible refine (cT _).mono ?_); rintro e w2 ⟨rfl, hb2⟩; have HB2 := Lib.hid (HD.out.trans (hb2.mono HD.out.size)); clear hb2 cT)
        go_ret
        exact ⟨_, rfl, HA.out, HB2.out⟩
      | false =>
        have cT := fun W => test_tok t false hs _ rfl _ rfl W
        have HN2 := Lib.hid (fun (i : Nat) (u : TokP.Tok) (hi : i < k + 1) (hu : l[i]? = some u) => show hasEq u = false by
          rcases (show i < k ∨ i = k by omega) with h | rfl
          · exact HNO.out i u h hu
          · rw [ht] at hu; rw [← Option.some.inj hu]; exact hs)
        generalize ((t.kind : Nat) : Int) = x1 at q0 cT
        generalize strL t.text = x2 at q1 cT
        clear hs ht hfa HNO
        go_wp2_with (go_at_call 100; (with_reducible refine (cT _).mono ?_); rintro e w2 ⟨rfl, hb2⟩; have HB2 := Lib.hid (HD.out.trans (hb2.mono HD.out.size)); clear hb2 cT)
        go_roundw
        case rel => exact ⟨k + 1, by omega, by go_num, HB2, HN2⟩
        case measure => simp [intOf]; omega
    · obtain rfl : k = n := by omega
      have hlt' : ¬ (k : Int) < (k : Int) := by omega
      have HA := Lib.hid (show EqAt l (-1) from .inl ⟨rfl, fun u hu => by
        obtain ⟨i, hi, rfl⟩ := List.mem_iff_getElem.1 hu
        exact HNO.out i _ (by rw [HL.out]; exact hi) (List.getElem?_eq_getElem hi)⟩)
      clear HNO
      go_wp2_with fail
      go_ret
      exact ⟨_, rfl, HA.out, HD.out⟩
/-! ### rows -/
theorem text_mem (l : List TokP.Tok) (t : TokP.Tok) (h : t ∈ l) : t.text.length ≤ (joinL l).length := by
  obtain ⟨k, hk, rfl⟩ := List.mem_iff_getElem.1 h
  have := text_le l k _ (List.getElem?_eq_getElem hk)
  omega
theorem first_ex (p : TokP.Tok → Bool) : ∀ l : List TokP.Tok, (∀ u ∈ l, p u = false) ∨ ∃ (k : Nat) (t : TokP.Tok), l[k]? = some t ∧ p t = true ∧ ∀ i u, i < k → l[i]? = some u → p u = false
  | [] => .inl (fun u hu => absurd hu (by simp))
  | t :: l => by
    cases ht : p t with
    | true => exact .inr ⟨0, t, rfl, ht, fun i u hi => absurd hi (Nat.not_lt_zero _)⟩
    | false =>
      rcases first_ex p l with h | ⟨k, u, h1, h2, h3⟩
      · exact .inl (fun u hu => by
          rcases List.mem_cons.1 hu with rfl | hu
          · exact ht
          · exact h u hu)
      · refine .inr ⟨k + 1, u, h1, h2, fun i v hi hv => ?_⟩
        cases i with
        | zero => rw [← Option.some.inj hv]; exact ht
        | succ i => exact h3 i v (by omega) hv
theorem first_uniq {p : TokP.Tok → Bool} {l : List TokP.Tok} {z z' : Int} (h : (z = -1 ∧ ∀ u ∈ l, p u = false) ∨ ∃ (k : Nat) (t : TokP.Tok), z = k ∧ l[k]? = some t ∧ p t = true ∧ ∀ i u, i < k → l[i]? = some u → p u = false)
    (h' : (z' = -1 ∧ ∀ u ∈ l, p u = false) ∨ ∃ (k : Nat) (t : TokP.Tok), z' = k ∧ l[k]? = some t ∧ p t = true ∧ ∀ i u, i < k → l[i]? = some u → p u = false) : z = z' := by
  rcases h with ⟨rfl, h⟩ | ⟨k, t, rfl, h1, h2, h3⟩
  · rcases h' with ⟨rfl, _⟩ | ⟨k, t, rfl, h1, h2, _⟩
    · rfl
    · rw [h t (List.mem_of_getElem? h1)] at h2; exact absurd h2 (by decide)
  · rcases h' with ⟨rfl, h⟩ | ⟨k', t', rfl, h1', h2', h3'⟩
    · rw [h t (List.mem_of_getElem? h1)] at h2; exact absurd h2 (by decide)
    · rcases Nat.lt_trichotomy k k' with hl | rfl | hl
      · rw [h3' k t hl h1] at h2; exact absurd h2 (by decide)
      · rfl
      · rw [h3 k' t' hl h1'] at h2'; exact absurd h2' (by decide)
theorem index_is {a : Option Addr} {n c : Nat} {l : List TokP.Tok} {w : World} (h : HasT w (.slice a n c) l) (hn : n ≤ 4000000) (z : Int) (hz : SemiAt l z) :
    Calls Tryz.prog 64 #[.slice a n c, .agg #[.int .i64 4, .string ⟨#[59]⟩]] w fun e w' => e = .returned (.int .i64 z) ∧ Below w.heap.size w w' :=
  (index_tok h hn).mono fun _ _ ⟨z', h1, h2, h3⟩ => ⟨by rw [h1, first_uniq h2 hz], h3⟩
theorem indexE_is {a : Option Addr} {n c : Nat} {l : List TokP.Tok} {w : World} (h : HasT w (.slice a n c) l) (hn : n ≤ 4000000) (z : Int) (hz : EqAt l z) :
    Calls Tryz.prog 99 #[.slice a n c, .func (.func 100) #[] #[]] w fun e w' => e = .returned (.int .i64 z) ∧ Below w.heap.size w w' :=
  (index_eq h hn).mono fun _ _ ⟨z', h1, h2, h3⟩ => ⟨by rw [h1, first_uniq h2 hz], h3⟩
def lenS : Value → Nat
  | .slice _ n _ => n
  | _ => 0
/-- A slice of rows in a block of its own, from B on; the rows as they read in w0. -/
def Rws (w0 w : World) (B : Nat) (pv : Value) (P : List (List TokP.Tok)) : Prop := ∃ us, w.ownsRow B 55 1 pv P.length us ∧ ∀ (i : Nat) (x : List TokP.Tok), P[i]? = some x → ∃ u, us[i]? = some u ∧ HasT w0 u x
theorem Rws.first (w0 w : World) (B : Nat) : Rws w0 w B (.slice none 0 0) [] := ⟨[], World.ownsRow_nil _ _ _ _, fun i x h => absurd h (by simp)⟩
theorem Rws.step {w0 w w' : World} {B : Nat} {pv : Value} {P : List (List TokP.Tok)} (h : Rws w0 w B pv P) (hb : Below w.heap.size w w') : Rws w0 w' B pv P := by
  obtain ⟨us, h1, h2⟩ := h
  exact ⟨us, own_below h1 hb, h2⟩
theorem wpList_rw {ops : Array Oper} {rest : List Oper} {o : Oper} {a : Act} {w : World} {Q : Exit → Act → World → Prop} (hgd : o.guard = none) (s x : Operand)
    (ho : o.op = .call { callee := .builtin .append, args := #[s, x], argTypes := #[50, 50] }) (w0 : World) (B : Nat) {v cv : Value} {P : List (List TokP.Tok)} {C : List TokP.Tok} {p : Nat} (hs : a.eval s = v) (hx : a.eval x = .slice (some ⟨w.heap.size, 0, none⟩) 1 1)
    (hst : Rws w0 w B v P) (hT : HasT w0 cv C) (hp : P.length = p) (hb : B ≤ w.heap.size) (hl : p ≤ 4000000)
    (h : ∀ a' c' w', Rws w0 w' B (.slice a' (p + 1) c') (P ++ [C]) → Below B w w' → wpList Tryz.prog ops Q rest (a.put o.dst (.slice a' (p + 1) c')) w') :
    wpList Tryz.prog ops Q (o :: rest) a (w.alloc (.cells #[cv] 55)) := by
  obtain ⟨i0, hi, hz0, hz1, hz2⟩ := info_parts info38
  obtain ⟨us, h1, h2⟩ := hst
  have hT2 := hT
  obtain ⟨ca, cc, hcv, _⟩ := hT2
  subst hp
  refine wpList_append_own_at _ hgd s x 50 ho B 55 i0 (.slice none 0 0) 1 24 Tryz.underlying50 hi hz0 hz1 hz2 rfl (by decide) v P.length us hs (World.ownsRow.alloc h1 _) ⟨w.heap.size, 0, none⟩ 1 1 [cv] hx rfl (cell_one_new _ _ _) (fun u hu => by rw [List.mem_singleton.1 hu, hcv]; rfl) (by unfold maxLen; omega) (by omega) (by rw [World.size_alloc]; omega) ?_
  intro v' w' e1 e2 _ e4
  have hlen : us.length = P.length := by rw [h1.1, Nat.mul_one]
  rw [← List.length_singleton (a := C), ← List.length_append] at e1
  obtain ⟨a', c', rfl⟩ : ∃ a' c', v' = .slice a' (P.length + 1) c' := by
    rcases e1.2 with ⟨rfl, h0⟩ | ⟨g, cap, cur, rfl, _⟩
    · simp at h0
    · exact ⟨_, _, by rw [List.length_append]; rfl⟩
  refine h a' c' w' ⟨us ++ [cv], e1, fun i x hx => ?_⟩ (((Below.refl B w).alloc hb _).trans (grown_below e2 (fun k e => (h1.lt k e).1) (by rw [World.size_alloc]; omega)))
  by_cases hi : i < P.length
  · rw [List.getElem?_append_left hi] at hx
    obtain ⟨u, hu, hh⟩ := h2 i x hx
    exact ⟨u, by rw [List.getElem?_append_left (by omega)]; exact hu, hh⟩
  · have hi2 : i = P.length := by
      have := (List.getElem?_eq_some_iff.1 hx).1
      rw [List.length_append, List.length_singleton] at this
      omega
    subst hi2
    obtain rfl : C = x := by
      rw [List.getElem?_append_right (Nat.le_refl _), Nat.sub_self] at hx
      exact Option.some.inj hx
    exact ⟨cv, by rw [List.getElem?_append_right (by omega), hlen, Nat.sub_self]; rfl, hT⟩
theorem Rws.pcs {w0 w : World} {B : Nat} {pv : Value} {P : List (List TokP.Tok)} (h : Rws w0 w B pv P) (hP : P ≠ []) (hb : Below w0.heap.size w0 w) : PcsOf w pv P := by
  obtain ⟨us, h1, h2⟩ := h
  have hpos := List.length_pos_iff.2 hP
  rcases h1.2 with ⟨_, h0⟩ | ⟨g, cap, cur, rfl, _, _, hcap, _⟩
  · omega
  · refine ⟨g, cap, rfl, hcap, fun i x hx => ?_⟩
    obtain ⟨u, hu, ho⟩ := h2 i x hx
    have hc := h1.cells (g := g) rfl i u hu
    rw [add_none, Nat.zero_add] at hc
    exact ⟨u, hc, ho.step hb⟩
set_option maxRecDepth 100000 in
set_option maxHeartbeats 8000000 in
theorem rows_p (S : ByteArray) (hS : S.size ≤ 4000000) (ALL : List (List TokP.Tok)) (hALL : rowsT [] (bareT (scanL S.data.toList)) = ALL) (N : Nat) (hN : ALL.length = N) (w : World) :
    Calls Tryz.prog 29 #[.string S] w fun e w' => ∃ g c, e = .returned (.slice (some ⟨g, 0, none⟩) N c) ∧ PcsOf w' (.slice (some ⟨g, 0, none⟩) N c) ALL ∧ Below w.heap.size w w' := by
  have cA := fun W => scan_any S (by omega) W
  have hln := scan_len S.data.toList
  have htx : ∀ t ∈ scanL S.data.toList, t.text.length ≤ 4000000 := fun t ht => by
    have := text_mem _ t ht
    rw [join_scan, ← size_list] at this
    omega
  rw [← size_list] at hln
  generalize scanL S.data.toList = q at cA hALL hln htx
  have cB := fun W v (h : Hid (OwnF W v q)) => bare_any v q W h.out.has (by omega) htx
  have hbl := bare_len q q.length
  rw [List.take_length] at hbl
  obtain ⟨l, hl⟩ : ∃ l, bareL q = l := ⟨_, rfl⟩
  rw [show bareT q = l from hl] at hALL
  rw [hl] at cB hbl
  obtain ⟨n, hn⟩ : ∃ n, l.length = n := ⟨_, rfl⟩
  obtain ⟨nq, hnq⟩ : ∃ n, q.length = n := ⟨_, rfl⟩
  rw [hn] at cB hbl
  rw [hnq] at cA hbl hln
  have hn6 : n ≤ 4000000 := by omega
  have HL := Lib.hid hn
  have HALL := Lib.hid hALL
  have HN := Lib.hid hN
  clear htx
  clear hALL hN hn hl hln hbl hnq hS
  go_enter Tryz.func29, Tryz.ntmps29
  go_wp2_with (first
    | (go_at_call 63; (with_reducible refine (cA _).mono ?_); rintro e w1 ⟨a1, c1, rfl, h1, hb1⟩; replace h1 := Lib.hid h1; have HB1 := Lib.hid hb1; clear hb1 cA)
    | (go_at_call 62; (with_reducible refine (cB _ _ h1).mono ?_); rintro e w2 ⟨a2, c2, rfl, h2, hb2⟩; have HB2 := Lib.hid (HB1.out.trans (hb2.mono HB1.out.size)); clear hb2 cB))
  have HF := Lib.hid h2.hasT
  clear h1 h2
  go_loopw [3, 4] (fun rv pv wr => ∃ (P : List (List TokP.Tok)) (R : List TokP.Tok) (p m : Nat), p + m ≤ n ∧ (∃ a c, rv = .slice a m c ∧ Hid (HasT w2 (.slice a m c) R)) ∧ (∃ a c, pv = .slice a p c) ∧ Hid (P.length = p) ∧ Hid (Rws w2 wr w2.heap.size pv P) ∧ Hid (Below w2.heap.size w2 wr) ∧ Hid (P ++ rowsT [] R = ALL)) (fun rv _ _ => lenS rv)
  case atStart => exact ⟨[], l, 0, n, by omega, ⟨_, _, rfl, HF⟩, ⟨none, 0, rfl⟩, Lib.hid rfl, Lib.hid (Rws.first w2 w2 _), Lib.hid (Below.refl _ _), Lib.hid (by rw [List.nil_append]; exact HALL.out)⟩
  case round =>
    obtain ⟨P, R, p, m, hpm, ⟨ra, rc, rfl, HR⟩, ⟨pa, pc, rfl⟩, HP, ST0, HB3, HG⟩ := hrel
    have HR3 := Lib.hid (HR.out.step HB3.out)
    have hpz : p ≤ 4000000 := by omega
    obtain ⟨hm, hmc, _⟩ := HR.out.cap
    have HM := Lib.hid hm
    clear hm
    clear HF
    rcases first_ex (fun u => isS u 59) R with hno | ⟨k, t, hk, ht, hno⟩
    · have cY := index_is HR3.out (by omega) (-1) (.inl ⟨rfl, hno⟩)
      have HFIN := Lib.hid (show P ++ [R] = ALL by rw [← HG.out, rows_not hno])
      have HPN := Lib.hid (show p + 1 = N by rw [← HN.out, ← HFIN.out, List.length_append, HP.out]; rfl)
      clear hno HG
      go_wp2_with (first
        | (go_at_call 64; (with_reducible refine cY.mono ?_); rintro e w4 ⟨rfl, hb4⟩; have HB4 := Lib.hid (HB3.out.trans (hb4.mono HB3.out.size)); have ST4 := Lib.hid (ST0.out.step hb4); clear hb4 cY)
        | (at_builtin; refine wpList_rw rfl (.tmp 14) (.tmp 16) rfl w2 w2.heap.size rfl rfl ST4.out HR.out HP.out HB4.out.size hpz ?_; intro a5 c5 w5 h5 hb5; replace h5 := Lib.hid h5; have HB5 := Lib.hid (HB4.out.trans (hb5.mono (Nat.le_refl _))); clear hb5))
      go_ret
      have hpc := h5.out.pcs (by simp) HB5.out
      rw [HFIN.out] at hpc
      obtain ⟨g, c, hge, _⟩ := id hpc
      rw [HN.out] at hge
      rw [hge] at hpc ⊢
      exact ⟨g, c, rfl, hpc, HB2.out.trans (HB5.out.mono HB2.out.size)⟩
    · have hkm := (List.getElem?_eq_some_iff.1 hk).1
      rw [← HM.out] at hkm
      have cY := index_is HR3.out (by omega) k (.inr ⟨k, t, rfl, hk, ht, hno⟩)
      have hk0 : ¬ (k : Int) < 0 := by omega
      have F1 : IntKind.i64.wrap ((k : Int) + 1) = (k : Int) + 1 := by rw [IntKind.wrap_i64]; omega
      obtain ⟨A1, C1, R1, hT1⟩ := run_sub_to HR.out k (k : Int) rfl (by omega)
      obtain ⟨A2, C2, R2, hT2⟩ := run_sub_from HR.out (k + 1) ((k : Int) + 1) (by omega) (by omega)
      have HT1 := Lib.hid hT1
      have HT2 := Lib.hid hT2
      have HFIN := Lib.hid (show (P ++ [R.take k]) ++ rowsT [] (R.drop (k + 1)) = ALL by rw [← HG.out, rows_at hk ht hno, List.append_assoc]; rfl)
      have HPN := Lib.hid (show (P ++ [R.take k]).length = p + 1 by rw [List.length_append, HP.out]; rfl)
      clear hno HG hk ht hT1 hT2
      go_wp2_with (first
        | (go_at_call 64; (with_reducible refine cY.mono ?_); rintro e w4 ⟨rfl, hb4⟩; have HB4 := Lib.hid (HB3.out.trans (hb4.mono HB3.out.size)); have ST4 := Lib.hid (ST0.out.step hb4); clear hb4 cY)
        | (at_builtin; refine wpList_rw rfl (.tmp 18) (.tmp 22) rfl w2 w2.heap.size rfl rfl ST4.out HT1.out HP.out HB4.out.size hpz ?_; intro a5 c5 w5 h5 hb5; replace h5 := Lib.hid h5; have HB5 := Lib.hid (HB4.out.trans (hb5.mono (Nat.le_refl _))); clear hb5))
      go_roundw
      case rel => exact ⟨_, _, p + 1, m - (k + 1), by omega, ⟨_, _, rfl, HT2⟩, ⟨_, _, rfl⟩, HPN, h5, HB5, HFIN⟩
      case measure => simp [lenS]; omega
end Go.Proofs.YtdinachiiimngaaGreatDoor
namespace Go.Proofs.YtdinachiiimngaaGreatDoor
open Go.ChangeShapes Go.WideShapes Go.ChangeAt Go.RowKit
open TokP AdrP CtP

def ptV (t : (List UInt8 × Bool)) : List Value := [.string (strL t.1), .bool t.2]
def ptsV (l : List (List UInt8 × Bool)) : List Value := l.flatMap ptV
theorem ptsV_len (l : List (List UInt8 × Bool)) : (ptsV l).length = l.length * 2 := by
  unfold ptsV
  induction l with
  | nil => rfl
  | cons m l ih => rw [List.flatMap_cons, List.length_append, ih, List.length_cons]; simp [ptV]; omega
theorem ptsV_app (a b : List (List UInt8 × Bool)) : ptsV a ++ ptsV b = ptsV (a ++ b) := by unfold ptsV; rw [List.flatMap_append]
theorem ptsV_one (f : (List UInt8 × Bool)) : ptsV [f] = ptV f := by unfold ptsV; simp
theorem ptsV_at : ∀ (l : List (List UInt8 × Bool)) (i : Nat) (f : (List UInt8 × Bool)), l[i]? = some f → ∀ j, j < 2 → (ptsV l)[i * 2 + j]? = (ptV f)[j]?
  | [], i, m, h => by simp at h
  | x :: l, 0, m, h => by
    simp at h
    subst h
    intro j hj
    rw [show ptsV (x :: l) = ptV x ++ ptsV l by unfold ptsV; rw [List.flatMap_cons], Nat.zero_mul, Nat.zero_add, List.getElem?_append_left (by simp [ptV]; exact hj)]
  | x :: l, i + 1, m, h => by
    intro j hj
    have ih := ptsV_at l i m (by simpa using h) j hj
    rw [show ptsV (x :: l) = ptV x ++ ptsV l by unfold ptsV; rw [List.flatMap_cons], List.getElem?_append_right (by simp [ptV]; omega)]
    have e1 : (i + 1) * 2 + j - (ptV x).length = i * 2 + j := by simp [ptV]; omega
    rw [e1]
    exact ih
theorem ptV_one (f : (List UInt8 × Bool)) : ∀ u ∈ ptV f, u.oneCell' = true := by
  intro u hu
  simp [ptV] at hu
  rcases hu with rfl | rfl <;> rfl
theorem ptsV_ones (l : List (List UInt8 × Bool)) : ∀ u ∈ ptsV l, u.oneCell' = true := by
  intro u hu
  obtain ⟨f, _, hf⟩ := List.mem_flatMap.1 hu
  exact ptV_one f u hf
/-- The addresses l lie at g, from cell o on. -/
def TAt (w : World) (g o : Nat) (l : List (List UInt8 × Bool)) : Prop := ∀ i f, l[i]? = some f → w.cell? ⟨g, o + i * 2, none⟩ = some (.string (strL f.1)) ∧ w.cell? ⟨g, o + i * 2 + 1, none⟩ = some (.bool f.2)
def OwnQ (w : World) (v : Value) (l : List (List UInt8 × Bool)) : Prop := ∃ base, w.ownsRow base 98 2 v l.length (ptsV l)
/-- The slice v reads as l. -/
def HasQ (w : World) (v : Value) (l : List (List UInt8 × Bool)) : Prop := ((∃ a c, v = .slice a 0 c) ∧ l = []) ∨ ∃ g o c, v = .slice (some ⟨g, o, none⟩) l.length c ∧ TAt w g o l
theorem OwnQ.step {w w' : World} {v : Value} {xs : List (List UInt8 × Bool)} (h : OwnQ w v xs) (hb : Below w.heap.size w w') : OwnQ w' v xs := by
  obtain ⟨b, ho⟩ := h; exact ⟨b, own_below ho hb⟩
theorem OwnQ.shape {w : World} {v : Value} {xs : List (List UInt8 × Bool)} (h : OwnQ w v xs) : ∃ a c, v = .slice a xs.length c := by
  obtain ⟨b, ho⟩ := h
  rcases ho.2 with ⟨rfl, h0⟩ | ⟨g, cap, cur, rfl, _⟩
  · exact ⟨none, 0, by rw [h0]⟩
  · exact ⟨_, _, rfl⟩
theorem OwnQ.at {w : World} {a : Option Addr} {n c : Nat} {xs : List (List UInt8 × Bool)} (h : OwnQ w (.slice a n c) xs) (hn : 0 < n) : ∃ g, a = some ⟨g, 0, none⟩ ∧ TAt w g 0 xs := by
  obtain ⟨b, ho⟩ := h
  rcases ho.2 with ⟨e, h0⟩ | ⟨g, cap, cur, e, _⟩
  · injection e with _ e2 _; omega
  · have e' := e
    injection e with e1 _ _
    subst e1
    refine ⟨g, rfl, fun i f hf => ?_⟩
    have key : ∀ j u, j < 2 → (ptV f)[j]? = some u → w.cell? ⟨g, 0 + i * 2 + j, none⟩ = some u := fun j u hj hu => by
      have := ho.cells (g := g) rfl (i * 2 + j) u (by rw [ptsV_at xs i f hf j hj]; exact hu)
      rwa [add_none, ← Nat.add_assoc] at this
    exact ⟨key 0 _ (by decide) rfl, key 1 _ (by decide) rfl⟩
theorem OwnQ.has {w : World} {v : Value} {xs : List (List UInt8 × Bool)} (h : OwnQ w v xs) : HasQ w v xs := by
  obtain ⟨a, c, rfl⟩ := h.shape
  by_cases hn : 0 < xs.length
  · obtain ⟨g, rfl, hf⟩ := h.at hn
    exact .inr ⟨g, 0, c, rfl, hf⟩
  · obtain rfl : xs = [] := List.eq_nil_of_length_eq_zero (by omega)
    obtain ⟨b, ho⟩ := h
    rcases ho.2 with ⟨e, _⟩ | ⟨g, cap, cur, e, _⟩
    · exact .inl ⟨⟨_, _, e⟩, rfl⟩
    · exact .inr ⟨g, 0, _, e, fun i f hf => by simp at hf⟩
theorem TAt.lt {w : World} {g o : Nat} {l : List (List UInt8 × Bool)} (h : TAt w g o l) (hl : l ≠ []) : g < w.heap.size := by
  cases l with
  | nil => exact absurd rfl hl
  | cons f r => exact World.block_lt_of_cell? w _ (h 0 f rfl).1
theorem TAt.keep {w w' : World} {g o : Nat} {l : List (List UInt8 × Bool)} (h : TAt w g o l) (hk : w'.heap[g]? = w.heap[g]?) : TAt w' g o l := by
  intro i f hf
  obtain ⟨h1, h2⟩ := h i f hf
  exact ⟨by rw [World.cell?_of_block (by exact hk)]; exact h1, by rw [World.cell?_of_block (by exact hk)]; exact h2⟩
theorem TAt.step {w w' : World} {g o : Nat} {l : List (List UInt8 × Bool)} (h : TAt w g o l) (hb : Below w.heap.size w w') : TAt w' g o l := by
  by_cases hl : l = []
  · subst hl; intro i f hf; simp at hf
  · exact h.keep (hb.block g (h.lt hl))
theorem HasQ.step {w w' : World} {v : Value} {l : List (List UInt8 × Bool)} (h : HasQ w v l) (hb : Below w.heap.size w w') : HasQ w' v l := by
  rcases h with h | ⟨g, o, c, rfl, h⟩
  · exact .inl h
  · exact .inr ⟨g, o, c, rfl, h.step hb⟩
theorem HasQ.form {w : World} {v : Value} {l : List (List UInt8 × Bool)} (h : HasQ w v l) : ∃ a c, v = .slice a l.length c := by
  rcases h with ⟨⟨a, c, rfl⟩, rfl⟩ | ⟨g, o, c, rfl, _⟩
  · exact ⟨a, c, rfl⟩
  · exact ⟨_, _, rfl⟩
theorem HasQ.at {w : World} {a : Option Addr} {n c : Nat} {l : List (List UInt8 × Bool)} (h : HasQ w (.slice a n c) l) (hn : 0 < n) : ∃ g o, a = some ⟨g, o, none⟩ ∧ TAt w g o l := by
  rcases h with ⟨⟨a', c', e⟩, _⟩ | ⟨g, o, c', e, h⟩
  · injection e with _ e _; omega
  · injection e with e _ _; exact ⟨g, o, e, h⟩
theorem news_pt (w : World) (f : (List UInt8 × Bool)) : ∀ j u, (ptV f)[j]? = some u → (w.alloc (.cells (ptV f).toArray 98)).cell? ((⟨w.heap.size, 0, none⟩ : Addr).add j) = some u := by
  intro j u h
  have := World.cell?_alloc_mark w (ptV f).toArray 98 (0, 0) j
  rw [add_none, Nat.zero_add, this, List.getElem?_toArray]; exact h
theorem infoPt : (Tryz.prog.info? 98).map (fun i => (i.zero, i.size, i.bytes)) = some (some (.agg #[.string ⟨#[]⟩, .bool false]), 2, 24) := by kernel_rfl
/-- An address is appended. -/
theorem run_appQ {w : World} (base : Nat) {v : Value} {xs : List (List UInt8 × Bool)} (f : (List UInt8 × Bool)) (hown : w.ownsRow base 98 2 v xs.length (ptsV xs)) (hb : base ≤ w.heap.size) (hl : xs.length ≤ 4000000) :
    ∃ a c w', (Builtin.append_ #[100, 100] 100 #[v, .slice (some ⟨w.heap.size, 0, none⟩) 1 1]).run Tryz.prog (w.alloc (.cells #[.string (strL f.1), .bool f.2] 98)) = .ok (.slice a (xs.length + 1) c) w' ∧
      w'.ownsRow base 98 2 (.slice a (xs.length + 1) c) (xs ++ [f]).length (ptsV (xs ++ [f])) ∧ (w.alloc (.cells #[.string (strL f.1), .bool f.2] 98)).grownBy w' v.ownBlock := by
  obtain ⟨i0, hi, hz0, hz1, hz2⟩ := info_parts infoPt
  obtain ⟨v', w', hr, h1, h2, _⟩ := run_append_own (P := Tryz.prog) (w.alloc (.cells (ptV f).toArray 98)) base 100 100 98 i0 _ 2 24 Tryz.underlying100 hi hz0 hz1 hz2 rfl (by decide) v xs.length _ (World.ownsRow.alloc hown _) ⟨w.heap.size, 0, none⟩ 1 1 (ptV f) rfl (news_pt w f) (ptV_one f) (by unfold maxLen; omega) (by omega) (by rw [World.size_alloc]; omega)
  rw [← ptsV_one, ptsV_app, ← List.length_singleton (a := f), ← List.length_append] at h1
  obtain ⟨a, c, rfl⟩ : ∃ a c, v' = .slice a (xs.length + 1) c := by
    rcases h1.2 with ⟨rfl, h0⟩ | ⟨g, cap, cur, rfl, _⟩
    · simp at h0
    · exact ⟨_, _, by rw [List.length_append]; rfl⟩
  exact ⟨a, c, w', hr, h1, h2⟩
theorem wpList_appQ {ops : Array Oper} {rest : List Oper} {o : Oper} {a : Act} {w : World} {Q : Exit → Act → World → Prop} (hw : Region.wanted o (yielded ops a.tmps) = true) (s x : Operand)
    (ho : o.op = .call { callee := .builtin .append, args := #[s, x], argTypes := #[100, 100] }) (hty : o.type = 100) (base : Nat) {v : Value} {xs : List (List UInt8 × Bool)} {n : Nat} (f : (List UInt8 × Bool)) (hs : a.eval s = v) (hx : a.eval x = .slice (some ⟨w.heap.size, 0, none⟩) 1 1)
    (hown : w.ownsRow base 98 2 v xs.length (ptsV xs)) (hn : xs.length = n) (hb : base ≤ w.heap.size) (hl : n ≤ 4000000)
    (h : ∀ a' c' w', w'.ownsRow base 98 2 (.slice a' (n + 1) c') (xs ++ [f]).length (ptsV (xs ++ [f])) → (w.alloc (.cells #[.string (strL f.1), .bool f.2] 98)).grownBy w' v.ownBlock → wpList Tryz.prog ops Q rest (a.put o.dst (.slice a' (n + 1) c')) w') :
    wpList Tryz.prog ops Q (o :: rest) a (w.alloc (.cells #[.string (strL f.1), .bool f.2] 98)) := by
  subst hn
  obtain ⟨a', c', w', hr, h1, h2⟩ := run_appQ base f hown hb hl
  unfold wpList
  rw [if_pos hw]
  left
  unfold Oper.wp
  simp [execOp, ho, hty, resolve, invoke, builtin, hs, hx, hr, Result.andThen]
  exact h a' c' w' h1 h2
/-- A slice of parts with room for them. -/
def HasR (w : World) (v : Value) (l : List (List UInt8 × Bool)) : Prop := ∃ a c, v = .slice a l.length c ∧ l.length ≤ c ∧ HasQ w v l
theorem HasR.step {w w' : World} {v : Value} {l : List (List UInt8 × Bool)} (h : HasR w v l) (hb : Below w.heap.size w w') : HasR w' v l := by
  obtain ⟨a, c, e, h1, h2⟩ := h
  exact ⟨a, c, e, h1, h2.step hb⟩
theorem HasR.has {w : World} {v : Value} {l : List (List UInt8 × Bool)} (h : HasR w v l) : HasQ w v l := by
  obtain ⟨_, _, _, _, h⟩ := h; exact h
theorem HasR.cap {w : World} {a : Option Addr} {n c : Nat} {l : List (List UInt8 × Bool)} (h : HasR w (.slice a n c) l) : n = l.length ∧ n ≤ c ∧ HasQ w (.slice a n c) l := by
  obtain ⟨a', c', e, h1, h2⟩ := h
  injection e with _ e1 e2
  subst e2
  exact ⟨e1, by omega, h2⟩
theorem OwnQ.hasR {w : World} {v : Value} {l : List (List UInt8 × Bool)} (h : OwnQ w v l) : HasR w v l := by
  have h2 := h.has
  obtain ⟨b, ho⟩ := h
  rcases ho.2 with ⟨rfl, h0⟩ | ⟨g, cap, cur, rfl, _, _, hc, _⟩
  · exact ⟨none, 0, by rw [h0], by omega, h2⟩
  · exact ⟨_, _, rfl, hc, h2⟩
theorem elemQ : Tryz.prog.elem 100 = 98 := by
  unfold Program.elem
  rw [Tryz.underlying100]
theorem underQ : Tryz.prog.underlying 100 = some (.slice (Tryz.prog.elem 100)) := by
  rw [elemQ]
  exact Tryz.underlying100
theorem sizeQ (W : World) : (sizeOf (Tryz.prog.elem 100)).run Tryz.prog W = .ok 2 W := by
  rw [elemQ]
  exact Tryz.sizeOf98 W
theorem run_restQ {w : World} {a : Option Addr} {n c : Nat} {l : List (List UInt8 × Bool)} (h : HasR w (.slice a n c) l) (hn : 0 < n) :
    ∃ A C, (∀ W : World, (Instr.slice 100 (.slice a n c) (some (.int .i64 1)) none none).run Tryz.prog W = .ok (.slice A (n - 1) C) W) ∧ HasR w (.slice A (n - 1) C) (l.drop 1) := by
  obtain ⟨rfl, hc, hf⟩ := h.cap
  obtain ⟨g, o, rfl, hfa⟩ := hf.at hn
  have hr := fun W : World => run_slice_l W 100 (some ⟨g, o, none⟩) l.length c underQ .i64 1 (by omega) (by omega)
  simp only [sizeQ, Result.andThen] at hr
  have hl : (l.drop 1).length = l.length - 1 := List.length_drop
  by_cases hc1 : c = 1
  · refine ⟨_, _, hr, _, _, by first | (rw [hl]; done) | (rw [hl]; rfl), by rw [hl]; simp only [Int.toNat_one]; omega, ?_⟩
    subst hc1
    have : l.drop 1 = [] := List.eq_nil_of_length_eq_zero (by rw [hl]; omega)
    rw [this]
    refine .inl ⟨⟨_, _, by rw [show l.length - 1 = 0 by omega]⟩, rfl⟩
  · refine ⟨some ⟨g, o + 2, none⟩, c - 1, fun W => ?_, _, _, by rw [hl], by rw [hl]; omega, .inr ⟨g, o + 2, _, by rw [hl], fun i f hf => ?_⟩⟩
    · rw [hr W]
      unfold sliced
      simp only [Int.toNat_one]
      rw [if_neg hc1, Option.map_some, add_none]
    · rw [List.getElem?_drop, Nat.add_comm] at hf
      have := hfa (i + 1) f hf
      rw [show o + (i + 1) * 2 = o + 2 + i * 2 by omega] at this
      exact this
end Go.Proofs.YtdinachiiimngaaGreatDoor
namespace Go.Proofs.YtdinachiiimngaaGreatDoor
open Go.ChangeShapes Go.WideShapes Go.ChangeAt Go.RowKit
open TokP AdrP CtP

/-- A section's number as the reference bears it. -/
def secZ (o : Option Nat) : Int := match o with
  | some k => k
  | none => -1
def oneV (t : Par) : List Value := [.string (strL t.name), .int .i64 (secZ t.sec), .bool t.wide, .string (strL t.value)]
def onesV (l : List Par) : List Value := l.flatMap oneV
theorem onesV_len (l : List Par) : (onesV l).length = l.length * 4 := by
  unfold onesV
  induction l with
  | nil => rfl
  | cons m l ih => rw [List.flatMap_cons, List.length_append, ih, List.length_cons]; simp [oneV]; omega
theorem onesV_app (a b : List Par) : onesV a ++ onesV b = onesV (a ++ b) := by unfold onesV; rw [List.flatMap_append]
theorem onesV_one (f : Par) : onesV [f] = oneV f := by unfold onesV; simp
theorem onesV_at : ∀ (l : List Par) (i : Nat) (f : Par), l[i]? = some f → ∀ j, j < 4 → (onesV l)[i * 4 + j]? = (oneV f)[j]?
  | [], i, m, h => by simp at h
  | x :: l, 0, m, h => by
    simp at h
    subst h
    intro j hj
    rw [show onesV (x :: l) = oneV x ++ onesV l by unfold onesV; rw [List.flatMap_cons], Nat.zero_mul, Nat.zero_add, List.getElem?_append_left (by simp [oneV]; exact hj)]
  | x :: l, i + 1, m, h => by
    intro j hj
    have ih := onesV_at l i m (by simpa using h) j hj
    rw [show onesV (x :: l) = oneV x ++ onesV l by unfold onesV; rw [List.flatMap_cons], List.getElem?_append_right (by simp [oneV]; omega)]
    have e1 : (i + 1) * 4 + j - (oneV x).length = i * 4 + j := by simp [oneV]; omega
    rw [e1]
    exact ih
theorem oneV_one (f : Par) : ∀ u ∈ oneV f, u.oneCell' = true := by
  intro u hu
  simp [oneV] at hu
  rcases hu with rfl | rfl | rfl | rfl <;> rfl
theorem onesV_ones (l : List Par) : ∀ u ∈ onesV l, u.oneCell' = true := by
  intro u hu
  obtain ⟨f, _, hf⟩ := List.mem_flatMap.1 hu
  exact oneV_one f u hf
/-- The addresses l lie at g, from cell o on. -/
def OAt (w : World) (g o : Nat) (l : List Par) : Prop := ∀ i f, l[i]? = some f → w.cell? ⟨g, o + i * 4, none⟩ = some (.string (strL f.name)) ∧ w.cell? ⟨g, o + i * 4 + 1, none⟩ = some (.int .i64 (secZ f.sec)) ∧ w.cell? ⟨g, o + i * 4 + 2, none⟩ = some (.bool f.wide) ∧ w.cell? ⟨g, o + i * 4 + 3, none⟩ = some (.string (strL f.value))
def OwnO (w : World) (v : Value) (l : List Par) : Prop := ∃ base, w.ownsRow base 105 4 v l.length (onesV l)
/-- The slice v reads as l. -/
def HasO (w : World) (v : Value) (l : List Par) : Prop := ((∃ a c, v = .slice a 0 c) ∧ l = []) ∨ ∃ g o c, v = .slice (some ⟨g, o, none⟩) l.length c ∧ OAt w g o l
theorem OwnO.step {w w' : World} {v : Value} {xs : List Par} (h : OwnO w v xs) (hb : Below w.heap.size w w') : OwnO w' v xs := by
  obtain ⟨b, ho⟩ := h; exact ⟨b, own_below ho hb⟩
theorem OwnO.shape {w : World} {v : Value} {xs : List Par} (h : OwnO w v xs) : ∃ a c, v = .slice a xs.length c := by
  obtain ⟨b, ho⟩ := h
  rcases ho.2 with ⟨rfl, h0⟩ | ⟨g, cap, cur, rfl, _⟩
  · exact ⟨none, 0, by rw [h0]⟩
  · exact ⟨_, _, rfl⟩
theorem OwnO.at {w : World} {a : Option Addr} {n c : Nat} {xs : List Par} (h : OwnO w (.slice a n c) xs) (hn : 0 < n) : ∃ g, a = some ⟨g, 0, none⟩ ∧ OAt w g 0 xs := by
  obtain ⟨b, ho⟩ := h
  rcases ho.2 with ⟨e, h0⟩ | ⟨g, cap, cur, e, _⟩
  · injection e with _ e2 _; omega
  · have e' := e
    injection e with e1 _ _
    subst e1
    refine ⟨g, rfl, fun i f hf => ?_⟩
    have key : ∀ j u, j < 4 → (oneV f)[j]? = some u → w.cell? ⟨g, 0 + i * 4 + j, none⟩ = some u := fun j u hj hu => by
      have := ho.cells (g := g) rfl (i * 4 + j) u (by rw [onesV_at xs i f hf j hj]; exact hu)
      rwa [add_none, ← Nat.add_assoc] at this
    exact ⟨key 0 _ (by decide) rfl, key 1 _ (by decide) rfl, key 2 _ (by decide) rfl, key 3 _ (by decide) rfl⟩
theorem OwnO.has {w : World} {v : Value} {xs : List Par} (h : OwnO w v xs) : HasO w v xs := by
  obtain ⟨a, c, rfl⟩ := h.shape
  by_cases hn : 0 < xs.length
  · obtain ⟨g, rfl, hf⟩ := h.at hn
    exact .inr ⟨g, 0, c, rfl, hf⟩
  · obtain rfl : xs = [] := List.eq_nil_of_length_eq_zero (by omega)
    obtain ⟨b, ho⟩ := h
    rcases ho.2 with ⟨e, _⟩ | ⟨g, cap, cur, e, _⟩
    · exact .inl ⟨⟨_, _, e⟩, rfl⟩
    · exact .inr ⟨g, 0, _, e, fun i f hf => by simp at hf⟩
theorem OAt.lt {w : World} {g o : Nat} {l : List Par} (h : OAt w g o l) (hl : l ≠ []) : g < w.heap.size := by
  cases l with
  | nil => exact absurd rfl hl
  | cons f r => exact World.block_lt_of_cell? w _ (h 0 f rfl).1
theorem OAt.keep {w w' : World} {g o : Nat} {l : List Par} (h : OAt w g o l) (hk : w'.heap[g]? = w.heap[g]?) : OAt w' g o l := by
  intro i f hf
  obtain ⟨h1, h2, h3, h4⟩ := h i f hf
  exact ⟨by rw [World.cell?_of_block (by exact hk)]; exact h1, by rw [World.cell?_of_block (by exact hk)]; exact h2, by rw [World.cell?_of_block (by exact hk)]; exact h3, by rw [World.cell?_of_block (by exact hk)]; exact h4⟩
theorem OAt.step {w w' : World} {g o : Nat} {l : List Par} (h : OAt w g o l) (hb : Below w.heap.size w w') : OAt w' g o l := by
  by_cases hl : l = []
  · subst hl; intro i f hf; simp at hf
  · exact h.keep (hb.block g (h.lt hl))
theorem HasO.step {w w' : World} {v : Value} {l : List Par} (h : HasO w v l) (hb : Below w.heap.size w w') : HasO w' v l := by
  rcases h with h | ⟨g, o, c, rfl, h⟩
  · exact .inl h
  · exact .inr ⟨g, o, c, rfl, h.step hb⟩
theorem HasO.form {w : World} {v : Value} {l : List Par} (h : HasO w v l) : ∃ a c, v = .slice a l.length c := by
  rcases h with ⟨⟨a, c, rfl⟩, rfl⟩ | ⟨g, o, c, rfl, _⟩
  · exact ⟨a, c, rfl⟩
  · exact ⟨_, _, rfl⟩
theorem HasO.at {w : World} {a : Option Addr} {n c : Nat} {l : List Par} (h : HasO w (.slice a n c) l) (hn : 0 < n) : ∃ g o, a = some ⟨g, o, none⟩ ∧ OAt w g o l := by
  rcases h with ⟨⟨a', c', e⟩, _⟩ | ⟨g, o, c', e, h⟩
  · injection e with _ e _; omega
  · injection e with e _ _; exact ⟨g, o, e, h⟩
theorem news_one (w : World) (f : Par) : ∀ j u, (oneV f)[j]? = some u → (w.alloc (.cells (oneV f).toArray 105)).cell? ((⟨w.heap.size, 0, none⟩ : Addr).add j) = some u := by
  intro j u h
  have := World.cell?_alloc_mark w (oneV f).toArray 105 (0, 0) j
  rw [add_none, Nat.zero_add, this, List.getElem?_toArray]; exact h
theorem infoOne : (Tryz.prog.info? 105).map (fun i => (i.zero, i.size, i.bytes)) = some (some (.agg #[.string ⟨#[]⟩, .int .i64 0, .bool false, .string ⟨#[]⟩]), 4, 48) := by kernel_rfl
/-- An address is appended. -/
theorem run_appO {w : World} (base : Nat) {v : Value} {xs : List Par} (f : Par) (hown : w.ownsRow base 105 4 v xs.length (onesV xs)) (hb : base ≤ w.heap.size) (hl : xs.length ≤ 4000000) :
    ∃ a c w', (Builtin.append_ #[103, 103] 103 #[v, .slice (some ⟨w.heap.size, 0, none⟩) 1 1]).run Tryz.prog (w.alloc (.cells #[.string (strL f.name), .int .i64 (secZ f.sec), .bool f.wide, .string (strL f.value)] 105)) = .ok (.slice a (xs.length + 1) c) w' ∧
      w'.ownsRow base 105 4 (.slice a (xs.length + 1) c) (xs ++ [f]).length (onesV (xs ++ [f])) ∧ (w.alloc (.cells #[.string (strL f.name), .int .i64 (secZ f.sec), .bool f.wide, .string (strL f.value)] 105)).grownBy w' v.ownBlock := by
  obtain ⟨i0, hi, hz0, hz1, hz2⟩ := info_parts infoOne
  obtain ⟨v', w', hr, h1, h2, _⟩ := run_append_own (P := Tryz.prog) (w.alloc (.cells (oneV f).toArray 105)) base 103 103 105 i0 _ 4 48 Tryz.underlying103 hi hz0 hz1 hz2 rfl (by decide) v xs.length _ (World.ownsRow.alloc hown _) ⟨w.heap.size, 0, none⟩ 1 1 (oneV f) rfl (news_one w f) (oneV_one f) (by unfold maxLen; omega) (by omega) (by rw [World.size_alloc]; omega)
  rw [← onesV_one, onesV_app, ← List.length_singleton (a := f), ← List.length_append] at h1
  obtain ⟨a, c, rfl⟩ : ∃ a c, v' = .slice a (xs.length + 1) c := by
    rcases h1.2 with ⟨rfl, h0⟩ | ⟨g, cap, cur, rfl, _⟩
    · simp at h0
    · exact ⟨_, _, by rw [List.length_append]; rfl⟩
  exact ⟨a, c, w', hr, h1, h2⟩
theorem wpList_appO {ops : Array Oper} {rest : List Oper} {o : Oper} {a : Act} {w : World} {Q : Exit → Act → World → Prop} (hw : Region.wanted o (yielded ops a.tmps) = true) (s x : Operand)
    (ho : o.op = .call { callee := .builtin .append, args := #[s, x], argTypes := #[103, 103] }) (hty : o.type = 103) (base : Nat) {v : Value} {xs : List Par} {n : Nat} (f : Par) (hs : a.eval s = v) (hx : a.eval x = .slice (some ⟨w.heap.size, 0, none⟩) 1 1)
    (hown : w.ownsRow base 105 4 v xs.length (onesV xs)) (hn : xs.length = n) (hb : base ≤ w.heap.size) (hl : n ≤ 4000000)
    (h : ∀ a' c' w', w'.ownsRow base 105 4 (.slice a' (n + 1) c') (xs ++ [f]).length (onesV (xs ++ [f])) → (w.alloc (.cells #[.string (strL f.name), .int .i64 (secZ f.sec), .bool f.wide, .string (strL f.value)] 105)).grownBy w' v.ownBlock → wpList Tryz.prog ops Q rest (a.put o.dst (.slice a' (n + 1) c')) w') :
    wpList Tryz.prog ops Q (o :: rest) a (w.alloc (.cells #[.string (strL f.name), .int .i64 (secZ f.sec), .bool f.wide, .string (strL f.value)] 105)) := by
  subst hn
  obtain ⟨a', c', w', hr, h1, h2⟩ := run_appO base f hown hb hl
  unfold wpList
  rw [if_pos hw]
  left
  unfold Oper.wp
  simp [execOp, ho, hty, resolve, invoke, builtin, hs, hx, hr, Result.andThen]
  exact h a' c' w' h1 h2
end Go.Proofs.YtdinachiiimngaaGreatDoor
