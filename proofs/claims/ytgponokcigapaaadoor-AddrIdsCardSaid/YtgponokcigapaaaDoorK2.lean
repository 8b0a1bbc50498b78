/- Bare: the tokens that are neither white space nor comments. Mail addresses, of no program: valid addresses, canonical forms; dot-atoms byte by byte. The reference's tests of a token and of a byte. Addresses as values; slices of addresses and of strings: in a block of their own, or read at an address. Mail addresses, of no program: the program's ways: the bounds of the first piece, finds, ids by cuts, dot-atoms by tokens. Parts of a slice of tokens; the program's special and find. The program's firstPiece: where the first piece starts, behind its group names, and where it ends. A strings.Builder that has just been made. Values and escapes, at a place of a list. -/
import Derived.Test.YtgponokcigapaaaDoorK1
import Derived.RangeFuncRecord
import Derived.BigQuiet
namespace Go.Proofs.YtgponokcigapaaaDoor
open Go.ChangeShapes Go.WideShapes Go.ChangeAt Go.RowKit
open TokP

theorem cell_below {w w' : World} {a : Addr} {v : Value} (h : w.cell? a = some v) (hb : Below w.heap.size w w') : w'.cell? a = some v := by
  rw [World.cell?_of_block (w := w) (hb.block _ (World.block_lt_of_cell? w a h))]; exact h
theorem cell_alloc {w : World} {a : Addr} {v : Value} (h : w.cell? a = some v) (o : Obj) : (w.alloc o).cell? a = some v := cell_below h ((Below.refl _ _).alloc (Nat.le_refl _) o)
theorem cell_grown {w w' : World} {a : Addr} {v : Value} {r : Option Nat} (h : w.cell? a = some v) (hg : w.grownBy w' r) (hr : r ≠ some a.block) : w'.cell? a = some v := by
  rw [World.cell?_of_block (w := w) (hg.block _ (World.block_lt_of_cell? w a h) (fun e => hr e.symm))]; exact h
theorem copy_kind (w : World) (a b : Value) (t : TypeId) : (w.alloc (.cells #[a, b] t)).cell? ⟨w.heap.size, 0, none⟩ = some a := by
  rw [Lib.cell_of_heap (World.alloc_heap_new w _)]; rfl
theorem copy_text (w : World) (a b : Value) (t : TypeId) : (w.alloc (.cells #[a, b] t)).cell? ⟨w.heap.size, 1, none⟩ = some b := by
  rw [Lib.cell_of_heap (World.alloc_heap_new w _)]; rfl
theorem step_append_own {P : Program} {ops : Array Oper} {o : Oper} {a : Act} {w : World} {K : Act → World → Prop} {Q : Exit → Act → World → Prop} {E : Prop}
    (hg : o.guard = none) (s x : Operand) (t : TypeId) (hop : o.op = Op.call { callee := Callee.builtin Builtin.append, args := #[s, x], argTypes := #[t, t] })
    (base : Nat) (e : TypeId) (i : TypeInfo) (z : Value) (size bytes : Nat) (h1 : P.underlying t = some (.slice e)) (h2 : P.info? e = some i) (h3 : i.zero = some z) (h4 : i.size = size) (h5 : i.bytes = bytes) (h6 : z.cells.size = size) (h7 : 0 < size)
    (v : Value) (n : Nat) (xs : List Value) (hs : a.eval s = v) (hown : w.ownsRow base e size v n xs) (ad : Addr) (m c : Nat) (news : List Value) (hx : a.eval x = .slice (some ad) m c) (hn : news.length = m * size)
    (hc : ∀ j u, news[j]? = some u → w.cell? (ad.add j) = some u) (h1c : ∀ u ∈ news, u.oneCell' = true) (b1 : n + m ≤ maxLen) (b2 : (n + m) * bytes ≤ 140737488355328) (hb : base ≤ w.heap.size)
    (hK : ∀ v' w', w'.ownsRow base e size v' (n + m) (xs ++ news) → w.grownBy w' v.ownBlock → K (a.put o.dst v') w') :
    if Region.wanted o (yielded ops a.tmps) = true then Oper.wp P o a w K Q else E := by
  have hw : Region.wanted o (yielded ops a.tmps) = true := by simp [Region.wanted, hg]
  rw [if_pos hw]
  obtain ⟨v', w', hrun, r1, r2, _⟩ := run_append_own (P := P) w base t o.type e i z size bytes h1 h2 h3 h4 h5 h6 h7 v n xs hown ad m c news hn hc h1c b1 b2 hb
  unfold Oper.wp
  simp [execOp, hop, resolve, invoke, builtin, hs, hx, hrun, Result.andThen]
  exact hK v' w' r1 r2
/-- A token is appended in a region that draws its order. -/
theorem step_appF {ops : Array Oper} {o : Oper} {a : Act} {w : World} {K : Act → World → Prop} {Q : Exit → Act → World → Prop} {E : Prop} (hgd : o.guard = none) (d x : Operand)
    (ho : o.op = .call { callee := .builtin .append, args := #[d, x], argTypes := #[38, 38] }) (B : Nat) (out : List Tok) (f : Tok) (m : Nat) {v : Value} (hown : w.ownsRow B 43 2 v out.length (toksV out)) (hm : out.length = m) (hd : a.eval d = v)
    (hx : a.eval x = .slice (some ⟨w.heap.size, 0, none⟩) 1 1) (hlen : m ≤ 1000000) (hB : B ≤ w.heap.size)
    (h : ∀ a' c' w', w'.ownsRow B 43 2 (.slice a' (m + 1) c') (out ++ [f]).length (toksV (out ++ [f])) → (w.alloc (.cells #[.int .i64 (f.kind : Nat), .string (strL f.text)] 43)).grownBy w' v.ownBlock → K (a.put o.dst (.slice a' (m + 1) c')) w') :
    if Region.wanted o (yielded ops a.tmps) = true then Oper.wp Tryd.prog o a (w.alloc (.cells #[.int .i64 (f.kind : Nat), .string (strL f.text)] 43)) K Q else E := by
  obtain ⟨i0, hi, hz0, hz1, hz2⟩ := info_parts info23
  subst hm
  refine step_append_own hgd d x 38 ho B 43 i0 _ 2 24 Tryd.underlying38 hi hz0 hz1 hz2 rfl (by decide) v out.length (toksV out) hd (World.ownsRow.alloc hown _) ⟨w.heap.size, 0, none⟩ 1 1 (tokV f) hx rfl (news_tok w f) (tokV_one f) (by unfold maxLen; omega) (by omega) (by rw [World.size_alloc]; omega) ?_
  intro v' w' h1 h2
  rw [← toksV_one, toksV_app, ← List.length_singleton (a := f), ← List.length_append] at h1
  obtain ⟨a', c', rfl⟩ : ∃ a' c', v' = .slice a' (out.length + 1) c' := by
    rcases h1.2 with ⟨rfl, h0⟩ | ⟨g, cap, cur, rfl, _⟩
    · simp at h0
    · exact ⟨_, _, by rw [List.length_append]; rfl⟩
  exact h a' c' w' h1 h2
def bareL (l : List Tok) : List Tok := l.filter (fun t => t.kind != 6 && t.kind != 3)
theorem bare_step (l : List Tok) (k : Nat) (f : Tok) (h : l[k]? = some f) : bareL (l.take (k + 1)) = bareL (l.take k) ++ (if f.kind = 6 ∨ f.kind = 3 then [] else [f]) := by
  unfold bareL
  rw [List.take_add_one, h, List.filter_append]
  simp only [Option.toList_some, List.filter_cons, List.filter_nil, Bool.and_eq_true, bne_iff_ne]
  by_cases h6 : f.kind = 6
  · simp [h6]
  · by_cases h3 : f.kind = 3
    · simp [h3]
    · simp [h6, h3]
theorem bare_len (l : List Tok) (k : Nat) : (bareL (l.take k)).length ≤ k := by
  have h1 : (bareL (l.take k)).length ≤ (l.take k).length := (List.filter_sublist).length_le
  have h2 := List.length_take_le k l
  omega
set_option maxRecDepth 100000 in
set_option maxHeartbeats 2000000 in
theorem bare_any (v : Value) (l : List Tok) (w : World) (h : HasF w v l) (hn : l.length ≤ 1000000) (ht : ∀ t ∈ l, t.text.length ≤ 1000000) :
    Calls Tryd.prog 25 #[v] w fun e w' => ∃ a c, e = .returned (.slice a (bareL l).length c) ∧ OwnF w' (.slice a (bareL l).length c) (bareL l) ∧ Below w.heap.size w w' := by
  rcases h with ⟨rfl, rfl⟩ | ⟨g, o, c, rfl, h⟩
  · clear ht hn
    go_enter Tryd.func25, Tryd.ntmps25
    go_wp2_with fail
    go_loopw [3, 8] (fun r i wr => i = .int .i64 0 ∧ r = .slice none 0 0 ∧ wr = w) (fun _ _ _ => 0)
    case atStart => exact ⟨rfl, rfl, rfl⟩
    case round =>
      obtain ⟨rfl, rfl, rfl⟩ := hrel
      go_wp2_with fail
      go_ret
      exact ⟨none, 0, rfl, ⟨0, rfl, .inl ⟨rfl, rfl⟩⟩, Below.refl _ _⟩
  · obtain ⟨n, hnn⟩ : ∃ n, l.length = n := ⟨_, rfl⟩
    rw [hnn] at hn ⊢
    have HN := Lib.hid hnn
    have HT := Lib.hid ht
    have H := Lib.hid h
    clear hnn h ht
    go_enter Tryd.func25, Tryd.ntmps25
    go_wp2_with fail
    go_loopw [3, 8] (fun r i wr => ∃ (k m : Nat), k ≤ n ∧ m ≤ k ∧ i = .int .i64 k ∧ (∃ a c, r = .slice a m c) ∧ Hid ((bareL (l.take k)).length = m) ∧ Hid (wr.ownsRow w.heap.size 43 2 r (bareL (l.take k)).length (toksV (bareL (l.take k)))) ∧ Hid (Below w.heap.size w wr)) (fun _ i _ => n - (intOf i).toNat)
    case atStart => exact ⟨0, 0, Nat.zero_le _, Nat.le_refl _, rfl, ⟨none, 0, rfl⟩, rfl, ⟨rfl, .inl ⟨rfl, rfl⟩⟩, Below.refl _ _⟩
    case round =>
      obtain ⟨k, m, hk, hmk, rfl, ⟨a, c2, rfl⟩, hm, ho, hb⟩ := hrel
      have F1 : IntKind.i64.wrap ((k : Int) + 1) = (k : Int) + 1 := by rw [IntKind.wrap_i64]; omega
      by_cases hlt : k < n
      · have hlt' : (k : Int) < (n : Int) := by omega
        obtain ⟨f, hf⟩ : ∃ f, l[k]? = some f := ⟨_, List.getElem?_eq_getElem (by rw [HN.out]; exact hlt)⟩
        obtain ⟨k0, k1⟩ := H.out.step hb.out k f hf
        have hstep := bare_step l k f hf
        by_cases h6 : f.kind = 6
        · rw [if_pos (.inl h6), List.append_nil] at hstep
          have HST := Lib.hid hstep
          rw [h6] at k0
          have HA := Lib.hid (hb.out.alloc hb.out.size (.cells #[.int .i64 (6 : Nat), .string (strL f.text)] 43))
          have HO := Lib.hid (World.ownsRow.alloc ho.out (.cells #[.int .i64 (6 : Nat), .string (strL f.text)] 43))
          clear hstep hf h6
          go_wp2_with fail
          go_roundw
          case rel => exact ⟨k + 1, m, by omega, by omega, by go_num, ⟨a, c2, rfl⟩, by rw [HST.out]; exact hm, by rw [HST.out]; exact HO, HA⟩
          case measure => simp [intOf]; omega
        · by_cases h3 : f.kind = 3
          · rw [if_pos (.inr h3), List.append_nil] at hstep
            have HST := Lib.hid hstep
            rw [h3] at k0
            have HA := Lib.hid (hb.out.alloc hb.out.size (.cells #[.int .i64 (3 : Nat), .string (strL f.text)] 43))
            have HO := Lib.hid (World.ownsRow.alloc ho.out (.cells #[.int .i64 (3 : Nat), .string (strL f.text)] 43))
            clear hstep hf h6 h3
            go_wp2_with fail
            go_roundw
            case rel => exact ⟨k + 1, m, by omega, by omega, by go_num, ⟨a, c2, rfl⟩, by rw [HST.out]; exact hm, by rw [HST.out]; exact HO, HA⟩
            case measure => simp [intOf]; omega
          · rw [if_neg (fun e => e.elim h6 h3)] at hstep
            have HST := Lib.hid hstep
            have g6 : (((f.kind : Nat) : Int) == 6) = false := by rw [beq_eq_false_iff_ne]; omega
            have g3 : (((f.kind : Nat) : Int) == 3) = false := by rw [beq_eq_false_iff_ne]; omega
            have cC := fun W => clone_any (strL f.text) W (by rw [strL_size]; exact HT.out f (List.mem_of_getElem? hf))
            have cA := copy_kind wr (.int .i64 (f.kind : Nat)) (.string (strL f.text)) 43
            have cB := copy_text wr (.int .i64 (f.kind : Nat)) (.string (strL f.text)) 43
            have HA := Lib.hid (hb.out.alloc hb.out.size (.cells #[.int .i64 (f.kind : Nat), .string (strL f.text)] 43))
            have HO := Lib.hid (World.ownsRow.alloc ho.out (.cells #[.int .i64 (f.kind : Nat), .string (strL f.text)] 43))
            have HE : Hid ((Value.slice a m c2).ownBlock ≠ some wr.heap.size) := fun e => by have := (ho.out.lt _ e).2; omega
            have hm1 : m ≤ 1000000 := by omega
            clear hstep hf h6 h3 hlt
            go_wp2_with fail
            obtain ⟨W1, hW1⟩ : ∃ W1, wr.alloc (.cells #[.int .i64 (f.kind : Nat), .string (strL f.text)] 43) = W1 := ⟨_, rfl⟩
            rw [hW1] at cA cB HA HO ⊢
            replace cA : W1.drew.cell? ⟨wr.heap.size, 0, none⟩ = some (.int .i64 (f.kind : Nat)) := cA
            replace cB : W1.drew.cell? ⟨wr.heap.size, 1, none⟩ = some (.string (strL f.text)) := cB
            replace HA := Lib.hid HA.out.drew
            replace HO : Hid (W1.drew.ownsRow w.heap.size 43 2 (.slice a m c2) (bareL (l.take k)).length (toksV (bareL (l.take k)))) := HO
            clear hW1
            go_region_held3 (fun w' => w'.cell? ⟨wr.heap.size, 0, none⟩ = some (.int .i64 (f.kind : Nat)) ∧ w'.cell? ⟨wr.heap.size, 1, none⟩ = some (.string (strL f.text)))
              (first | exact ⟨cA, cB⟩ | exact ⟨cell_below cA hb2, cell_below cB hb2⟩ | exact ⟨cell_alloc (cell_below cA hb2) _, cell_alloc (cell_below cB hb2) _⟩ | exact ⟨cell_grown (cell_alloc (cell_below cA hb2) _) hg2 HE.out, cell_grown (cell_alloc (cell_below cB hb2) _) hg2 HE.out⟩)
              (first
                | (go_at_call 34; (with_reducible refine (cC _).mono ?_); rintro e w2 ⟨rfl, hb2⟩)
                | (refine step_appF rfl (.tmp 18) (.tmp 25) rfl w.heap.size (bareL (l.take k)) f m (own_below HO.out hb2) hm.out rfl rfl hm1 (Nat.le_trans HA.out.size hb2.size) ?_; intro a2 c3 w3 ho3 hg2))
            have HO3 := Lib.hid ho3
            have HB3 := Lib.hid ((HA.out.trans ((hb2.mono HA.out.size).alloc (by have := HA.out.size; have := hb2.size; omega) _)).grown hg2 (by have := HA.out.size; have := hb2.size; rw [World.size_alloc]; omega) (fun k e => (ho.out.lt k e).1))
            clear ho3 hb2 hg2 cA cB
            go_wp2_with fail
            go_roundw
            case rel => exact ⟨k + 1, m + 1, by omega, by omega, by go_num, ⟨a2, c3, rfl⟩, Lib.hid (by rw [HST.out, List.length_append, hm.out]; rfl), Lib.hid (by rw [HST.out]; exact HO3.out), HB3⟩
            case measure => simp [intOf]; omega
      · obtain rfl : k = n := by omega
        have hT : l.take k = l := List.take_of_length_le (by rw [HN.out]; exact Nat.le_refl _)
        rw [hT] at ho hm
        have hlt' : ¬ (k : Int) < (k : Int) := by omega
        clear hT
        go_wp2_with fail
        go_ret
        have e := hm.out
        subst e
        exact ⟨a, c2, rfl, ⟨_, ho.out⟩, hb.out⟩
end Go.Proofs.YtgponokcigapaaaDoor
namespace Go.Proofs.YtgponokcigapaaaDoor.AdrP
open TokP

/-- A letter in lower case. -/
def lowA (c : UInt8) : UInt8 := if 65 ≤ c.toNat ∧ c.toNat ≤ 90 then c + 32 else c
theorem byte_all {P : UInt8 → Prop} (h : ∀ n : Fin 256, P (UInt8.ofNat n.val)) (c : UInt8) : P c := by
  have := h ⟨c.toNat, c.toNat_lt⟩
  rwa [UInt8.ofNat_toNat] at this
theorem low_facts : ∀ n : Fin 256, atomB (lowA (UInt8.ofNat n.val)) = atomB (UInt8.ofNat n.val) ∧ (lowA (UInt8.ofNat n.val) = 46 ↔ UInt8.ofNat n.val = 46) ∧ lowA (lowA (UInt8.ofNat n.val)) = lowA (UInt8.ofNat n.val) ∧
    (32 < (UInt8.ofNat n.val).toNat → 32 < (lowA (UInt8.ofNat n.val)).toNat) ∧ (UInt8.ofNat n.val ≠ 127 → lowA (UInt8.ofNat n.val) ≠ 127) ∧ (UInt8.ofNat n.val ≠ 91 → lowA (UInt8.ofNat n.val) ≠ 91) ∧ (UInt8.ofNat n.val ≠ 93 → lowA (UInt8.ofNat n.val) ≠ 93) ∧ (UInt8.ofNat n.val ≠ 92 → lowA (UInt8.ofNat n.val) ≠ 92) := by decide +kernel
theorem low_all (c : UInt8) : atomB (lowA c) = atomB c ∧ (lowA c = 46 ↔ c = 46) ∧ lowA (lowA c) = lowA c ∧ (32 < c.toNat → 32 < (lowA c).toNat) ∧ (c ≠ 127 → lowA c ≠ 127) ∧ (c ≠ 91 → lowA c ≠ 91) ∧ (c ≠ 93 → lowA c ≠ 93) ∧ (c ≠ 92 → lowA c ≠ 92) :=
  byte_all (P := fun c => atomB (lowA c) = atomB c ∧ (lowA c = 46 ↔ c = 46) ∧ lowA (lowA c) = lowA c ∧ (32 < c.toNat → 32 < (lowA c).toNat) ∧ (c ≠ 127 → lowA c ≠ 127) ∧ (c ≠ 91 → lowA c ≠ 91) ∧ (c ≠ 93 → lowA c ≠ 93) ∧ (c ≠ 92 → lowA c ≠ 92)) low_facts c
theorem low_twice (s : List UInt8) : (s.map lowA).map lowA = s.map lowA := by
  rw [List.map_map]
  exact List.map_congr_left fun c _ => (low_all c).2.2.1
theorem dot_low : ∀ (s : List UInt8) (b : Bool), dotA b (s.map lowA) = dotA b s
  | [], _ => rfl
  | c :: t, b => by
    obtain ⟨h1, h2, _⟩ := low_all c
    rw [List.map_cons, dotA, dotA, h1, dot_low t true, dot_low t false]
    simp only [h2]
theorem lit_low (s : List UInt8) (h : litOk s) : litOk (s.map lowA) := by
  obtain ⟨b, rfl, hb⟩ := h
  refine ⟨b.map lowA, ?_, ?_⟩
  · rw [List.map_cons, List.map_append]; rfl
  · intro c hc
    obtain ⟨d, hd, rfl⟩ := List.mem_map.1 hc
    obtain ⟨a1, a2, a3, a4, a5⟩ := hb d hd
    obtain ⟨_, _, _, l1, l2, l3, l4, l5⟩ := low_all d
    exact ⟨l1 a1, l2 a2, l3 a3, l4 a4, l5 a5⟩
theorem dom_low (s : List UInt8) (h : domOk s) : domOk (s.map lowA) := by
  rcases h with h | h
  · exact .inl (by rw [dot_low]; exact h)
  · exact .inr (lit_low s h)
/-- The canonical form. -/
def canonL (a : Adr) : List UInt8 := a.loc ++ 64 :: a.dom.map lowA
theorem canon_len (a : Adr) : (canonL a).length = a.loc.length + 1 + a.dom.length ∧ (canonL a).take a.loc.length = a.loc ∧ (canonL a).drop (a.loc.length + 1) = a.dom.map lowA := by
  unfold canonL
  refine ⟨by rw [List.length_append, List.length_cons, List.length_map]; omega, List.take_left' rfl, ?_⟩
  rw [← List.drop_drop, List.drop_left' rfl]; rfl
/-- AddrCanon: letters of the domain in upper case, as far as f asks for it. -/
def upA (c : UInt8) : UInt8 := if 97 ≤ c.toNat ∧ c.toNat ≤ 122 then c - 32 else c
theorem up_facts : ∀ n : Fin 256, lowA (upA (UInt8.ofNat n.val)) = lowA (UInt8.ofNat n.val) := by decide +kernel
theorem low_up (c : UInt8) : lowA (upA c) = lowA c := byte_all (P := fun c => lowA (upA c) = lowA c) up_facts c
/-! ### Valid addresses -/
def litB (s : List UInt8) : Bool := decide (2 ≤ s.length) && s.head? == some 91 && s.getLast? == some 93 && ((s.drop 1).dropLast).all (fun c => decide (32 < c.toNat) && c != 127 && c != 91 && c != 93 && c != 92)
theorem lit_iff (s : List UInt8) : litB s = true ↔ litOk s := by
  unfold litB
  simp only [Bool.and_eq_true, decide_eq_true_eq, beq_iff_eq, List.all_eq_true, bne_iff_ne]
  constructor
  · rintro ⟨⟨⟨h1, h2⟩, h3⟩, h4⟩
    cases s with
    | nil => simp at h1
    | cons c t =>
      obtain rfl : c = 91 := by simpa using h2
      have ht : t ≠ [] := by rintro rfl; simp at h1
      rw [List.drop_succ_cons, List.drop_zero] at h4
      have hl : t.getLast? = some 93 := by
        obtain ⟨x, y, rfl⟩ := List.exists_cons_of_ne_nil ht
        rw [List.getLast?_cons_cons] at h3
        exact h3
      have e : t.dropLast ++ [93] = t := by
        have := List.dropLast_concat_getLast ht
        rw [List.getLast?_eq_some_getLast ht] at hl
        rw [Option.some.inj hl] at this
        exact this
      exact ⟨t.dropLast, by rw [e], fun c hc => by obtain ⟨⟨⟨⟨a1, a2⟩, a3⟩, a4⟩, a5⟩ := h4 c hc; exact ⟨a1, a2, a3, a4, a5⟩⟩
  · rintro ⟨b, rfl, hb⟩
    refine ⟨⟨⟨by simp, rfl⟩, ?_⟩, ?_⟩
    · rw [← List.cons_append]; exact List.getLast?_concat ..
    · intro c hc
      rw [List.drop_succ_cons, List.drop_zero, List.dropLast_concat] at hc
      obtain ⟨a1, a2, a3, a4, a5⟩ := hb c hc
      exact ⟨⟨⟨⟨a1, a2⟩, a3⟩, a4⟩, a5⟩
def domB (s : List UInt8) : Bool := dotA false s || litB s
theorem dom_iff (s : List UInt8) : domB s = true ↔ domOk s := by
  unfold domB domOk
  rw [Bool.or_eq_true, lit_iff]
/-- No byte below 32, none of 127. -/
def shown (s : List UInt8) : Bool := s.all (fun c => decide (32 ≤ c.toNat) && c != 127)
def rightB (a : Adr) : Bool := decide (0 < a.loc.length) && decide (a.loc.length ≤ 64) && shown a.loc && (decide (a.dom.length ≤ 255) && domB a.dom) && (decide (a.name.length ≤ 200) && shown a.name)
theorem right_dom {a : Adr} (h : rightB a = true) : domOk a.dom := by
  unfold rightB at h
  simp only [Bool.and_eq_true] at h
  exact (dom_iff _).1 h.1.2.2
theorem right_loc {a : Adr} (h : rightB a = true) : shown a.loc = true := by
  unfold rightB at h
  simp only [Bool.and_eq_true] at h
  exact h.1.1.2
/-- As the program writes a local part: a backslash before double quotes and backslashes alone. -/
def escQ : List UInt8 → List UInt8
  | [] => []
  | c :: t => if c = 34 ∨ c = 92 then 92 :: c :: escQ t else c :: escQ t
theorem esc_same : ∀ s : List UInt8, shown s = true → escQ s = escL s
  | [], _ => rfl
  | c :: t, h => by
    unfold shown at h
    rw [List.all_cons, Bool.and_eq_true, Bool.and_eq_true, decide_eq_true_eq] at h
    have ih := esc_same t h.2
    have h10 : c ≠ 10 := by rintro rfl; exact absurd h.1.1 (by decide)
    have h13 : c ≠ 13 := by rintro rfl; exact absurd h.1.1 (by decide)
    rw [escQ, escL, ih]
    unfold held
    simp only [Bool.or_eq_true, beq_iff_eq, h10, h13, or_false]
def specQ (a : Adr) : List UInt8 := (if dotA false a.loc = true then a.loc else 34 :: (escQ a.loc ++ [34])) ++ 64 :: a.dom
theorem spec_same (a : Adr) (h : shown a.loc = true) : specQ a = specW a := by
  unfold specQ specW locW
  rw [esc_same _ h]
/-! ### Dot-atoms, byte by byte -/
def dotAt (w : List UInt8) (i : Nat) : Prop := ∃ c, w[i]? = some c ∧ (atomB c = true ∨ (c = 46 ∧ 0 < i ∧ i + 1 < w.length ∧ ∃ p, w[i - 1]? = some p ∧ p ≠ 46))
theorem dot46 : atomB 46 = false := by decide
theorem dot_good : ∀ (s pre : List UInt8) (b : Bool), (b = true → ∃ p, pre.getLast? = some p ∧ p ≠ 46) → (b = false → ∀ p, pre.getLast? = some p → p = 46) →
    (dotA b s = true ↔ (s = [] → b = true) ∧ ∀ i, pre.length ≤ i → i < (pre ++ s).length → dotAt (pre ++ s) i) := by
  intro s
  induction s with
  | nil =>
    intro pre b h1 h2
    rw [List.append_nil]
    have e : dotA b [] = b := by cases b <;> rfl
    rw [e]
    exact ⟨fun h => ⟨fun _ => h, fun i hi hj => by omega⟩, fun h => h.1 rfl⟩
  | cons c t ih =>
    intro pre b h1 h2
    have hsplit : pre ++ c :: t = (pre ++ [c]) ++ t := by simp
    have hat : (pre ++ c :: t)[pre.length]? = some c := by simp
    have hlast : (pre ++ [c]).getLast? = some c := by simp
    have key : (∀ i, pre.length ≤ i → i < (pre ++ c :: t).length → dotAt (pre ++ c :: t) i) ↔ dotAt (pre ++ c :: t) pre.length ∧ ∀ i, (pre ++ [c]).length ≤ i → i < ((pre ++ [c]) ++ t).length → dotAt ((pre ++ [c]) ++ t) i := by
      rw [← hsplit, @List.length_append _ pre [c]]
      constructor
      · intro h
        exact ⟨h _ (Nat.le_refl _) (by simp), fun i hi hj => h i (by omega) hj⟩
      · rintro ⟨h3, h4⟩ i hi hj
        by_cases he : i = pre.length
        · rw [he]; exact h3
        · exact h4 i (by simp; omega) hj
    rw [key]
    by_cases hc : atomB c = true
    · have hne : c ≠ 46 := by rintro rfl; rw [dot46] at hc; exact Bool.noConfusion hc
      have hih := ih (pre ++ [c]) true (fun _ => ⟨c, hlast, hne⟩) (fun h => Bool.noConfusion h)
      rw [dotA, if_pos hc, hih]
      exact ⟨fun h => ⟨fun e => (List.cons_ne_nil _ _ e).elim, ⟨c, hat, .inl hc⟩, h.2⟩, fun h => ⟨fun _ => rfl, h.2.2⟩⟩
    · rw [dotA, if_neg hc]
      by_cases h46 : c = 46
      · subst h46
        have hih := ih (pre ++ [46]) false (fun h => Bool.noConfusion h) (fun _ p hp => by rw [hlast] at hp; exact (Option.some.inj hp).symm)
        cases b with
        | true =>
          rw [if_pos ⟨rfl, rfl⟩]
          obtain ⟨p, hp, hp2⟩ := h1 rfl
          constructor
          · intro h
            refine ⟨fun _ => rfl, ?_, (hih.1 h).2⟩
            obtain ⟨y, u, rfl, hy, _⟩ := dot_head t h
            have hpos : 0 < pre.length := by cases pre with | nil => simp at hp | cons _ _ => simp
            refine ⟨46, hat, .inr ⟨rfl, hpos, by simp, p, ?_, hp2⟩⟩
            rw [List.getElem?_append_left (by omega), ← List.getLast?_eq_getElem?]; exact hp
          · rintro ⟨_, ⟨c', hc', h3⟩, h4⟩
            rw [hat] at hc'
            obtain rfl := Option.some.inj hc'
            refine hih.2 ⟨fun e => ?_, h4⟩
            rcases h3 with h3 | ⟨_, _, h5, _⟩
            · exact absurd h3 hc
            · subst e; simp at h5
        | false =>
          rw [if_neg (by simp)]
          refine ⟨fun h => absurd h Bool.false_ne_true, ?_⟩
          rintro ⟨_, ⟨c', hc', h3⟩, _⟩
          rw [hat] at hc'
          obtain rfl := Option.some.inj hc'
          rcases h3 with h3 | ⟨_, h5, _, p, hp, hp2⟩
          · exact absurd h3 hc
          · rw [List.getElem?_append_left (by omega), ← List.getLast?_eq_getElem?] at hp
            exact absurd (h2 rfl p hp) hp2
      · rw [if_neg (fun e => h46 e.1)]
        refine ⟨fun h => absurd h Bool.false_ne_true, ?_⟩
        rintro ⟨_, ⟨c', hc', h3⟩, _⟩
        rw [hat] at hc'
        obtain rfl := Option.some.inj hc'
        rcases h3 with h3 | ⟨h5, _⟩
        · exact absurd h3 hc
        · exact absurd h5 h46
theorem dot_all (s : List UInt8) : dotA false s = true ↔ s ≠ [] ∧ ∀ i, i < s.length → dotAt s i := by
  have := dot_good s [] false (fun h => Bool.noConfusion h) (fun _ p hp => by simp at hp)
  rw [this, List.nil_append]
  exact ⟨fun h => ⟨fun e => Bool.noConfusion (h.1 e), fun i hi => h.2 i (Nat.zero_le _) hi⟩, fun h => ⟨fun e => absurd e h.1, fun i _ hi => h.2 i hi⟩⟩
end Go.Proofs.YtgponokcigapaaaDoor.AdrP
namespace Go.Proofs.YtgponokcigapaaaDoor
open Go.ChangeShapes Go.WideShapes Go.ChangeAt Go.RowKit
open TokP AdrP

theorem below_box (w : World) (o : Obj) : Below w.heap.size w (w.alloc o) := (Below.refl _ w).alloc (Nat.le_refl _) o
theorem ris_any (K : Int) (T : ByteArray) (c : UInt8) (b : Bool) (hb : decide (K = 4 ∧ T.data.toList = [c]) = b) (w : World) :
    Calls Tryd.prog 51 #[.agg #[.int .i64 K, .string T], .string ⟨#[c]⟩] w fun e w' => e = .returned (.bool b) ∧ Below w.heap.size w w' := by
  have HB := Lib.hid (below_box w (.cells #[.int .i64 K, .string T] 43))
  have heq := eq_strL T.data.toList [c]
  rw [strL_of] at heq
  have heq' : (T.toList == [c]) = decide (T.data.toList = [c]) := by
    rw [← heq, ByteArray.toList_eq (strL [c]), strL_list]
  clear heq
  by_cases hk : K = 4
  · subst hk
    have hb' : decide (T.data.toList = [c]) = b := by
      rw [← hb]
      simp
    rw [hb'] at heq'
    clear hb hb'
    go_enter Tryd.func51, Tryd.ntmps51
    go_wp2_with fail
    go_ret
    exact ⟨by simp, HB.out⟩
  · have hg : (K == 4) = false := beq_eq_false_iff_ne.2 hk
    obtain rfl : false = b := by
      rw [← hb]
      simp [hk]
    clear hb heq' hk
    go_enter Tryd.func51, Tryd.ntmps51
    go_wp2_with fail
    go_ret
    exact ⟨rfl, HB.out⟩
theorem is_tok (t : Tok) (c : UInt8) : decide (((t.kind : Nat) : Int) = 4 ∧ (strL t.text).data.toList = [c]) = isS t c := by
  rw [strL_list, Bool.eq_iff_iff, decide_eq_true_iff, isS_iff]
  constructor
  · rintro ⟨h1, h2⟩
    cases t
    simp only at h1 h2 ⊢
    rw [h2]
    congr 1
    omega
  · rintro rfl; exact ⟨rfl, rfl⟩
set_option maxHeartbeats 2000000 in
theorem atom11_any (c : UInt8) (x : Nat) (hx : c.toNat = x) (w : World) :
    Calls Tryd.prog 60 #[.int .u8 x] w fun e w' => e = .returned (.bool (atomB c)) ∧ w = w' := by
  by_cases h40 : c = 40
  · have hx2 : x = 40 := by rw [← hx, h40]; rfl
    rw [show atomB c = false by rw [h40]; decide]
    subst hx2
    clear hx
    go_enter Tryd.func60, Tryd.ntmps60
    go_wp2_with fail
    go_ret
    exact ⟨rfl, rfl⟩
  by_cases h41 : c = 41
  · have hx2 : x = 41 := by rw [← hx, h41]; rfl
    rw [show atomB c = false by rw [h41]; decide]
    subst hx2
    clear hx
    go_enter Tryd.func60, Tryd.ntmps60
    go_wp2_with fail
    go_ret
    exact ⟨rfl, rfl⟩
  by_cases h60 : c = 60
  · have hx2 : x = 60 := by rw [← hx, h60]; rfl
    rw [show atomB c = false by rw [h60]; decide]
    subst hx2
    clear hx
    go_enter Tryd.func60, Tryd.ntmps60
    go_wp2_with fail
    go_ret
    exact ⟨rfl, rfl⟩
  by_cases h62 : c = 62
  · have hx2 : x = 62 := by rw [← hx, h62]; rfl
    rw [show atomB c = false by rw [h62]; decide]
    subst hx2
    clear hx
    go_enter Tryd.func60, Tryd.ntmps60
    go_wp2_with fail
    go_ret
    exact ⟨rfl, rfl⟩
  by_cases h91 : c = 91
  · have hx2 : x = 91 := by rw [← hx, h91]; rfl
    rw [show atomB c = false by rw [h91]; decide]
    subst hx2
    clear hx
    go_enter Tryd.func60, Tryd.ntmps60
    go_wp2_with fail
    go_ret
    exact ⟨rfl, rfl⟩
  by_cases h93 : c = 93
  · have hx2 : x = 93 := by rw [← hx, h93]; rfl
    rw [show atomB c = false by rw [h93]; decide]
    subst hx2
    clear hx
    go_enter Tryd.func60, Tryd.ntmps60
    go_wp2_with fail
    go_ret
    exact ⟨rfl, rfl⟩
  by_cases h58 : c = 58
  · have hx2 : x = 58 := by rw [← hx, h58]; rfl
    rw [show atomB c = false by rw [h58]; decide]
    subst hx2
    clear hx
    go_enter Tryd.func60, Tryd.ntmps60
    go_wp2_with fail
    go_ret
    exact ⟨rfl, rfl⟩
  by_cases h59 : c = 59
  · have hx2 : x = 59 := by rw [← hx, h59]; rfl
    rw [show atomB c = false by rw [h59]; decide]
    subst hx2
    clear hx
    go_enter Tryd.func60, Tryd.ntmps60
    go_wp2_with fail
    go_ret
    exact ⟨rfl, rfl⟩
  by_cases h64 : c = 64
  · have hx2 : x = 64 := by rw [← hx, h64]; rfl
    rw [show atomB c = false by rw [h64]; decide]
    subst hx2
    clear hx
    go_enter Tryd.func60, Tryd.ntmps60
    go_wp2_with fail
    go_ret
    exact ⟨rfl, rfl⟩
  by_cases h92 : c = 92
  · have hx2 : x = 92 := by rw [← hx, h92]; rfl
    rw [show atomB c = false by rw [h92]; decide]
    subst hx2
    clear hx
    go_enter Tryd.func60, Tryd.ntmps60
    go_wp2_with fail
    go_ret
    exact ⟨rfl, rfl⟩
  by_cases h44 : c = 44
  · have hx2 : x = 44 := by rw [← hx, h44]; rfl
    rw [show atomB c = false by rw [h44]; decide]
    subst hx2
    clear hx
    go_enter Tryd.func60, Tryd.ntmps60
    go_wp2_with fail
    go_ret
    exact ⟨rfl, rfl⟩
  by_cases h46 : c = 46
  · have hx2 : x = 46 := by rw [← hx, h46]; rfl
    rw [show atomB c = false by rw [h46]; decide]
    subst hx2
    clear hx
    go_enter Tryd.func60, Tryd.ntmps60
    go_wp2_with fail
    go_ret
    exact ⟨rfl, rfl⟩
  by_cases h34 : c = 34
  · have hx2 : x = 34 := by rw [← hx, h34]; rfl
    rw [show atomB c = false by rw [h34]; decide]
    subst hx2
    clear hx
    go_enter Tryd.func60, Tryd.ntmps60
    go_wp2_with fail
    go_ret
    exact ⟨rfl, rfl⟩
  have hsp : special c = false := by
    unfold special
    rw [← Bool.not_eq_true, List.contains_iff_mem]
    simp only [List.mem_cons, List.not_mem_nil, or_false, not_or]
    exact ⟨h40, h41, h60, h62, h91, h93, h58, h59, h64, h92, h44, h46, h34⟩
  unfold atomB
  rw [hsp, hx]
  have e40 := byte_is c x hx 40 (by decide)
  rw [show ((40 : Nat) : Int) = 40 from rfl, show decide (c = UInt8.ofNat 40) = false from decide_eq_false h40] at e40
  have e41 := byte_is c x hx 41 (by decide)
  rw [show ((41 : Nat) : Int) = 41 from rfl, show decide (c = UInt8.ofNat 41) = false from decide_eq_false h41] at e41
  have e60 := byte_is c x hx 60 (by decide)
  rw [show ((60 : Nat) : Int) = 60 from rfl, show decide (c = UInt8.ofNat 60) = false from decide_eq_false h60] at e60
  have e62 := byte_is c x hx 62 (by decide)
  rw [show ((62 : Nat) : Int) = 62 from rfl, show decide (c = UInt8.ofNat 62) = false from decide_eq_false h62] at e62
  have e91 := byte_is c x hx 91 (by decide)
  rw [show ((91 : Nat) : Int) = 91 from rfl, show decide (c = UInt8.ofNat 91) = false from decide_eq_false h91] at e91
  have e93 := byte_is c x hx 93 (by decide)
  rw [show ((93 : Nat) : Int) = 93 from rfl, show decide (c = UInt8.ofNat 93) = false from decide_eq_false h93] at e93
  have e58 := byte_is c x hx 58 (by decide)
  rw [show ((58 : Nat) : Int) = 58 from rfl, show decide (c = UInt8.ofNat 58) = false from decide_eq_false h58] at e58
  have e59 := byte_is c x hx 59 (by decide)
  rw [show ((59 : Nat) : Int) = 59 from rfl, show decide (c = UInt8.ofNat 59) = false from decide_eq_false h59] at e59
  have e64 := byte_is c x hx 64 (by decide)
  rw [show ((64 : Nat) : Int) = 64 from rfl, show decide (c = UInt8.ofNat 64) = false from decide_eq_false h64] at e64
  have e92 := byte_is c x hx 92 (by decide)
  rw [show ((92 : Nat) : Int) = 92 from rfl, show decide (c = UInt8.ofNat 92) = false from decide_eq_false h92] at e92
  have e44 := byte_is c x hx 44 (by decide)
  rw [show ((44 : Nat) : Int) = 44 from rfl, show decide (c = UInt8.ofNat 44) = false from decide_eq_false h44] at e44
  have e46 := byte_is c x hx 46 (by decide)
  rw [show ((46 : Nat) : Int) = 46 from rfl, show decide (c = UInt8.ofNat 46) = false from decide_eq_false h46] at e46
  have e34 := byte_is c x hx 34 (by decide)
  rw [show ((34 : Nat) : Int) = 34 from rfl, show decide (c = UInt8.ofNat 34) = false from decide_eq_false h34] at e34
  have e1 := ne127 c x hx
  by_cases h1 : 32 < x
  · have h1' : (32 : Int) < x := by omega
    by_cases h2 : c = 127
    · have hx2 : x = 127 := by rw [← hx, h2]; rfl
      rw [decide_eq_true h1, show (c != 127) = false by rw [h2]; rfl]
      clear hx h2 e1 hsp h40 h41 h60 h62 h91 h93 h58 h59 h64 h92 h44 h46 h34 e40 e41 e60 e62 e91 e93 e58 e59 e64 e92 e44 e46 e34
      subst hx2
      go_enter Tryd.func60, Tryd.ntmps60
      go_wp2_with fail
      go_ret
      exact ⟨rfl, rfl⟩
    · have hx2 : ¬ (x : Int) = 127 := by
        rw [decide_eq_false h2] at e1
        exact beq_eq_false_iff_ne.1 e1
      rw [decide_eq_true h1, show (c != 127) = true by simpa using h2]
      clear hx h2 e1 hsp h40 h41 h60 h62 h91 h93 h58 h59 h64 h92 h44 h46 h34
      go_enter Tryd.func60, Tryd.ntmps60
      go_wp2_with fail
      go_ret
      exact ⟨by simp; try exact hx2, rfl⟩
  · have h1' : ¬ (32 : Int) < x := by omega
    rw [decide_eq_false h1]
    clear hx e1 hsp h40 h41 h60 h62 h91 h93 h58 h59 h64 h92 h44 h46 h34
    go_enter Tryd.func60, Tryd.ntmps60
    go_wp2_with fail
    go_ret
    exact ⟨rfl, rfl⟩
end Go.Proofs.YtgponokcigapaaaDoor
namespace Go.Proofs.YtgponokcigapaaaDoor
open Go.ChangeShapes Go.WideShapes Go.ChangeAt Go.RowKit
open TokP AdrP

def adrV (t : Adr) : List Value := [.string (strL t.name), .string (strL t.loc), .string (strL t.dom)]
def adrsV (l : List Adr) : List Value := l.flatMap adrV
theorem adrsV_len (l : List Adr) : (adrsV l).length = l.length * 3 := by
  unfold adrsV
  induction l with
  | nil => rfl
  | cons m l ih => rw [List.flatMap_cons, List.length_append, ih, List.length_cons]; simp [adrV]; omega
theorem adrsV_app (a b : List Adr) : adrsV a ++ adrsV b = adrsV (a ++ b) := by unfold adrsV; rw [List.flatMap_append]
theorem adrsV_one (f : Adr) : adrsV [f] = adrV f := by unfold adrsV; simp
theorem adrsV_at : ∀ (l : List Adr) (i : Nat) (f : Adr), l[i]? = some f → ∀ j, j < 3 → (adrsV l)[i * 3 + j]? = (adrV f)[j]?
  | [], i, m, h => by simp at h
  | x :: l, 0, m, h => by
    simp at h
    subst h
    intro j hj
    rw [show adrsV (x :: l) = adrV x ++ adrsV l by unfold adrsV; rw [List.flatMap_cons], Nat.zero_mul, Nat.zero_add, List.getElem?_append_left (by simp [adrV]; exact hj)]
  | x :: l, i + 1, m, h => by
    intro j hj
    have ih := adrsV_at l i m (by simpa using h) j hj
    rw [show adrsV (x :: l) = adrV x ++ adrsV l by unfold adrsV; rw [List.flatMap_cons], List.getElem?_append_right (by simp [adrV]; omega)]
    have e1 : (i + 1) * 3 + j - (adrV x).length = i * 3 + j := by simp [adrV]; omega
    rw [e1]
    exact ih
theorem adrV_one (f : Adr) : ∀ u ∈ adrV f, u.oneCell' = true := by
  intro u hu
  simp [adrV] at hu
  rcases hu with rfl | rfl | rfl <;> rfl
theorem adrsV_ones (l : List Adr) : ∀ u ∈ adrsV l, u.oneCell' = true := by
  intro u hu
  obtain ⟨f, _, hf⟩ := List.mem_flatMap.1 hu
  exact adrV_one f u hf
/-- The addresses l lie at g, from cell o on. -/
def AAt (w : World) (g o : Nat) (l : List Adr) : Prop := ∀ i f, l[i]? = some f → w.cell? ⟨g, o + i * 3, none⟩ = some (.string (strL f.name)) ∧ w.cell? ⟨g, o + i * 3 + 1, none⟩ = some (.string (strL f.loc)) ∧ w.cell? ⟨g, o + i * 3 + 2, none⟩ = some (.string (strL f.dom))
def OwnA (w : World) (v : Value) (l : List Adr) : Prop := ∃ base, w.ownsRow base 34 3 v l.length (adrsV l)
/-- The slice v reads as l. -/
def HasA (w : World) (v : Value) (l : List Adr) : Prop := ((∃ a c, v = .slice a 0 c) ∧ l = []) ∨ ∃ g o c, v = .slice (some ⟨g, o, none⟩) l.length c ∧ AAt w g o l
theorem OwnA.step {w w' : World} {v : Value} {xs : List Adr} (h : OwnA w v xs) (hb : Below w.heap.size w w') : OwnA w' v xs := by
  obtain ⟨b, ho⟩ := h; exact ⟨b, own_below ho hb⟩
theorem OwnA.shape {w : World} {v : Value} {xs : List Adr} (h : OwnA w v xs) : ∃ a c, v = .slice a xs.length c := by
  obtain ⟨b, ho⟩ := h
  rcases ho.2 with ⟨rfl, h0⟩ | ⟨g, cap, cur, rfl, _⟩
  · exact ⟨none, 0, by rw [h0]⟩
  · exact ⟨_, _, rfl⟩
theorem OwnA.at {w : World} {a : Option Addr} {n c : Nat} {xs : List Adr} (h : OwnA w (.slice a n c) xs) (hn : 0 < n) : ∃ g, a = some ⟨g, 0, none⟩ ∧ AAt w g 0 xs := by
  obtain ⟨b, ho⟩ := h
  rcases ho.2 with ⟨e, h0⟩ | ⟨g, cap, cur, e, _⟩
  · injection e with _ e2 _; omega
  · have e' := e
    injection e with e1 _ _
    subst e1
    refine ⟨g, rfl, fun i f hf => ?_⟩
    have key : ∀ j u, j < 3 → (adrV f)[j]? = some u → w.cell? ⟨g, 0 + i * 3 + j, none⟩ = some u := fun j u hj hu => by
      have := ho.cells (g := g) rfl (i * 3 + j) u (by rw [adrsV_at xs i f hf j hj]; exact hu)
      rwa [add_none, ← Nat.add_assoc] at this
    exact ⟨key 0 _ (by decide) rfl, key 1 _ (by decide) rfl, key 2 _ (by decide) rfl⟩
theorem OwnA.has {w : World} {v : Value} {xs : List Adr} (h : OwnA w v xs) : HasA w v xs := by
  obtain ⟨a, c, rfl⟩ := h.shape
  by_cases hn : 0 < xs.length
  · obtain ⟨g, rfl, hf⟩ := h.at hn
    exact .inr ⟨g, 0, c, rfl, hf⟩
  · obtain rfl : xs = [] := List.eq_nil_of_length_eq_zero (by omega)
    obtain ⟨b, ho⟩ := h
    rcases ho.2 with ⟨e, _⟩ | ⟨g, cap, cur, e, _⟩
    · exact .inl ⟨⟨_, _, e⟩, rfl⟩
    · exact .inr ⟨g, 0, _, e, fun i f hf => by simp at hf⟩
theorem AAt.lt {w : World} {g o : Nat} {l : List Adr} (h : AAt w g o l) (hl : l ≠ []) : g < w.heap.size := by
  cases l with
  | nil => exact absurd rfl hl
  | cons f r => exact World.block_lt_of_cell? w _ (h 0 f rfl).1
theorem AAt.keep {w w' : World} {g o : Nat} {l : List Adr} (h : AAt w g o l) (hk : w'.heap[g]? = w.heap[g]?) : AAt w' g o l := by
  intro i f hf
  obtain ⟨h1, h2, h3⟩ := h i f hf
  exact ⟨by rw [World.cell?_of_block (by exact hk)]; exact h1, by rw [World.cell?_of_block (by exact hk)]; exact h2, by rw [World.cell?_of_block (by exact hk)]; exact h3⟩
theorem AAt.step {w w' : World} {g o : Nat} {l : List Adr} (h : AAt w g o l) (hb : Below w.heap.size w w') : AAt w' g o l := by
  by_cases hl : l = []
  · subst hl; intro i f hf; simp at hf
  · exact h.keep (hb.block g (h.lt hl))
theorem HasA.step {w w' : World} {v : Value} {l : List Adr} (h : HasA w v l) (hb : Below w.heap.size w w') : HasA w' v l := by
  rcases h with h | ⟨g, o, c, rfl, h⟩
  · exact .inl h
  · exact .inr ⟨g, o, c, rfl, h.step hb⟩
theorem HasA.form {w : World} {v : Value} {l : List Adr} (h : HasA w v l) : ∃ a c, v = .slice a l.length c := by
  rcases h with ⟨⟨a, c, rfl⟩, rfl⟩ | ⟨g, o, c, rfl, _⟩
  · exact ⟨a, c, rfl⟩
  · exact ⟨_, _, rfl⟩
theorem HasA.at {w : World} {a : Option Addr} {n c : Nat} {l : List Adr} (h : HasA w (.slice a n c) l) (hn : 0 < n) : ∃ g o, a = some ⟨g, o, none⟩ ∧ AAt w g o l := by
  rcases h with ⟨⟨a', c', e⟩, _⟩ | ⟨g, o, c', e, h⟩
  · injection e with _ e _; omega
  · injection e with e _ _; exact ⟨g, o, e, h⟩
theorem news_adr (w : World) (f : Adr) : ∀ j u, (adrV f)[j]? = some u → (w.alloc (.cells (adrV f).toArray 34)).cell? ((⟨w.heap.size, 0, none⟩ : Addr).add j) = some u := by
  intro j u h
  have := World.cell?_alloc_mark w (adrV f).toArray 34 (0, 0) j
  rw [add_none, Nat.zero_add, this, List.getElem?_toArray]; exact h
theorem info34 : (Tryd.prog.info? 34).map (fun i => (i.zero, i.size, i.bytes)) = some (some (.agg #[.string ⟨#[]⟩, .string ⟨#[]⟩, .string ⟨#[]⟩]), 3, 48) := by kernel_rfl
/-- An address is appended. -/
theorem run_appA {w : World} (base : Nat) {v : Value} {xs : List Adr} (f : Adr) (hown : w.ownsRow base 34 3 v xs.length (adrsV xs)) (hb : base ≤ w.heap.size) (hl : xs.length ≤ 1000000) :
    ∃ a c w', (Builtin.append_ #[23, 23] 23 #[v, .slice (some ⟨w.heap.size, 0, none⟩) 1 1]).run Tryd.prog (w.alloc (.cells #[.string (strL f.name), .string (strL f.loc), .string (strL f.dom)] 34)) = .ok (.slice a (xs.length + 1) c) w' ∧
      w'.ownsRow base 34 3 (.slice a (xs.length + 1) c) (xs ++ [f]).length (adrsV (xs ++ [f])) ∧ (w.alloc (.cells #[.string (strL f.name), .string (strL f.loc), .string (strL f.dom)] 34)).grownBy w' v.ownBlock := by
  obtain ⟨i0, hi, hz0, hz1, hz2⟩ := info_parts info34
  obtain ⟨v', w', hr, h1, h2, _⟩ := run_append_own (P := Tryd.prog) (w.alloc (.cells (adrV f).toArray 34)) base 23 23 34 i0 _ 3 48 Tryd.underlying23 hi hz0 hz1 hz2 rfl (by decide) v xs.length _ (World.ownsRow.alloc hown _) ⟨w.heap.size, 0, none⟩ 1 1 (adrV f) rfl (news_adr w f) (adrV_one f) (by unfold maxLen; omega) (by omega) (by rw [World.size_alloc]; omega)
  rw [← adrsV_one, adrsV_app, ← List.length_singleton (a := f), ← List.length_append] at h1
  obtain ⟨a, c, rfl⟩ : ∃ a c, v' = .slice a (xs.length + 1) c := by
    rcases h1.2 with ⟨rfl, h0⟩ | ⟨g, cap, cur, rfl, _⟩
    · simp at h0
    · exact ⟨_, _, by rw [List.length_append]; rfl⟩
  exact ⟨a, c, w', hr, h1, h2⟩
theorem wpList_appA {ops : Array Oper} {rest : List Oper} {o : Oper} {a : Act} {w : World} {Q : Exit → Act → World → Prop} (hw : Region.wanted o (yielded ops a.tmps) = true) (s x : Operand)
    (ho : o.op = .call { callee := .builtin .append, args := #[s, x], argTypes := #[23, 23] }) (hty : o.type = 23) (base : Nat) {v : Value} {xs : List Adr} {n : Nat} (f : Adr) (hs : a.eval s = v) (hx : a.eval x = .slice (some ⟨w.heap.size, 0, none⟩) 1 1)
    (hown : w.ownsRow base 34 3 v xs.length (adrsV xs)) (hn : xs.length = n) (hb : base ≤ w.heap.size) (hl : n ≤ 1000000)
    (h : ∀ a' c' w', w'.ownsRow base 34 3 (.slice a' (n + 1) c') (xs ++ [f]).length (adrsV (xs ++ [f])) → (w.alloc (.cells #[.string (strL f.name), .string (strL f.loc), .string (strL f.dom)] 34)).grownBy w' v.ownBlock → wpList Tryd.prog ops Q rest (a.put o.dst (.slice a' (n + 1) c')) w') :
    wpList Tryd.prog ops Q (o :: rest) a (w.alloc (.cells #[.string (strL f.name), .string (strL f.loc), .string (strL f.dom)] 34)) := by
  subst hn
  obtain ⟨a', c', w', hr, h1, h2⟩ := run_appA base f hown hb hl
  unfold wpList
  rw [if_pos hw]
  left
  unfold Oper.wp
  simp [execOp, ho, hty, resolve, invoke, builtin, hs, hx, hr, Result.andThen]
  exact h a' c' w' h1 h2
/-- Addresses are compared part by part. -/
theorem adr_iff (f g : Adr) : (decide (f = g)) = ((strL f.name).toList == (strL g.name).toList && ((strL f.loc).toList == (strL g.loc).toList && (strL f.dom).toList == (strL g.dom).toList)) := by
  rw [eq_strL, eq_strL, eq_strL, Bool.eq_iff_iff]
  simp only [Bool.and_eq_true, decide_eq_true_iff]
  constructor
  · intro h; rw [h]; exact ⟨rfl, rfl, rfl⟩
  · intro h; cases f; cases g; simp_all
theorem run_equal_adr (f g : Adr) (W : World) : (Op.equalIn 10000 34 (.agg #[.string (strL f.name), .string (strL f.loc), .string (strL f.dom)]) (.agg #[.string (strL g.name), .string (strL g.loc), .string (strL g.dom)])).run Tryd.prog W = .ok (decide (f = g)) W := by
  rw [adr_iff]
  generalize strL f.name = a1
  generalize strL g.name = b1
  generalize strL f.loc = a2
  generalize strL g.loc = b2
  generalize strL f.dom = a3
  generalize strL g.dom = b3
  go_simp
  cases h1 : (a1.toList == b1.toList) <;> cases h2 : (a2.toList == b2.toList) <;> cases h3 : (a3.toList == b3.toList) <;> simp_all
theorem drew_below (w : World) (n : Nat) : Below w.heap.size w (w.drewN n) := ⟨rfl, rfl, rfl, Nat.le_refl _, fun _ _ => rfl⟩
set_option maxRecDepth 100000 in
set_option maxHeartbeats 2000000 in
theorem sameA_any {v u : Value} {xs ys : List Adr} {w : World} (h : HasA w v xs) (k : HasA w u ys) (hx : xs.length ≤ 1000000) :
    Calls Tryd.prog 13 #[v, u] w fun e w' => e = .returned (.bool (decide (xs = ys))) ∧ Below w.heap.size w w' := by
  obtain ⟨a1, c1, rfl⟩ := h.form
  obtain ⟨a2, c2, rfl⟩ := k.form
  obtain ⟨n, hn⟩ : ∃ n, xs.length = n := ⟨_, rfl⟩
  obtain ⟨m, hm⟩ : ∃ m, ys.length = m := ⟨_, rfl⟩
  rw [hn] at h hx
  rw [hm] at k
  rw [hn, hm]
  have HN := Lib.hid hn
  have HM := Lib.hid hm
  have H := Lib.hid h
  have K := Lib.hid k
  clear hn hm h k
  by_cases hl : n = m
  · subst hl
    have hne : ((n : Int) != (n : Int)) = false := by simp
    go_enter Tryd.func13, Tryd.ntmps13
    go_wp2_with fail
    go_loopw [5] (fun i wr => ∃ j : Nat, j ≤ n ∧ i = .int .i64 j ∧ Hid (Below w.heap.size w wr) ∧ Hid (∀ i (_ : i < j) (f g : Adr), xs[i]? = some f → ys[i]? = some g → f = g)) (fun i _ => n - (intOf i).toNat)
    case atStart => exact ⟨0, Nat.zero_le _, rfl, Below.refl _ _, by intro i h; omega⟩
    case round =>
      obtain ⟨j, hj, rfl, hgr, heq⟩ := hrel
      have F1 : IntKind.i64.wrap ((j : Int) + 1) = (j : Int) + 1 := by rw [IntKind.wrap_i64]; omega
      by_cases hlt : j < n
      · have hlt' : (j : Int) < (n : Int) := by omega
        obtain ⟨g1, o1, rfl, f1⟩ := H.out.at (by omega)
        obtain ⟨g2, o2, rfl, f2⟩ := K.out.at (by omega)
        obtain ⟨f, hf⟩ : ∃ f, xs[j]? = some f := ⟨_, List.getElem?_eq_getElem (by rw [HN.out]; exact hlt)⟩
        obtain ⟨g, hg⟩ : ∃ g, ys[j]? = some g := ⟨_, List.getElem?_eq_getElem (by rw [HM.out]; exact hlt)⟩
        obtain ⟨p0, p1, p2⟩ := f1.step hgr.out j f hf
        obtain ⟨q0, q1, q2⟩ := f2.step hgr.out j g hg
        have hEq := run_equal_adr f g
        by_cases he : f = g
        · rw [decide_eq_true he] at hEq
          have HE : Hid (∀ i (_ : i < j + 1) (f g : Adr), xs[i]? = some f → ys[i]? = some g → f = g) := by
            intro i h f' g' h1 h2
            rcases (show i < j ∨ i = j by omega) with h' | rfl
            · exact heq.out i h' f' g' h1 h2
            · rw [hf] at h1; rw [hg] at h2
              cases h1; cases h2; exact he
          generalize strL f.name = x1 at p0 hEq
          generalize strL f.loc = x2 at p1 hEq
          generalize strL f.dom = x3 at p2 hEq
          generalize strL g.name = y1 at q0 hEq
          generalize strL g.loc = y2 at q1 hEq
          generalize strL g.dom = y3 at q2 hEq
          clear hf hg he f1 f2
          go_wp2_with fail
          go_quiet (fail)
          go_wp2_with fail
          go_roundw
          case rel => exact ⟨j + 1, by omega, by go_num, hgr.out.trans (drew_below _ _ |>.mono hgr.out.size), HE⟩
          case measure => simp [intOf]; omega
        · rw [decide_eq_false he] at hEq
          have HE : Hid (decide (xs = ys) = false) := by
            show _ = _
            rw [decide_eq_false_iff_not]
            rintro rfl
            rw [hf] at hg; cases hg; exact he rfl
          generalize strL f.name = x1 at p0 hEq
          generalize strL f.loc = x2 at p1 hEq
          generalize strL f.dom = x3 at p2 hEq
          generalize strL g.name = y1 at q0 hEq
          generalize strL g.loc = y2 at q1 hEq
          generalize strL g.dom = y3 at q2 hEq
          clear hf hg he f1 f2
          go_wp2_with fail
          go_quiet (fail)
          go_wp2_with fail
          go_ret
          rw [HE.out]
          exact ⟨rfl, hgr.out.trans (drew_below _ _ |>.mono hgr.out.size)⟩
      · obtain rfl : j = n := by omega
        have hlt' : ¬ (j : Int) < (j : Int) := by omega
        have HE : Hid (decide (xs = ys) = true) := by
          show _ = _
          rw [decide_eq_true_iff]
          have h1 := HN.out
          have h2 := HM.out
          exact List.ext_getElem (by omega) fun i hi1 hi2 => heq.out i (by omega) _ _ (List.getElem?_eq_getElem hi1) (List.getElem?_eq_getElem hi2)
        go_wp2_with fail
        go_ret
        rw [HE.out]
        exact ⟨rfl, hgr.out⟩
  · have HE : Hid (decide (xs = ys) = false) := by
      show _ = _
      rw [decide_eq_false_iff_not]
      rintro rfl
      exact hl (HN.out.symm.trans HM.out)
    have hne : ((n : Int) == (m : Int)) = false := beq_eq_false_iff_ne.2 (by omega)
    have hne' : ((n : Int) != (m : Int)) = true := by rw [bne, hne]; rfl
    clear hl
    go_enter Tryd.func13, Tryd.ntmps13
    go_wp2_with fail
    go_ret
    rw [HE.out]
    exact ⟨rfl, Below.refl _ _⟩
end Go.Proofs.YtgponokcigapaaaDoor
namespace Go.Proofs.YtgponokcigapaaaDoor.AdrP
open TokP

/-! ### Finds -/
def findN (c : UInt8) (l : List Tok) : Nat := (upToS c l).length
theorem find_le (c : UInt8) (l : List Tok) : findN c l ≤ l.length := by
  unfold findN upToS
  have := congrArg List.length (List.takeWhile_append_dropWhile (p := fun t => !isS t c) (l := l))
  rw [List.length_append] at this
  omega
theorem up_take (c : UInt8) (l : List Tok) : upToS c l = l.take (findN c l) := by
  unfold findN upToS
  have h := List.takeWhile_append_dropWhile (p := fun t => !isS t c) (l := l)
  generalize l.takeWhile (fun t => !isS t c) = X at h ⊢
  rw [← h, List.take_left' rfl]
theorem from_drop (c : UInt8) (l : List Tok) : fromS c l = l.drop (findN c l) := by
  unfold findN upToS fromS
  have h := List.takeWhile_append_dropWhile (p := fun t => !isS t c) (l := l)
  generalize l.takeWhile (fun t => !isS t c) = X at h ⊢
  generalize l.dropWhile (fun t => !isS t c) = Y at h ⊢
  rw [← h, List.drop_left' rfl]
theorem find_hit {c : UInt8} {l : List Tok} {k : Nat} {t : Tok} (hk : l[k]? = some t) (ht : isS t c = true) (h : ∀ i, i < k → ∀ u, l[i]? = some u → isS u c = false) : findN c l = k := by
  obtain ⟨h1, h2⟩ := List.getElem?_eq_some_iff.1 hk
  have e : l = l.take k ++ t :: l.drop (k + 1) := by
    rw [← h2, ← List.drop_eq_getElem_cons h1, List.take_append_drop]
  have := (upTo_at c (l.take k) t (l.drop (k + 1)) (fun u hu => by
    obtain ⟨i, hi, rfl⟩ := List.mem_iff_getElem.1 hu
    have hi2 : i < k := by rw [List.length_take] at hi; omega
    refine h i hi2 _ ?_
    rw [List.getElem_take, List.getElem?_eq_getElem (by omega)]) ht).1
  rw [← e] at this
  unfold findN
  rw [this, List.length_take]; omega
theorem find_no {c : UInt8} {l : List Tok} (h : ∀ (i : Nat) (u : Tok), l[i]? = some u → isS u c = false) : findN c l = l.length := by
  have := upTo_no c l (fun t ht => by
    obtain ⟨i, hi, rfl⟩ := List.mem_iff_getElem.1 ht
    exact h i _ (List.getElem?_eq_getElem hi))
  rw [from_drop] at this
  have h1 := find_le c l
  have h2 := congrArg List.length this
  rw [List.length_drop, List.length_nil] at h2
  omega
theorem find_at {c : UInt8} {l : List Tok} (h : findN c l < l.length) : l[findN c l]? = some ⟨4, [c]⟩ := by
  induction l with
  | nil => simp at h
  | cons t r ih =>
    by_cases hc : isS t c = true
    · have e : findN c (t :: r) = 0 := by unfold findN upToS; rw [List.takeWhile_cons_of_neg (by simp [hc])]; rfl
      rw [e, (isS_iff t c).1 hc]; rfl
    · have e : findN c (t :: r) = findN c r + 1 := by unfold findN upToS; rw [List.takeWhile_cons_of_pos (by simp [hc])]; rfl
      rw [e] at h ⊢
      rw [List.getElem?_cons_succ]
      exact ih (by rw [List.length_cons] at h; omega)
/-- As the program's find answers. -/
def findI (c : UInt8) (l : List Tok) : Int := if findN c l < l.length then (findN c l : Int) else -1
theorem findI_no {c : UInt8} {l : List Tok} (h : fromS c l = []) : findI c l = -1 := by
  rw [from_drop, List.drop_eq_nil_iff] at h
  unfold findI
  rw [if_neg (by omega)]
theorem findI_yes {c : UInt8} {l : List Tok} {x : Tok} {r : List Tok} (h : fromS c l = x :: r) : ∃ k, k < l.length ∧ findI c l = k ∧ findN c l = k ∧ l.take k = upToS c l ∧ l.drop (k + 1) = r := by
  rw [from_drop] at h
  have hl : findN c l < l.length := by
    have := congrArg List.length h
    rw [List.length_drop, List.length_cons] at this
    omega
  refine ⟨findN c l, hl, by unfold findI; rw [if_pos hl], rfl, (up_take c l).symm, ?_⟩
  rw [← List.drop_drop, h]; rfl
/-! ### The first piece -/
def stF : Bool → Nat → Nat → List Tok → Nat × Nat
  | _, s, k, [] => (s, k)
  | true, s, k, t :: r => stF (!isS t 62) s (k + 1) r
  | false, s, k, t :: r => if isS t 44 = true ∨ isS t 59 = true then (s, k) else stF (isS t 60) (if isS t 58 = true then k + 1 else s) (k + 1) r
theorem cut_more (full : List Tok) (s k : Nat) (t : Tok) (hk : full[k]? = some t) (hs : s ≤ k) : (full.take k).drop s ++ [t] = (full.take (k + 1)).drop s := by
  have hl : (full.take k).length = k := by
    rw [List.length_take]
    have := (List.getElem?_eq_some_iff.1 hk).1
    omega
  rw [List.take_add_one, hk, List.drop_append_of_le_length (by rw [hl]; exact hs)]
  rfl
theorem st_spec (full : List Tok) : ∀ (l : List Tok) (b : Bool) (s k : Nat), full.drop k = l → s ≤ k → k ≤ full.length →
    (stF b s k l).1 ≤ (stF b s k l).2 ∧ (stF b s k l).2 ≤ full.length ∧
    pcs b ((full.take k).drop s) l = ((full.take (stF b s k l).2).drop (stF b s k l).1) :: (if (stF b s k l).2 < full.length then pcs false [] (full.drop ((stF b s k l).2 + 1)) else [])
  | [], b, s, k, h, hs, hk => by
    have hl : full.length ≤ k := by rw [List.drop_eq_nil_iff] at h; exact h
    have e : stF b s k [] = (s, k) := by cases b <;> rfl
    have e2 : pcs b ((full.take k).drop s) [] = [(full.take k).drop s] := by cases b <;> rfl
    rw [e, e2]
    dsimp only
    rw [if_neg (by omega)]
    exact ⟨hs, hk, rfl⟩
  | t :: r, b, s, k, h, hs, hk => by
    have hlt : k < full.length := by
      have := congrArg List.length h
      rw [List.length_drop, List.length_cons] at this
      omega
    have ht : full[k]? = some t := by
      have := congrArg (fun x => x[0]?) h
      simp only [List.getElem?_drop, List.getElem?_cons_zero, Nat.add_zero] at this
      exact this
    have hr : full.drop (k + 1) = r := by rw [← List.drop_drop, h]; rfl
    cases b with
    | true =>
      rw [stF, pcs, cut_more full s k t ht hs]
      exact st_spec full r _ s (k + 1) hr (by omega) hlt
    | false =>
      rw [stF, pcs]
      by_cases hx : isS t 44 = true ∨ isS t 59 = true
      · rw [if_pos hx, if_pos hx]
        dsimp only
        rw [if_pos hlt, hr]
        exact ⟨hs, hk, rfl⟩
      · rw [if_neg hx, if_neg hx]
        by_cases h58 : isS t 58 = true
        · rw [if_pos h58, if_pos h58]
          have := st_spec full r (isS t 60) (k + 1) (k + 1) hr (Nat.le_refl _) hlt
          rw [show (full.take (k + 1)).drop (k + 1) = [] from List.drop_eq_nil_of_le (by rw [List.length_take]; omega)] at this
          exact this
        · rw [if_neg h58, if_neg h58, cut_more full s k t ht hs]
          exact st_spec full r _ s (k + 1) hr (by omega) hlt
/-- The first piece and what is left behind it. -/
theorem st_first (l : List Tok) : ∃ p q, stF false 0 0 l = (p, q) ∧ p ≤ q ∧ q ≤ l.length ∧ pcs false [] l = ((l.take q).drop p) :: (if q < l.length then pcs false [] (l.drop (q + 1)) else []) := by
  obtain ⟨h1, h2, h3⟩ := st_spec l l false 0 0 rfl (Nat.le_refl _) (Nat.zero_le _)
  exact ⟨_, _, rfl, h1, h2, h3⟩
theorem st_in (t : Tok) (r : List Tok) (s k : Nat) : stF true s k (t :: r) = stF (!isS t 62) s (k + 1) r := by rw [stF]
theorem st_end (t : Tok) (r : List Tok) (s k : Nat) (h : isS t 44 = true ∨ isS t 59 = true) : stF false s k (t :: r) = (s, k) := by rw [stF, if_pos h]
theorem st_go (t : Tok) (r : List Tok) (s k : Nat) (h : ¬ (isS t 44 = true ∨ isS t 59 = true)) : stF false s k (t :: r) = stF (isS t 60) (if isS t 58 = true then k + 1 else s) (k + 1) r := by rw [stF, if_neg h]
theorem parse_cons (x : List Tok) (p : List (List Tok)) : parseP (x :: p) = ((oneT x).toList ++ (parseP p).1, (x.isEmpty || (oneT x).isSome) && (parseP p).2) := by
  unfold parseP
  rw [List.filterMap_cons, List.all_cons]
  cases oneT x <;> rfl
theorem one_nil : oneT [] = none := rfl
/-! ### Words between dots, at a place of a list -/
theorem dots_word {ok : Tok → Bool} {l : List Tok} {k : Nat} {t : Tok} (h : l[k]? = some t) (ht : ok t = true) : dotsT ok true (l.drop k) = (dotsT ok false (l.drop (k + 1))).map (valueL t ++ ·) := by
  obtain ⟨h1, h2⟩ := List.getElem?_eq_some_iff.1 h
  rw [List.drop_eq_getElem_cons h1, h2, dotsT, if_pos ht]
theorem dots_word_no {ok : Tok → Bool} {l : List Tok} {k : Nat} {t : Tok} (h : l[k]? = some t) (ht : ok t = false) : dotsT ok true (l.drop k) = none := by
  obtain ⟨h1, h2⟩ := List.getElem?_eq_some_iff.1 h
  rw [List.drop_eq_getElem_cons h1, h2, dotsT, if_neg (by rw [ht]; exact Bool.false_ne_true)]
theorem dots_dot {ok : Tok → Bool} {l : List Tok} {k : Nat} {t : Tok} (h : l[k]? = some t) (ht : isS t 46 = true) : dotsT ok false (l.drop k) = (dotsT ok true (l.drop (k + 1))).map (valueL t ++ ·) := by
  obtain ⟨h1, h2⟩ := List.getElem?_eq_some_iff.1 h
  rw [List.drop_eq_getElem_cons h1, h2, dotsT, if_pos ht, (isS_iff t 46).1 ht]
  rfl
theorem dots_dot_no {ok : Tok → Bool} {l : List Tok} {k : Nat} {t : Tok} (h : l[k]? = some t) (ht : isS t 46 = false) : dotsT ok false (l.drop k) = none := by
  obtain ⟨h1, h2⟩ := List.getElem?_eq_some_iff.1 h
  rw [List.drop_eq_getElem_cons h1, h2, dotsT, if_neg (by rw [ht]; exact Bool.false_ne_true)]
theorem map_map_app (o : Option (List UInt8)) (a b : List UInt8) : (o.map (b ++ ·)).map (a ++ ·) = o.map ((a ++ b) ++ ·) := by
  cases o with
  | none => rfl
  | some x => simp
/-! ### Dot-atoms by their tokens -/
theorem dot_text : ∀ (a : List UInt8) (s : List UInt8) (b : Bool), a ≠ [] → (∀ c ∈ a, atomB c = true) → dotA b (a ++ s) = dotA true s
  | [], _, _, h, _ => absurd rfl h
  | [c], s, b, _, h => by rw [List.cons_append, dotA, if_pos (h c (by simp))]; rfl
  | c :: d :: t, s, b, _, h => by
    rw [List.cons_append, dotA, if_pos (h c (by simp))]
    exact dot_text (d :: t) s true (by simp) (fun x hx => h x (by simp [hx]))
theorem take_all (p : UInt8 → Bool) (l : List UInt8) : ∀ c ∈ l.takeWhile p, p c = true := by
  intro c hc
  have := List.all_takeWhile (p := p) (l := l)
  rw [List.all_eq_true] at this
  exact this c hc
theorem front_atoms (s : List UInt8) (hs : s ≠ []) (h : (frontL s).kind = 1) : ∀ c ∈ (frontL s).text, atomB c = true := by
  obtain ⟨c, t, rfl⟩ := List.exists_cons_of_ne_nil hs
  have ha := ((front_kind c t).2.1 h).1
  rw [front_atom c t ha]
  exact take_all _ _
/-- Tokens of atoms between dots make up a dot-atom. -/
theorem dots_back : ∀ (n : Nat) (s : List UInt8), s.length ≤ n → ((dotsT atomT true (scanL s)).isSome = true → dotA false s = true) ∧ ((dotsT atomT false (scanL s)).isSome = true → dotA true s = true) := by
  intro n
  induction n with
  | zero =>
    intro s h
    obtain rfl : s = [] := List.eq_nil_of_length_eq_zero (by omega)
    exact ⟨fun h => absurd h (by decide), fun _ => rfl⟩
  | succ n ih =>
    intro s h
    by_cases hs : s = []
    · subst hs
      exact ⟨fun h => absurd h (by decide), fun _ => rfl⟩
    · have hpre := front_pre s
      have hpos := List.length_pos_iff.2 (front_pos s hs)
      have hd : (s.drop (frontL s).text.length).length ≤ n := by rw [List.length_drop]; omega
      obtain ⟨i1, i2⟩ := ih _ hd
      constructor
      · intro hp
        rw [scan_cons s hs, dotsT] at hp
        split at hp
        · rename_i hk
          rw [Option.isSome_map] at hp
          have hk1 : (frontL s).kind = 1 := by simpa [atomT] using hk
          rw [← hpre, dot_text _ _ _ (front_pos s hs) (front_atoms s hs hk1)]
          exact i2 hp
        · exact absurd hp (by decide)
      · intro hp
        rw [scan_cons s hs, dotsT] at hp
        split at hp
        · rename_i hk
          rw [Option.isSome_map] at hp
          have := (isS_iff _ _).1 hk
          have ht : (frontL s).text = [46] := by rw [this]
          rw [ht] at hpre i1 hp
          rw [← hpre]
          show dotA true (46 :: s.drop [(46 : UInt8)].length) = true
          rw [dotA, if_neg (by decide), if_pos ⟨rfl, rfl⟩]
          exact i1 hp
        · exact absurd hp (by decide)
theorem dot_tokens (s : List UInt8) : (dotsT atomT true (scanL s)).isSome = dotA false s := by
  rw [Bool.eq_iff_iff]
  constructor
  · exact (dots_back s.length s (Nat.le_refl _)).1
  · intro h
    rw [(dot_scan atomT (fun t ht => by unfold atomT; rw [ht]; rfl) s.length s (Nat.le_refl _) h).1]
    rfl
/-! ### Message ids by cuts -/
def solidB (s : List UInt8) : Bool := s.all (fun c => decide (32 < c.toNat) && c != 127)
theorem ids_none_shut : ∀ (s : List UInt8) (o : Option (List UInt8)), 62 ∉ s → idsF o s = []
  | [], o, _ => by cases o <;> rfl
  | c :: t, o, h => by
    simp only [List.mem_cons, not_or] at h
    have ih := fun o => ids_none_shut t o h.2
    cases o with
    | none =>
      rw [idsF]
      split
      · exact ih _
      · exact ih _
    | some x =>
      rw [idsF, if_neg (show ¬ c = 62 from fun e => h.1 e.symm)]
      split
      · exact ih _
      · split
        · exact ih _
        · exact ih _
theorem ids_last : ∀ (x z : List UInt8) (o : Option (List UInt8)), 62 ∉ x → idsF o (x ++ 60 :: z) = idsF (some []) z
  | [], z, o, _ => by
    cases o with
    | none => rw [List.nil_append, idsF, if_pos rfl]
    | some y => rw [List.nil_append, idsF, if_pos rfl]
  | c :: t, z, o, h => by
    simp only [List.mem_cons, not_or] at h
    have ih := fun o => ids_last t z o h.2
    cases o with
    | none =>
      rw [List.cons_append, idsF]
      split
      · exact ih _
      · exact ih _
    | some x =>
      rw [List.cons_append, idsF, if_neg (show ¬ c = 62 from fun e => h.1 e.symm)]
      split
      · exact ih _
      · split
        · exact ih _
        · exact ih _
theorem ids_tail : ∀ (y acc r : List UInt8), 60 ∉ y → 62 ∉ y → idsF (some acc) (y ++ 62 :: r) = (if solidB y = true ∧ 0 < (acc ++ y).length ∧ (acc ++ y).length ≤ 250 then [acc ++ y] else []) ++ idsF none r
  | [], acc, r, _, _ => by
    rw [List.nil_append, idsF, if_neg (by decide), if_pos rfl, List.append_nil]
    have : solidB [] = true := rfl
    rw [this]
    split
    · rename_i h; rw [if_pos ⟨rfl, h⟩]; rfl
    · rename_i h; rw [if_neg (fun e => h e.2)]; rfl
  | c :: y, acc, r, h60, h62 => by
    simp only [List.mem_cons, not_or] at h60 h62
    rw [List.cons_append, idsF, if_neg (fun e => h60.1 e.symm), if_neg (fun e => h62.1 e.symm)]
    have hs : solidB (c :: y) = ((decide (32 < c.toNat) && c != 127) && solidB y) := rfl
    by_cases hb : c.toNat ≤ 32 ∨ c = 127
    · rw [if_pos hb]
      have hs2 : solidB (c :: y) = false := by
        rw [hs]
        rcases hb with hb | hb
        · rw [decide_eq_false (by omega)]; rfl
        · rw [hb]; simp
      rw [hs2, if_neg (by simp), List.nil_append, ids_skip y _ h60.2, idsF, if_neg (by decide)]
    · rw [if_neg hb, ids_tail y (acc ++ [c]) r h60.2 h62.2]
      have hs2 : solidB (c :: y) = solidB y := by
        rw [hs, decide_eq_true (by omega), show (c != 127) = true by simp; exact fun e => hb (.inr e)]; rfl
      rw [hs2, show acc ++ [c] ++ y = acc ++ c :: y by simp]
/-- What stands behind the last angle bracket that opens, if one does. -/
def candL (b : List UInt8) : List (List UInt8) :=
  if 60 ∈ b then
    let y := (b.reverse.takeWhile (fun c => c != 60)).reverse
    if solidB y = true ∧ 0 < y.length ∧ y.length ≤ 250 then [y] else []
  else []
theorem ids_cut_no (b r : List UInt8) (_h62 : 62 ∉ b) (h : 60 ∉ b) : idsF none (b ++ 62 :: r) = idsF none r := by
  rw [ids_skip b _ h, idsF, if_neg (by decide)]
theorem ids_cut_yes (x y r : List UInt8) (h62 : 62 ∉ x ++ 60 :: y) (h : 60 ∉ y) : idsF none ((x ++ 60 :: y) ++ 62 :: r) = (if solidB y = true ∧ 0 < y.length ∧ y.length ≤ 250 then [y] else []) ++ idsF none r := by
  simp only [List.mem_append, List.mem_cons, not_or] at h62
  rw [List.append_assoc, List.cons_append, ids_last x _ none h62.1, ids_tail y [] r h h62.2.2, List.nil_append]
end Go.Proofs.YtgponokcigapaaaDoor.AdrP
namespace Go.Proofs.YtgponokcigapaaaDoor
open Go.ChangeShapes Go.WideShapes Go.ChangeAt Go.RowKit
open TokP AdrP

/-- The slice v reads as l and has room for it. -/
def HasT (w : World) (v : Value) (l : List Tok) : Prop := ∃ a c, v = .slice a l.length c ∧ l.length ≤ c ∧ HasF w v l
theorem HasT.step {w w' : World} {v : Value} {l : List Tok} (h : HasT w v l) (hb : Below w.heap.size w w') : HasT w' v l := by
  obtain ⟨a, c, e, h1, h2⟩ := h
  exact ⟨a, c, e, h1, h2.step hb⟩
theorem OwnF.hasT {w : World} {v : Value} {l : List Tok} (h : OwnF w v l) : HasT w v l := by
  have h2 := h.has
  obtain ⟨b, ho⟩ := h
  rcases ho.2 with ⟨rfl, h0⟩ | ⟨g, cap, cur, rfl, _, _, hc, _⟩
  · exact ⟨none, 0, by rw [h0], by omega, h2⟩
  · exact ⟨_, cap, rfl, hc, h2⟩
theorem HasF.at {w : World} {a : Option Addr} {n c : Nat} {l : List Tok} (h : HasF w (.slice a n c) l) (hn : 0 < n) : ∃ g o, a = some ⟨g, o, none⟩ ∧ FAt w g o l := by
  rcases h with ⟨e, _⟩ | ⟨g, o, c', e, h⟩
  · injection e with _ e _; omega
  · injection e with e _ _; exact ⟨g, o, e, h⟩
theorem HasT.cap {w : World} {a : Option Addr} {n c : Nat} {l : List Tok} (h : HasT w (.slice a n c) l) : n = l.length ∧ n ≤ c ∧ HasF w (.slice a n c) l := by
  obtain ⟨a', c', e, h1, h2⟩ := h
  injection e with _ e1 e2
  subst e2
  exact ⟨e1, by omega, h2⟩
theorem cut_at (l : List Tok) (p q i : Nat) (f : Tok) (h : ((l.take q).drop p)[i]? = some f) : l[p + i]? = some f := by
  rw [List.getElem?_drop] at h
  rw [List.getElem?_take] at h
  split at h
  · exact h
  · exact absurd h (by simp)
/-- A part of a slice of tokens. -/
theorem has_sub {a : Option Addr} {c : Nat} {l : List Tok} (p q : Nat) (hpq : p ≤ q) (hq : q ≤ l.length) (hc : l.length ≤ c) {w : World} (h : HasF w (.slice a l.length c) l) : HasT w (sliced a p q c 2) ((l.take q).drop p) := by
  have hl : ((l.take q).drop p).length = q - p := by rw [List.length_drop, List.length_take]; omega
  unfold sliced
  rcases h with ⟨e, rfl⟩ | ⟨g, o, c', e, h⟩
  · injection e with e1 e2 e3
    subst e1 e3
    obtain rfl : q = 0 := by simp at hq; exact hq
    obtain rfl : p = 0 := by omega
    exact ⟨none, 0, rfl, by simp, .inl ⟨rfl, rfl⟩⟩
  · injection e with e1 e2 e3
    subst e1 e3
    refine ⟨_, _, by rw [hl], by rw [hl]; omega, ?_⟩
    by_cases hcp : c = p
    · rw [if_pos hcp]
      refine .inr ⟨g, o, _, by rw [hl], fun i f hf => ?_⟩
      have : i < ((l.take q).drop p).length := (List.getElem?_eq_some_iff.1 hf).1
      omega
    · rw [if_neg hcp, Option.map_some, add_none]
      refine .inr ⟨g, o + p * 2, _, by rw [hl], fun i f hf => ?_⟩
      have := h (p + i) f (cut_at l p q i f hf)
      rw [show o + (p + i) * 2 = o + p * 2 + i * 2 by omega] at this
      exact this
theorem elem38 : Tryd.prog.elem 38 = 43 := by
  unfold Program.elem
  rw [Tryd.underlying38]
theorem under38 : Tryd.prog.underlying 38 = some (.slice (Tryd.prog.elem 38)) := by
  rw [elem38]
  exact Tryd.underlying38
theorem size43 (W : World) : (sizeOf (Tryd.prog.elem 38)).run Tryd.prog W = .ok 2 W := by
  rw [elem38]
  exact Tryd.sizeOf43 W
/-- How the walk takes a part of a slice of tokens. -/
theorem run_sub {w : World} {a : Option Addr} {n c : Nat} {l : List Tok} (h : HasT w (.slice a n c) l) (p q : Nat) (x y : Int) (hx : x = p) (hy : y = q) (hpq : p ≤ q) (hq : q ≤ n) :
    ∃ A C, (∀ W : World, (Instr.slice 38 (.slice a n c) (some (.int .i64 x)) (some (.int .i64 y)) none).run Tryd.prog W = .ok (.slice A (q - p) C) W) ∧ HasT w (.slice A (q - p) C) ((l.take q).drop p) := by
  subst hx hy
  obtain ⟨rfl, hc, hf⟩ := h.cap
  refine ⟨_, _, fun W => ?_, has_sub p q hpq hq hc hf⟩
  rw [run_slice_lh W 38 a l.length c under38 .i64 .i64 p q (by omega) (by omega) (by omega), size43]
  simp only [Result.andThen, Int.toNat_natCast]
  rfl
theorem run_sub_to {w : World} {a : Option Addr} {n c : Nat} {l : List Tok} (h : HasT w (.slice a n c) l) (q : Nat) (y : Int) (hy : y = q) (hq : q ≤ n) :
    ∃ A C, (∀ W : World, (Instr.slice 38 (.slice a n c) none (some (.int .i64 y)) none).run Tryd.prog W = .ok (.slice A q C) W) ∧ HasT w (.slice A q C) (l.take q) := by
  subst hy
  obtain ⟨rfl, hc, hf⟩ := h.cap
  refine ⟨_, _, fun W => ?_, has_sub 0 q (by omega) hq hc hf⟩
  rw [run_slice_h W 38 a l.length c under38 .i64 q (by omega) (by omega), size43]
  simp only [Result.andThen, Int.toNat_natCast]
  rfl
theorem run_sub_from {w : World} {a : Option Addr} {n c : Nat} {l : List Tok} (h : HasT w (.slice a n c) l) (p : Nat) (x : Int) (hx : x = p) (hp : p ≤ n) :
    ∃ A C, (∀ W : World, (Instr.slice 38 (.slice a n c) (some (.int .i64 x)) none none).run Tryd.prog W = .ok (.slice A (n - p) C) W) ∧ HasT w (.slice A (n - p) C) (l.drop p) := by
  subst hx
  obtain ⟨rfl, hc, hf⟩ := h.cap
  have h2 := has_sub p l.length hp (Nat.le_refl _) hc hf
  rw [List.take_of_length_le (Nat.le_refl _)] at h2
  refine ⟨_, _, fun W => ?_, h2⟩
  rw [run_slice_l W 38 a l.length c under38 .i64 p (by omega) (by omega), size43]
  simp only [Result.andThen, Int.toNat_natCast]
  rfl
/-! ### special -/
/-- The text of a special. -/
def specL (t : Tok) : List UInt8 := if t.kind = 4 then t.text else []
theorem spec_is (t : Tok) (c : UInt8) : decide (specL t = [c]) = isS t c := by
  unfold specL isS
  by_cases h : t.kind = 4
  · rw [if_pos h, h]
    rw [Bool.eq_iff_iff, decide_eq_true_iff]; simp
  · rw [if_neg h, beq_eq_false_iff_ne.2 h]; simp
set_option maxHeartbeats 1000000 in
theorem special_any (t : Tok) (w : World) :
    Calls Tryd.prog 44 #[.agg #[.int .i64 (t.kind : Nat), .string (strL t.text)]] w fun e w' => e = .returned (.string (strL (specL t))) ∧ Below w.heap.size w w' := by
  unfold specL
  generalize ht : strL t.text = T
  by_cases h4 : t.kind = 4
  · rw [if_pos h4, h4, ht]
    have HB := Lib.hid (below_box w (.cells #[.int .i64 (4 : Nat), .string T] 43))
    clear h4 ht
    go_enter Tryd.func44, Tryd.ntmps44
    go_wp2_with fail
    go_ret
    exact ⟨rfl, HB.out⟩
  · rw [if_neg h4]
    have HB := Lib.hid (below_box w (.cells #[.int .i64 (t.kind : Nat), .string T] 43))
    have g : (((t.kind : Nat) : Int) != 4) = true := by rw [bne_iff_ne]; omega
    generalize ((t.kind : Nat) : Int) = K at g HB ⊢
    clear h4 ht
    go_enter Tryd.func44, Tryd.ntmps44
    go_wp2_with fail
    go_ret
    exact ⟨rfl, HB.out⟩
/-! ### find -/
theorem find_rest {c : UInt8} {l : List Tok} {k : Nat} (h : ∀ i, i < k → ∀ u, l[i]? = some u → isS u c = false) {t : Tok} (hk : l[k]? = some t) (ht : isS t c = false) : ∀ i, i < k + 1 → ∀ u, l[i]? = some u → isS u c = false := fun i hi u hu => by
  by_cases e : i = k
  · subst e; rw [hk] at hu; obtain rfl := Option.some.inj hu; exact ht
  · exact h i (by omega) u hu
set_option maxHeartbeats 2000000 in
theorem find_any (v : Value) (l : List Tok) (c : UInt8) (r : Int) (hr : findI c l = r) (hn : l.length ≤ 1000000) (w : World) (h : Hid (HasT w v l)) :
    Calls Tryd.prog 45 #[v, .string ⟨#[c]⟩] w fun e w' => e = .returned (.int .i64 r) ∧ Below w.heap.size w w' := by
  obtain ⟨a, cp, rfl, _, hf0⟩ := h.out
  obtain ⟨n, hnn⟩ : ∃ n, l.length = n := ⟨_, rfl⟩
  rw [hnn] at hn hf0 ⊢
  have HN := Lib.hid hnn
  have HR := Lib.hid hr
  have H := Lib.hid hf0
  clear hnn hr hf0 h
  go_enter Tryd.func45, Tryd.ntmps45
  go_wp2_with fail
  go_loopw [9] (fun i wr => ∃ k : Nat, k ≤ n ∧ i = .int .i64 k ∧ Hid (Below w.heap.size w wr) ∧ Hid (∀ i, i < k → ∀ u, l[i]? = some u → isS u c = false)) (fun i _ => n - (intOf i).toNat)
  case atStart => exact ⟨0, Nat.zero_le _, rfl, Below.refl _ _, fun i h => absurd h (by omega)⟩
  case round =>
    obtain ⟨k, hk, rfl, hb, HG⟩ := hrel
    have F1 : IntKind.i64.wrap ((k : Int) + 1) = (k : Int) + 1 := by rw [IntKind.wrap_i64]; omega
    by_cases hlt : k < n
    · have hlt' : (k : Int) < (n : Int) := by omega
      obtain ⟨g, o, rfl, hfa⟩ := H.out.at (by omega)
      obtain ⟨t, ht⟩ : ∃ t, l[k]? = some t := ⟨_, List.getElem?_eq_getElem (by rw [HN.out]; exact hlt)⟩
      obtain ⟨k0, k1⟩ := hfa.step hb.out k t ht
      have cS := special_any t
      have heq := eq_strL (specL t) [c]
      rw [spec_is] at heq
      have hsz : wr.heap.size ≥ w.heap.size := hb.out.size
      have HBx := Lib.hid (fun o => hb.out.alloc hb.out.size o)
      cases his : isS t c with
      | true =>
        rw [his] at heq
        have HF := Lib.hid (show findI c l = k by
          have h1 := find_hit ht his HG.out
          unfold findI
          rw [h1, if_pos (by rw [HN.out]; exact hlt)])
        have HE : Hid (r = (k : Int)) := HR.out.symm.trans HF.out
        have hg : ((strL (specL t)).toList == [c]) = true := by rw [ByteArray.toList_eq (strL [c]), strL_list] at heq; exact heq
        generalize strL (specL t) = S at cS hg
        generalize strL t.text = T at k1 cS
        generalize ((t.kind : Nat) : Int) = K at k0 cS
        clear heq his ht hfa HF HG HR
        go_wp2_with (go_at_call 44; (with_reducible refine (cS _).mono ?_); rintro e w2 ⟨rfl, hb2⟩; replace hb2 := Lib.hid hb2)
        go_ret
        exact ⟨by rw [HE.out]; rfl, (HBx.out _).trans (hb2.out.mono (by rw [World.size_alloc]; omega))⟩
      | false =>
        rw [his] at heq
        have HG2 := Lib.hid (find_rest HG.out ht his)
        have hg : ((strL (specL t)).toList == [c]) = false := by rw [ByteArray.toList_eq (strL [c]), strL_list] at heq; exact heq
        generalize strL (specL t) = S at cS hg
        generalize strL t.text = T at k1 cS
        generalize ((t.kind : Nat) : Int) = K at k0 cS
        clear heq his ht hfa HG
        go_wp2_with (go_at_call 44; (with_reducible refine (cS _).mono ?_); rintro e w2 ⟨rfl, hb2⟩; replace hb2 := Lib.hid hb2)
        go_roundw
        case rel => exact ⟨k + 1, by omega, by go_num, Lib.hid ((HBx.out _).trans (hb2.out.mono (by rw [World.size_alloc]; omega))), HG2⟩
        case measure => simp [intOf]; omega
    · obtain rfl : k = n := by omega
      have hlt' : ¬ (k : Int) < (k : Int) := by omega
      have HE : Hid (r = -1) := by
        show _ = _
        rw [← HR.out]
        have := find_no (c := c) (l := l) (fun i u hu => HG.out i (by have := (List.getElem?_eq_some_iff.1 hu).1; rw [HN.out] at this; exact this) u hu)
        unfold findI
        rw [this, if_neg (by omega)]
      go_wp2_with fail
      go_ret
      exact ⟨by rw [HE.out]; rfl, hb.out⟩
end Go.Proofs.YtgponokcigapaaaDoor
namespace Go.Proofs.YtgponokcigapaaaDoor
open Go.ChangeShapes Go.WideShapes Go.ChangeAt Go.RowKit
open TokP AdrP

theorem st_at_in {l : List Tok} {k : Nat} {t : Tok} (h : l[k]? = some t) (s : Nat) : stF true s k (l.drop k) = stF (!isS t 62) s (k + 1) (l.drop (k + 1)) := by
  obtain ⟨h1, h2⟩ := List.getElem?_eq_some_iff.1 h
  rw [List.drop_eq_getElem_cons h1, h2, st_in]
theorem st_at_end {l : List Tok} {k : Nat} {t : Tok} (h : l[k]? = some t) (s : Nat) (ht : isS t 44 = true ∨ isS t 59 = true) : stF false s k (l.drop k) = (s, k) := by
  obtain ⟨h1, h2⟩ := List.getElem?_eq_some_iff.1 h
  rw [List.drop_eq_getElem_cons h1, h2, st_end _ _ _ _ ht]
theorem st_at_go {l : List Tok} {k : Nat} {t : Tok} (h : l[k]? = some t) (s : Nat) (ht : ¬ (isS t 44 = true ∨ isS t 59 = true)) : stF false s k (l.drop k) = stF (isS t 60) (if isS t 58 = true then k + 1 else s) (k + 1) (l.drop (k + 1)) := by
  obtain ⟨h1, h2⟩ := List.getElem?_eq_some_iff.1 h
  rw [List.drop_eq_getElem_cons h1, h2, st_go _ _ _ _ ht]
theorem st_at_nil (b : Bool) (s k : Nat) : stF b s k [] = (s, k) := by cases b <;> rfl
theorem spec_eq (t : Tok) (c : UInt8) : ((strL (specL t)).toList == [c]) = isS t c := by
  have := eq_strL (specL t) [c]
  rw [spec_is, ByteArray.toList_eq (strL [c]), strL_list] at this
  exact this
set_option maxHeartbeats 4000000 in
theorem first_piece (v : Value) (l : List Tok) (p q : Nat) (hpq : stF false 0 0 l = (p, q)) (hn : l.length ≤ 1000000) (w : World) (h : Hid (HasT w v l)) :
    Calls Tryd.prog 27 #[v] w fun e w' => e = .returned (.tuple #[.int .i64 p, .int .i64 q]) ∧ Below w.heap.size w w' := by
  obtain ⟨a, cp, rfl, _, hf0⟩ := h.out
  obtain ⟨n, hnn⟩ : ∃ n, l.length = n := ⟨_, rfl⟩
  rw [hnn] at hn hf0 ⊢
  have HN := Lib.hid hnn
  have H := Lib.hid hf0
  have HP := Lib.hid (show stF false 0 0 (l.drop 0) = (p, q) from hpq)
  clear hnn hf0 h hpq
  go_enter Tryd.func27, Tryd.ntmps27
  go_wp2_with fail
  go_step3
  go_wp2_with fail
  go_step3
  go_wp2_with fail
  go_loopw [2, 3, 4] (fun x y z wr => ∃ (s k : Nat) (b : Bool), s ≤ k ∧ k ≤ n ∧ x = .int .i64 s ∧ y = .int .i64 k ∧ z = .bool b ∧ Hid (Below w.heap.size w wr) ∧ Hid (stF b s k (l.drop k) = (p, q))) (fun _ y _ _ => n - (intOf y).toNat)
  case atStart => exact ⟨0, 0, false, Nat.le_refl _, Nat.zero_le _, rfl, rfl, rfl, Below.refl _ _, HP⟩
  case round =>
    obtain ⟨s, k, b, hsk, hk, rfl, rfl, rfl, hb, HG⟩ := hrel
    have F1 : IntKind.i64.wrap ((k : Int) + 1) = (k : Int) + 1 := by rw [IntKind.wrap_i64]; omega
    by_cases hlt : k < n
    · have hlt' : (k : Int) < (n : Int) := by omega
      obtain ⟨g, o, rfl, hfa⟩ := H.out.at (by omega)
      obtain ⟨t, ht⟩ : ∃ t, l[k]? = some t := ⟨_, List.getElem?_eq_getElem (by rw [HN.out]; exact hlt)⟩
      obtain ⟨k0, k1⟩ := hfa.step hb.out k t ht
      have cS := special_any t
      have e60 := spec_eq t 60
      have e62 := spec_eq t 62
      have e58 := spec_eq t 58
      have e44 := spec_eq t 44
      have e59 := spec_eq t 59
      have i1 := Lib.hid (st_at_in ht s)
      have i2 := Lib.hid (st_at_end ht s)
      have i3 := Lib.hid (st_at_go ht s)
      have j60 : Hid (isS t 60 = true → isS t 62 = false ∧ isS t 58 = false ∧ isS t 44 = false ∧ isS t 59 = false) := fun h => ⟨isS_ne h (by decide), isS_ne h (by decide), isS_ne h (by decide), isS_ne h (by decide)⟩
      have j62 : Hid (isS t 62 = true → isS t 58 = false ∧ isS t 44 = false ∧ isS t 59 = false) := fun h => ⟨isS_ne h (by decide), isS_ne h (by decide), isS_ne h (by decide)⟩
      have j58 : Hid (isS t 58 = true → isS t 44 = false ∧ isS t 59 = false) := fun h => ⟨isS_ne h (by decide), isS_ne h (by decide)⟩
      have j44 : Hid (isS t 44 = true → isS t 59 = false) := fun h => isS_ne h (by decide)
      generalize strL (specL t) = S at cS e60 e62 e58 e44 e59
      generalize strL t.text = T at k1 cS
      generalize ((t.kind : Nat) : Int) = K at k0 cS
      generalize isS t 60 = x60 at e60 i3 j60
      generalize isS t 62 = x62 at e62 i1 j62 j60
      generalize isS t 58 = x58 at e58 i3 j58 j60 j62
      generalize isS t 44 = x44 at e44 i2 i3 j44 j60 j62 j58
      generalize isS t 59 = x59 at e59 i2 i3 j60 j62 j58 j44
      clear ht hfa HP
      cases x60 with
      | true =>
        obtain ⟨rfl, rfl, rfl, rfl⟩ := j60.out rfl
        cases b with
        | true =>
          have HG2 := Lib.hid (i1.out.symm.trans HG.out)
          clear HG i1 i2 i3 j60 j62 j58 j44
          go_wp2_with (go_at_call 44; (with_reducible refine (cS _).mono ?_); rintro e w2 ⟨rfl, hb2⟩; have hb3 := Lib.hid (hb.out.trans (hb2.mono hb.out.size)); clear hb2 cS)
          go_roundw
          case rel => exact ⟨s, k + 1, true, by omega, by omega, by go_num, by go_num, rfl, hb3, HG2⟩
          case measure => simp [intOf]; omega
        | false =>
          have HG2 := Lib.hid ((i3.out (by simp)).symm.trans HG.out)
          clear HG i1 i2 i3 j60 j62 j58 j44
          go_wp2_with (go_at_call 44; (with_reducible refine (cS _).mono ?_); rintro e w2 ⟨rfl, hb2⟩; have hb3 := Lib.hid (hb.out.trans (hb2.mono hb.out.size)); clear hb2 cS)
          go_roundw
          case rel => exact ⟨s, k + 1, true, by omega, by omega, by go_num, by go_num, rfl, hb3, HG2⟩
          case measure => simp [intOf]; omega
      | false =>
        cases x62 with
        | true =>
          obtain ⟨rfl, rfl, rfl⟩ := j62.out rfl
          cases b with
          | true =>
            have HG2 := Lib.hid (i1.out.symm.trans HG.out)
            clear HG i1 i2 i3 j60 j62 j58 j44
            go_wp2_with (go_at_call 44; (with_reducible refine (cS _).mono ?_); rintro e w2 ⟨rfl, hb2⟩; have hb3 := Lib.hid (hb.out.trans (hb2.mono hb.out.size)); clear hb2 cS)
            go_roundw
            case rel => exact ⟨s, k + 1, false, by omega, by omega, by go_num, by go_num, rfl, hb3, HG2⟩
            case measure => simp [intOf]; omega
          | false =>
            have HG2 := Lib.hid ((i3.out (by simp)).symm.trans HG.out)
            clear HG i1 i2 i3 j60 j62 j58 j44
            go_wp2_with (go_at_call 44; (with_reducible refine (cS _).mono ?_); rintro e w2 ⟨rfl, hb2⟩; have hb3 := Lib.hid (hb.out.trans (hb2.mono hb.out.size)); clear hb2 cS)
            go_roundw
            case rel => exact ⟨s, k + 1, false, by omega, by omega, by go_num, by go_num, rfl, hb3, HG2⟩
            case measure => simp [intOf]; omega
        | false =>
          cases b with
          | true =>
            have HG2 := Lib.hid (i1.out.symm.trans HG.out)
            clear HG i1 i2 i3 j60 j62 j58 j44
            go_wp2_with (go_at_call 44; (with_reducible refine (cS _).mono ?_); rintro e w2 ⟨rfl, hb2⟩; have hb3 := Lib.hid (hb.out.trans (hb2.mono hb.out.size)); clear hb2 cS)
            go_roundw
            case rel => exact ⟨s, k + 1, true, by omega, by omega, by go_num, by go_num, rfl, hb3, HG2⟩
            case measure => simp [intOf]; omega
          | false =>
            cases x58 with
            | true =>
              obtain ⟨rfl, rfl⟩ := j58.out rfl
              have HG2 := Lib.hid ((i3.out (by simp)).symm.trans HG.out)
              clear HG i1 i2 i3 j60 j62 j58 j44
              go_wp2_with (go_at_call 44; (with_reducible refine (cS _).mono ?_); rintro e w2 ⟨rfl, hb2⟩; have hb3 := Lib.hid (hb.out.trans (hb2.mono hb.out.size)); clear hb2 cS)
              go_roundw
              case rel => exact ⟨k + 1, k + 1, false, by omega, by omega, by go_num, by go_num, rfl, hb3, HG2⟩
              case measure => simp [intOf]; omega
            | false =>
              cases x44 with
              | true =>
                obtain rfl := j44.out rfl
                obtain ⟨rfl, rfl⟩ : s = p ∧ k = q := by
                  have := (i2.out (.inl rfl)).symm.trans HG.out
                  injection this with h1 h2
                  exact ⟨h1, h2⟩
                clear HG i1 i2 i3 j60 j62 j58 j44
                go_wp2_with (go_at_call 44; (with_reducible refine (cS _).mono ?_); rintro e w2 ⟨rfl, hb2⟩; have hb3 := Lib.hid (hb.out.trans (hb2.mono hb.out.size)); clear hb2 cS)
                rw [Exit.noGoto_ret]
                go_ret2
                exact ⟨rfl, hb3.out⟩
              | false =>
                cases x59 with
                | true =>
                  obtain ⟨rfl, rfl⟩ : s = p ∧ k = q := by
                    have := (i2.out (.inr rfl)).symm.trans HG.out
                    injection this with h1 h2
                    exact ⟨h1, h2⟩
                  clear HG i1 i2 i3 j60 j62 j58 j44
                  go_wp2_with (go_at_call 44; (with_reducible refine (cS _).mono ?_); rintro e w2 ⟨rfl, hb2⟩; have hb3 := Lib.hid (hb.out.trans (hb2.mono hb.out.size)); clear hb2 cS)
                  rw [Exit.noGoto_ret]
                  go_ret2
                  exact ⟨rfl, hb3.out⟩
                | false =>
                  have HG2 := Lib.hid ((i3.out (by simp)).symm.trans HG.out)
                  clear HG i1 i2 i3 j60 j62 j58 j44
                  go_wp2_with (go_at_call 44; (with_reducible refine (cS _).mono ?_); rintro e w2 ⟨rfl, hb2⟩; have hb3 := Lib.hid (hb.out.trans (hb2.mono hb.out.size)); clear hb2 cS)
                  go_roundw
                  case rel => exact ⟨s, k + 1, false, by omega, by omega, by go_num, by go_num, rfl, hb3, HG2⟩
                  case measure => simp [intOf]; omega
    · obtain rfl : k = n := by omega
      have hlt' : ¬ (k : Int) < (k : Int) := by omega
      obtain ⟨rfl, rfl⟩ : s = p ∧ k = q := by
        have := HG.out
        rw [List.drop_eq_nil_of_le (by rw [HN.out]; exact Nat.le_refl _), st_at_nil] at this
        injection this with h1 h2
        exact ⟨h1, h2⟩
      go_wp2_with fail
      go_ret2
      exact ⟨rfl, hb.out⟩
end Go.Proofs.YtgponokcigapaaaDoor
namespace Go.Proofs.YtgponokcigapaaaDoor
open Go.ChangeShapes Go.WideShapes Go.ChangeAt Go.RowKit
open TokP

theorem bd_first (w : World) : Bd (w.alloc (.cells #[.pointer none, .slice none 0 0] 59)) w.heap.size [] := bd_new (World.alloc_heap_new w _)
end Go.Proofs.YtgponokcigapaaaDoor
namespace Go.Proofs.YtgponokcigapaaaDoor
open Go.ChangeShapes Go.WideShapes Go.ChangeAt Go.RowKit

open TokP

theorem un_esc1 (l : List UInt8) (k : Nat) (d : UInt8) (h : l[k]? = some 92) (h2 : l[k + 1]? = some d) : unescS false (l.drop k) = d :: unescS false (l.drop (k + 2)) := by
  rw [cons_at l k 92 h, cons_at l (k + 1) d h2, unescS, if_pos rfl, unescS]
theorem un_esc0 (l : List UInt8) (k : Nat) (h : l[k]? = some 92) (h2 : l.length ≤ k + 1) : unescS false (l.drop k) = unescS false (l.drop (k + 2)) := by
  rw [cons_at l k 92 h, List.drop_eq_nil_of_le h2, List.drop_eq_nil_of_le (by omega)]; rfl
theorem un_break (l : List UInt8) (k : Nat) (c : UInt8) (h : l[k]? = some c) (h2 : c = 10 ∨ c = 13) : unescS false (l.drop k) = unescS false (l.drop (k + 1)) := by
  rw [cons_at l k c h, unescS, if_neg (by rcases h2 with rfl | rfl <;> decide), if_pos h2]
theorem un_plain (l : List UInt8) (k : Nat) (c : UInt8) (h : l[k]? = some c) (h1 : c ≠ 92) (h2 : ¬ (c = 10 ∨ c = 13)) : unescS false (l.drop k) = c :: unescS false (l.drop (k + 1)) := by
  rw [cons_at l k c h, unescS, if_neg h1, if_neg h2]
/-- The value of a token of any kind. -/
def valueI (K : Int) (l : List UInt8) : List UInt8 := if (K = 2 ∨ K = 3) ∧ 2 ≤ l.length then unescS false (l.drop 1).dropLast else l
theorem value_tok (t : Tok) : valueI (t.kind : Nat) t.text = valueL t := by
  unfold valueI valueL
  have : (((t.kind : Nat) : Int) = 2 ∨ ((t.kind : Nat) : Int) = 3) ↔ (t.kind = 2 ∨ t.kind = 3) := by omega
  simp only [this]
theorem inner_is (T : ByteArray) (h : 2 ≤ T.size) : T.extract 1 (T.size - 1) = strL (T.data.toList.drop 1).dropLast := by
  rw [part_of T 1 (T.size - 1) (by omega) (by omega), List.dropLast_eq_take, List.length_drop, ← size_list]
theorem value_yes (K : Int) (l : List UInt8) (h : K = 2 ∨ K = 3) (h2 : 2 ≤ l.length) : valueI K l = unescS false (l.drop 1).dropLast := by
  unfold valueI; rw [if_pos ⟨h, h2⟩]
theorem value_no (K : Int) (l : List UInt8) (h : ¬ ((K = 2 ∨ K = 3) ∧ 2 ≤ l.length)) : valueI K l = l := by
  unfold valueI; rw [if_neg h]
theorem esc_at (l : List UInt8) (k : Nat) (c : UInt8) (h : l[k]? = some c) : escL (l.drop k) = if held c = true then 92 :: c :: escL (l.drop (k + 1)) else c :: escL (l.drop (k + 1)) := by
  rw [cons_at l k c h, escL]
theorem esc_yes {l O R : List UInt8} {k : Nat} {c : UInt8} (h : l[k]? = some c) (hc : held c = true) (he : O ++ escL (l.drop k) = R) : (O ++ [92] ++ [c]) ++ escL (l.drop (k + 1)) = R := by
  rw [← he, esc_at l k c h, if_pos hc, List.append_assoc, List.append_assoc]; rfl
theorem esc_no {l O R : List UInt8} {k : Nat} {c : UInt8} (h : l[k]? = some c) (hc : held c = false) (he : O ++ escL (l.drop k) = R) : (O ++ [c]) ++ escL (l.drop (k + 1)) = R := by
  rw [← he, esc_at l k c h, if_neg (by rw [hc]; exact Bool.false_ne_true), List.append_assoc]; rfl
end Go.Proofs.YtgponokcigapaaaDoor
