/- The reference's Crlf, Stuff and Unstuff. -/
import Derived.Test.YtpoimbhfggkiiaaRefB
import Derived.Lib.AppendStr
import Derived.Laws.AppendOwn
namespace Go.Proofs.Ytpoimbhfggkiiaa
open Go.ChangeShapes Go.WideShapes Go.ChangeAt Go.RowKit
open LinesP

/-- The slice v holds out, in a block of its own from B on. -/
def Ow (w : World) (B : Nat) (v : Value) (out : List UInt8) : Prop := w.ownsRow B 5 1 v out.length (Lib.byteCells out)
theorem bytes_one (l : List UInt8) : ∀ u ∈ Lib.byteCells l, u.oneCell' = true := by
  intro u hu
  obtain ⟨c, _, rfl⟩ := List.mem_map.1 hu
  rfl
theorem wpList_str {ops : Array Oper} {rest : List Oper} {o : Oper} {a : Act} {w : World} {Q : Exit → Act → World → Prop} (hgd : o.guard = none) (s x : Operand) (ho : o.op = .call { callee := .builtin .append, args := #[s, x], argTypes := #[44, 9] })
    (B : Nat) {v : Value} {out : List UInt8} (X : ByteArray) (hs : a.eval s = v) (hx : a.eval x = .string X) (hown : Ow w B v out) (hb : B ≤ w.heap.size) (hl : out.length + X.size ≤ 1000000)
    (h : ∀ a' c' w', Ow w' B (.slice a' (out.length + X.size) c') (out ++ X.data.toList) → w.grownBy w' v.ownBlock → wpList Try.prog ops Q rest (a.put o.dst (.slice a' (out.length + X.size) c')) w') : wpList Try.prog ops Q (o :: rest) a w := by
  obtain ⟨i0, hi, hz0, hz1, hz2⟩ := info_parts info5
  refine Lib.wpList_append_own_string _ hgd s x 44 9 ho B 5 i0 Try.underlying44 Try.underlying9 hi hz0 hz1 hz2 v _ _ hs hown X hx (by unfold maxLen; omega) (by omega) hb ?_
  intro v' w' h1 h2 _
  rw [show Lib.strCells X = Lib.byteCells X.data.toList from rfl, ← Lib.byteCells_append, show out.length + X.size = (out ++ X.data.toList).length by rw [List.length_append, size_list]] at h1
  obtain ⟨a', c', rfl⟩ : ∃ a' c', v' = .slice a' (out.length + X.size) c' := by
    rw [size_list, ← List.length_append]
    rcases h1.2 with ⟨rfl, h0⟩ | ⟨g, cap, cur, rfl, _⟩
    · exact ⟨none, 0, by rw [h0]⟩
    · exact ⟨_, _, rfl⟩
  exact h a' c' w' h1 h2
theorem wpList_lit {ops : Array Oper} {rest : List Oper} {o : Oper} {a : Act} {w : World} {Q : Exit → Act → World → Prop} (hgd : o.guard = none) (s x : Operand) (ho : o.op = .call { callee := .builtin .append, args := #[s, x], argTypes := #[44, 44] })
    (B : Nat) {v : Value} {out : List UInt8} (news : List UInt8) (m : Nat) (hm : news.length = m) (hs : a.eval s = v) (hx : a.eval x = .slice (some ⟨w.heap.size, 0, none⟩) m m) (hown : Ow w B v out) (hb : B ≤ w.heap.size) (hl : out.length + m ≤ 1000000)
    (h : ∀ a' c' w', Ow w' B (.slice a' (out.length + m) c') (out ++ news) → (w.alloc (.cells (Lib.byteCells news).toArray 5)).grownBy w' v.ownBlock → wpList Try.prog ops Q rest (a.put o.dst (.slice a' (out.length + m) c')) w') : wpList Try.prog ops Q (o :: rest) a (w.alloc (.cells (Lib.byteCells news).toArray 5)) := by
  obtain ⟨i0, hi, hz0, hz1, hz2⟩ := info_parts info5
  subst hm
  have hnews : ∀ j u, (Lib.byteCells news)[j]? = some u → (w.alloc (.cells (Lib.byteCells news).toArray 5)).cell? ((⟨w.heap.size, 0, none⟩ : Addr).add j) = some u := fun j u hj => by
    have := World.cell?_alloc_mark w (Lib.byteCells news).toArray 5 (0, 0) j
    have e : (⟨w.heap.size, 0, none⟩ : Addr).add j = ⟨w.heap.size, j, none⟩ := by unfold Addr.add; split <;> simp_all
    rw [e, this, List.getElem?_toArray]; exact hj
  refine wpList_append_own _ hgd s x 44 ho B 5 i0 (.int .u8 0) 1 1 Try.underlying44 hi hz0 hz1 hz2 rfl (by decide) v _ _ hs (World.ownsRow.alloc hown _) ⟨w.heap.size, 0, none⟩ news.length news.length (Lib.byteCells news) hx (by rw [Lib.byteCells_length, Nat.mul_one]) hnews (bytes_one _) (by unfold maxLen; omega) (by omega) (by rw [World.size_alloc]; omega) ?_
  intro v' w' h1 h2 _
  rw [← Lib.byteCells_append, ← List.length_append] at h1
  obtain ⟨a', c', rfl⟩ : ∃ a' c', v' = .slice a' (out.length + news.length) c' := by
    rw [← List.length_append]
    rcases h1.2 with ⟨rfl, h0⟩ | ⟨g, cap, cur, rfl, _⟩
    · exact ⟨none, 0, by rw [h0]⟩
    · exact ⟨_, _, rfl⟩
  exact h a' c' w' h1 h2
/-- The older memory, the lines, and the row that is built. -/
structure Sc (w0 w : World) (u : Value) (xs : List (List UInt8)) (v : Value) (out : List UInt8) : Prop where
  bel : Below w0.heap.size w0 w
  own : Own w u xs
  out : Ow w w0.heap.size v out
theorem Sc.grow {w0 w w' : World} {u v v' : Value} {xs : List (List UInt8)} {out out' : List UInt8} (h : Sc w0 w u xs v out) (hg : w.grownBy w' v.ownBlock) (ho : Ow w' w0.heap.size v' out') : Sc w0 w' u xs v' out' := by
  refine ⟨h.bel.grown hg h.bel.size (fun k e => (World.ownsRow.lt h.out k e).1), ?_, ho⟩
  obtain ⟨b, h9⟩ := h.own
  refine ⟨b, h9.kept hg ?_⟩
  rcases h9.2 with ⟨rfl, _⟩ | ⟨g, cap, cur, rfl, _, hg9, _⟩
  · exact .inl rfl
  · right
    intro e
    rcases h.out.2 with ⟨rfl, _⟩ | ⟨g2, _, _, rfl, _, hg5, _⟩
    · simp [Value.ownBlock] at e
    · simp [Value.ownBlock] at e
      subst e
      have := hg9.symm.trans hg5
      simp at this
theorem Sc.alloc {w0 w : World} {u v : Value} {xs : List (List UInt8)} {out : List UInt8} (h : Sc w0 w u xs v out) (o : Obj) : Sc w0 (w.alloc o) u xs v out :=
  ⟨h.bel.alloc h.bel.size o, h.own.step ((Below.refl _ _).alloc (Nat.le_refl _) _), World.ownsRow.alloc h.out o⟩
theorem out_take (g : List UInt8 → List UInt8) (L : List (List UInt8)) (j : Nat) (x : List UInt8) (h : L[j]? = some x) : ((L.take (j + 1)).map g).flatten = ((L.take j).map g).flatten ++ g x := by
  rw [List.take_add_one, h]; simp
theorem out_size (g : List UInt8 → List UInt8) (hg : ∀ l, (g l).length ≤ l.length + 1) (l : List UInt8) (j : Nat) : (((splitL l).take j).map g).flatten.length ≤ 2 * l.length := by
  have key : ∀ L : List (List UInt8), (L.map g).flatten.length ≤ L.flatten.length + L.length := by
    intro L
    induction L with
    | nil => exact Nat.le_refl _
    | cons x r ih =>
      have := hg x
      simp only [List.map_cons, List.flatten_cons, List.length_append, List.length_cons]
      omega
  have h1 := key ((splitL l).take j)
  have h2 : ((splitL l).take j).flatten.length ≤ l.length := by
    have h3 := split_flat l
    rw [← List.take_append_drop j (splitL l), List.flatten_append] at h3
    rw [← congrArg List.length h3, List.length_append]
    omega
  have h4 := split_len l
  rw [List.length_take] at h1
  omega

set_option maxRecDepth 100000 in
set_option maxHeartbeats 4000000 in
theorem runstuff_any (s : ByteArray) (hs : s.size ≤ 20000) (w : World) :
    Calls Try.prog 20 #[.string s] w fun e w' => e = .returned (.string (strL (unstuffL s.data.toList))) ∧ Below w.heap.size w w' := by
  have hSp := rsplit_any s (by omega) w
  have hlen := out_size unstuff1 unstuff_len s.data.toList
  have hxl := @line_le s.data.toList
  have hG := good_mem (split_good s.data.toList)
  have hnl := split_len s.data.toList
  have hfin : (((splitL s.data.toList)).map unstuff1).flatten = unstuffL s.data.toList := rfl
  obtain ⟨L, hL⟩ : ∃ L, splitL s.data.toList = L := ⟨_, rfl⟩
  rw [hL] at hSp hlen hfin hG hnl
  simp only [hL] at hxl
  rw [← size_list] at hlen hnl
  obtain ⟨n, hn⟩ : ∃ n, L.length = n := ⟨_, rfl⟩
  have hSp' : Calls Try.prog 12 #[.string s] w fun e w' => ∃ a c, e = .returned (.slice a n c) ∧ Own w' (.slice a n c) L ∧ Below w.heap.size w w' := hSp.mono (by
    rintro e w' ⟨a, c, rfl, ho, hb⟩
    rw [hn] at ho
    exact ⟨a, c, by rw [hn], ⟨_, by rw [hn]; exact ho⟩, hb⟩)
  rw [hn] at hnl
  have hxl2 : ∀ x ∈ L, x.length ≤ 20000 := fun x hx => by have := hxl hx; rw [← size_list] at this; omega
  have HG := Lib.hid (And.intro hG hxl2)
  have HN := Lib.hid hn
  have HLen := Lib.hid hlen
  have HFin := Lib.hid hfin
  clear hSp hlen hxl hG hfin hL hn hxl2
  go_enter Try.func20, Try.ntmps20
  go_wp2_with (go_at_call 12; refine hSp'.mono ?_; rintro e w1 ⟨a1, c1, rfl, o1, hb1⟩)
  clear hSp'
  have hst : Sc w w1 (.slice a1 n c1) L (.slice none 0 0) [] := ⟨hb1, o1, ⟨rfl, .inl ⟨rfl, rfl⟩⟩⟩
  have HST := Lib.hid hst
  clear hst o1 hb1
  go_loopw [4, 5] (fun o i wr => ∃ j : Nat, j ≤ n ∧ i = .int .i64 j ∧ (∃ a c, o = .slice a (((L.take j).map unstuff1).flatten.length) c ∧ Hid (Sc w wr (.slice a1 n c1) L o (((L.take j).map unstuff1).flatten)))) (fun _ i _ => n - (intOf i).toNat)
  case atStart => exact ⟨0, Nat.zero_le _, rfl, none, 0, rfl, HST.out⟩
  case round =>
    obtain ⟨j, hj, rfl, a, c, rfl, hst⟩ := hrel
    have hol := HLen.out j
    by_cases hlt : j < n
    · obtain ⟨g1, rfl⟩ := hst.out.own.at (by omega)
      have hjl : j < L.length := by rw [HN.out]; exact hlt
      obtain ⟨x, hx⟩ : ∃ x, L[j]? = some x := ⟨_, List.getElem?_eq_getElem hjl⟩
      have hxm : x ∈ L := List.mem_of_getElem? hx
      have hxp := HG.out.1 x hxm
      have hxs := HG.out.2 x hxm
      have hk1 := hst.out.own.cell j x hx
      obtain ⟨A, hA⟩ : ∃ A, strL x = A := ⟨_, rfl⟩
      have sA : A.size = x.length := by rw [← hA, strL_size]
      have lA : A.data.toList = x := by rw [← hA]; rfl
      rw [hA] at hk1
      have hOut := out_take unstuff1 L j x hx
      have hw0 := hst.out.bel.size
      have HO : Hid ((((L.take (j + 1)).map unstuff1).flatten) = (((L.take j).map unstuff1).flatten) ++ unstuff1 x) := hOut
      generalize (((L.take j).map unstuff1).flatten) = O at hst hol HO ⊢
      have HXJ := Lib.hid hx
      have HA := Lib.hid hA
      clear hOut hjl hxm hx
      have hne : 0 < x.length := by
        rcases hxp with ⟨m, rfl, _⟩ | h
        · simp
        · exact List.length_pos_iff.2 h.1
      have RI := run_index_str A 0 0 rfl (by omega)
      have h0 : (A[0]'(by omega)) = x[0]'hne := by subst hA; rfl
      rw [h0] at RI
      have hhd : x.head? = some (x[0]'hne) := by rw [List.head?_eq_getElem?, List.getElem?_eq_getElem hne]
      generalize x[0]'hne = c0 at RI hhd
      by_cases hd : c0 = 46
      · subst hd
        have e1 : unstuff1 x = x.drop 1 := by unfold unstuff1; rw [if_pos hhd, List.drop_one]
        have R2 := run_slice_from A 1 1 rfl (by omega)
        obtain ⟨X, hX⟩ : ∃ X, A.extract 1 A.size = X := ⟨_, rfl⟩
        have lX : X.data.toList = unstuff1 x := by rw [← hX, part_rest A 1 (by omega), lA, e1]
        have sX : X.size ≤ 20000 := by rw [size_list, lX, e1, List.length_drop]; omega
        rw [hX] at R2
        have LX := Lib.hid lX
        have e46 : (((46 : UInt8).toNat : Int) == 46) = true := rfl
        clear hX lX e1 hhd h0 hA lA sA
        go_wp2_with (at_builtin; refine wpList_str rfl (.tmp 21) (.tmp 27) rfl w.heap.size X rfl rfl hst.out.out (by omega) (by omega) ?_; intro a2 c2 w2 h2 g2; have hs2 := Lib.hid (hst.out.grow g2 h2); clear h2 g2)
        go_roundw
        case rel => exact ⟨j + 1, by omega, by go_num, a2, c2, by rw [HO.out, List.length_append, ← LX.out, ← size_list], by rw [HO.out, ← LX.out]; exact hs2⟩
        case measure => simp [intOf]; omega
      · have e1 : unstuff1 x = x := by unfold unstuff1; rw [if_neg (by rw [hhd]; simp [hd])]
        have R2 := run_slice_from A 0 0 rfl (by omega)
        obtain ⟨X, hX⟩ : ∃ X, A.extract 0 A.size = X := ⟨_, rfl⟩
        have lX : X.data.toList = unstuff1 x := by rw [← hX, part_rest A 0 (by omega), lA, e1, List.drop_zero]
        have sX : X.size ≤ 20000 := by rw [size_list, lX, e1]; omega
        rw [hX] at R2
        have LX := Lib.hid lX
        have e46 : ((c0.toNat : Int) == 46) = false := by
          rw [beq_eq_false_iff_ne]; intro e; exact hd (UInt8.toNat_inj.1 (by show c0.toNat = 46; omega))
        clear hX lX e1 hhd h0 hA lA sA hd
        go_wp2_with (at_builtin; refine wpList_str rfl (.tmp 21) (.tmp 27) rfl w.heap.size X rfl rfl hst.out.out (by omega) (by omega) ?_; intro a2 c2 w2 h2 g2; have hs2 := Lib.hid (hst.out.grow g2 h2); clear h2 g2)
        go_roundw
        case rel => exact ⟨j + 1, by omega, by go_num, a2, c2, by rw [HO.out, List.length_append, ← LX.out, ← size_list], by rw [HO.out, ← LX.out]; exact hs2⟩
        case measure => simp [intOf]; omega
    · obtain rfl : j = n := by omega
      have hT : L.take j = L := List.take_of_length_le (by rw [HN.out]; exact Nat.le_refl _)
      rw [hT] at hst ⊢
      have hcv := conv_own rfl hst.out.out
      have hbel := Lib.hid hst.out.bel
      rw [HFin.out] at hcv ⊢
      obtain ⟨R, hR⟩ : ∃ R, unstuffL s.data.toList = R := ⟨_, rfl⟩
      rw [hR] at hcv ⊢
      have HR := Lib.hid hR
      clear hst hT hol hR
      go_wp2_with fail
      go_ret
      rw [HR.out]
      exact ⟨rfl, hbel.out⟩

set_option maxRecDepth 100000 in
set_option maxHeartbeats 4000000 in
theorem rstuff_any (s : ByteArray) (hs : s.size ≤ 20000) (w : World) :
    Calls Try.prog 18 #[.string s] w fun e w' => e = .returned (.string (strL (stuffL s.data.toList))) ∧ Below w.heap.size w w' := by
  have hSp := rsplit_any s (by omega) w
  have hlen := out_size stuff1 stuff_len s.data.toList
  have hxl := @line_le s.data.toList
  have hG := good_mem (split_good s.data.toList)
  have hnl := split_len s.data.toList
  have hfin : (((splitL s.data.toList)).map stuff1).flatten = stuffL s.data.toList := rfl
  obtain ⟨L, hL⟩ : ∃ L, splitL s.data.toList = L := ⟨_, rfl⟩
  rw [hL] at hSp hlen hfin hG hnl
  simp only [hL] at hxl
  rw [← size_list] at hlen hnl
  obtain ⟨n, hn⟩ : ∃ n, L.length = n := ⟨_, rfl⟩
  have hSp' : Calls Try.prog 12 #[.string s] w fun e w' => ∃ a c, e = .returned (.slice a n c) ∧ Own w' (.slice a n c) L ∧ Below w.heap.size w w' := hSp.mono (by
    rintro e w' ⟨a, c, rfl, ho, hb⟩
    rw [hn] at ho
    exact ⟨a, c, by rw [hn], ⟨_, by rw [hn]; exact ho⟩, hb⟩)
  rw [hn] at hnl
  have hxl2 : ∀ x ∈ L, x.length ≤ 20000 := fun x hx => by have := hxl hx; rw [← size_list] at this; omega
  have HG := Lib.hid (And.intro hG hxl2)
  have HN := Lib.hid hn
  have HLen := Lib.hid hlen
  have HFin := Lib.hid hfin
  clear hSp hlen hxl hG hfin hL hn hxl2
  go_enter Try.func18, Try.ntmps18
  go_wp2_with (go_at_call 12; refine hSp'.mono ?_; rintro e w1 ⟨a1, c1, rfl, o1, hb1⟩)
  clear hSp'
  have hst : Sc w w1 (.slice a1 n c1) L (.slice none 0 0) [] := ⟨hb1, o1, ⟨rfl, .inl ⟨rfl, rfl⟩⟩⟩
  have HST := Lib.hid hst
  clear hst o1 hb1
  go_loopw [4, 5] (fun o i wr => ∃ j : Nat, j ≤ n ∧ i = .int .i64 j ∧ (∃ a c, o = .slice a (((L.take j).map stuff1).flatten.length) c ∧ Hid (Sc w wr (.slice a1 n c1) L o (((L.take j).map stuff1).flatten)))) (fun _ i _ => n - (intOf i).toNat)
  case atStart => exact ⟨0, Nat.zero_le _, rfl, none, 0, rfl, HST.out⟩
  case round =>
    obtain ⟨j, hj, rfl, a, c, rfl, hst⟩ := hrel
    have hol := HLen.out j
    by_cases hlt : j < n
    · obtain ⟨g1, rfl⟩ := hst.out.own.at (by omega)
      have hjl : j < L.length := by rw [HN.out]; exact hlt
      obtain ⟨x, hx⟩ : ∃ x, L[j]? = some x := ⟨_, List.getElem?_eq_getElem hjl⟩
      have hxm : x ∈ L := List.mem_of_getElem? hx
      have hxp := HG.out.1 x hxm
      have hxs := HG.out.2 x hxm
      have hk1 := hst.out.own.cell j x hx
      obtain ⟨A, hA⟩ : ∃ A, strL x = A := ⟨_, rfl⟩
      have sA : A.size = x.length := by rw [← hA, strL_size]
      have lA : A.data.toList = x := by rw [← hA]; rfl
      rw [hA] at hk1
      have hOut := out_take stuff1 L j x hx
      have hw0 := hst.out.bel.size
      have HO : Hid ((((L.take (j + 1)).map stuff1).flatten) = (((L.take j).map stuff1).flatten) ++ stuff1 x) := hOut
      generalize (((L.take j).map stuff1).flatten) = O at hst hol HO ⊢
      have HXJ := Lib.hid hx
      have HA := Lib.hid hA
      clear hOut hjl hxm hx
      have hne : 0 < x.length := by
        rcases hxp with ⟨m, rfl, _⟩ | h
        · simp
        · exact List.length_pos_iff.2 h.1
      have RI := run_index_str A 0 0 rfl (by omega)
      have h0 : (A[0]'(by omega)) = x[0]'hne := by subst hA; rfl
      rw [h0] at RI
      have hhd : x.head? = some (x[0]'hne) := by rw [List.head?_eq_getElem?, List.getElem?_eq_getElem hne]
      generalize x[0]'hne = c0 at RI hhd
      have hAz : A.size ≤ 20000 := by omega
      clear h0 sA
      by_cases hd : c0 = 46
      · subst hd
        have e1 : stuff1 x = [46] ++ A.data.toList := by unfold stuff1; rw [if_pos hhd, lA]; rfl
        have E1 := Lib.hid e1
        have e46 : (((46 : UInt8).toNat : Int) == 46) = true := rfl
        clear e1 hhd hA lA hxp hne
        go_wp2_with (first
          | (at_builtin; refine wpList_lit rfl (.tmp 20) (.tmp 21) rfl w.heap.size [46] 1 rfl rfl rfl hst.out.out (by omega) (by omega) ?_; intro a2 c2 w2 h2 g2; have hs2 := Lib.hid ((hst.out.alloc _).grow g2 h2); have hk2 := hs2.out.own.cell j x (by exact HXJ.out); rw [HA.out] at hk2; have hw2 := hs2.out.bel.size; clear h2 g2)
          | (at_builtin; refine wpList_str rfl (.tmp 23) (.tmp 27) rfl w.heap.size A rfl rfl hs2.out.out (by omega) (by rw [List.length_append]; simp; omega) ?_; intro a3 c3 w3 h3 g3; have hs3 := hs2.out.grow g3 h3; rw [List.length_append, List.length_singleton] at hs3; replace hs3 := Lib.hid hs3; clear h3 g3))
        go_roundw
        case rel => exact ⟨j + 1, by omega, by go_num, a3, c3, by rw [HO.out, E1.out]; refine congrArg (fun k => Value.slice a3 k c3) ?_; rw [List.length_append, List.length_append, size_list, List.length_singleton]; omega, by rw [HO.out, E1.out, ← List.append_assoc]; exact hs3⟩
        case measure => simp [intOf]; omega
      · have e1 : stuff1 x = A.data.toList := by unfold stuff1; rw [if_neg (by rw [hhd]; simp [hd]), lA]
        have E1 := Lib.hid e1
        have e46 : ((c0.toNat : Int) == 46) = false := by
          rw [beq_eq_false_iff_ne]; intro e; exact hd (UInt8.toNat_inj.1 (by show c0.toNat = 46; omega))
        clear e1 hhd hA lA hd hxp hne
        go_wp2_with (at_builtin; refine wpList_str rfl (.tmp 23) (.tmp 27) rfl w.heap.size A rfl rfl hst.out.out (by omega) (by omega) ?_; intro a2 c2 w2 h2 g2; have hs2 := Lib.hid (hst.out.grow g2 h2); clear h2 g2)
        go_roundw
        case rel => exact ⟨j + 1, by omega, by go_num, a2, c2, by rw [HO.out, List.length_append, E1.out, ← size_list], by rw [HO.out, E1.out]; exact hs2⟩
        case measure => simp [intOf]; omega
    · obtain rfl : j = n := by omega
      have hT : L.take j = L := List.take_of_length_le (by rw [HN.out]; exact Nat.le_refl _)
      rw [hT] at hst ⊢
      have hcv := conv_own rfl hst.out.out
      have hbel := Lib.hid hst.out.bel
      rw [HFin.out] at hcv ⊢
      obtain ⟨R, hR⟩ : ∃ R, stuffL s.data.toList = R := ⟨_, rfl⟩
      rw [hR] at hcv ⊢
      have HR := Lib.hid hR
      clear hst hT hol hR
      go_wp2_with fail
      go_ret
      rw [HR.out]
      exact ⟨rfl, hbel.out⟩

set_option maxRecDepth 100000 in
set_option maxHeartbeats 4000000 in
theorem rcrlf_any (s : ByteArray) (hs : s.size ≤ 20000) (w : World) :
    Calls Try.prog 16 #[.string s] w fun e w' => e = .returned (.string (strL (crlfL s.data.toList))) ∧ Below w.heap.size w w' := by
  have hSp := rsplit_any s (by omega) w
  have hlen := out_size crlf1 crlf_len s.data.toList
  have hxl := @line_le s.data.toList
  have hG := good_mem (split_good s.data.toList)
  have hnl := split_len s.data.toList
  have hfin : (((splitL s.data.toList)).map crlf1).flatten = crlfL s.data.toList := rfl
  obtain ⟨L, hL⟩ : ∃ L, splitL s.data.toList = L := ⟨_, rfl⟩
  rw [hL] at hSp hlen hfin hG hnl
  simp only [hL] at hxl
  rw [← size_list] at hlen hnl
  obtain ⟨n, hn⟩ : ∃ n, L.length = n := ⟨_, rfl⟩
  have hSp' : Calls Try.prog 12 #[.string s] w fun e w' => ∃ a c, e = .returned (.slice a n c) ∧ Own w' (.slice a n c) L ∧ Below w.heap.size w w' := hSp.mono (by
    rintro e w' ⟨a, c, rfl, ho, hb⟩
    rw [hn] at ho
    exact ⟨a, c, by rw [hn], ⟨_, by rw [hn]; exact ho⟩, hb⟩)
  rw [hn] at hnl
  have hxl2 : ∀ x ∈ L, x.length ≤ 20000 := fun x hx => by have := hxl hx; rw [← size_list] at this; omega
  have HG := Lib.hid (And.intro hG hxl2)
  have HN := Lib.hid hn
  have HLen := Lib.hid hlen
  have HFin := Lib.hid hfin
  clear hSp hlen hxl hG hfin hL hn hxl2
  go_enter Try.func16, Try.ntmps16
  go_wp2_with (go_at_call 12; refine hSp'.mono ?_; rintro e w1 ⟨a1, c1, rfl, o1, hb1⟩)
  clear hSp'
  have hst : Sc w w1 (.slice a1 n c1) L (.slice none 0 0) [] := ⟨hb1, o1, ⟨rfl, .inl ⟨rfl, rfl⟩⟩⟩
  have HST := Lib.hid hst
  clear hst o1 hb1
  go_loopw [4, 5] (fun o i wr => ∃ j : Nat, j ≤ n ∧ i = .int .i64 j ∧ (∃ a c, o = .slice a (((L.take j).map crlf1).flatten.length) c ∧ Hid (Sc w wr (.slice a1 n c1) L o (((L.take j).map crlf1).flatten)))) (fun _ i _ => n - (intOf i).toNat)
  case atStart => exact ⟨0, Nat.zero_le _, rfl, none, 0, rfl, HST.out⟩
  case round =>
    obtain ⟨j, hj, rfl, a, c, rfl, hst⟩ := hrel
    have hol := HLen.out j
    by_cases hlt : j < n
    · obtain ⟨g1, rfl⟩ := hst.out.own.at (by omega)
      have hjl : j < L.length := by rw [HN.out]; exact hlt
      obtain ⟨x, hx⟩ : ∃ x, L[j]? = some x := ⟨_, List.getElem?_eq_getElem hjl⟩
      have hxm : x ∈ L := List.mem_of_getElem? hx
      have hxp := HG.out.1 x hxm
      have hxs := HG.out.2 x hxm
      have hk1 := hst.out.own.cell j x hx
      obtain ⟨A, hA⟩ : ∃ A, strL x = A := ⟨_, rfl⟩
      have sA : A.size = x.length := by rw [← hA, strL_size]
      have lA : A.data.toList = x := by rw [← hA]; rfl
      rw [hA] at hk1
      have hOut := out_take crlf1 L j x hx
      have hw0 := hst.out.bel.size
      have HO : Hid ((((L.take (j + 1)).map crlf1).flatten) = (((L.take j).map crlf1).flatten) ++ crlf1 x) := hOut
      generalize (((L.take j).map crlf1).flatten) = O at hst hol HO ⊢
      have HXJ := Lib.hid hx
      have HA := Lib.hid hA
      clear hOut hjl hxm hx
      have hB := rbare_any A (by omega) wr
      rw [lA] at hB
      have hbl := bare_le x
      obtain ⟨D, hD⟩ : ∃ D, strL (bareL x) = D := ⟨_, rfl⟩
      have sD : D.size = (bareL x).length := by rw [← hD, strL_size]
      have hDz : D.size ≤ 20000 := by omega
      have lD : D.data.toList = bareL x := by rw [← hD]; rfl
      rw [hD] at hB
      rcases hxp with hxp | hxp
      · have e1 : crlf1 x = D.data.toList ++ [13, 10] := by rw [crlf_term hxp, lD]
        have hlt1 : D.size < A.size := by
          obtain ⟨m, rfl, hm⟩ := hxp
          rw [sD, sA, bare_term, List.length_append]
          split
          · rw [List.length_dropLast]; simp; omega
          · simp
        have hlt2 : (D.size : Int) < (A.size : Int) := by omega
        have E1 := Lib.hid e1
        clear e1 hA lA hxp hD lD hbl sA sD hlt1
        go_wp2_with (first
          | (go_at_call 14; refine hB.mono ?_; rintro e w9 ⟨rfl, hw⟩; rw [← hw]; clear hw w9 hB)
          | (at_builtin; refine wpList_str rfl (.tmp 20) (.tmp 21) rfl w.heap.size D rfl rfl hst.out.out (by omega) (by omega) ?_; intro a2 c2 w2 h2 g2; have hs2 := Lib.hid (hst.out.grow g2 h2); have hk2 := hs2.out.own.cell j x (by exact HXJ.out); rw [HA.out] at hk2; have hw2 := hs2.out.bel.size; clear h2 g2)
          | (at_builtin; refine wpList_lit rfl (.tmp 31) (.tmp 32) rfl w.heap.size [13, 10] 2 rfl rfl rfl (by have h := hs2.out.out; exact h) (by omega) (by rw [List.length_append, ← size_list]; omega) ?_; intro a3 c3 w3 h3 g3; have hs3 := (hs2.out.alloc _).grow g3 h3; rw [List.length_append, ← size_list] at hs3; replace hs3 := Lib.hid hs3; clear h3 g3))
        go_roundw
        case rel => exact ⟨j + 1, by omega, by go_num, a3, c3, by rw [HO.out, E1.out]; refine congrArg (fun k => Value.slice a3 k c3) ?_; rw [List.length_append, List.length_append, size_list]; simp; omega, by rw [HO.out, E1.out, ← List.append_assoc]; exact hs3⟩
        case measure => simp [intOf]; omega
      · have e1 : crlf1 x = D.data.toList := by rw [crlf_tail hxp, lD, bare_tail hxp]
        have hlt1 : D.size = A.size := by rw [sD, sA, bare_tail hxp]
        have hlt2 : ¬ (D.size : Int) < (A.size : Int) := by omega
        have E1 := Lib.hid e1
        clear e1 hA lA hxp hD lD hbl sA sD hlt1
        go_wp2_with (first
          | (go_at_call 14; refine hB.mono ?_; rintro e w9 ⟨rfl, hw⟩; rw [← hw]; clear hw w9 hB)
          | (at_builtin; refine wpList_str rfl (.tmp 20) (.tmp 21) rfl w.heap.size D rfl rfl hst.out.out (by omega) (by omega) ?_; intro a2 c2 w2 h2 g2; have hs2 := Lib.hid (hst.out.grow g2 h2); have hk2 := hs2.out.own.cell j x (by exact HXJ.out); rw [HA.out] at hk2; clear h2 g2))
        go_roundw
        case rel => exact ⟨j + 1, by omega, by go_num, a2, c2, by rw [HO.out, List.length_append, E1.out, ← size_list], by rw [HO.out, E1.out]; exact hs2⟩
        case measure => simp [intOf]; omega
    · obtain rfl : j = n := by omega
      have hT : L.take j = L := List.take_of_length_le (by rw [HN.out]; exact Nat.le_refl _)
      rw [hT] at hst ⊢
      have hcv := conv_own rfl hst.out.out
      have hbel := Lib.hid hst.out.bel
      rw [HFin.out] at hcv ⊢
      obtain ⟨R, hR⟩ : ∃ R, crlfL s.data.toList = R := ⟨_, rfl⟩
      rw [hR] at hcv ⊢
      have HR := Lib.hid hR
      clear hst hT hol hR
      go_wp2_with fail
      go_ret
      rw [HR.out]
      exact ⟨rfl, hbel.out⟩
end Go.Proofs.Ytpoimbhfggkiiaa
