/- CodeCut holds where what comes in is of bulk at most 1048576: for all values t and integers many the law returns true, and its arguments read afterwards as before. (Beyond it the law's own encoding of three strings of some 2^47 bytes, made before it asks whether the value is within the limits, passes what a slice may hold.) -/
import Derived.Test.YtbaddpkeaealpaaCut
import Derived.Test.YtbaddpkeaealpaaVArgs
import Derived.Deep.CondSized
namespace Go.Proofs.Ytbaddpkeaealpaa
open Go.ChangeShapes Go.WideShapes Go.ChangeAt Go.RowKit Go.Deep

section
variable {H : Type} {enc : TypeId × Value → H} {W : World}
theorem bulk_strs (l : List ByteArray) : Rows.uptoBulkAll (strs (H := H) l) = (l.map fun s => s.data.toList.length).sum + l.length := by
  induction l with
  | nil => rfl
  | cons s l ih =>
    have h : Rows.uptoBulkAll (strs (H := H) (s :: l)) = Rows.uptoBulk (DataW.lit (H := H) (.string s.data.toList)) + Rows.uptoBulkAll (strs (H := H) l) := rfl
    have h2 : Rows.uptoBulk (DataW.lit (H := H) (.string s.data.toList)) = s.data.toList.length + 1 := by rw [Rows.uptoBulk]
    rw [h, ih, h2, List.map_cons, List.sum_cons, List.length_cons]; omega
theorem bulk_lits (l : List Int) : Rows.uptoBulkAll (lits (H := H) .i64 l) = l.length := by
  induction l with
  | nil => rfl
  | cons s l ih =>
    have h : Rows.uptoBulkAll (lits (H := H) .i64 (s :: l)) = Rows.uptoBulk (DataW.lit (H := H) (.int .i64 s)) + Rows.uptoBulkAll (lits (H := H) .i64 l) := rfl
    have h2 : Rows.uptoBulk (DataW.lit (H := H) (.int .i64 s)) = 1 := rfl
    rw [h, ih, h2, List.length_cons]; omega
theorem strs_bulk {fuel : Nat} {v : Value} {x : DataW H × List MemPlace} (h : DataW.trod enc Try.prog W 0 (fun _ => true) true fuel 22 [v] = some x) {xs : List (List UInt8)} (hx : Has strV W v xs) :
    (xs.map List.length).sum + xs.length ≤ Rows.uptoBulk x.1 := by
  rcases open_strings Try.underlying22 Try.underlying9 cells9 h with ⟨hcs, _⟩ | ⟨a, len, cap, ss, hcs, _, hl, hm, hz, hy, hcell, hsz⟩
  · simp only [List.cons.injEq, and_true] at hcs
    have := has_len hx hcs
    rw [List.eq_nil_of_length_eq_zero this]; simp
  · simp only [List.cons.injEq, and_true] at hcs
    simp only [if_true] at hz
    have hlen := has_len hx hcs
    have e : xs = (ss.take len).map fun s => s.data.toList := by
      refine List.ext_getElem (by rw [List.length_map, List.length_take]; omega) fun j h1 h2 => ?_
      rcases hx with ⟨h3, _⟩ | ⟨a', c', h3, h4⟩
      · rw [hcs] at h3; cases h3
      · rw [hcs] at h3
        injection h3 with h3 _ _
        injection h3 with h3
        have h5 := h4 j h1
        have h6 := hcell j (by omega)
        rw [← h3, h6] at h5
        injection h5 with h5
        unfold strV at h5
        injection h5 with h5
        rw [List.getElem_map, List.getElem_take]
        have : ss.getD j ByteArray.empty = ss[j]'(by omega) := by
          rw [List.getD, List.getElem?_eq_getElem (by omega)]; rfl
        rw [this] at h5
        rw [h5]
    have hb : Rows.uptoBulk x.1 = Rows.uptoBulkAll (strs (H := H) (ss.take len)) + Rows.uptoBulkAll (strs (H := H) (ss.drop len)) + 1 := by rw [hy]; rfl
    rw [hb, bulk_strs, e, List.map_map, List.length_map]
    have : (List.length ∘ fun s : ByteArray => s.data.toList) = fun s : ByteArray => s.data.toList.length := rfl
    rw [this]; omega
theorem ints_bulk {fuel : Nat} {v : Value} {x : DataW H × List MemPlace} (h : DataW.trod enc Try.prog W 0 (fun _ => true) true fuel 23 [v] = some x) {xs : List Int} (hx : Has intV W v xs) : xs.length ≤ Rows.uptoBulk x.1 := by
  rcases open_ints Try.underlying23 Try.underlying3 cells3 h with ⟨hcs, _⟩ | ⟨a, len, cap, ss, hcs, _, hl, hm, hz, hy, hcell, hsz⟩
  · simp only [List.cons.injEq, and_true] at hcs
    rw [has_len hx hcs]; exact Nat.zero_le _
  · simp only [List.cons.injEq, and_true] at hcs
    simp only [if_true] at hz
    rw [has_len hx hcs]
    have hb : Rows.uptoBulk x.1 = Rows.uptoBulkAll (lits (H := H) .i64 (ss.take len)) + Rows.uptoBulkAll (lits (H := H) .i64 (ss.drop len)) + 1 := by rw [hy]; rfl
    rw [hb, bulk_lits, List.length_take]; omega
theorem value_bulk {fuel : Nat} {x : V} {y : DataW H × List MemPlace} (h : DataW.trod enc Try.prog W 0 (fun _ => true) true fuel 47 (cellsV x) = some y) (h1 : Has strV W x.tv x.texts) (h2 : Has intV W x.uv x.nums) :
    x.text.length ≤ Rows.uptoBulk y.1 ∧ (x.texts.map List.length).sum + x.texts.length ≤ Rows.uptoBulk y.1 ∧ x.nums.length ≤ Rows.uptoBulk y.1 := by
  obtain ⟨ys, n, rfl, hx, hlen, hyl, hf⟩ := DataW.trod_struct Try.underlying47 h
  match ys, hyl with
  | [y0, y1, y2, y3, y4], _ =>
    have f2 := hf 2 { name := "Text", type := 9, offset := 2, embedded := false, tag := "", pkgPath := "", byteOffset := 16 } rfl
    have f3 := hf 3 { name := "Texts", type := 22, offset := 3, embedded := false, tag := "", pkgPath := "", byteOffset := 32 } rfl
    have f4 := hf 4 { name := "Nums", type := 23, offset := 4, embedded := false, tag := "", pkgPath := "", byteOffset := 56 } rfl
    dsimp only at f2 f3 f4
    rw [cells9] at f2
    rw [cells22] at f3
    rw [cells23] at f4
    have g2 : DataW.trod enc Try.prog W 0 (fun _ => true) true n 9 [strV x.text] = some y2 := f2
    have g3 : DataW.trod enc Try.prog W 0 (fun _ => true) true n 22 [x.tv] = some y3 := f3
    have g4 : DataW.trod enc Try.prog W 0 (fun _ => true) true n 23 [x.uv] = some y4 := f4
    have hb : Rows.uptoBulk y.1 = (Rows.uptoBulk y0.1 + (Rows.uptoBulk y1.1 + (Rows.uptoBulk y2.1 + (Rows.uptoBulk y3.1 + (Rows.uptoBulk y4.1 + 0))))) + 1 := by rw [hx]; rfl
    have b3 := strs_bulk g3 h1
    have b4 := ints_bulk g4 h2
    obtain ⟨s, e2, e3, _⟩ := DataW.trod_string Try.underlying9 g2
    simp only [List.cons.injEq, and_true] at e2
    have hs : x.text.length = s.data.toList.length := by
      unfold strV at e2
      injection e2 with e2
      rw [← e2]
    have b2 : Rows.uptoBulk y2.1 = s.data.toList.length + 1 := by rw [e3, Rows.uptoBulk]
    exact ⟨by omega, by omega, by omega⟩
end

theorem cut_all (x : V) (m : Int) {w : World} (hx : Has strV w x.tv x.texts ∧ Has intV w x.uv x.nums) (ha : ArgV x) (b1 : x.text.length ≤ 1048576) (b2 : (x.texts.map List.length).sum + x.texts.length ≤ 1048576) (b3 : x.nums.length ≤ 1048576) :
    Calls Try.prog 7 #[valV x, .int .i64 m] w fun e w' => e = .returned (.bool true) ∧ Below w.heap.size w w' := by
  have hL := listL_len x.texts ha.size.texts ha.size.many
  have hN := numsL_len x.nums (fun y hy => (ha.nums y hy).2) ha.size.nums
  refine cut_any x m hx ha.size ⟨ha.n.2, by omega, by omega, by omega, by omega, fun y hy => (ha.nums y hy).2⟩ (fun hg => ?_) ?_
  · obtain ⟨h1, h2, h3, h4, h5⟩ := good_is hg
    obtain ⟨h6, h7⟩ := few_len h2
    have hr := reach_is
    exact ⟨⟨h1, ha.n.2⟩, by omega, fun y hy => by have := ha.size.texts y hy; omega, h6, fun y hy => ⟨h5 y hy, by have := (ha.nums y hy).2; omega⟩, h4⟩
  · unfold encV
    split
    · unfold varI
      split
      · simp
      · have := varL_nine (n := x.n.toNat) (by have := ha.n.2; omega)
        omega
    · split
      · rw [textL, List.length_append]
        have := varL_nine (n := x.text.length) (by omega)
        omega
      · split
        · omega
        · omega

theorem cut_contract (H : Type) (enc : TypeId × Value → H) (W : World) (base : Nat) (args : Array Value) (ds gs : List (DataW H)) (before : List MemPlace)
    (hval : ∀ (j : Nat) t v, Try.f7.params[j]? = some t → args[j]? = some v → Value.okWide Try.prog W .any base t v)
    (hW : DataW.Whole enc Try.prog Try.f7.params.toList Rows.codeCutSpec.vars false W args.toList ds gs before) (hk : Rows.uptoSmall H (ds ++ gs) = true)
    (hsz : (DataW.weightsEach Try.prog (Try.f7.params.toList ++ Rows.codeCutSpec.plain.varTypes Try.prog) (ds ++ gs)).all (· ≤ reachBytes) = true) :
    Calls Try.prog 7 args W fun e W' => ∃ v, e = .returned v ∧ Rows.codeCutSpec.post enc Try.prog Try.f7 false true false false W args v W' := by
  have hW' := hW
  obtain ⟨p, q, hA0, hV, rfl, hfz, hnd⟩ := hW
  have hA : DataW.TrodAll enc Try.prog W 0 (fun _ => true) true Try.f7.params.toList args.toList ds p := hA0
  rw [Try.params7] at hA hval hsz
  obtain ⟨v0, vs0, d0, ds0, p0, q0, e0, rfl, rfl, h0, r0⟩ := trodAll_cons hA
  obtain ⟨v1, vs1, d1, ds1, p1, q1, rfl, rfl, rfl, h1, r1⟩ := trodAll_cons r0
  obtain ⟨rfl, rfl, rfl⟩ := trodAll_nil r1
  obtain rfl : args = #[v0, v1] := by cases args; simp_all
  obtain ⟨rfl, rfl⟩ := trodVars_none hV
  have hlt0 : ∀ x ∈ p0, x.block < W.heap.size := fun x hx => by simpa using hW'.lt x (by simp [hx])
  have f0 := fits_of hsz (j := 0) rfl rfl
  obtain ⟨m, rfl, rfl, rfl, wm⟩ := open_int Try.underlying3 (hval 1 3 v1 rfl rfl) h1
  obtain ⟨cs, e3, _⟩ := okWide_struct Try.underlying47 (hval 0 47 v0 rfl rfl)
  obtain ⟨fu, hf⟩ := id h0
  have hcells : v0.cells.toList = cs.toList := by rw [e3]; rfl
  rw [hcells] at hf
  obtain ⟨x, hcs, hx1, hx2, hxa⟩ := value_cells hf f0
  rw [hcs] at hf
  obtain ⟨b1, b2, b3⟩ := value_bulk hf hx1 hx2
  have hv0 : v0 = valV x := by
    rw [e3]
    have : cs = (cellsV x).toArray := by rw [← hcs]
    rw [this]; rfl
  have hbk : Rows.uptoBulk d0 ≤ 1048576 := by
    have h : Rows.uptoBulkAll ([d0, DataW.lit (H := H) (.int .i64 m)] ++ []) ≤ 1048576 := of_decide_eq_true hk
    have h2 : Rows.uptoBulkAll ([d0, DataW.lit (H := H) (.int .i64 m)] ++ []) = Rows.uptoBulk d0 + (1 + 0) := rfl
    omega
  clear hA0 hf
  simp only [List.append_nil] at hW'
  have hc := cut_all x m ⟨hx1, hx2⟩ hxa (Nat.le_trans b1 hbk) (Nat.le_trans b2 hbk) (Nat.le_trans b3 hbk)
  rw [← hv0] at hc
  refine hc.mono fun e W' ⟨he, hg⟩ => ?_
  subst he
  refine ⟨_, rfl, _, _, _, [], p0 ++ [], [], hW', ?_, ?_, rfl, hg.frame _, fun h => by cases h⟩
  · exact trodAll_cons_mk (shut_bool Try.underlying4 _) trodAll_mk0
  · exact trodAll_mk2 (Below.trod laidOut (by kernel_rfl) (of_decide_eq_true (by kernel_rfl)) h0 hg hlt0) (shut_int Try.underlying3 wm)

set_option maxRecDepth 100000 in
theorem cut_lifted (os : Os) (started : os.Started) (H : Type) (enc : TypeId × Value → H) (F : Stop.Interp) :
    ReturnsInHanded {} Try.checked os 7 .any ((Rows.OpenSpec.upto Rows.codeCutSpec).pre6 enc Try.prog Try.f7 Rows.codeCutUptoRow.domain false) (((Rows.OpenSpec.upto Rows.codeCutSpec).at F).post enc Try.prog Try.f7 false true false false) := by
  refine returnsInHanded_of_cond_sized (C := Try.checked) (s := Rows.OpenSpec.upto Rows.codeCutSpec) (k := Rows.uptoSmall) rfl own started (by kernel_rfl) Try.func7
    (OpenSpec.witness (enc := enc) (C := Try.checked) (s := Rows.OpenSpec.upto Rows.codeCutSpec) (k := Rows.uptoSmall) rfl false ⟨#[], #[.agg #[.int .i64 0, .int .i64 0, .string ⟨#[]⟩, .slice none 0 0, .slice none 0 0], .int .i64 0], []⟩ 8 (by kernel_rfl) (by kernel_rfl) (by kernel_rfl)
      (x := ([.agg [.lit (.int .i64 0), .lit (.int .i64 0), .lit (.string []), .nil, .nil], .lit (.int .i64 0)], [], [])) (by kernel_rfl) rfl (by kernel_rfl)) ?_
  intro W base args ds gs before hval hW _ hk hsz _
  exact cut_contract H enc W base args ds gs before hval hW hk hsz
theorem cut_upto : Rows.CodeCutUptoSaid :=
  OpenClaim.holds_of_cond 7 Try.f7 rfl rfl rfl rfl rfl rfl rfl ⟨rfl, rfl, rfl, rfl, rfl⟩ rfl rfl rfl rfl rfl (by kernel_rfl) Try.func7 (by kernel_rfl)
    (of_decide_eq_true (by kernel_rfl)) (by unfold Func.isWrapper; first | (rw [if_pos (by decide +kernel)]; kernel_rfl) | (rw [if_neg (by decide +kernel)]; exact ⟨rfl, rfl⟩))
    (fun os started H enc _ F => cut_lifted os started H enc F)
#print axioms cut_upto
end Go.Proofs.Ytbaddpkeaealpaa
