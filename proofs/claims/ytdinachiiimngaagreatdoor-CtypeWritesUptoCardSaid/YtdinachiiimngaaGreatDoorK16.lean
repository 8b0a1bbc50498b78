/- All and Get. How long the fields of a header are. -/
import Derived.Test.YtdinachiiimngaaGreatDoorK15
namespace Go.Proofs.YtdinachiiimngaaGreatDoor.Hd
open Go.ChangeShapes Go.WideShapes Go.ChangeAt Go.RowKit
open LinesP HdrP

attribute [local go_sem] Oper.semAt_some

set_option maxHeartbeats 1000000 in
theorem values_any (v : Value) (hv : ∃ a n c, v = .slice a n c) (nm : ByteArray) (w : World) :
    Calls Tryz.prog 61 #[v, .string nm] w fun e w' => e = .returned (.func (.func 93) #[] #[.pointer (some ⟨w.heap.size, 0, none⟩), .pointer (some ⟨w.heap.size + 1, 0, none⟩)]) ∧ w' = (w.alloc (.cells #[v] 45)).alloc (.cells #[.string nm] 9) := by
  obtain ⟨a, n, c, rfl⟩ := hv
  go_enter Tryz.func61, Tryz.ntmps61
  go_wp2_with fail
  go_ret
  exact ⟨by simp, rfl⟩
set_option maxRecDepth 100000 in
set_option maxHeartbeats 2000000 in
theorem vals_none (n b1 b2 : Nat) (xs : List ByteArray) (hx : xs = []) (K : Nat → Prop) :
    Gives n Tryz.prog 93 #[.pointer (some ⟨b1, 0, none⟩), .pointer (some ⟨b2, 0, none⟩)] (fun A B => Below A.heap.size A B) K (fun _ => True) (fun W => Boxed W b1 45 (.slice none 0 0)) xs := by
  subst hx
  intro L J Jx W hJ _ hY hb h0
  have c1 := hb.cell
  clear hY hJ
  refine callsIn_of_wp Tryz.func93 rfl trivial ?_ rfl
  simp only [Tryz.ntmps93, List.size_toArray, List.length_cons, List.length_nil, Nat.reduceAdd, Nat.reduceSub, Array.replicate_succ, Array.replicate_zero, List.push_toArray, List.append_toArray, List.nil_append, List.cons_append]
  gi_wp2
  gi_loopw [5, 8] (fun _ i wr => i = .int .i64 0 ∧ wr = W) (fun _ _ _ => 0)
  case atStart => exact ⟨rfl, rfl⟩
  case round =>
    obtain ⟨rfl, rfl⟩ := hrel
    gi_wp2
    go_end0
    exact ⟨⟨_, rfl⟩, .inl h0⟩
/-- What a reader of the fields needs of its iterator. -/
theorem vals_has {w : World} {v : Value} {l : List Fld} (h : HasF w v l) (nm : ByteArray) (hl : l.length ≤ 4000000) (hsz : ∀ f ∈ l, f.name.length ≤ 4000000 ∧ f.value.length ≤ 4000000) (b1 b2 : Nat) :
    ∃ (K : Nat → Prop) (S : World → Prop), (∀ n, 2 ≤ n → Gives n Tryz.prog 93 #[.pointer (some ⟨b1, 0, none⟩), .pointer (some ⟨b2, 0, none⟩)] (fun A B => Below A.heap.size A B) K (fun _ => True) S (valsB l nm.data.toList)) ∧
      (∀ k, K k → k = b1 ∨ k = b2 ∨ k < w.heap.size) ∧ (∀ w', Below w.heap.size w w' → Boxed w' b1 45 v → Boxed w' b2 9 (.string nm) → S w') := by
  rcases h with ⟨rfl, rfl⟩ | ⟨g, o, c, rfl, h⟩
  · exact ⟨fun _ => False, _, fun n _ => vals_none n b1 b2 _ rfl _, fun k hk => hk.elim, fun w' _ h1 _ => h1⟩
  · refine ⟨fun k => k = b1 ∨ k = b2 ∨ (k = g ∧ l ≠ []), _, fun n hn => vals_gives n hn b1 b2 g o c nm l l.length rfl hl hsz, fun k hk => ?_, fun w' hb h1 h2 => ⟨h1, h2, h.step hb⟩⟩
    rcases hk with hk | hk | ⟨hk, h0⟩
    · exact .inl hk
    · exact .inr (.inl hk)
    · rw [hk]; exact .inr (.inr (h.lt h0))
theorem HasF.slice {w : World} {v : Value} {l : List Fld} (h : HasF w v l) : ∃ a n c, v = .slice a n c := by
  rcases h with ⟨rfl, _⟩ | ⟨g, o, c, rfl, _⟩
  · exact ⟨_, _, _, rfl⟩
  · exact ⟨_, _, _, rfl⟩
theorem vals_len (l : List Fld) (nm : List UInt8) : (valsB l nm).length ≤ l.length := by
  unfold valsB allL
  rw [List.length_map, List.length_map]
  exact List.length_filter_le _ _
theorem low_kept (A B : World) (h : Below A.heap.size A B) : A.heap.size ≤ B.heap.size ∧ ∀ (k : Nat) (o : Obj), A.heap[k]? = some o → o.isCells = false → B.heap[k]? = some o :=
  ⟨h.size, fun k _ hk _ => (h.block k (Array.getElem?_eq_some_iff.1 hk).1).trans hk⟩
section
variable {B : Nat} {W W' : World}
theorem box_low {b : Nat} {t : TypeId} {v : Value} (h : Boxed W b t v) (hg : Below W.heap.size W W' ∨ Book B W W') : Boxed W' b t v := by
  rcases hg with hg | ⟨row, hg, hr⟩
  · exact (hg.block b h.lt).trans h
  · refine h.kept hg fun e => ?_
    obtain ⟨_, o, ho, hc⟩ := hr b e.symm
    rw [show W.heap[b]? = _ from h] at ho; cases ho; cases hc
theorem own_low {base : Nat} {e : TypeId} {size : Nat} {v : Value} {n : Nat} {xs : List Value} (h : W.ownsRow base e size v n xs) (hg : Below W.heap.size W W' ∨ Book B W W') : W'.ownsRow base e size v n xs := by
  rcases hg with hg | ⟨row, hg, hr⟩
  · exact own_below h hg
  · refine h.kept hg ?_
    rcases h.2 with ⟨rfl, _⟩ | ⟨g, cap, cur, rfl, _, hgb, _⟩
    · exact .inl rfl
    · refine .inr fun e' => ?_
      obtain ⟨_, o, ho, hc⟩ := hr g (by simpa [Value.ownBlock] using e'.symm)
      rw [hgb] at ho; cases ho; cases hc
theorem low_low {w : World} {C : Nat} (h : Below C w W) (hg : Below W.heap.size W W' ∨ Book B W W') (hC : C ≤ w.heap.size) (hB : C ≤ B) : Below C w W' := by
  rcases hg with hg | ⟨row, hg, hr⟩
  · exact h.trans (hg.mono (Nat.le_trans hC h.size))
  · exact h.grown hg (Nat.le_trans hC h.size) (fun k e => by have := (hr k e).1; omega)
end
theorem firstB (xs : List ByteArray) (ys : List (List UInt8)) (h : xs = ys.map strL) : xs.head? = ys.head?.map strL := by rw [h]; cases ys <;> rfl
/-- Get: the first value, if there is one. -/
def getV (l : List (List UInt8)) : Value := match l with
  | [] => .tuple #[.string ⟨#[]⟩, .bool false]
  | x :: _ => .tuple #[.string (strL x), .bool true]
theorem run_loadVar_str {P : Program} {t : TypeId} (hu : P.underlying t = some .string) {w : World} {b : Nat} {v : Value} (h : w.cell? ⟨b, 0, none⟩ = some v) : (loadVar t ⟨b, 0, none⟩).run P w = .ok v w := by
  unfold loadVar
  simp [go_sem, isAgg, run_underlying hu, h]
theorem run_loadVar_bool {P : Program} {t : TypeId} (hu : P.underlying t = some .bool) {w : World} {b : Nat} {v : Value} (h : w.cell? ⟨b, 0, none⟩ = some v) : (loadVar t ⟨b, 0, none⟩).run P w = .ok v w := by
  unfold loadVar
  simp [go_sem, isAgg, run_underlying hu, h]
theorem results_get {fn : Func} (h : fn.results = #[.cell 4 9, .cell 5 4]) (tmps : Array Value) (w : World) {b1 b2 : Nat} {v1 v2 : Value}
    (h1 : tmps.getD 4 undef = .pointer (some ⟨b1, 0, none⟩)) (h2 : tmps.getD 5 undef = .pointer (some ⟨b2, 0, none⟩)) (c1 : w.cell? ⟨b1, 0, none⟩ = some v1) (c2 : w.cell? ⟨b2, 0, none⟩ = some v2) :
    (results fn tmps).run Tryz.prog w = .ok (.tuple #[v1, v2]) w := by
  have h1' : tmps[4]?.getD undef = .pointer (some ⟨b1, 0, none⟩) := by simpa using h1
  have h2' : tmps[5]?.getD undef = .pointer (some ⟨b2, 0, none⟩) := by simpa using h2
  simp [results, h, h1', h2', asAddr, run_loadVar_str Tryz.underlying9 c1, run_loadVar_bool Tryz.underlying4 c2, Sem.run_bind, Result.andThen]
set_option maxRecDepth 100000 in
set_option maxHeartbeats 2000000 in
theorem get_any (v : Value) (l : List Fld) (nm : ByteArray) (w : World) (h : HasF w v l) (hl : l.length ≤ 900000) (hsz : ∀ f ∈ l, f.name.length ≤ 4000000 ∧ f.value.length ≤ 4000000) :
    Calls Tryz.prog 28 #[v, .string nm] w fun e w' => e = .returned (getV (allL l nm.data.toList)) ∧ Below w.heap.size w w' := by
  obtain ⟨a0, n0, c0, rfl⟩ := h.slice
  obtain ⟨K, S, hG, hK, hS⟩ := vals_has h nm (by omega) hsz (w.heap.size + 2) (w.heap.size + 3)
  have hG := hG 8 (by decide)
  have hres : valsB l nm.data.toList = (allL l nm.data.toList).map strL := rfl
  generalize valsB l nm.data.toList = xs at hG hres
  generalize allL l nm.data.toList = ys at hres ⊢
  have HR := Lib.hid hres
  clear h hsz hres
  refine (callsIn_wide (n := 9)).1 (callsIn_of_wp_marks Tryz.func28 rfl trivial ?_ rfl)
  simp only [Tryz.ntmps28, List.size_toArray, List.length_cons, List.length_nil, Nat.reduceAdd, Nat.reduceSub, Array.replicate_succ, Array.replicate_zero, List.push_toArray, List.append_toArray, List.nil_append, List.cons_append]
  have cV := fun w => values_any (.slice a0 n0 c0) ⟨_, _, _, rfl⟩ nm w
  gi_wp2_with (refine ⟨trivial, ?_⟩; gi_at_call 61; refine (callsIn_wide.2 (cV _)).mono ?_; rintro e w2 ⟨rfl, rfl⟩)
  have b0 := Boxed.new w 9 (.string ⟨#[]⟩)
  have d0 := Boxed.new (w.alloc (.cells #[.string ⟨#[]⟩] 9)) 4 (.bool false)
  have b1 := Boxed.new ((w.alloc (.cells #[.string ⟨#[]⟩] 9)).alloc (.cells #[.bool false] 4)) 45 (.slice a0 n0 c0)
  have b2 := Boxed.new (((w.alloc (.cells #[.string ⟨#[]⟩] 9)).alloc (.cells #[.bool false] 4)).alloc (.cells #[.slice a0 n0 c0] 45)) 9 (.string nm)
  simp only [World.size_alloc] at d0 b1 b2
  have hb3 : Below w.heap.size w ((((w.alloc (.cells #[.string ⟨#[]⟩] 9)).alloc (.cells #[.bool false] 4)).alloc (.cells #[.slice a0 n0 c0] 45)).alloc (.cells #[.string nm] 9)) := ((((Below.refl _ w).alloc (Nat.le_refl _) _).alloc (by simp) _).alloc (by simp; omega) _).alloc (by simp; omega) _
  have hz3 : ((((w.alloc (.cells #[.string ⟨#[]⟩] 9)).alloc (.cells #[.bool false] 4)).alloc (.cells #[.slice a0 n0 c0] 45)).alloc (.cells #[.string nm] 9)).heap.size = w.heap.size + 4 := by simp
  replace b0 := ((b0.alloc (.cells #[.bool false] 4)).alloc (.cells #[.slice a0 n0 c0] 45)).alloc (.cells #[.string nm] 9)
  replace d0 := (d0.alloc (.cells #[.slice a0 n0 c0] 45)).alloc (.cells #[.string nm] 9)
  replace b1 := b1.alloc (.cells #[.string nm] 9)
  generalize (((w.alloc (.cells #[.string ⟨#[]⟩] 9)).alloc (.cells #[.bool false] 4)).alloc (.cells #[.slice a0 n0 c0] 45)).alloc (.cells #[.string nm] 9) = w3 at b0 d0 b1 b2 hb3 hz3 ⊢
  clear cV
  refine wp_iter (by decide) rfl (enters_of Tryz.func93 (by kernel_rfl) rfl) rfl hG (fun o o' => hS _ ((hb3.alloc (by omega) _).alloc (by rw [World.size_alloc]; omega) _) ((b1.alloc o).alloc o') ((b2.alloc o).alloc o')) (fun k hk => by have := hK k hk; omega) low_kept (fun _ _ _ _ => trivial)
    (fun pre W => pre = [] ∧ Boxed W w.heap.size 9 (.string ⟨#[]⟩) ∧ Boxed W (w.heap.size + 1) 4 (.bool false) ∧ Below w.heap.size w W)
    (fun c _ W => c = .ret ∧ ∃ x r, xs = x :: r ∧ Boxed W w.heap.size 9 (.string x) ∧ Boxed W (w.heap.size + 1) 4 (.bool true) ∧ Below w.heap.size w W)
    (fun pre A C hi hg => ⟨hi.1, box_low hi.2.1 hg, box_low hi.2.2.1 hg, low_low hi.2.2.2 hg (Nat.le_refl _) (by omega)⟩)
    (fun _ pre A C hi hg => ⟨hi.1, by obtain ⟨_, x, r, h1, h2, h3, h4⟩ := hi; exact ⟨x, r, h1, box_low h2 hg, box_low h3 hg, low_low h4 hg (Nat.le_refl _) (by omega)⟩⟩)
    ⟨rfl, b0, d0, hb3⟩
    (fun x => { tmps := #[.slice a0 n0 c0, .string nm, undef, undef, .pointer (some ⟨w.heap.size, 0, none⟩), .pointer (some ⟨w.heap.size + 1, 0, none⟩), .string x, .slice a0 n0 c0, .string nm, .func (.func 93) #[] #[.pointer (some ⟨w.heap.size + 2, 0, none⟩), .pointer (some ⟨w.heap.size + 3, 0, none⟩)], .string x, undef], defers := [] }) ?assign ?body ?done ?stop
  case assign =>
    intro l x W K hK
    gi_wp2
    exact hK
  case body =>
    rintro l pre x rest W hx ⟨rfl, hv, hd, hB⟩ _ hsz
    rw [hz3] at hsz ⊢
    have hc := hv.cell
    have hf := hv.frozen
    have hc2 := hd.cell
    have hf2 := hd.frozen
    have HX := Lib.hid hx
    clear hx
    gi_wp2
    refine ⟨(keeps_set (by omega) _).trans (keeps_set (by omega) _), rfl, x, rest, HX.out, box_put (hv.set _) (by omega), (box_put hd (by omega)).set _, below_put (below_put hB (Nat.le_refl _) (Nat.le_refl _) _) (Nat.le_refl _) (by omega) _⟩
  case done =>
    rintro D W hD ⟨hx, hv, hd, hB⟩ hK
    rw [hz3] at hD
    have hc := hv.cell
    have hf := hv.frozen
    have hc2 := hd.cell
    have hf2 := hd.frozen
    have HX := Lib.hid hx
    clear hx
    gi_wp2
    have k0 := box_put (u := .bool false) (b' := w.heap.size + 1) (hv.set (.string ⟨#[]⟩)) (by omega)
    have k1 := (box_put (u := .string ⟨#[]⟩) (b' := w.heap.size) hd (by omega)).set (.bool false)
    have hK2 := (put_far (W := W.setCell ⟨w.heap.size, 0, none⟩ (.string ⟨#[]⟩)) (b := w.heap.size + 1) (k := D) (by omega) (.bool false)).trans ((put_far (W := W) (b := w.heap.size) (k := D) (by omega) (.string ⟨#[]⟩)).trans hK)
    refine ⟨by simp, .inl ⟨_, _, rfl, run_takeDeferred hK2, ?_⟩⟩
    have h1 := HR.out
    rw [HX.out] at h1
    cases ys with
    | nil => exact ⟨_, results_get rfl _ _ rfl rfl (box_obj k0 D _ (by omega)).cell (box_obj k1 D _ (by omega)).cell, rfl, below_obj (below_put (below_put hB (Nat.le_refl _) (Nat.le_refl _) _) (Nat.le_refl _) (by omega) _) (Nat.le_refl _) (by omega) _⟩
    | cons y ys => cases h1
  case stop =>
    rintro D c pre W hD ⟨rfl, x, r, hx, hv, hd, hB⟩ hK
    rw [hz3] at hD
    have HX := Lib.hid hx
    clear hx
    gi_wp2
    refine ⟨by simp, .inl ⟨_, _, rfl, run_takeDeferred hK, ?_⟩⟩
    have h1 := HR.out
    rw [HX.out] at h1
    cases ys with
    | nil => cases h1
    | cons y ys =>
      injection h1 with h1 _
      subst h1
      exact ⟨_, results_get rfl _ _ rfl rfl (box_obj hv D _ (by omega)).cell (box_obj hd D _ (by omega)).cell, rfl, below_obj hB (Nat.le_refl _) (by omega) _⟩
end Go.Proofs.YtdinachiiimngaaGreatDoor.Hd
namespace Go.Proofs.YtdinachiiimngaaGreatDoor.Hd
open LinesP HdrP

theorem raws_is (s : List UInt8) : rawsL (parseL s) = (hdrL (splitL s)).flatten := parse_raw s
theorem hdr_le (s : List UInt8) : (hdrL (splitL s)).flatten.length ≤ s.length := by
  obtain ⟨line, rest, h1, _, _⟩ := at_parts s
  have := congrArg List.length h1
  rw [List.length_append, List.length_append] at this
  omega
theorem raws_small (s : List UInt8) : (rawsL (parseL s)).length ≤ s.length := by rw [raws_is]; exact hdr_le s
theorem upto_le (l : List UInt8) : (upto l).length ≤ l.length := (List.takeWhile_sublist _).length_le
theorem trimR_le (l : List UInt8) : (trimR l).length ≤ l.length := by
  unfold trimR
  have := (List.dropWhile_sublist (p := HdrP.blank) (l := l.reverse)).length_le
  rw [List.length_reverse] at this
  rw [List.length_reverse]; exact this
theorem field_small (l m : List UInt8) : (fieldL l m).name.length ≤ (fieldL l m).raw.length ∧ (fieldL l m).value.length ≤ (fieldL l m).raw.length := by
  unfold fieldL
  split
  · have h1 := trimR_le (upto (bareL l))
    have h2 := upto_le (bareL l)
    have h3 := bare_le l
    have h4 := bare_le ((l ++ m).drop ((upto (bareL l)).length + 1))
    rw [List.length_drop] at h4
    refine ⟨?_, ?_⟩
    · show (trimR (upto (bareL l))).length ≤ (l ++ m).length
      rw [List.length_append]; omega
    · show (bareL _).length ≤ (l ++ m).length
      omega
  · exact ⟨Nat.zero_le _, Nat.zero_le _⟩
theorem fields_small (s : List UInt8) : ∀ f ∈ parseL s, f.name.length ≤ s.length ∧ f.value.length ≤ s.length := by
  intro f hf
  obtain ⟨i, hi⟩ := List.getElem?_of_mem hf
  have h1 := raw_le (parseL s) i f hi
  have h2 := raws_small s
  obtain ⟨l, cs, rfl, _⟩ := group_parts _ (hdr_good (split_good s)) f hf
  have h3 := field_small l cs.flatten
  omega
theorem put_le {name : List UInt8} (hn : rightL name = true) (v : List UInt8) : (putL name v).length ≤ name.length + 3 * v.length + 6 := by
  rw [← b_done hn v, List.length_append]
  have h2 := (b_len name (piecesP (cleanL v)) _ (Nat.le_refl _)).1
  rw [List.take_of_length_le (Nat.le_refl _), p_flat] at h2
  have h3 := clean_le v
  have h4 := p_len (cleanL v)
  show _ + 2 ≤ _
  omega
theorem one_field {name : List UInt8} (hn : rightL name = true) (v : List UInt8) : (parseL (putL name v ++ [13, 10])).length = 1 := by
  obtain ⟨f, h1, _⟩ := put_parse hn v
  have ha := (put_ahead hn v [13, 10] (by decide)).1
  have he : parseL [13, 10] = [] := by decide
  rw [ha, h1, he]; rfl
end Go.Proofs.YtdinachiiimngaaGreatDoor.Hd
