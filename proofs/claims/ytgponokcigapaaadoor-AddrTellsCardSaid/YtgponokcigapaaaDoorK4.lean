/- The program's denoted: the address of a piece. The law's open: whether a comment, a quoted string, a literal or an angle bracket is open at the end of a field. AddrBoth, from what addr.Parse answers. AddrBlanks, from what addr.Parse answers. The law's few; AddrBack, from what addr.Right, addr.Write and addr.Parse answer. -/
import Derived.Test.YtgponokcigapaaaDoorK3
import Derived.Test.YtgponokcigapaaaDoorK2
namespace Go.Proofs.YtgponokcigapaaaDoor
open Go.ChangeShapes Go.WideShapes Go.ChangeAt Go.RowKit
open TokP AdrP

theorem one_plain {l : List Tok} (h : fromS 60 l = []) : oneT l = specT l := by
  unfold oneT
  split
  · rfl
  · rename_i e; rw [h] at e; exact absurd e (by simp)
theorem one_open {l : List Tok} {x : Tok} {r : List Tok} (h : fromS 60 l = x :: r) : oneT l = if (upToS 60 l).all nameT = true ∧ (fromS 62 r).length = 1 then (specT (routed (upToS 62 r))).map (fun a => { a with name := nameL (upToS 60 l) }) else none := by
  unfold oneT
  split
  · rename_i e; rw [h] at e; exact absurd e (by simp)
  · rename_i e
    rw [h] at e
    obtain ⟨_, rfl⟩ := List.cons.inj e
    rfl
theorem disp_not {l : List Tok} (h : dispR l = none) : l.all nameT = false := by
  unfold dispR at h
  split at h
  · exact absurd h (by simp)
  · rename_i hh; simpa using hh
theorem disp_is {l : List Tok} {N : List UInt8} (h : dispR l = some N) : l.all nameT = true ∧ nameL l = N := by
  unfold dispR at h
  split at h
  · rename_i hh; exact ⟨hh, Option.some.inj h⟩
  · exact absurd h (by simp)
theorem Mod.routed {l : List Tok} (h : Mod l) : Mod (routed l) := by
  by_cases h0 : findI 64 l = 0
  · obtain ⟨p, _, _, e⟩ := routed_cut h0
    rw [e]
    exact h.drop p
  · rw [routed_same h0]; exact h
theorem spec_name {l : List Tok} {a : Adr} (h : specT l = some a) : a.name = [] := by
  unfold specT at h
  split at h
  · exact absurd h (by simp)
  · split at h
    · obtain rfl := Option.some.inj h; rfl
    · exact absurd h (by simp)
theorem set_name {w : World} {g : Nat} {N L D N' : ByteArray} (h : Bx w g N L D) : Bx (w.setCell ⟨g, 0, none⟩ (.string N')) g N' L D := by
  have h' : w.heap[g]? = some (.cells #[.string N, .string L, .string D] 34 (0, 0)) := h
  show (w.setCell ⟨g, 0, none⟩ (.string N')).heap[g]? = _
  simp [World.setCell, Array.getElem?_modify, h']
theorem Bx.other {w : World} {g k : Nat} {N L D : ByteArray} (h : Bx w g N L D) (hne : g ≠ k) (o : Nat) (v : Value) : Bx (w.setCell ⟨k, o, none⟩ v) g N L D := by
  show (w.setCell ⟨k, o, none⟩ v).heap[g]? = _
  rw [heap_setCell_other w ⟨k, o, none⟩ g v hne]
  exact h
theorem spec_none (v : Value) (l : List Tok) (hm : Mod l) (hR : specT l = none) (w : World) (h : Hid (HasT w v l)) :
    Calls Tryd.prog 46 #[v] w fun e w' => e = .returned (.tuple #[.agg #[.string ⟨#[]⟩, .string ⟨#[]⟩, .string ⟨#[]⟩], .bool false]) ∧ Below w.heap.size w w' := spec_p v l hm none hR w h
theorem spec_some (v : Value) (l : List Tok) (hm : Mod l) (N L D : List UInt8) (hR : specT l = some ⟨N, L, D⟩) (w : World) (h : Hid (HasT w v l)) :
    Calls Tryd.prog 46 #[v] w fun e w' => e = .returned (.tuple #[.agg #[.string (strL N), .string (strL L), .string (strL D)], .bool true]) ∧ Below w.heap.size w w' := spec_p v l hm (some ⟨N, L, D⟩) hR w h
set_option maxHeartbeats 4000000 in
theorem denoted_p (v : Value) (l : List Tok) (hm : Mod l) (R : Option Adr) (hR : oneT l = R) (w : World) (h : Hid (HasT w v l)) :
    Calls Tryd.prog 28 #[v] w fun e w' => e = .returned (.tuple #[adrA (R.getD noA), .bool R.isSome]) ∧ Below w.heap.size w w' := by
  have cF := fun c r (hr : findI c l = r) W (h : Hid (HasT W v l)) => find_any v l c r hr hm.1 W h
  have HB0 := below_box w (.cells #[.string ⟨#[]⟩, .string ⟨#[]⟩, .string ⟨#[]⟩] 34)
  have HX0 := bx_new w ⟨#[]⟩ ⟨#[]⟩ ⟨#[]⟩
  have hvv := h.out
  obtain ⟨a, cp, rfl, hcap, hf0⟩ := h.out
  obtain ⟨W0, hW0⟩ : ∃ W0, w.alloc (.cells #[.string ⟨#[]⟩, .string ⟨#[]⟩, .string ⟨#[]⟩] 34) = W0 := ⟨_, rfl⟩
  have H0 := Lib.hid (h.out.step HB0)
  rw [hW0] at HB0 HX0 H0
  have HB := Lib.hid HB0
  have HX := Lib.hid HX0
  have HM := Lib.hid hm
  clear hf0 h HB0 HX0
  cases hf : fromS 60 l with
  | nil =>
    have hs := (one_plain hf).symm.trans hR
    have c1 := cF 60 (-1) (findI_no hf) W0 H0
    clear hR
    have HV := Lib.hid hvv
    cases R with
    | none =>
      have c2 := fun W (h : Hid (HasT W (.slice a l.length cp) l)) => spec_none _ l hm hs W h
      clear cF hf hm hs hcap hvv
      go_enter Tryd.func28, Tryd.ntmps28
      go_wp2_with (first
        | (go_at_call 45; (with_reducible refine c1.mono ?_); rintro e w1 ⟨rfl, hb1⟩; have HX1 := Lib.hid (HX.out.step hb1); have HB1 := Lib.hid (HB.out.trans (hb1.mono HB.out.size)); clear hb1 c1)
        | (go_at_call 46; (with_reducible refine (c2 _ (Lib.hid (HV.out.step HB1.out))).mono ?_); rintro e w2 ⟨rfl, hb2⟩; have HX2 := Lib.hid (HX1.out.step hb2); have HB2 := Lib.hid (HB1.out.trans (hb2.mono HB1.out.size)); clear hb2 c2; have k0 := HX2.out.c0; have k1 := HX2.out.c1; have k2 := HX2.out.c2; have kf := HX2.out.fr))
      exact bodyPost_ret (results_adr rfl _ _ w.heap.size _ _ _ rfl (set_three HX2.out)) rfl ⟨rfl, below_three HB2.out (Nat.le_refl _) _ _ _⟩
    | some q =>
      obtain ⟨qn, ql, qd⟩ := q
      have c2 := fun W (h : Hid (HasT W (.slice a l.length cp) l)) => spec_some _ l hm qn ql qd hs W h
      clear cF hf hm hs hcap hvv
      go_enter Tryd.func28, Tryd.ntmps28
      go_wp2_with (first
        | (go_at_call 45; (with_reducible refine c1.mono ?_); rintro e w1 ⟨rfl, hb1⟩; have HX1 := Lib.hid (HX.out.step hb1); have HB1 := Lib.hid (HB.out.trans (hb1.mono HB.out.size)); clear hb1 c1)
        | (go_at_call 46; (with_reducible refine (c2 _ (Lib.hid (HV.out.step HB1.out))).mono ?_); rintro e w2 ⟨rfl, hb2⟩; have HX2 := Lib.hid (HX1.out.step hb2); have HB2 := Lib.hid (HB1.out.trans (hb2.mono HB1.out.size)); clear hb2 c2; have k0 := HX2.out.c0; have k1 := HX2.out.c1; have k2 := HX2.out.c2; have kf := HX2.out.fr))
      exact bodyPost_ret (results_adr rfl _ _ w.heap.size _ _ _ rfl (set_three HX2.out)) rfl ⟨rfl, below_three HB2.out (Nat.le_refl _) _ _ _⟩
  | cons x r =>
    obtain ⟨k, hkl, hfi, _, htk, hdr⟩ := findI_yes hf
    rw [one_open hf, ← htk] at hR
    have c1 := cF 60 k hfi W0 H0
    obtain ⟨A1, C1, hr1, ht1⟩ := run_sub_from hvv (k + 1) ((k : Int) + 1) (by omega) (by omega)
    obtain ⟨A2, C2, hr2, ht2⟩ := run_sub_to hvv k k rfl (by omega)
    rw [hdr] at ht1
    have hmr : Mod r := hdr ▸ hm.drop (k + 1)
    have hmk := hm.take k
    have hrl : l.length - (k + 1) = r.length := by rw [← hdr, List.length_drop]
    obtain ⟨n, hn⟩ : ∃ n, l.length = n := ⟨_, rfl⟩
    obtain ⟨m, hm2⟩ : ∃ m, r.length = m := ⟨_, rfl⟩
    rw [hrl, hm2, hn] at hr1
    rw [hrl, hm2] at ht1
    rw [hn] at hr2 c1 hkl ⊢
    have F1 : IntKind.i64.wrap ((k : Int) + 1) = (k : Int) + 1 := by rw [IntKind.wrap_i64]; have := hm.1; omega
    have hk0 : ¬ (k : Int) < 0 := by omega
    have hmz : m ≤ 1000000 := by rw [← hm2]; exact hmr.1
    have F2 : IntKind.i64.wrap ((m : Int) - 1) = (m : Int) - 1 := by rw [IntKind.wrap_i64]; omega
    have cG := fun s (hs : findI 62 r = s) W (h : Hid (HasT W (.slice A1 m C1) r)) => find_any _ r 62 s hs hmr.1 W h
    have HT1 := Lib.hid ht1
    have HT2 := Lib.hid ht2
    clear cF hf hm htk hdr hrl hn hfi hcap H0 hvv
    cases hg : fromS 62 r with
    | nil =>
      obtain rfl : none = R := by rw [← hR, hg, if_neg (by simp)]
      have c2 := cG (-1) (findI_no hg)
      clear cG hg hR hmr hmk ht1 ht2 hm2
      go_enter Tryd.func28, Tryd.ntmps28
      go_wp2_with (first
        | (go_at_call 45; (with_reducible refine c1.mono ?_); rintro e w1 ⟨rfl, hb1⟩; have HX1 := Lib.hid (HX.out.step hb1); have HB1 := Lib.hid (HB.out.trans (hb1.mono HB.out.size)); clear hb1 c1)
        | (go_at_call 45; (with_reducible refine (c2 _ (Lib.hid (HT1.out.step HB1.out))).mono ?_); rintro e w2 ⟨rfl, hb2⟩; have HX2 := Lib.hid (HX1.out.step hb2); have HB2 := Lib.hid (HB1.out.trans (hb2.mono HB1.out.size)); clear hb2 c2; have k0 := HX2.out.c0; have k1 := HX2.out.c1; have k2 := HX2.out.c2; have kf := HX2.out.fr))
      exact bodyPost_ret (results_adr rfl _ _ w.heap.size _ _ _ rfl (set_three HX2.out)) rfl ⟨rfl, below_three HB2.out (Nat.le_refl _) _ _ _⟩
    | cons y e =>
      obtain ⟨s, hsl, hsi, _, hts, hds⟩ := findI_yes hg
      have c2 := cG s hsi
      rw [hm2] at hsl
      have hs0 : ¬ (s : Int) < 0 := by omega
      cases e with
      | cons z e =>
        obtain rfl : none = R := by rw [← hR, hg, if_neg (by simp)]
        have hsm : (s : Int) < (m : Int) - 1 := by
          have := congrArg List.length hds
          rw [List.length_drop, List.length_cons] at this
          omega
        clear cG hg hR hmr hmk ht1 ht2 hm2 hds hts hsi
        go_enter Tryd.func28, Tryd.ntmps28
        go_wp2_with (first
          | (go_at_call 45; (with_reducible refine c1.mono ?_); rintro e w1 ⟨rfl, hb1⟩; have HX1 := Lib.hid (HX.out.step hb1); have HB1 := Lib.hid (HB.out.trans (hb1.mono HB.out.size)); clear hb1 c1)
          | (go_at_call 45; (with_reducible refine (c2 _ (Lib.hid (HT1.out.step HB1.out))).mono ?_); rintro e w2 ⟨rfl, hb2⟩; have HX2 := Lib.hid (HX1.out.step hb2); have HB2 := Lib.hid (HB1.out.trans (hb2.mono HB1.out.size)); clear hb2 c2; have k0 := HX2.out.c0; have k1 := HX2.out.c1; have k2 := HX2.out.c2; have kf := HX2.out.fr))
        exact bodyPost_ret (results_adr rfl _ _ w.heap.size _ _ _ rfl (set_three HX2.out)) rfl ⟨rfl, below_three HB2.out (Nat.le_refl _) _ _ _⟩
      | nil =>
        have hsm : ¬ (s : Int) < (m : Int) - 1 := by
          have := congrArg List.length hds
          rw [List.length_drop, List.length_nil] at this
          omega
        obtain ⟨A3, C3, hr3, ht3⟩ := run_sub_to ht1 s s rfl (by omega)
        rw [hg, ← hts] at hR
        have c3 := fun R1 (h1 : dispR (l.take k) = R1) W (h : Hid (HasT W (.slice A2 k C2) (l.take k))) => display_p _ (l.take k) hmk R1 h1 W h
        have c4 := fun W (h : Hid (HasT W (.slice A3 s C3) (r.take s))) => unrouted_p _ (r.take s) (hmr.take s) W h
        have hmo := (hmr.take s).routed
        have HT3 := Lib.hid ht3
        cases hR1 : dispR (l.take k) with
        | none =>
          have c3 := c3 none hR1
          obtain rfl : none = R := by rw [← hR, if_neg (by rw [disp_not hR1]; simp)]
          cases hR2 : specT (routed (r.take s)) with
          | none =>
            have c5 := fun u W (h : Hid (HasT W u (routed (r.take s)))) => spec_none u _ hmo hR2 W h
            clear cG hg hR hmr hmk ht1 ht2 ht3 hm2 hds hts hsi hR1 hR2 hmo
            go_enter Tryd.func28, Tryd.ntmps28
            go_wp2_with (first
              | (go_at_call 45; (with_reducible refine c1.mono ?_); rintro e w1 ⟨rfl, hb1⟩; have HX1 := Lib.hid (HX.out.step hb1); have HB1 := Lib.hid (HB.out.trans (hb1.mono HB.out.size)); clear hb1 c1)
              | (go_at_call 45; (with_reducible refine (c2 _ (Lib.hid (HT1.out.step HB1.out))).mono ?_); rintro e w2 ⟨rfl, hb2⟩; have HX2 := Lib.hid (HX1.out.step hb2); have HB2 := Lib.hid (HB1.out.trans (hb2.mono HB1.out.size)); clear hb2 c2)
              | (go_at_call 47; (with_reducible refine (c3 _ (Lib.hid (HT2.out.step HB2.out))).mono ?_); rintro e w3 ⟨rfl, hb3⟩; have HX3 := Lib.hid (HX2.out.step hb3); have HB3 := Lib.hid (HB2.out.trans (hb3.mono HB2.out.size)); clear hb3 c3)
              | (go_at_call 48; (with_reducible refine (c4 _ (Lib.hid (HT3.out.step HB3.out))).mono ?_); rintro e w4 ⟨u4, rfl, hu4, hb4⟩; have HX4 := Lib.hid (HX3.out.step hb4); have HB4 := Lib.hid (HB3.out.trans (hb4.mono HB3.out.size)); have HU4 := Lib.hid hu4; clear hb4 c4 hu4)
              | (go_at_call 46; (with_reducible refine (c5 u4 _ HU4).mono ?_); rintro e w5 ⟨rfl, hb5⟩; have HX5 := Lib.hid (HX4.out.step hb5); have HB5 := Lib.hid (HB4.out.trans (hb5.mono HB4.out.size)); clear hb5 c5; have HX6 := Lib.hid (HX5.out.step (below_box w5 (.cells #[.string ⟨#[]⟩, .string ⟨#[]⟩, .string ⟨#[]⟩] 34))); have k0 := HX6.out.c0; have k1 := HX6.out.c1; have k2 := HX6.out.c2; have kf := HX6.out.fr))
            exact bodyPost_ret (results_adr rfl _ _ w.heap.size _ _ _ rfl (set_three HX6.out)) rfl ⟨rfl, below_three (HB5.out.alloc HB5.out.size _) (Nat.le_refl _) _ _ _⟩
          | some q =>
            obtain ⟨qn, ql, qd⟩ := q
            have c5 := fun u W (h : Hid (HasT W u (routed (r.take s)))) => spec_some u _ hmo qn ql qd hR2 W h
            clear cG hg hR hmr hmk ht1 ht2 ht3 hm2 hds hts hsi hR1 hR2 hmo
            go_enter Tryd.func28, Tryd.ntmps28
            go_wp2_with (first
              | (go_at_call 45; (with_reducible refine c1.mono ?_); rintro e w1 ⟨rfl, hb1⟩; have HX1 := Lib.hid (HX.out.step hb1); have HB1 := Lib.hid (HB.out.trans (hb1.mono HB.out.size)); clear hb1 c1)
              | (go_at_call 45; (with_reducible refine (c2 _ (Lib.hid (HT1.out.step HB1.out))).mono ?_); rintro e w2 ⟨rfl, hb2⟩; have HX2 := Lib.hid (HX1.out.step hb2); have HB2 := Lib.hid (HB1.out.trans (hb2.mono HB1.out.size)); clear hb2 c2)
              | (go_at_call 47; (with_reducible refine (c3 _ (Lib.hid (HT2.out.step HB2.out))).mono ?_); rintro e w3 ⟨rfl, hb3⟩; have HX3 := Lib.hid (HX2.out.step hb3); have HB3 := Lib.hid (HB2.out.trans (hb3.mono HB2.out.size)); clear hb3 c3)
              | (go_at_call 48; (with_reducible refine (c4 _ (Lib.hid (HT3.out.step HB3.out))).mono ?_); rintro e w4 ⟨u4, rfl, hu4, hb4⟩; have HX4 := Lib.hid (HX3.out.step hb4); have HB4 := Lib.hid (HB3.out.trans (hb4.mono HB3.out.size)); have HU4 := Lib.hid hu4; clear hb4 c4 hu4)
              | (go_at_call 46; (with_reducible refine (c5 u4 _ HU4).mono ?_); rintro e w5 ⟨rfl, hb5⟩; have HX5 := Lib.hid (HX4.out.step hb5); have HB5 := Lib.hid (HB4.out.trans (hb5.mono HB4.out.size)); clear hb5 c5; have HX6 := Lib.hid (HX5.out.step (below_box w5 (.cells #[.string (strL qn), .string (strL ql), .string (strL qd)] 34))); have k0 := HX6.out.c0; have k1 := HX6.out.c1; have k2 := HX6.out.c2; have kf := HX6.out.fr))
            exact bodyPost_ret (results_adr rfl _ _ w.heap.size _ _ _ rfl (set_three HX6.out)) rfl ⟨rfl, below_three (HB5.out.alloc HB5.out.size _) (Nat.le_refl _) _ _ _⟩
        | some N =>
          have c3 := c3 (some N) hR1
          obtain ⟨d1, d2⟩ := disp_is hR1
          cases hR2 : specT (routed (r.take s)) with
          | none =>
            have c5 := fun u W (h : Hid (HasT W u (routed (r.take s)))) => spec_none u _ hmo hR2 W h
            obtain rfl : none = R := by rw [← hR, if_pos ⟨d1, rfl⟩, hR2]; rfl
            clear cG hg hR hmr hmk ht1 ht2 ht3 hm2 hds hts hsi hR1 hR2 d1 d2 hmo
            go_enter Tryd.func28, Tryd.ntmps28
            go_wp2_with (first
              | (go_at_call 45; (with_reducible refine c1.mono ?_); rintro e w1 ⟨rfl, hb1⟩; have HX1 := Lib.hid (HX.out.step hb1); have HB1 := Lib.hid (HB.out.trans (hb1.mono HB.out.size)); clear hb1 c1)
              | (go_at_call 45; (with_reducible refine (c2 _ (Lib.hid (HT1.out.step HB1.out))).mono ?_); rintro e w2 ⟨rfl, hb2⟩; have HX2 := Lib.hid (HX1.out.step hb2); have HB2 := Lib.hid (HB1.out.trans (hb2.mono HB1.out.size)); clear hb2 c2)
              | (go_at_call 47; (with_reducible refine (c3 _ (Lib.hid (HT2.out.step HB2.out))).mono ?_); rintro e w3 ⟨rfl, hb3⟩; have HX3 := Lib.hid (HX2.out.step hb3); have HB3 := Lib.hid (HB2.out.trans (hb3.mono HB2.out.size)); clear hb3 c3)
              | (go_at_call 48; (with_reducible refine (c4 _ (Lib.hid (HT3.out.step HB3.out))).mono ?_); rintro e w4 ⟨u4, rfl, hu4, hb4⟩; have HX4 := Lib.hid (HX3.out.step hb4); have HB4 := Lib.hid (HB3.out.trans (hb4.mono HB3.out.size)); have HU4 := Lib.hid hu4; clear hb4 c4 hu4)
              | (go_at_call 46; (with_reducible refine (c5 u4 _ HU4).mono ?_); rintro e w5 ⟨rfl, hb5⟩; have HX5 := Lib.hid (HX4.out.step hb5); have HB5 := Lib.hid (HB4.out.trans (hb5.mono HB4.out.size)); clear hb5 c5; have HX6 := Lib.hid (HX5.out.step (below_box w5 (.cells #[.string ⟨#[]⟩, .string ⟨#[]⟩, .string ⟨#[]⟩] 34))); have k0 := HX6.out.c0; have k1 := HX6.out.c1; have k2 := HX6.out.c2; have kf := HX6.out.fr))
            exact bodyPost_ret (results_adr rfl _ _ w.heap.size _ _ _ rfl (set_three HX6.out)) rfl ⟨rfl, below_three (HB5.out.alloc HB5.out.size _) (Nat.le_refl _) _ _ _⟩
          | some q =>
            obtain ⟨qn, ql, qd⟩ := q
            have c5 := fun u W (h : Hid (HasT W u (routed (r.take s)))) => spec_some u _ hmo qn ql qd hR2 W h
            obtain rfl : some ⟨N, ql, qd⟩ = R := by rw [← hR, if_pos ⟨d1, rfl⟩, hR2, d2]; rfl
            clear cG hg hR hmr hmk ht1 ht2 ht3 hm2 hds hts hsi hR1 hR2 d1 d2 hmo
            go_enter Tryd.func28, Tryd.ntmps28
            go_wp2_with (first
              | (go_at_call 45; (with_reducible refine c1.mono ?_); rintro e w1 ⟨rfl, hb1⟩; have HX1 := Lib.hid (HX.out.step hb1); have HB1 := Lib.hid (HB.out.trans (hb1.mono HB.out.size)); clear hb1 c1)
              | (go_at_call 45; (with_reducible refine (c2 _ (Lib.hid (HT1.out.step HB1.out))).mono ?_); rintro e w2 ⟨rfl, hb2⟩; have HX2 := Lib.hid (HX1.out.step hb2); have HB2 := Lib.hid (HB1.out.trans (hb2.mono HB1.out.size)); clear hb2 c2)
              | (go_at_call 47; (with_reducible refine (c3 _ (Lib.hid (HT2.out.step HB2.out))).mono ?_); rintro e w3 ⟨rfl, hb3⟩; have HX3 := Lib.hid (HX2.out.step hb3); have HB3 := Lib.hid (HB2.out.trans (hb3.mono HB2.out.size)); clear hb3 c3)
              | (go_at_call 48; (with_reducible refine (c4 _ (Lib.hid (HT3.out.step HB3.out))).mono ?_); rintro e w4 ⟨u4, rfl, hu4, hb4⟩; have HX4 := Lib.hid (HX3.out.step hb4); have HB4 := Lib.hid (HB3.out.trans (hb4.mono HB3.out.size)); have HU4 := Lib.hid hu4; clear hb4 c4 hu4)
              | (go_at_call 46; (with_reducible refine (c5 u4 _ HU4).mono ?_); rintro e w5 ⟨rfl, hb5⟩; have HX5 := Lib.hid (HX4.out.step hb5); have HB5 := Lib.hid (HB4.out.trans (hb5.mono HB4.out.size)); clear hb5 c5; have HX6 := Lib.hid (HX5.out.step (below_box w5 (.cells #[.string (strL N), .string (strL ql), .string (strL qd)] 34))); have k0 := HX6.out.c0; have k1 := HX6.out.c1; have k2 := HX6.out.c2; have kf := HX6.out.fr))
            exact bodyPost_ret (results_adr rfl _ _ w.heap.size _ _ _ rfl (set_three HX6.out)) rfl ⟨rfl, below_three (HB5.out.alloc HB5.out.size _) (Nat.le_refl _) _ _ _⟩
end Go.Proofs.YtgponokcigapaaaDoor
namespace Go.Proofs.YtgponokcigapaaaDoor
open Go.ChangeShapes Go.WideShapes Go.ChangeAt Go.RowKit
open TokP AdrP

def ucB (t : Tok) : Bool := t.kind == 7 && (match t.text with
  | c :: _ => opens c
  | [] => false)
theorem uc_iff (t : Tok) : ucB t = true ↔ TokP.Unclosed t := by
  unfold ucB TokP.Unclosed
  rw [Bool.and_eq_true, beq_iff_eq]
  refine and_congr_right fun _ => ?_
  cases t.text with
  | nil => simp
  | cons c r => simp
def openB (s : List UInt8) : Bool := (scanL s).any ucB || ins false (scanL s)
theorem open_iff (s : List UInt8) : openB s = true ↔ openL s := by
  unfold openB openL
  rw [Bool.or_eq_true, List.any_eq_true]
  simp only [uc_iff]
theorem ins_snoc : ∀ (X : List Tok) (b : Bool) (t : Tok), ins b (X ++ [t]) = if ins b X = true then !isS t 62 else isS t 60
  | [], b, t => by cases b <;> simp [ins]
  | x :: X, b, t => by
    cases b with
    | true => rw [List.cons_append, ins, ins, ins_snoc]
    | false => rw [List.cons_append, ins, ins, ins_snoc]
theorem ins_take (l : List Tok) (k : Nat) (t : Tok) (h : l[k]? = some t) : ins false (l.take (k + 1)) = if ins false (l.take k) = true then !isS t 62 else isS t 60 := by
  rw [List.take_add_one, h]
  exact ins_snoc _ _ _
theorem isS_kind {t : Tok} (h : t.kind ≠ 4) (c : UInt8) : isS t c = false := by unfold isS; rw [beq_eq_false_iff_ne.2 h]; rfl
theorem scan_rd (s : ByteArray) (hs : s.size ≤ 1000000) (w : World) :
    Calls Tryd.prog 26 #[.string s] w fun e w' => ∃ a c, e = .returned (.slice a (scanL s.data.toList).length c) ∧ OwnF w' (.slice a (scanL s.data.toList).length c) (scanL s.data.toList) ∧ Below w.heap.size w w' := scan_any s hs w
set_option maxRecDepth 100000 in
set_option maxHeartbeats 2000000 in
theorem open_any (s : ByteArray) (hs : s.size ≤ 1000000) (w : World) :
    Calls Tryd.prog 24 #[.string s] w fun e w' => e = .returned (.bool (openB s.data.toList)) ∧ Below w.heap.size w w' := by
  obtain ⟨l, hl⟩ : ∃ l, scanL s.data.toList = l := ⟨_, rfl⟩
  obtain ⟨n, hn⟩ : ∃ n, l.length = n := ⟨_, rfl⟩
  have cC := scan_rd s hs w
  rw [hl, hn] at cC
  obtain ⟨R, hR⟩ : ∃ R, openB s.data.toList = R := ⟨_, rfl⟩
  rw [hR]
  have hRl : (l.any ucB || ins false l) = R := by rw [← hR, ← hl]; rfl
  have hmem := scan_mem s.data.toList
  rw [hl] at hmem
  have hnl : n ≤ 1000000 := by rw [← hn, ← hl]; have := scan_len s.data.toList; rw [← size_list] at this; omega
  have HM := Lib.hid (fun (k : Nat) (f : Tok) (h : l[k]? = some f) => (hmem f (List.mem_of_getElem? h)).1)
  have HN := Lib.hid hn
  have HR := Lib.hid hRl
  clear hl hn hR hRl hmem hs
  go_enter Tryd.func24, Tryd.ntmps24
  go_wp2_with (go_at_call 26; (with_reducible refine cC.mono ?_); rintro e w1 ⟨a, c, rfl, ho, hb⟩; clear cC; have HO := Lib.hid ho; have HB := Lib.hid hb; clear ho hb)
  go_loopw [4, 5] (fun p i wr => ∃ (k : Nat) (b : Bool), k ≤ n ∧ p = .bool b ∧ i = .int .i64 k ∧ wr = w1 ∧ Hid (ins false (l.take k) = b) ∧ Hid ((l.take k).any ucB = false)) (fun _ i _ => n - (intOf i).toNat)
  case atStart => exact ⟨0, false, Nat.zero_le _, rfl, rfl, rfl, rfl, rfl⟩
  case round =>
    obtain ⟨k, b, hk, rfl, rfl, rfl, HI, HU⟩ := hrel
    have F1 : IntKind.i64.wrap ((k : Int) + 1) = (k : Int) + 1 := by rw [IntKind.wrap_i64]; omega
    by_cases hlt : k < n
    · have hlt' : (k : Int) < (n : Int) := by omega
      obtain ⟨g, rfl, hfa⟩ := HO.out.at (by omega)
      obtain ⟨f, hf⟩ : ∃ f, l[k]? = some f := ⟨_, List.getElem?_eq_getElem (by rw [HN.out]; exact hlt)⟩
      obtain ⟨k0, k1⟩ := hfa k f hf
      rw [Nat.zero_add] at k0 k1
      have hne := HM.out k f hf
      have hit := ins_take l k f hf
      rw [HI.out] at hit
      have hua : (l.take (k + 1)).any ucB = ucB f := by
        rw [List.take_add_one, hf, List.any_append, HU.out]; simp
      obtain ⟨c0, t0, ht0⟩ := List.exists_cons_of_ne_nil hne
      by_cases h7 : f.kind = 7
      · rw [h7] at k0
        have hS : ∀ c, isS f c = false := fun c => isS_kind (by omega) c
        have hz : 0 < (strL f.text).size := by rw [strL_size, ht0, List.length_cons]; omega
        obtain ⟨c1, x, t1, hl1, hx, _, S0⟩ := run_byte0 (strL f.text) hz
        rw [strL_list, ht0] at hl1
        obtain ⟨rfl, _⟩ := List.cons.inj hl1
        have hbne : (strL f.text).toList.isEmpty = false := by rw [ByteArray.toList_eq, strL_list, ht0]; rfl
        have hbne2 : ((strL f.text).toList != []) = true := by rw [ByteArray.toList_eq, strL_list, ht0]; rfl
        have huv : ucB f = opens c0 := by unfold ucB; rw [h7, ht0]; rfl
        rw [huv] at hua
        have e40 := byte_is c0 x hx 40 (by decide)
        have e34 := byte_is c0 x hx 34 (by decide)
        have e91 := byte_is c0 x hx 91 (by decide)
        rw [show ((40 : Nat) : Int) = 40 from rfl] at e40
        rw [show ((34 : Nat) : Int) = 34 from rfl] at e34
        rw [show ((91 : Nat) : Int) = 91 from rfl] at e91
        have HT := Lib.hid (show opens c0 = true → R = true from fun h => by
          rw [← HR.out]
          have : l.any ucB = true := by
            rw [List.any_eq_true]
            exact ⟨f, List.mem_of_getElem? hf, by rw [huv]; exact h⟩
          rw [this]; rfl)
        generalize strL f.text = T at k1 S0 hbne hbne2
        by_cases h40 : c0 = 40
        · rw [show decide (c0 = UInt8.ofNat 40) = true from decide_eq_true h40] at e40
          have HQ := Lib.hid (HT.out (by rw [h40]; rfl))
          clear h40 hf hfa hne hit hua ht0 h7 hS huv hx hz HT hl1
          go_wp2_with fail
          go_ret
          exact ⟨by rw [HQ.out]; rfl, HB.out⟩
        · rw [show decide (c0 = UInt8.ofNat 40) = false from decide_eq_false h40] at e40
          by_cases h34 : c0 = 34
          · rw [show decide (c0 = UInt8.ofNat 34) = true from decide_eq_true h34] at e34
            have HQ := Lib.hid (HT.out (by rw [h34]; rfl))
            clear h40 h34 hf hfa hne hit hua ht0 h7 hS huv hx hz HT hl1
            go_wp2_with fail
            go_ret
            exact ⟨by rw [HQ.out]; rfl, HB.out⟩
          · rw [show decide (c0 = UInt8.ofNat 34) = false from decide_eq_false h34] at e34
            by_cases h91 : c0 = 91
            · rw [show decide (c0 = UInt8.ofNat 91) = true from decide_eq_true h91] at e91
              have HQ := Lib.hid (HT.out (by rw [h91]; rfl))
              clear h40 h34 h91 hf hfa hne hit hua ht0 h7 hS huv hx hz HT hl1
              go_wp2_with fail
              go_ret
              exact ⟨by rw [HQ.out]; rfl, HB.out⟩
            · rw [show decide (c0 = UInt8.ofNat 91) = false from decide_eq_false h91] at e91
              have ho : opens c0 = false := by unfold opens; simp [h40, h34, h91]
              rw [ho] at hua
              rw [hS, hS] at hit
              have HU2 := Lib.hid hua
              have HI2 := Lib.hid (show ins false (l.take (k + 1)) = b by rw [hit]; cases b <;> rfl)
              clear h40 h34 h91 hf hfa hne hit hua ht0 h7 hS huv hx hz HT ho hl1
              go_wp2_with fail
              go_roundw
              case rel => exact ⟨k + 1, b, by omega, rfl, by go_num, trivial, HI2, HU2⟩
              case measure => simp [intOf]; omega
      · have g7 : (((f.kind : Nat) : Int) == 7) = false := by rw [beq_eq_false_iff_ne]; omega
        have huf : ucB f = false := by unfold ucB; rw [beq_eq_false_iff_ne.2 h7]; rfl
        rw [huf] at hua
        have HU2 := Lib.hid hua
        by_cases h4 : f.kind = 4
        · have i62 := is_tok f 62
          have i60 := is_tok f 60
          have q62 : ((strL f.text).toList == [62]) = isS f 62 := by
            rw [← i62, ByteArray.toList_eq, Bool.eq_iff_iff, beq_iff_eq, decide_eq_true_iff]
            exact ⟨fun h => ⟨by omega, h⟩, fun h => h.2⟩
          have q60 : ((strL f.text).toList == [60]) = isS f 60 := by
            rw [← i60, ByteArray.toList_eq, Bool.eq_iff_iff, beq_iff_eq, decide_eq_true_iff]
            exact ⟨fun h => ⟨by omega, h⟩, fun h => h.2⟩
          have n62 : ((strL f.text).toList != [62]) = !isS f 62 := by rw [bne, q62]
          rw [h4] at k0
          generalize strL f.text = T at k1 q62 q60 n62
          clear i62 i60 hf hfa hne hua ht0 h7 huf g7 q62
          generalize isS f 62 = z1 at hit n62
          generalize isS f 60 = z2 at hit q60
          cases b with
          | true =>
            rw [if_pos rfl] at hit
            have HI2 := Lib.hid hit
            clear hit q60
            cases z1 with
            | true =>
              replace n62 : (T.toList != [62]) = false := n62
              have q62 : T.toList = [62] := by simpa using n62
              go_wp2_with fail
              go_roundw
              case rel => exact ⟨k + 1, false, by omega, rfl, by go_num, trivial, HI2, HU2⟩
              case measure => simp [intOf]; omega
            | false =>
              replace n62 : (T.toList != [62]) = true := n62
              have q62 : ¬ T.toList = [62] := by simpa using n62
              go_wp2_with fail
              go_roundw
              case rel => exact ⟨k + 1, true, by omega, rfl, by go_num, trivial, HI2, HU2⟩
              case measure => simp [intOf]; omega
          | false =>
            rw [if_neg Bool.false_ne_true] at hit
            have HI2 := Lib.hid hit
            clear hit n62
            cases z2 with
            | true =>
              go_wp2_with fail
              go_roundw
              case rel => exact ⟨k + 1, true, by omega, rfl, by go_num, trivial, HI2, HU2⟩
              case measure => simp [intOf]; omega
            | false =>
              go_wp2_with fail
              go_roundw
              case rel => exact ⟨k + 1, false, by omega, rfl, by go_num, trivial, HI2, HU2⟩
              case measure => simp [intOf]; omega
        · have g4 : (((f.kind : Nat) : Int) == 4) = false := by rw [beq_eq_false_iff_ne]; omega
          rw [isS_kind h4, isS_kind h4] at hit
          have HI2 := Lib.hid (show ins false (l.take (k + 1)) = b by rw [hit]; cases b <;> rfl)
          clear hf hfa hne hua ht0 h7 huf hit h4
          go_wp2_with fail
          go_roundw
          case rel => exact ⟨k + 1, b, by omega, rfl, by go_num, trivial, HI2, HU2⟩
          case measure => simp [intOf]; omega
    · obtain rfl : k = n := by omega
      have hlt' : ¬ (k : Int) < (k : Int) := by omega
      have hT : l.take k = l := List.take_of_length_le (by rw [HN.out]; exact Nat.le_refl _)
      have HQ := Lib.hid (show b = R by rw [← HR.out, ← HI.out, hT]; have := HU.out; rw [hT] at this; rw [this]; rfl)
      clear hT
      go_wp2_with fail
      go_ret
      exact ⟨by rw [← HQ.out]; rfl, HB.out⟩
end Go.Proofs.YtgponokcigapaaaDoor
namespace Go.Proofs.YtgponokcigapaaaDoor
open Go.ChangeShapes Go.WideShapes Go.ChangeAt Go.RowKit
open TokP AdrP

theorem ownA_zero (w : World) : (w.alloc (.cells #[] 34)).ownsRow w.heap.size 34 3 (.slice (some ⟨w.heap.size, 0, none⟩) 0 0) ([] : List Adr).length (adrsV []) :=
  ⟨rfl, .inr ⟨w.heap.size, 0, #[], rfl, Nat.le_refl _, World.alloc_heap_new w _, Nat.le_refl _, by unfold maxLen; omega, rfl, rfl⟩⟩
theorem run_appLA {w : World} (base : Nat) {v u : Value} {xs ys : List Adr} (hown : w.ownsRow base 34 3 v xs.length (adrsV xs)) (hu : OwnA w u ys) (hb : base ≤ w.heap.size) (hl : xs.length + ys.length ≤ 1000000) :
    ∃ a c w', (Builtin.append_ #[23, 23] 23 #[v, u]).run Tryd.prog w = .ok (.slice a (xs ++ ys).length c) w' ∧ w'.ownsRow base 34 3 (.slice a (xs ++ ys).length c) (xs ++ ys).length (adrsV (xs ++ ys)) ∧ w.grownBy w' v.ownBlock := by
  obtain ⟨i0, hi, hz0, hz1, hz2⟩ := info_parts info34
  obtain ⟨b2, ho2⟩ := hu
  have e1 : (xs ++ ys).length = xs.length + ys.length := List.length_append
  have fin : ∀ (v' : Value) (w' : World), w'.ownsRow base 34 3 v' (xs.length + ys.length) (adrsV (xs ++ ys)) → ∃ a c, v' = .slice a (xs ++ ys).length c := fun v' w' h => by
    rcases h.2 with ⟨rfl, h0⟩ | ⟨g, cap, cur, rfl, _⟩
    · exact ⟨none, 0, by rw [e1, h0]⟩
    · exact ⟨_, _, by rw [e1]⟩
  rcases ho2.2 with ⟨rfl, h0⟩ | ⟨g, cap, cur, rfl, _, hg, hrest⟩
  · obtain rfl : ys = [] := List.eq_nil_of_length_eq_zero h0
    have hr := run_append_owned_none (P := Tryd.prog) (w := w) base 23 23 34 i0 3 Tryd.underlying23 hi v _ _ hown
    rw [List.append_nil]
    obtain ⟨a, c, rfl⟩ : ∃ a c, v = .slice a xs.length c := by
      rcases hown.2 with ⟨rfl, h1⟩ | ⟨g, cap, cur, rfl, _⟩
      · exact ⟨none, 0, by rw [h1]⟩
      · exact ⟨_, _, rfl⟩
    exact ⟨a, c, w, hr, hown, World.grownBy.refl _ _⟩
  · obtain ⟨v', w', hr, h1, h2, _⟩ := run_append_own (P := Tryd.prog) w base 23 23 34 i0 _ 3 48 Tryd.underlying23 hi hz0 hz1 hz2 rfl (by decide) v xs.length _ hown ⟨g, 0, none⟩ ys.length cap (adrsV ys) (adrsV_len ys) (fun j x hj => ho2.cells (g := g) rfl j x hj) (adrsV_ones _) (by unfold maxLen; omega) (by omega) hb
    rw [adrsV_app] at h1
    obtain ⟨a, c, rfl⟩ := fin v' w' h1
    rw [e1] at hr h1 ⊢
    exact ⟨a, c, w', hr, h1, h2⟩
theorem wpList_appLA {ops : Array Oper} {rest : List Oper} {o : Oper} {a : Act} {w : World} {Q : Exit → Act → World → Prop} (hw : Region.wanted o (yielded ops a.tmps) = true) (s x : Operand)
    (ho : o.op = .call { callee := .builtin .append, args := #[s, x], argTypes := #[23, 23] }) (hty : o.type = 23) (base : Nat) {v u : Value} {xs ys : List Adr} (N : Nat) (hN : (xs ++ ys).length = N) (hs : a.eval s = v) (hx : a.eval x = u)
    (hown : w.ownsRow base 34 3 v xs.length (adrsV xs)) (hu : OwnA w u ys) (hb : base ≤ w.heap.size) (hl : N ≤ 1000000)
    (h : ∀ a' c' w', w'.ownsRow base 34 3 (.slice a' N c') (xs ++ ys).length (adrsV (xs ++ ys)) → w.grownBy w' v.ownBlock → wpList Tryd.prog ops Q rest (a.put o.dst (.slice a' N c')) w') :
    wpList Tryd.prog ops Q (o :: rest) a w := by
  subst hN
  obtain ⟨a', c', w', hr, h1, h2⟩ := run_appLA base hown hu hb (by rw [List.length_append] at hl; exact hl)
  unfold wpList
  rw [if_pos hw]
  left
  unfold Oper.wp
  simp [execOp, ho, hty, resolve, invoke, builtin, hs, hx, hr, Result.andThen]
  have h3 := h a' c' w' h1 h2
  rw [List.length_append] at h3
  exact h3
theorem below_rowA (w w' : World) (base : Nat) {v : Value} {n : Nat} {xs : List Value} (hown : w.ownsRow base 34 3 v n xs) (hg : w.grownBy w' v.ownBlock) (hb : base ≤ w.heap.size) : Below base w w' :=
  (Below.refl _ _).grown hg hb (fun k e => (hown.lt k e).1)
/-- What the laws ask of addr.Parse. -/
def ParseOk : Prop := ∀ (S : ByteArray) (_ : S.size ≤ 100000) (W : World), Calls Tryd.prog 11 #[.string S] W fun e w' => ∃ a c, e = .returned (.tuple #[.slice a (parseA S.data.toList).1.length c, .bool (parseA S.data.toList).2]) ∧ OwnA w' (.slice a (parseA S.data.toList).1.length c) (parseA S.data.toList).1 ∧ Below W.heap.size W w'
/-- What the laws ask of their example. -/
def SmallOk : Prop := ∀ W : World, Calls Tryd.prog 10 #[] W fun e w' => e = .returned (.bool true) ∧ Below W.heap.size W w'
theorem pcs_len : ∀ (l now : List Tok) (b : Bool), (pcs b now l).length ≤ l.length + 1
  | [], now, b => by cases b <;> exact Nat.le_refl _
  | t :: r, now, b => by
    cases b with
    | true => rw [pcs]; have := pcs_len r (now ++ [t]) (!isS t 62); rw [List.length_cons]; omega
    | false =>
      rw [pcs]
      split
      · have := pcs_len r [] false; rw [List.length_cons, List.length_cons]; omega
      · have := pcs_len r (if isS t 58 = true then [] else now ++ [t]) (isS t 60); rw [List.length_cons]; omega
theorem parse_len (s : List UInt8) : (parseA s).1.length ≤ s.length + 1 := by
  show (List.filterMap oneT (pcs false [] (bareT (scanL s)))).length ≤ _
  have h1 := List.length_filterMap_le oneT (pcs false [] (bareT (scanL s)))
  have h2 := pcs_len (bareT (scanL s)) [] false
  have h3 : (bareT (scanL s)).length ≤ (scanL s).length := (List.filter_sublist).length_le
  have h4 := scan_len s
  omega
set_option maxRecDepth 1000000 in
set_option maxHeartbeats 1000000 in
theorem both_any (cSm : SmallOk) (cPa : ParseOk) (s t : ByteArray) (w : World) :
    Calls Tryd.prog 6 #[.string s, .string t] w fun e w' => e = .returned (.bool true) ∧ Below w.heap.size w w' := by
  have cS := cSm w
  clear cSm
  by_cases hf : s.size ≤ 500
  · have hf' : ¬ (500 : Int) < (s.size : Int) := by omega
    by_cases hg : t.size ≤ 500
    · have hg' : ¬ (500 : Int) < (t.size : Int) := by omega
      have cO := fun W => open_any s (by omega) W
      by_cases hop : openB s.data.toList = true
      · rw [hop] at cO
        clear cPa hf hg hop
        go_enter Tryd.func6, Tryd.ntmps6
        go_wp2_with (first
          | (go_at_call 10; (with_reducible refine cS.mono ?_); rintro e w1 ⟨rfl, hb1⟩; clear cS)
          | (go_at_call 24; (with_reducible refine (cO _).mono ?_); rintro e w2 ⟨rfl, hb2⟩; clear cO))
        go_ret
        exact ⟨rfl, Qtrans hb1 hb2⟩
      · have hno : ¬ openL s.data.toList := fun e => hop ((open_iff _).2 e)
        rw [show openB s.data.toList = false by simpa using hop] at cO
        have hpb := parse_both s.data.toList t.data.toList hno
        have hcat : ((s ++ ⟨#[44]⟩) ++ t).data.toList = s.data.toList ++ 44 :: t.data.toList := by
          rw [list_append, list_append, List.append_assoc]; rfl
        have hz1 : (s ++ (⟨#[44]⟩ : ByteArray)).size = s.size + 1 := by rw [ByteArray.size_append]; rfl
        have hz : ((s ++ (⟨#[44]⟩ : ByteArray)) ++ t).size ≤ 100000 := by rw [ByteArray.size_append, hz1]; omega
        have c1 := fun W => cPa s (by omega) W
        have c2 := fun W => cPa t (by omega) W
        have c3 := fun W => cPa ((s ++ ⟨#[44]⟩) ++ t) hz W
        rw [hcat, hpb] at c3
        have hl1 := parse_len s.data.toList
        have hl2 := parse_len t.data.toList
        rw [← size_list] at hl1 hl2
        generalize parseA s.data.toList = P1 at c1 c3 hl1
        generalize parseA t.data.toList = P2 at c2 c3 hl2
        obtain ⟨l, b1⟩ := P1
        obtain ⟨m, b2⟩ := P2
        dsimp only at c1 c2 c3 hl1 hl2
        obtain ⟨n, hn⟩ : ∃ n, l.length = n := ⟨_, rfl⟩
        obtain ⟨km, hkm⟩ : ∃ km, m.length = km := ⟨_, rfl⟩
        obtain ⟨k, hk⟩ : ∃ k, (l ++ m).length = k := ⟨_, rfl⟩
        have hkz : k ≤ 1000000 := by rw [← hk, List.length_append]; omega
        have hnz : n ≤ 1000000 := by omega
        rw [hn] at c1
        rw [hkm] at c2
        rw [hk] at c3
        have cX := fun W v u (h : Hid (OwnA W v (l ++ m))) (k' : Hid (OwnA W u (l ++ m))) => sameA_any h.out.has k'.out.has (by omega : (l ++ m).length ≤ 1000000)
        rw [show decide (l ++ m = l ++ m) = true from decide_eq_true rfl] at cX
        have HN := Lib.hid hn
        have HK := Lib.hid hk
        have hsz : s.size + 1 + t.size ≤ 100000 := by omega
        have hbb : ((b1 && b2) == (b1 && b2)) = true := by simp
        clear cPa hf hg hop hno hpb hcat hz hl1 hl2 hn hkm hk
        go_enter Tryd.func6, Tryd.ntmps6
        go_wp2_with (first
          | (go_at_call 10; (with_reducible refine cS.mono ?_); rintro e w1 ⟨rfl, hb1⟩; clear cS)
          | (go_at_call 24; (with_reducible refine (cO _).mono ?_); rintro e w2 ⟨rfl, hb2⟩; clear cO; have HB := Lib.hid (Qtrans hb1 hb2); clear hb1 hb2)
          | (go_at_call 11; (with_reducible refine (c1 _).mono ?_); rintro e w3 ⟨a1, d1, rfl, ho, hb⟩; clear c1; have HL := Lib.hid ho; replace HB := Lib.hid (Qtrans HB.out hb); clear ho hb)
          | (go_at_call 11; (with_reducible refine (c2 _).mono ?_); rintro e w4 ⟨a2, d2, rfl, ho, hb⟩; clear c2; replace HL := Lib.hid (HL.out.step hb); have HM := Lib.hid ho; replace HB := Lib.hid (Qtrans HB.out hb); clear ho hb)
          | (go_at_call 11; (with_reducible refine (c3 _).mono ?_); rintro e w5 ⟨a3, d3, rfl, ho, hb⟩; clear c3; replace HL := Lib.hid (HL.out.step hb); replace HM := Lib.hid (HM.out.step hb); have HC := Lib.hid ho; replace HB := Lib.hid (Qtrans HB.out hb); clear ho hb)
          | (at_builtin; refine wpList_appLA (by rfl) (.tmp 47) (.tmp 48) rfl rfl w5.heap.size (xs := []) (ys := l) n HN.out rfl rfl (ownA_zero w5) (HL.out.step ((Below.refl _ _).alloc (Nat.le_refl _) _)) (by rw [World.size_alloc]; omega) hnz ?_; intro a6 c6 w6 h6 g6'; have HB6 := Lib.hid (((Below.refl _ w5).alloc (Nat.le_refl _) (.cells #[] 34)).trans (below_rowA _ _ _ (ownA_zero w5) g6' (by rw [World.size_alloc]; omega))); replace h6 : Hid (w6.ownsRow w5.heap.size 34 3 (.slice a6 n c6) l.length (adrsV l)) := Lib.hid h6; clear g6')
          | (at_builtin; refine wpList_appLA (by rfl) (.tmp 49) (.tmp 50) rfl rfl w5.heap.size (xs := l) (ys := m) k HK.out rfl rfl h6.out (HM.out.step HB6.out) HB6.out.size hkz ?_; intro a7 c7 w7 h7 g7'; have hb7 := HB6.out.trans (below_rowA _ _ _ h6.out g7' HB6.out.size); have HB7 := Lib.hid (Qtrans HB.out hb7); replace HC := Lib.hid (HC.out.step hb7); replace h7 : Hid (OwnA w7 (.slice a7 k c7) (l ++ m)) := Lib.hid ⟨_, h7⟩; clear g7' h6 HB6 HB HL HM hb7)
          | (go_at_call 13; (refine (cX _ _ _ HC h7).mono ?_); rintro e w9 ⟨rfl, hb9⟩; have HB9 := Lib.hid (Qtrans HB7.out hb9); clear cX HC h7 HB7 hb9))
        all_goals go_ret
        all_goals exact ⟨by simp, HB9.out⟩
    · have hg' : (500 : Int) < (t.size : Int) := by omega
      clear cPa hf hg
      go_enter Tryd.func6, Tryd.ntmps6
      go_wp2_with (go_at_call 10; (with_reducible refine cS.mono ?_); rintro e w1 ⟨rfl, hb1⟩)
      go_ret
      exact ⟨rfl, hb1⟩
  · have hf' : (500 : Int) < (s.size : Int) := by omega
    clear cPa hf
    go_enter Tryd.func6, Tryd.ntmps6
    go_wp2_with (go_at_call 10; (with_reducible refine cS.mono ?_); rintro e w1 ⟨rfl, hb1⟩)
    go_ret
    exact ⟨rfl, hb1⟩
end Go.Proofs.YtgponokcigapaaaDoor
namespace Go.Proofs.YtgponokcigapaaaDoor
open Go.ChangeShapes Go.WideShapes Go.ChangeAt Go.RowKit
open TokP AdrP

theorem blanks_app : ∀ X Y : List (Bool × Tok), blanksL (X ++ Y) = blanksL X ++ blanksL Y
  | [], _ => rfl
  | (c, t) :: r, Y => by
    rw [List.cons_append, blanksL, blanksL, blanks_app r Y]
    simp
theorem blanks_len : ∀ X : List (Bool × Tok), (blanksL X).length = (joinL (X.map Prod.snd)).length + (blanksL X).length - (joinL (X.map Prod.snd)).length ∧ (blanksL X).length ≤ (joinL (X.map Prod.snd)).length + 8 * X.length
  | [] => ⟨by simp [blanksL, joinL], by simp [blanksL, joinL]⟩
  | (c, t) :: r => by
    have ih := (blanks_len r).2
    have e : (blanksL ((c, t) :: r)).length ≤ 7 + (1 + (t.text.length + (blanksL r).length)) := by
      rw [blanksL, List.length_append, List.length_cons, List.length_append]
      have : (if c = true then cmt else []).length ≤ 7 := by cases c <;> decide
      omega
    have e2 : (joinL (((c, t) :: r).map Prod.snd)).length = t.text.length + (joinL (r.map Prod.snd)).length := by
      unfold joinL
      simp
    refine ⟨by omega, ?_⟩
    rw [e2, List.length_cons]
    omega
theorem join_filter (p : Tok → Bool) : ∀ l : List Tok, (joinL (l.filter p)).length ≤ (joinL l).length
  | [] => Nat.le_refl _
  | t :: r => by
    have ih := join_filter p r
    have e2 : ∀ m : List Tok, (joinL (t :: m)).length = t.text.length + (joinL m).length := fun m => by
      unfold joinL
      simp
    rw [List.filter_cons, e2]
    split
    · rw [e2]; omega
    · omega
theorem bare_rd (l : List Tok) (n : Nat) (hl : l.length = n) (hn : n ≤ 1000000) (ht : ∀ t ∈ l, t.text.length ≤ 1000000) (v : Value) (w : World) (h : Hid (OwnF w v l)) :
    Calls Tryd.prog 25 #[v] w fun e w' => ∃ a c, e = .returned (.slice a (bareT l).length c) ∧ OwnF w' (.slice a (bareT l).length c) (bareT l) ∧ Below w.heap.size w w' := bare_any v l w h.out.has (by omega) ht
theorem joinL_take (l : List Tok) (k : Nat) : (joinL (l.take k)).length ≤ (joinL l).length := by
  conv => rhs; rw [← List.take_append_drop k l]
  unfold joinL
  rw [List.map_append, List.flatten_append, List.length_append]
  omega
set_option maxRecDepth 1000000 in
set_option maxHeartbeats 1000000 in
theorem blanks_any (cSm : SmallOk) (cPa : ParseOk) (s : ByteArray) (q : Int) (w : World) :
    Calls Tryd.prog 7 #[.string s, .int .i64 q] w fun e w' => e = .returned (.bool true) ∧ Below w.heap.size w w' := by
  have cS := cSm w
  clear cSm
  by_cases hf : s.size ≤ 500
  · have hf' : ¬ (500 : Int) < (s.size : Int) := by omega
    have c1 := fun W => cPa s (by omega) W
    have hl1 := parse_len s.data.toList
    rw [← size_list] at hl1
    obtain ⟨m, hm⟩ : ∃ m, scanL s.data.toList = m := ⟨_, rfl⟩
    obtain ⟨M, hM⟩ : ∃ M, m.length = M := ⟨_, rfl⟩
    obtain ⟨l, hl⟩ : ∃ l, bareT m = l := ⟨_, rfl⟩
    obtain ⟨n, hn⟩ : ∃ n, l.length = n := ⟨_, rfl⟩
    have hMl : M ≤ s.size := by rw [← hM, ← hm, size_list]; exact scan_len _
    have hnl : n ≤ M := by rw [← hn, ← hl, ← hM]; exact (List.filter_sublist).length_le
    have hjl : (joinL l).length ≤ s.size := by
      have := join_filter (fun t => t.kind != 6 && t.kind != 3) m
      have hj := join_scan s.data.toList
      rw [hm] at hj
      rw [hj, ← size_list] at this
      rw [← hl]
      exact this
    have cC := fun W => scan_rd s (by omega) W
    rw [hm, hM] at cC
    have cB := bare_rd m M hM (by omega) (fun t ht => by
      have := (scan_mem s.data.toList t (by rw [hm]; exact ht)).2.2.2.2
      rw [← size_list] at this
      omega)
    rw [hl, hn] at cB
    have HPB := Lib.hid (fun (X : List (Bool × Tok)) (h : X.map Prod.snd = l) => parse_blanks s.data.toList X (by rw [hm, hl]; exact h))
    have HCP := Lib.hid cPa
    have HN := Lib.hid hn
    have HSZ := Lib.hid (fun (X : List (Bool × Tok)) (k : Nat) (h : X.map Prod.snd = l.take k) => show (blanksL X).length ≤ 10000 from by
      have h1 := (blanks_len X).2
      have h2 := joinL_take l k
      rw [h] at h1
      have h3 : X.length ≤ l.length := by
        have := congrArg List.length h
        rw [List.length_map] at this
        rw [this]
        exact List.length_take_le' k l
      omega)
    have HTL := Lib.hid (fun (k : Nat) (f : Tok) (h : l[k]? = some f) => show f.text.length ≤ 500 from by
      have h1 := List.mem_of_getElem? h
      rw [← hl] at h1
      have := (scan_mem s.data.toList f (by rw [hm]; exact (List.mem_filter.1 h1).1)).2.2.2.2
      rw [← size_list] at this
      omega)
    have hn500 : n ≤ 500 := by omega
    clear cPa hf hm hM hl hn hMl hjl
    generalize parseA s.data.toList = P1 at c1 hl1 HPB
    obtain ⟨p, b1⟩ := P1
    dsimp only at c1 hl1
    obtain ⟨kp, hkp⟩ : ∃ kp, p.length = kp := ⟨_, rfl⟩
    rw [hkp] at c1 hl1
    have HKP := Lib.hid hkp
    have cX := fun W v u (h : Hid (OwnA W v p)) (k' : Hid (OwnA W u p)) => sameA_any h.out.has k'.out.has (by omega : p.length ≤ 1000000)
    rw [show decide (p = p) = true from decide_eq_true rfl] at cX
    have hbb : (b1 == b1) = true := by simp
    clear hkp hl1
    go_enter Tryd.func7, Tryd.ntmps7
    go_wp2_with (first
      | (go_at_call 10; (with_reducible refine cS.mono ?_); rintro e w1 ⟨rfl, hb1⟩; clear cS; have HB := Lib.hid hb1; clear hb1)
      | (go_at_call 26; (with_reducible refine (cC _).mono ?_); rintro e w2 ⟨a2, d2, rfl, ho, hb⟩; clear cC; have HS := Lib.hid ho; replace HB := Lib.hid (Qtrans HB.out hb); clear ho hb)
      | (go_at_call 25; (with_reducible refine (cB _ _ HS).mono ?_); rintro e w3 ⟨a3, d3, rfl, ho, hb⟩; clear cB HS; have HO := Lib.hid ho; replace HB := Lib.hid (Qtrans HB.out hb); clear ho hb))
    go_loopw [7, 8] (fun t i wr => ∃ (k : Nat) (T : ByteArray) (X : List (Bool × Tok)), k ≤ n ∧ t = .string T ∧ i = .int .i64 k ∧ wr = w3 ∧ Hid (X.map Prod.snd = l.take k) ∧ Hid (T.data.toList = blanksL X)) (fun _ i _ => n - (intOf i).toNat)
    case atStart => exact ⟨0, _, [], Nat.zero_le _, rfl, rfl, rfl, rfl, rfl⟩
    case round =>
      obtain ⟨k, T, X, hk, rfl, rfl, rfl, HX, HT⟩ := hrel
      have F1 : IntKind.i64.wrap ((k : Int) + 1) = (k : Int) + 1 := by rw [IntKind.wrap_i64]; omega
      by_cases hlt : k < n
      · have hlt' : (k : Int) < (n : Int) := by omega
        obtain ⟨g, rfl, hfa⟩ := HO.out.at (by omega)
        obtain ⟨f, hf⟩ : ∃ f, l[k]? = some f := ⟨_, List.getElem?_eq_getElem (by rw [HN.out]; exact hlt)⟩
        obtain ⟨k0, k1⟩ := hfa k f hf
        rw [Nat.zero_add] at k0 k1
        have hkz := HTL.out k f hf
        have hTz : T.size ≤ 10000 := by rw [size_list, HT.out]; exact HSZ.out X k HX.out
        have hfz : (strL f.text).size ≤ 500 := by rw [strL_size]; exact hkz
        have hXs : ∀ c, Hid ((X ++ [(c, f)]).map Prod.snd = l.take (k + 1)) := fun c => by
          show _ = _
          rw [List.map_append, HX.out, List.take_add_one, hf]; rfl
        have hTs : ∀ c, Hid (blanksL (X ++ [(c, f)]) = T.data.toList ++ (if c = true then cmt else []) ++ (32 :: f.text)) := fun c => by
          show _ = _
          rw [blanks_app, HT.out]
          simp [blanksL]
        have hfl : Hid ((strL f.text).data.toList = f.text) := strL_list _
        generalize strL f.text = F at k1 hfz hfl
        clear hfa hkz hf HT HX
        cases hbt : (bits BinOp.and IntKind.i64 (q / 2 ^ (k % 60)) 1 == 1) with
        | true =>
          have hc1 : (T ++ (⟨#[40, 120, 32, 34, 121, 41]⟩ : ByteArray)).size = T.size + 6 := by rw [ByteArray.size_append]; rfl
          have hc2 : ((T ++ (⟨#[40, 120, 32, 34, 121, 41]⟩ : ByteArray)) ++ (⟨#[32]⟩ : ByteArray)).size = T.size + 7 := by rw [ByteArray.size_append, hc1]; rfl
          go_wp2_with fail
          go_roundw
          case rel => exact ⟨k + 1, _, X ++ [(true, f)], by omega, rfl, by go_num, trivial, hXs true, by
            show _ = _
            rw [(hTs true).out, list_append, list_append, list_append, hfl.out]
            simp [cmt]⟩
          case measure => simp [intOf]; omega
        | false =>
          have hc1 : (T ++ (⟨#[32]⟩ : ByteArray)).size = T.size + 1 := by rw [ByteArray.size_append]; rfl
          go_wp2_with fail
          go_roundw
          case rel => exact ⟨k + 1, _, X ++ [(false, f)], by omega, rfl, by go_num, trivial, hXs false, by
            show _ = _
            rw [(hTs false).out, list_append, list_append, hfl.out]
            simp⟩
          case measure => simp [intOf]; omega
      · obtain rfl : k = n := by omega
        have hlt' : ¬ (k : Int) < (k : Int) := by omega
        have hT : l.take k = l := List.take_of_length_le (by rw [HN.out]; exact Nat.le_refl _)
        have hx := HX.out
        have hTz : T.size ≤ 10000 := by rw [size_list, HT.out]; exact HSZ.out X k hx
        rw [hT] at hx
        have c2 := fun W => HCP.out T (by omega) W
        rw [HT.out, HPB.out X hx] at c2
        dsimp only at c2
        rw [HKP.out] at c2
        clear hT hx HX HT
        go_wp2_with (first
          | (go_at_call 11; (with_reducible refine (c1 _).mono ?_); rintro e w4 ⟨a4, d4, rfl, ho, hb⟩; clear c1; have HL := Lib.hid ho; replace HB := Lib.hid (Qtrans HB.out hb); clear ho hb)
          | (go_at_call 11; (with_reducible refine (c2 _).mono ?_); rintro e w5 ⟨a5, d5, rfl, ho, hb⟩; clear c2; replace HL := Lib.hid (HL.out.step hb); have HM := Lib.hid ho; replace HB := Lib.hid (Qtrans HB.out hb); clear ho hb)
          | (go_at_call 13; (refine (cX _ _ _ HL HM).mono ?_); rintro e w9 ⟨rfl, hb9⟩; have HB9 := Lib.hid (Qtrans HB.out hb9); clear cX HL HM HB hb9))
        go_ret
        exact ⟨rfl, HB9.out⟩
  · have hf' : (500 : Int) < (s.size : Int) := by omega
    clear cPa hf
    go_enter Tryd.func7, Tryd.ntmps7
    go_wp2_with (go_at_call 10; (with_reducible refine cS.mono ?_); rintro e w1 ⟨rfl, hb1⟩)
    go_ret
    exact ⟨rfl, hb1⟩
end Go.Proofs.YtgponokcigapaaaDoor
namespace Go.Proofs.YtgponokcigapaaaDoor
open Go.ChangeShapes Go.WideShapes Go.ChangeAt Go.RowKit
open TokP AdrP

/-! ### Lists as they are written -/
def oneQ (a : Adr) : List UInt8 := if a.name = [] then specQ a else quoteL a.name ++ 32 :: 60 :: (specQ a ++ [62])
def writeQ : List Adr → List UInt8
  | [] => []
  | [a] => oneQ a
  | a :: b :: r => oneQ a ++ 44 :: 32 :: writeQ (b :: r)
theorem one_same (a : Adr) (h : shown a.loc = true) : oneQ a = oneW a := by
  unfold oneQ oneW
  rw [spec_same a h]
theorem write_same : ∀ l : List Adr, (∀ a ∈ l, shown a.loc = true) → writeQ l = writeL l
  | [], _ => rfl
  | [a], h => one_same a (h a (by simp))
  | a :: b :: r, h => by
    rw [writeQ, writeL, one_same a (h a (by simp)), write_same (b :: r) (fun x hx => h x (by simp [hx]))]
def smallA (a : Adr) : Bool := decide (a.name.length ≤ 300) && decide (a.loc.length ≤ 300) && decide (a.dom.length ≤ 300)
def fewB (l : List Adr) : Bool := l.all smallA && decide (l.length ≤ 20)
theorem quote_len (s : List UInt8) : (quoteL s).length ≤ 2 * s.length + 2 := by
  unfold quoteL
  split
  · omega
  · have := esc_len s
    simp; omega
theorem one_len (a : Adr) (h : smallA a = true) : (oneW a).length ≤ 2000 := by
  unfold smallA at h
  simp only [Bool.and_eq_true, decide_eq_true_eq] at h
  obtain ⟨⟨h1, h2⟩, h3⟩ := h
  have hq := quote_len a.name
  have hs : (specW a).length ≤ 2 * a.loc.length + 3 + a.dom.length := by
    unfold specW locW
    have := esc_len a.loc
    split
    · rw [List.length_append, List.length_cons]; omega
    · simp; omega
  unfold oneW
  split
  · omega
  · simp; omega
theorem write_len : ∀ l : List Adr, l.all smallA = true → (writeL l).length ≤ l.length * 2002
  | [], _ => Nat.le_refl _
  | [a], h => by
    rw [List.all_cons, Bool.and_eq_true] at h
    have := one_len a h.1
    show (oneW a).length ≤ 1 * 2002
    omega
  | a :: b :: r, h => by
    rw [List.all_cons, Bool.and_eq_true] at h
    have h1 := one_len a h.1
    have h2 := write_len (b :: r) h.2
    rw [writeL, List.length_append, List.length_cons, List.length_cons]
    generalize (writeL (b :: r)).length = x at h2 ⊢
    rw [List.length_cons] at h2
    rw [List.length_cons, List.length_cons]
    omega
/-! ### few -/
theorem few_take {l : List Adr} {k : Nat} {f : Adr} (h : l[k]? = some f) (hp : (l.take k).all smallA = true) (hf : smallA f = true) : (l.take (k + 1)).all smallA = true := by
  rw [List.take_add_one, h, List.all_append, hp]
  simp [hf]
theorem few_bad {l : List Adr} {k : Nat} {f : Adr} (h : l[k]? = some f) (hf : smallA f = false) : fewB l = false := by
  unfold fewB
  have : l.all smallA = false := by
    rw [List.all_eq_false]
    exact ⟨f, List.mem_of_getElem? h, by rw [hf]; exact Bool.false_ne_true⟩
  rw [this]; rfl
set_option maxRecDepth 100000 in
set_option maxHeartbeats 1000000 in
theorem fewA_any (v : Value) (l : List Adr) (w : World) (h : HasA w v l) (hl : l.length ≤ 9223372036854775807) :
    Calls Tryd.prog 17 #[v] w fun e w' => e = .returned (.bool (fewB l)) ∧ w = w' := by
  obtain ⟨R, hR⟩ : ∃ R, fewB l = R := ⟨_, rfl⟩
  have HR := Lib.hid hR
  rw [hR]
  obtain ⟨a, c, rfl⟩ := h.form
  obtain ⟨n, hn⟩ : ∃ n, l.length = n := ⟨_, rfl⟩
  rw [hn] at h hl ⊢
  have HN := Lib.hid hn
  have H := Lib.hid h
  clear hR hn h
  go_enter Tryd.func17, Tryd.ntmps17
  go_wp2_with fail
  go_loopw [3] (fun i wr => ∃ k : Nat, k ≤ n ∧ i = .int .i64 k ∧ wr = w ∧ Hid ((l.take k).all smallA = true)) (fun i _ => n - (intOf i).toNat)
  case atStart => exact ⟨0, Nat.zero_le _, rfl, rfl, rfl⟩
  case round =>
    obtain ⟨k, hk, rfl, rfl, HP⟩ := hrel
    by_cases hlt : k < n
    · have hlt' : (k : Int) < (n : Int) := by omega
      have F1 : IntKind.i64.wrap ((k : Int) + 1) = (k : Int) + 1 := by rw [IntKind.wrap_i64]; omega
      obtain ⟨g, o, rfl, hfa⟩ := H.out.at (by omega)
      obtain ⟨f, hf⟩ : ∃ f, l[k]? = some f := ⟨_, List.getElem?_eq_getElem (by rw [HN.out]; exact hlt)⟩
      obtain ⟨k0, k1, k2⟩ := hfa k f hf
      have s0 : (strL f.name).size = f.name.length := strL_size _
      have s1 : (strL f.loc).size = f.loc.length := strL_size _
      have s2 : (strL f.dom).size = f.dom.length := strL_size _
      by_cases h0 : f.name.length ≤ 300
      · by_cases h1 : f.loc.length ≤ 300
        · by_cases h2 : f.dom.length ≤ 300
          · have HP2 := Lib.hid (few_take hf HP.out (by unfold smallA; rw [decide_eq_true h0, decide_eq_true h1, decide_eq_true h2]; rfl))
            have q0 : ¬ (300 : Int) < ((strL f.name).size : Int) := by omega
            have q1 : ¬ (300 : Int) < ((strL f.loc).size : Int) := by omega
            have q2 : ¬ (300 : Int) < ((strL f.dom).size : Int) := by omega
            generalize strL f.name = A at k0 q0
            generalize strL f.loc = B at k1 q1
            generalize strL f.dom = C at k2 q2
            clear hf hfa h0 h1 h2 s0 s1 s2 HP
            go_wp2_with fail
            go_roundw
            case rel => exact ⟨k + 1, by omega, by go_num, trivial, HP2⟩
            case measure => simp [intOf]; omega
          · have HB := Lib.hid (HR.out.symm.trans (few_bad hf (by unfold smallA; rw [decide_eq_false h2, Bool.and_false])))
            have q0 : ¬ (300 : Int) < ((strL f.name).size : Int) := by omega
            have q1 : ¬ (300 : Int) < ((strL f.loc).size : Int) := by omega
            have q2 : (300 : Int) < ((strL f.dom).size : Int) := by omega
            generalize strL f.name = A at k0 q0
            generalize strL f.loc = B at k1 q1
            generalize strL f.dom = C at k2 q2
            clear hf hfa h0 h1 h2 s0 s1 s2 HP
            go_wp2_with fail
            go_ret
            exact ⟨by rw [HB.out]; rfl, rfl⟩
        · have HB := Lib.hid (HR.out.symm.trans (few_bad hf (by unfold smallA; rw [decide_eq_false h1, Bool.and_false, Bool.false_and])))
          have q0 : ¬ (300 : Int) < ((strL f.name).size : Int) := by omega
          have q1 : (300 : Int) < ((strL f.loc).size : Int) := by omega
          generalize strL f.name = A at k0 q0
          generalize strL f.loc = B at k1 q1
          clear hf hfa h0 h1 s0 s1 s2 HP k2
          go_wp2_with fail
          go_ret
          exact ⟨by rw [HB.out]; rfl, rfl⟩
      · have HB := Lib.hid (HR.out.symm.trans (few_bad hf (by unfold smallA; rw [decide_eq_false h0]; rfl)))
        have q0 : (300 : Int) < ((strL f.name).size : Int) := by omega
        generalize strL f.name = A at k0 q0
        clear hf hfa h0 s0 s1 s2 HP k1 k2
        go_wp2_with fail
        go_ret
        exact ⟨by rw [HB.out]; rfl, rfl⟩
    · obtain rfl : k = n := by omega
      have hlt' : ¬ (k : Int) < (k : Int) := by omega
      have hT : l.take k = l := List.take_of_length_le (by rw [HN.out]; exact Nat.le_refl _)
      have hr := HR.out
      unfold fewB at hr
      have hp := HP.out
      rw [hT] at hp
      rw [hp, Bool.true_and, HN.out] at hr
      have HQ : Hid (decide ((k : Int) ≤ 20) = R) := by
        show _ = _
        rw [← hr, Bool.eq_iff_iff, decide_eq_true_iff, decide_eq_true_iff]
        omega
      clear hr hp hT HP
      go_wp2_with fail
      go_ret
      exact ⟨by rw [← HQ.out]; simp, rfl⟩
/-- What the laws ask of addr.Right and addr.Write. -/
def RightOk : Prop := ∀ (a : Adr) (_ : smallA a = true) (W : World), Calls Tryd.prog 18 #[.agg #[.string (strL a.name), .string (strL a.loc), .string (strL a.dom)]] W fun e w' => e = .returned (.bool (rightB a)) ∧ Below W.heap.size W w'
def WriteOk : Prop := ∀ (v : Value) (l : List Adr) (W : World) (_ : HasA W v l) (_ : fewB l = true), Calls Tryd.prog 22 #[v] W fun e w' => e = .returned (.string (strL (writeQ l))) ∧ Below W.heap.size W w'
set_option maxRecDepth 1000000 in
set_option maxHeartbeats 1000000 in
theorem back_any (cSm : SmallOk) (cPa : ParseOk) (cRi : RightOk) (cWr : WriteOk) (v : Value) (l : List Adr) (w : World) (h : HasA w v l) (hl : l.length ≤ 9223372036854775807) :
    Calls Tryd.prog 5 #[v] w fun e w' => e = .returned (.bool true) ∧ Below w.heap.size w w' := by
  have cS := cSm w
  clear cSm
  have cF := fun W (h : Hid (HasA W v l)) => fewA_any v l W h.out hl
  have HH := Lib.hid h
  clear h hl
  by_cases hf : fewB l = true
  · rw [hf] at cF
    obtain ⟨hsm, hlen⟩ : l.all smallA = true ∧ l.length ≤ 20 := by
      unfold fewB at hf
      rw [Bool.and_eq_true, decide_eq_true_eq] at hf
      exact hf
    obtain ⟨a, c, rfl⟩ := HH.out.form
    obtain ⟨n, hn⟩ : ∃ n, l.length = n := ⟨_, rfl⟩
    have HN := Lib.hid hn
    have HSM := Lib.hid (fun (k : Nat) (f : Adr) (h : l[k]? = some f) => (List.all_eq_true.1 hsm) f (List.mem_of_getElem? h))
    have HWZ := Lib.hid (write_len l hsm)
    have cW := fun W (h : Hid (HasA W (.slice a l.length c) l)) => cWr _ l W h.out hf
    have cX := fun W u (h : Hid (HasA W (.slice a l.length c) l)) (k' : Hid (OwnA W u l)) => sameA_any h.out k'.out.has (by omega : l.length ≤ 1000000)
    rw [show decide (l = l) = true from decide_eq_true rfl] at cX
    rw [hn] at HH cF cW cX hlen ⊢
    have HCP := Lib.hid cPa
    have HCR := Lib.hid cRi
    clear hf hsm hn cWr cPa cRi
    go_enter Tryd.func5, Tryd.ntmps5
    go_wp2_with (first
      | (go_at_call 10; (with_reducible refine cS.mono ?_); rintro e w1 ⟨rfl, hb1⟩; clear cS; replace HH := Lib.hid (HH.out.step hb1); have HB := Lib.hid hb1; clear hb1)
      | (go_at_call 17; (with_reducible refine (cF _ HH).mono ?_); rintro e w2 ⟨rfl, rfl⟩; clear cF))
    go_loopw [5] (fun i wr => ∃ k : Nat, k ≤ n ∧ i = .int .i64 k ∧ Hid (HasA wr (.slice a n c) l) ∧ Hid (Below w.heap.size w wr) ∧ Hid (∀ a ∈ l.take k, rightB a = true)) (fun i _ => n - (intOf i).toNat)
    case atStart => exact ⟨0, Nat.zero_le _, rfl, HH, HB, fun a ha => by simp at ha⟩
    case round =>
      obtain ⟨k, hk, rfl, hh, hb, HR⟩ := hrel
      have F1 : IntKind.i64.wrap ((k : Int) + 1) = (k : Int) + 1 := by rw [IntKind.wrap_i64]; omega
      by_cases hlt : k < n
      · have hlt' : (k : Int) < (n : Int) := by omega
        obtain ⟨g, o, rfl, hfa⟩ := hh.out.at (by omega)
        obtain ⟨f, hf⟩ : ∃ f, l[k]? = some f := ⟨_, List.getElem?_eq_getElem (by rw [HN.out]; exact hlt)⟩
        obtain ⟨k0, k1, k2⟩ := hfa k f hf
        have cR := HCR.out f (HSM.out k f hf)
        have HRN := Lib.hid (fun (h : rightB f = true) => show ∀ a ∈ l.take (k + 1), rightB a = true from fun a ha => by
          rw [List.take_add_one, hf] at ha
          rcases List.mem_append.1 ha with ha | ha
          · exact HR.out a ha
          · obtain rfl : a = f := by simpa using ha
            exact h)
        generalize strL f.name = x1 at k0 cR
        generalize strL f.loc = x2 at k1 cR
        generalize strL f.dom = x3 at k2 cR
        cases hr : rightB f with
        | true =>
          rw [hr] at cR
          have HR2 := Lib.hid (HRN.out hr)
          clear hr hf hfa HR HRN HH HB
          go_wp2_with (go_at_call 18; (with_reducible refine (cR _).mono ?_); rintro e w3 ⟨rfl, hb3⟩)
          go_roundw
          case rel => exact ⟨k + 1, by omega, by go_num, Lib.hid (hh.out.step hb3), Lib.hid (Qtrans hb.out hb3), HR2⟩
          case measure => simp [intOf]; omega
        | false =>
          rw [hr] at cR
          clear hr hf hfa HR HRN HH HB
          go_wp2_with (go_at_call 18; (with_reducible refine (cR _).mono ?_); rintro e w3 ⟨rfl, hb3⟩)
          go_ret
          exact ⟨rfl, Qtrans hb.out hb3⟩
      · obtain rfl : k = n := by omega
        have hlt' : ¬ (k : Int) < (k : Int) := by omega
        have hT : l.take k = l := List.take_of_length_le (by rw [HN.out]; exact Nat.le_refl _)
        have hR := HR.out
        rw [hT] at hR
        have hws := write_same l (fun a ha => right_loc (hR a ha))
        have hpw := parse_write l (fun a ha => right_dom (hR a ha))
        rw [hws] at cW
        have hwz := HWZ.out
        rw [HN.out] at hwz
        have cP := fun W => HCP.out (strL (writeL l)) (by rw [strL_size]; omega) W
        rw [strL_list, hpw] at cP
        dsimp only at cP
        rw [HN.out] at cP
        generalize strL (writeL l) = S at cW cP
        clear hT hR hws hpw hwz HR HH HB
        go_wp2_with (first
          | (go_at_call 22; (with_reducible refine (cW _ hh).mono ?_); rintro e w3 ⟨rfl, hb3⟩; clear cW; replace hh := Lib.hid (hh.out.step hb3); replace hb := Lib.hid (Qtrans hb.out hb3); clear hb3)
          | (go_at_call 11; (with_reducible refine (cP _).mono ?_); rintro e w4 ⟨a4, c4, rfl, ho4, hb4⟩; clear cP; replace hh := Lib.hid (hh.out.step hb4); replace hb := Lib.hid (Qtrans hb.out hb4); have HO := Lib.hid ho4; clear hb4 ho4)
          | (go_at_call 13; (refine (cX _ _ hh HO).mono ?_); rintro e w5 ⟨rfl, hb5⟩; replace hb := Lib.hid (Qtrans hb.out hb5); clear hb5 cX))
        go_ret
        exact ⟨rfl, hb.out⟩
  · rw [show fewB l = false by simpa using hf] at cF
    clear hf cPa cRi cWr
    go_enter Tryd.func5, Tryd.ntmps5
    go_wp2_with (first
      | (go_at_call 10; (with_reducible refine cS.mono ?_); rintro e w1 ⟨rfl, hb1⟩; clear cS; replace HH := Lib.hid (HH.out.step hb1))
      | (go_at_call 17; (with_reducible refine (cF _ HH).mono ?_); rintro e w2 ⟨rfl, rfl⟩; clear cF))
    go_ret
    exact ⟨rfl, hb1⟩
end Go.Proofs.YtgponokcigapaaaDoor
