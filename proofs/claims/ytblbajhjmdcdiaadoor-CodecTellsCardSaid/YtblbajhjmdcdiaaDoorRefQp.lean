/- The reference's Qp. -/
import Derived.Test.YtblbajhjmdcdiaaDoorRefQ
namespace Go.Proofs.YtblbajhjmdcdiaaDoor
open Go.ChangeShapes Go.WideShapes Go.ChangeAt Go.RowKit

theorem al_old (w : World) (o : Obj) (g : Nat) (h : g < w.heap.size) : (w.alloc o).heap[g]? = w.heap[g]? := ((Below.refl w.heap.size w).alloc (Nat.le_refl _) o).block g h
theorem Ow.alloc {w : World} {B : Nat} {v : Value} {out : List UInt8} (h : Ow w B v out) (o : Obj) : Ow (w.alloc o) B v out := World.ownsRow.alloc h o
theorem Ow.other {w : World} {B : Nat} {v : Value} {out : List UInt8} (h : Ow w B v out) (g : Nat) (hg : w.heap.size ≤ g) : v.ownBlock ≠ some g := fun e => by
  have := (World.ownsRow.lt h g e).2
  omega
/-- Bytes that lie in block g, appended. -/
theorem app_at {ops : Array Oper} {rest : List Oper} {o : Oper} {a : Act} {w : World} {Q : Exit → Act → World → Prop} (hgd : o.guard = none) (d x : Operand)
    (ho : o.op = .call { callee := .builtin .append, args := #[d, x], argTypes := #[25, 25] }) (B g : Nat) (out news : List UInt8) (m : Nat) {v : Value} (hown : Ow w B v out) (hg : w.heap[g]? = some (.cells (cellsOf news).toArray 5 (0, 0))) (hd : a.eval d = v)
    (hx : a.eval x = .slice (some ⟨g, 0, none⟩) m m) (hm : news.length = m) (hlen : out.length + m ≤ 1000000000) (hB : B ≤ w.heap.size)
    (h : ∀ v' w', Ow w' B v' (out ++ news) → Below B w w' → (∀ j, j < w.heap.size → v.ownBlock ≠ some j → w'.heap[j]? = w.heap[j]?) → wpList Tryd.prog ops Q rest (a.put o.dst v') w') : wpList Tryd.prog ops Q (o :: rest) a w := by
  obtain ⟨i0, hi, hz0, hz1, hz2⟩ := info_parts info5
  have hcl : (cellsOf news).length = m := by unfold cellsOf; rw [List.length_map, hm]
  have hnews : ∀ j u, (cellsOf news)[j]? = some u → w.cell? ((⟨g, 0, none⟩ : Addr).add j) = some u := fun j u hj => by
    have e : (⟨g, 0, none⟩ : Addr).add j = ⟨g, j, none⟩ := by unfold Addr.add; split <;> simp_all
    rw [e, Lib.cell_of_heap hg, List.getElem?_toArray]; exact hj
  refine wpList_append_own _ hgd d x 25 ho B 5 i0 (.int .u8 0) 1 1 Tryd.underlying25 hi hz0 hz1 hz2 rfl (by decide) v _ _ hd hown ⟨g, 0, none⟩ m m (cellsOf news) hx (by omega) hnews (cellsOf_one _) ?_ ?_ hB ?_
  · unfold maxLen; omega
  · omega
  · intro v' w' hown' hgrow _
    refine h v' w' ?_ ((Below.refl B w).grown hgrow hB (fun j hj => (World.ownsRow.lt hown j hj).1)) (fun j hj hne => hgrow.block j hj (fun e => hne e.symm))
    unfold Ow
    rw [List.length_append, hm]
    unfold cellsOf at hown' ⊢
    rw [List.map_append]
    exact hown'

theorem endsR_any (s : ByteArray) (k : Nat) (hk : k ≤ s.size) (hs : s.size ≤ 1000000) (w : World) : Calls Tryd.prog 32 #[.string s, .int .i64 k] w fun e w' => e = .returned (.bool (crlfAt (s.data.toList.drop k))) ∧ w = w' := by
  by_cases h1 : k + 1 < s.size
  · have hd := drop_cons s k (by omega)
    have hd1 := drop_cons s (k + 1) h1
    by_cases h13 : s[k].toNat = 13
    · by_cases h10 : s[k + 1].toNat = 10
      · have hv : crlfAt (s.data.toList.drop k) = true := by
          rw [hd, hd1, show s[k] = 13 from UInt8.toNat_inj.1 h13, show s[k + 1] = 10 from UInt8.toNat_inj.1 h10, crlf_cons]
        rw [hv]
        clear hv hd hd1
        go_enter Tryd.func32, Tryd.ntmps32
        go_wp2
        go_ret
        exact ⟨rfl, rfl⟩
      · have hv : crlfAt (s.data.toList.drop k) = false := by
          rw [Bool.eq_false_iff]
          intro hh
          obtain ⟨u, e⟩ := crlf_inv hh
          rw [hd, hd1] at e
          have := (List.cons.inj (List.cons.inj e).2).1
          exact h10 (by rw [this]; rfl)
        have e10 : ((s[k + 1].toNat : Int) == 10) = false := by rw [beq_eq_false_iff_ne]; omega
        rw [hv]
        clear hv hd hd1
        go_enter Tryd.func32, Tryd.ntmps32
        go_wp2
        go_ret
        exact ⟨rfl, rfl⟩
    · have hv : crlfAt (s.data.toList.drop k) = false := by
        rw [hd]
        exact crlf_cr (fun e => h13 (by rw [e]; rfl)) _
      have e13 : ((s[k].toNat : Int) == 13) = false := by rw [beq_eq_false_iff_ne]; omega
      rw [hv]
      clear hv hd hd1
      go_enter Tryd.func32, Tryd.ntmps32
      go_wp2
      go_ret
      exact ⟨rfl, rfl⟩
  · have hv : crlfAt (s.data.toList.drop k) = false := by
      rw [Bool.eq_false_iff]
      intro hh
      obtain ⟨u, e⟩ := crlf_inv hh
      have := congrArg List.length e
      rw [List.length_drop, ← size_list, List.length_cons, List.length_cons] at this
      omega
    rw [hv]
    clear hv
    go_enter Tryd.func32, Tryd.ntmps32
    go_wp2
    go_ret
    exact ⟨rfl, rfl⟩
theorem put_over {n : Nat} {p : List UInt8} (h : n + p.length > 75) : put n p = [61, 13, 10] ++ p ∧ after n p = p.length := by
  unfold put after
  rw [if_pos h, if_pos h]
  exact ⟨rfl, rfl⟩
theorem put_in {n : Nat} {p : List UInt8} (h : ¬ n + p.length > 75) : put n p = p ∧ after n p = n + p.length := by
  unfold put after
  rw [if_neg h, if_neg h]
  exact ⟨rfl, rfl⟩
theorem piece_plain {c : UInt8} {last : Bool} (h : asItself c last = true) : piece c last = [c] := by unfold piece; rw [h]; rfl
theorem piece_esc {c : UInt8} {last : Bool} (h : asItself c last = false) : piece c last = esc c := by unfold piece; rw [h]; rfl
theorem last_end (s : ByteArray) (k : Nat) (h : k + 1 = s.size) : ((s.data.toList.drop (k + 1)).isEmpty || crlfAt (s.data.toList.drop (k + 1))) = true := by
  rw [List.drop_eq_nil_of_le (by rw [← size_list]; omega)]; rfl
theorem last_mid (s : ByteArray) (k : Nat) (h : k + 1 < s.size) : ((s.data.toList.drop (k + 1)).isEmpty || crlfAt (s.data.toList.drop (k + 1))) = crlfAt (s.data.toList.drop (k + 1)) := by
  rw [drop_cons s (k + 1) h]; rfl

set_option maxHeartbeats 40000000 in
set_option maxRecDepth 1000000 in
theorem qpR_any (s : ByteArray) (hs : s.size ≤ 1000000) (w : World) :
    Calls Tryd.prog 15 #[.string s] w fun e w' => e = .returned (.string (strL (qpL s.data.toList))) ∧ Below w.heap.size w w' := by
  obtain ⟨ANS, hANS⟩ : ∃ ANS, qpL s.data.toList = ANS := ⟨_, rfl⟩
  rw [hANS]
  go_enter Tryd.func15, Tryd.ntmps15
  go_wp2
  go_loopw [5, 4, 3] (fun i nv v wr => ∃ (k n : Nat) (out : List UInt8), k ≤ s.size ∧ i = .int .i64 k ∧ nv = .int .i64 n ∧ n ≤ 75 ∧ Hid (Ow wr w.heap.size v out) ∧ Below w.heap.size w wr ∧ Hid (out ++ qpB false n (s.data.toList.drop k) = ANS) ∧ out.length ≤ 6 * k)
    (fun i _ _ _ => s.size - (intOf i).toNat)
  case atStart => exact ⟨0, 0, [], Nat.zero_le _, rfl, rfl, Nat.zero_le _, Lib.hid (ow_nil _ _), Below.refl _ _, Lib.hid hANS, Nat.le_refl _⟩
  case round =>
    clear hANS
    obtain ⟨k, n, out, hk, rfl, rfl, hn, hown, hb, hacc, hol⟩ := hrel
    have hsz := hb.size
    by_cases hlt : k < s.size
    · have hd := drop_cons s k hlt
      have HE0 := Lib.hid (fun W => endsR_any s k hk hs W)
      cases hc : crlfAt (s.data.toList.drop k) with
      | true =>
        rw [hc] at HE0
        obtain ⟨u, hu⟩ := crlf_inv hc
        have hlt2 : k + 1 < s.size := by
          have := congrArg List.length hu
          rw [List.length_drop, ← size_list, List.length_cons, List.length_cons] at this
          omega
        have hdu : s.data.toList.drop (k + 2) = u := by
          rw [← List.drop_drop, hu]; rfl
        have HR : Hid (out ++ [13, 10] ++ qpB false 0 (s.data.toList.drop (k + 2)) = ANS) := Lib.hid (by
          rw [← hacc.out, hu, qpB_end, hdu, List.append_assoc]; rfl)
        clear hdu hu hd hc hacc
        go_wp2_with (first
          | (go_at_call 32; with_reducible refine (HE0.out _).mono ?_; rintro e w' ⟨rfl, rfl⟩)
          | (at_builtin; refine app_law rfl _ _ rfl w.heap.size out [13, 10] 2 hown.out rfl rfl rfl (by omega) hsz ?_; intro v' w2 hown2 hb2))
        go_roundw
        case rel => exact ⟨k + 2, 0, out ++ [13, 10], by omega, by go_num, rfl, by omega, Lib.hid hown2, hb.trans hb2, HR, by simp only [List.length_append, List.length_cons, List.length_nil]; omega⟩
        case measure => simp [intOf]; omega
      | false =>
        rw [hc] at HE0
        rw [hd] at hc
        have hgo := qpB_go hc n
        rw [← hd] at hgo
        rw [hgo] at hacc
        have hlast : k + 1 = s.size ∨ k + 1 < s.size := by omega
        have HE1 : k + 1 < s.size → Hid (∀ W, Calls Tryd.prog 32 #[.string s, .int .i64 ((k : Int) + 1)] W fun e w' => e = .returned (.bool (crlfAt (s.data.toList.drop (k + 1)))) ∧ W = w') := fun h => Lib.hid fun W => endsR_any s (k + 1) (by omega) hs W
        have hc256 := s[k].toNat_lt
        have H1 := Lib.hid (fun W => hexR_hi s[k] W)
        have H2 := Lib.hid (fun W => hexR_lo s[k] W)
        have hgA : (wr.alloc (.cells #[.int .u8 (s[k].toNat : Int)] 5)).heap[wr.heap.size]? = some (.cells (cellsOf [s[k]]).toArray 5 (0, 0)) := Go.heap_alloc_new _ _
        have hgB : ∀ o : Obj, ((wr.alloc (.cells #[.int .u8 (s[k].toNat : Int)] 5)).alloc o).heap[wr.heap.size + 1]? = some o := fun o => by
          have := Go.heap_alloc_new (wr.alloc (.cells #[.int .u8 (s[k].toNat : Int)] 5)) o
          rwa [World.size_alloc] at this
        have hgC : ∀ o o' : Obj, (((wr.alloc (.cells #[.int .u8 (s[k].toNat : Int)] 5)).alloc o).alloc o').heap[wr.heap.size + 1 + 1]? = some o' := fun o o' => by
          have := Go.heap_alloc_new ((wr.alloc (.cells #[.int .u8 (s[k].toNat : Int)] 5)).alloc o) o'
          rwa [World.size_alloc, World.size_alloc] at this
        have hgA2 : ∀ o : Obj, ((wr.alloc (.cells #[.int .u8 (s[k].toNat : Int)] 5)).alloc o).heap[wr.heap.size]? = some (.cells (cellsOf [s[k]]).toArray 5 (0, 0)) := fun o => by
          rw [al_old _ _ _ (by rw [World.size_alloc]; omega)]; exact hgA
        have hgB2 : ∀ o o' : Obj, (((wr.alloc (.cells #[.int .u8 (s[k].toNat : Int)] 5)).alloc o).alloc o').heap[wr.heap.size + 1]? = some o := fun o o' => by
          rw [al_old _ _ _ (by rw [World.size_alloc, World.size_alloc]; omega)]; exact hgB o
        have HgA := Lib.hid hgA
        have HgB := Lib.hid hgB
        have HgC := Lib.hid hgC
        have HgA2 := Lib.hid hgA2
        have HgB2 := Lib.hid hgB2
        have hne0 := hown.out.other wr.heap.size (Nat.le_refl _)
        have hne1 := hown.out.other (wr.heap.size + 1) (by omega)
        have HN0 := Lib.hid hne0
        have HN1 := Lib.hid hne1
        have hbA := hb.alloc hsz (.cells #[.int .u8 (s[k].toNat : Int)] 5)
        have HbA := Lib.hid hbA
        clear hgA hgB hgC hgA2 hgB2 hne0 hne1 hbA hd hc hgo
        rcases (show (33 ≤ s[k].toNat ∧ s[k].toNat ≤ 126 ∧ s[k].toNat ≠ 61) ∨ s[k].toNat = 32 ∨ s[k].toNat = 9 ∨ (s[k].toNat < 33 ∧ s[k].toNat ≠ 32 ∧ s[k].toNat ≠ 9) ∨ s[k].toNat = 61 ∨ 126 < s[k].toNat by omega) with h | h | h | h | h | h
        · rcases hlast with hl | hl
          · rw [last_end s k hl] at hacc
            clear HE1
            have hle : (((k : Int) + 1) == (s.size : Int)) = true := by rw [beq_iff_eq]; omega
            by_cases hov : n + 1 > 75
            · have hp := piece_plain (show asItself s[k] true = true from by rw [asItself_is, if_neg (by omega), decide_eq_true (show 33 ≤ s[k].toNat by omega), decide_eq_true (show s[k].toNat ≤ 126 by omega), decide_eq_true (show s[k].toNat ≠ 61 by omega)]; rfl)
              have e61 : ((s[k].toNat : Int) == 61) = false := by rw [beq_eq_false_iff_ne]; omega
              obtain ⟨h1, h2, _⟩ := h
              have hpl : ([s[k]]).length = 1 := rfl
              have hpo := put_over (n := n) (p := [s[k]]) (by rw [hpl]; exact hov)
              rw [hp, hpo.1, hpo.2, hpl] at hacc
              have HR : Hid ((out ++ [61, 13, 10]) ++ [s[k]] ++ qpB false (1) (s.data.toList.drop (k + 1)) = ANS) := Lib.hid (by rw [← hacc.out]; simp only [List.append_assoc])
              clear hpo hp hpl hacc
              go_wp2_with (first
                  | (go_at_call 32; with_reducible refine (HE0.out _).mono ?_; rintro e w' ⟨rfl, rfl⟩)
                  | (at_builtin; refine app_at rfl _ _ rfl w.heap.size (wr.heap.size + 1) out [61, 13, 10] 3 (Ow.alloc (Ow.alloc hown.out _) _) (HgB.out _) rfl rfl rfl (by omega) (by simp only [World.size_alloc]; omega) ?_; intro v' w2 hown2 hb2 hkeep; have hg2 := (hkeep wr.heap.size (by simp only [World.size_alloc]; omega) HN0.out).trans (HgA2.out _))
                  | (at_builtin; refine app_at rfl _ _ rfl w.heap.size wr.heap.size (out ++ [61, 13, 10]) ([s[k]]) 1 hown2 hg2 rfl rfl rfl (by simp only [List.length_append, List.length_cons, List.length_nil]; omega) (Nat.le_trans (by simp only [World.size_alloc]; omega) hb2.size) ?_; intro v2 w3 hown3 hb3 _))
              go_roundw
              case rel => exact ⟨k + 1, 1, (out ++ [61, 13, 10]) ++ [s[k]], by omega, by go_num, by go_num, by omega, Lib.hid hown3, ((HbA.out.alloc (by simp only [World.size_alloc]; omega) _).trans hb2).trans hb3, HR, by simp only [List.length_append, List.length_cons, List.length_nil, show (esc s[k]).length = 3 from rfl]; omega⟩
              case measure => simp [intOf]; omega
            · have hp := piece_plain (show asItself s[k] true = true from by rw [asItself_is, if_neg (by omega), decide_eq_true (show 33 ≤ s[k].toNat by omega), decide_eq_true (show s[k].toNat ≤ 126 by omega), decide_eq_true (show s[k].toNat ≠ 61 by omega)]; rfl)
              have e61 : ((s[k].toNat : Int) == 61) = false := by rw [beq_eq_false_iff_ne]; omega
              obtain ⟨h1, h2, _⟩ := h
              have hpl : ([s[k]]).length = 1 := rfl
              have hpo := put_in (n := n) (p := [s[k]]) (by rw [hpl]; exact hov)
              rw [hp, hpo.1, hpo.2, hpl] at hacc
              have HR : Hid (out ++ [s[k]] ++ qpB false (n + 1) (s.data.toList.drop (k + 1)) = ANS) := Lib.hid (by rw [← hacc.out]; simp only [List.append_assoc])
              clear hpo hp hpl hacc
              go_wp2_with (first
                  | (go_at_call 32; with_reducible refine (HE0.out _).mono ?_; rintro e w' ⟨rfl, rfl⟩)
                  | (at_builtin; refine app_at rfl _ _ rfl w.heap.size wr.heap.size out ([s[k]]) 1 (Ow.alloc hown.out _) HgA.out rfl rfl rfl (by omega) (by simp only [World.size_alloc]; omega) ?_; intro v2 w3 hown3 hb3 _))
              go_roundw
              case rel => exact ⟨k + 1, n + 1, out ++ [s[k]], by omega, by go_num, by go_num, by omega, Lib.hid hown3, HbA.out.trans hb3, HR, by simp only [List.length_append, List.length_cons, List.length_nil, show (esc s[k]).length = 3 from rfl]; omega⟩
              case measure => simp [intOf]; omega
          · rw [last_mid s k hl] at hacc
            replace HE1 := HE1 hl
            have hle : (((k : Int) + 1) == (s.size : Int)) = false := by rw [beq_eq_false_iff_ne]; omega
            generalize crlfAt (s.data.toList.drop (k + 1)) = f at hacc HE1
            by_cases hov : n + 1 > 75
            · have hp := piece_plain (show asItself s[k] f = true from by rw [asItself_is, if_neg (by omega), decide_eq_true (show 33 ≤ s[k].toNat by omega), decide_eq_true (show s[k].toNat ≤ 126 by omega), decide_eq_true (show s[k].toNat ≠ 61 by omega)]; rfl)
              have e61 : ((s[k].toNat : Int) == 61) = false := by rw [beq_eq_false_iff_ne]; omega
              obtain ⟨h1, h2, _⟩ := h
              have hpl : ([s[k]]).length = 1 := rfl
              have hpo := put_over (n := n) (p := [s[k]]) (by rw [hpl]; exact hov)
              rw [hp, hpo.1, hpo.2, hpl] at hacc
              have HR : Hid ((out ++ [61, 13, 10]) ++ [s[k]] ++ qpB false (1) (s.data.toList.drop (k + 1)) = ANS) := Lib.hid (by rw [← hacc.out]; simp only [List.append_assoc])
              clear hpo hp hpl hacc
              go_wp2_with (first
                  | (go_at_call 32; with_reducible refine (HE0.out _).mono ?_; rintro e w' ⟨rfl, rfl⟩)
                  | (go_at_call 32; with_reducible refine (HE1.out _).mono ?_; rintro e w' ⟨rfl, rfl⟩)
                  | (at_builtin; refine app_at rfl _ _ rfl w.heap.size (wr.heap.size + 1) out [61, 13, 10] 3 (Ow.alloc (Ow.alloc hown.out _) _) (HgB.out _) rfl rfl rfl (by omega) (by simp only [World.size_alloc]; omega) ?_; intro v' w2 hown2 hb2 hkeep; have hg2 := (hkeep wr.heap.size (by simp only [World.size_alloc]; omega) HN0.out).trans (HgA2.out _))
                  | (at_builtin; refine app_at rfl _ _ rfl w.heap.size wr.heap.size (out ++ [61, 13, 10]) ([s[k]]) 1 hown2 hg2 rfl rfl rfl (by simp only [List.length_append, List.length_cons, List.length_nil]; omega) (Nat.le_trans (by simp only [World.size_alloc]; omega) hb2.size) ?_; intro v2 w3 hown3 hb3 _))
              go_roundw
              case rel => exact ⟨k + 1, 1, (out ++ [61, 13, 10]) ++ [s[k]], by omega, by go_num, by go_num, by omega, Lib.hid hown3, ((HbA.out.alloc (by simp only [World.size_alloc]; omega) _).trans hb2).trans hb3, HR, by simp only [List.length_append, List.length_cons, List.length_nil, show (esc s[k]).length = 3 from rfl]; omega⟩
              case measure => simp [intOf]; omega
            · have hp := piece_plain (show asItself s[k] f = true from by rw [asItself_is, if_neg (by omega), decide_eq_true (show 33 ≤ s[k].toNat by omega), decide_eq_true (show s[k].toNat ≤ 126 by omega), decide_eq_true (show s[k].toNat ≠ 61 by omega)]; rfl)
              have e61 : ((s[k].toNat : Int) == 61) = false := by rw [beq_eq_false_iff_ne]; omega
              obtain ⟨h1, h2, _⟩ := h
              have hpl : ([s[k]]).length = 1 := rfl
              have hpo := put_in (n := n) (p := [s[k]]) (by rw [hpl]; exact hov)
              rw [hp, hpo.1, hpo.2, hpl] at hacc
              have HR : Hid (out ++ [s[k]] ++ qpB false (n + 1) (s.data.toList.drop (k + 1)) = ANS) := Lib.hid (by rw [← hacc.out]; simp only [List.append_assoc])
              clear hpo hp hpl hacc
              go_wp2_with (first
                  | (go_at_call 32; with_reducible refine (HE0.out _).mono ?_; rintro e w' ⟨rfl, rfl⟩)
                  | (go_at_call 32; with_reducible refine (HE1.out _).mono ?_; rintro e w' ⟨rfl, rfl⟩)
                  | (at_builtin; refine app_at rfl _ _ rfl w.heap.size wr.heap.size out ([s[k]]) 1 (Ow.alloc hown.out _) HgA.out rfl rfl rfl (by omega) (by simp only [World.size_alloc]; omega) ?_; intro v2 w3 hown3 hb3 _))
              go_roundw
              case rel => exact ⟨k + 1, n + 1, out ++ [s[k]], by omega, by go_num, by go_num, by omega, Lib.hid hown3, HbA.out.trans hb3, HR, by simp only [List.length_append, List.length_cons, List.length_nil, show (esc s[k]).length = 3 from rfl]; omega⟩
              case measure => simp [intOf]; omega
        · rcases hlast with hl | hl
          · rw [last_end s k hl] at hacc
            clear HE1
            have hle : (((k : Int) + 1) == (s.size : Int)) = true := by rw [beq_iff_eq]; omega
            by_cases hov : n + 3 > 75
            · have hp := piece_esc (show asItself s[k] true = false from by rw [asItself_is, if_pos (by omega)]; rfl)
              have e32 : ((s[k].toNat : Int) != 32) = false := by rw [bne_eq_false_iff_eq]; omega
              have hx1 : s[k].toNat < 33 := by omega
              clear h
              have hpl : (esc s[k]).length = 3 := rfl
              have hpo := put_over (n := n) (p := esc s[k]) (by rw [hpl]; exact hov)
              rw [hp, hpo.1, hpo.2, hpl] at hacc
              have HR : Hid ((out ++ [61, 13, 10]) ++ esc s[k] ++ qpB false (3) (s.data.toList.drop (k + 1)) = ANS) := Lib.hid (by rw [← hacc.out]; simp only [List.append_assoc])
              clear hpo hp hpl hacc
              go_wp2_with (first
                  | (go_at_call 32; with_reducible refine (HE0.out _).mono ?_; rintro e w' ⟨rfl, rfl⟩)
                  | (go_at_call 33; with_reducible refine (H1.out _).mono ?_; rintro e w' ⟨rfl, rfl⟩)
                  | (go_at_call 33; with_reducible refine (H2.out _).mono ?_; rintro e w' ⟨rfl, rfl⟩)
                  | (at_builtin; refine app_at rfl _ _ rfl w.heap.size (wr.heap.size + 1 + 1) out [61, 13, 10] 3 (Ow.alloc (Ow.alloc (Ow.alloc hown.out _) _) _) (HgC.out _ _) rfl rfl rfl (by omega) (by simp only [World.size_alloc]; omega) ?_; intro v' w2 hown2 hb2 hkeep; have hg2 := (hkeep (wr.heap.size + 1) (by simp only [World.size_alloc]; omega) HN1.out).trans (HgB2.out _ _))
                  | (at_builtin; refine app_at rfl _ _ rfl w.heap.size (wr.heap.size + 1) (out ++ [61, 13, 10]) (esc s[k]) 3 hown2 hg2 rfl rfl rfl (by simp only [List.length_append, List.length_cons, List.length_nil]; omega) (Nat.le_trans (by simp only [World.size_alloc]; omega) hb2.size) ?_; intro v2 w3 hown3 hb3 _))
              go_roundw
              case rel => exact ⟨k + 1, 3, (out ++ [61, 13, 10]) ++ esc s[k], by omega, by go_num, by go_num, by omega, Lib.hid hown3, (((HbA.out.alloc (by simp only [World.size_alloc]; omega) _).alloc (by simp only [World.size_alloc]; omega) _).trans hb2).trans hb3, HR, by simp only [List.length_append, List.length_cons, List.length_nil, show (esc s[k]).length = 3 from rfl]; omega⟩
              case measure => simp [intOf]; omega
            · have hp := piece_esc (show asItself s[k] true = false from by rw [asItself_is, if_pos (by omega)]; rfl)
              have e32 : ((s[k].toNat : Int) != 32) = false := by rw [bne_eq_false_iff_eq]; omega
              have hx1 : s[k].toNat < 33 := by omega
              clear h
              have hpl : (esc s[k]).length = 3 := rfl
              have hpo := put_in (n := n) (p := esc s[k]) (by rw [hpl]; exact hov)
              rw [hp, hpo.1, hpo.2, hpl] at hacc
              have HR : Hid (out ++ esc s[k] ++ qpB false (n + 3) (s.data.toList.drop (k + 1)) = ANS) := Lib.hid (by rw [← hacc.out]; simp only [List.append_assoc])
              clear hpo hp hpl hacc
              go_wp2_with (first
                  | (go_at_call 32; with_reducible refine (HE0.out _).mono ?_; rintro e w' ⟨rfl, rfl⟩)
                  | (go_at_call 33; with_reducible refine (H1.out _).mono ?_; rintro e w' ⟨rfl, rfl⟩)
                  | (go_at_call 33; with_reducible refine (H2.out _).mono ?_; rintro e w' ⟨rfl, rfl⟩)
                  | (at_builtin; refine app_at rfl _ _ rfl w.heap.size (wr.heap.size + 1) out (esc s[k]) 3 (Ow.alloc (Ow.alloc hown.out _) _) (HgB.out _) rfl rfl rfl (by omega) (by simp only [World.size_alloc]; omega) ?_; intro v2 w3 hown3 hb3 _))
              go_roundw
              case rel => exact ⟨k + 1, n + 3, out ++ esc s[k], by omega, by go_num, by go_num, by omega, Lib.hid hown3, (HbA.out.alloc (by simp only [World.size_alloc]; omega) _).trans hb3, HR, by simp only [List.length_append, List.length_cons, List.length_nil, show (esc s[k]).length = 3 from rfl]; omega⟩
              case measure => simp [intOf]; omega
          · rw [last_mid s k hl] at hacc
            replace HE1 := HE1 hl
            have hle : (((k : Int) + 1) == (s.size : Int)) = false := by rw [beq_eq_false_iff_ne]; omega
            generalize crlfAt (s.data.toList.drop (k + 1)) = f at hacc HE1
            cases f with
            | true =>
              by_cases hov : n + 3 > 75
              · have hp := piece_esc (show asItself s[k] true = false from by rw [asItself_is, if_pos (by omega)]; rfl)
                have e32 : ((s[k].toNat : Int) != 32) = false := by rw [bne_eq_false_iff_eq]; omega
                have hx1 : s[k].toNat < 33 := by omega
                clear h
                have hpl : (esc s[k]).length = 3 := rfl
                have hpo := put_over (n := n) (p := esc s[k]) (by rw [hpl]; exact hov)
                rw [hp, hpo.1, hpo.2, hpl] at hacc
                have HR : Hid ((out ++ [61, 13, 10]) ++ esc s[k] ++ qpB false (3) (s.data.toList.drop (k + 1)) = ANS) := Lib.hid (by rw [← hacc.out]; simp only [List.append_assoc])
                clear hpo hp hpl hacc
                go_wp2_with (first
                    | (go_at_call 32; with_reducible refine (HE0.out _).mono ?_; rintro e w' ⟨rfl, rfl⟩)
                    | (go_at_call 32; with_reducible refine (HE1.out _).mono ?_; rintro e w' ⟨rfl, rfl⟩)
                    | (go_at_call 33; with_reducible refine (H1.out _).mono ?_; rintro e w' ⟨rfl, rfl⟩)
                    | (go_at_call 33; with_reducible refine (H2.out _).mono ?_; rintro e w' ⟨rfl, rfl⟩)
                    | (at_builtin; refine app_at rfl _ _ rfl w.heap.size (wr.heap.size + 1 + 1) out [61, 13, 10] 3 (Ow.alloc (Ow.alloc (Ow.alloc hown.out _) _) _) (HgC.out _ _) rfl rfl rfl (by omega) (by simp only [World.size_alloc]; omega) ?_; intro v' w2 hown2 hb2 hkeep; have hg2 := (hkeep (wr.heap.size + 1) (by simp only [World.size_alloc]; omega) HN1.out).trans (HgB2.out _ _))
                    | (at_builtin; refine app_at rfl _ _ rfl w.heap.size (wr.heap.size + 1) (out ++ [61, 13, 10]) (esc s[k]) 3 hown2 hg2 rfl rfl rfl (by simp only [List.length_append, List.length_cons, List.length_nil]; omega) (Nat.le_trans (by simp only [World.size_alloc]; omega) hb2.size) ?_; intro v2 w3 hown3 hb3 _))
                go_roundw
                case rel => exact ⟨k + 1, 3, (out ++ [61, 13, 10]) ++ esc s[k], by omega, by go_num, by go_num, by omega, Lib.hid hown3, (((HbA.out.alloc (by simp only [World.size_alloc]; omega) _).alloc (by simp only [World.size_alloc]; omega) _).trans hb2).trans hb3, HR, by simp only [List.length_append, List.length_cons, List.length_nil, show (esc s[k]).length = 3 from rfl]; omega⟩
                case measure => simp [intOf]; omega
              · have hp := piece_esc (show asItself s[k] true = false from by rw [asItself_is, if_pos (by omega)]; rfl)
                have e32 : ((s[k].toNat : Int) != 32) = false := by rw [bne_eq_false_iff_eq]; omega
                have hx1 : s[k].toNat < 33 := by omega
                clear h
                have hpl : (esc s[k]).length = 3 := rfl
                have hpo := put_in (n := n) (p := esc s[k]) (by rw [hpl]; exact hov)
                rw [hp, hpo.1, hpo.2, hpl] at hacc
                have HR : Hid (out ++ esc s[k] ++ qpB false (n + 3) (s.data.toList.drop (k + 1)) = ANS) := Lib.hid (by rw [← hacc.out]; simp only [List.append_assoc])
                clear hpo hp hpl hacc
                go_wp2_with (first
                    | (go_at_call 32; with_reducible refine (HE0.out _).mono ?_; rintro e w' ⟨rfl, rfl⟩)
                    | (go_at_call 32; with_reducible refine (HE1.out _).mono ?_; rintro e w' ⟨rfl, rfl⟩)
                    | (go_at_call 33; with_reducible refine (H1.out _).mono ?_; rintro e w' ⟨rfl, rfl⟩)
                    | (go_at_call 33; with_reducible refine (H2.out _).mono ?_; rintro e w' ⟨rfl, rfl⟩)
                    | (at_builtin; refine app_at rfl _ _ rfl w.heap.size (wr.heap.size + 1) out (esc s[k]) 3 (Ow.alloc (Ow.alloc hown.out _) _) (HgB.out _) rfl rfl rfl (by omega) (by simp only [World.size_alloc]; omega) ?_; intro v2 w3 hown3 hb3 _))
                go_roundw
                case rel => exact ⟨k + 1, n + 3, out ++ esc s[k], by omega, by go_num, by go_num, by omega, Lib.hid hown3, (HbA.out.alloc (by simp only [World.size_alloc]; omega) _).trans hb3, HR, by simp only [List.length_append, List.length_cons, List.length_nil, show (esc s[k]).length = 3 from rfl]; omega⟩
                case measure => simp [intOf]; omega
            | false =>
              by_cases hov : n + 1 > 75
              · have hp := piece_plain (show asItself s[k] false = true from by rw [asItself_is, if_pos (by omega)]; rfl)
                have e32 : ((s[k].toNat : Int) != 32) = false := by rw [bne_eq_false_iff_eq]; omega
                have hx1 : s[k].toNat < 33 := by omega
                clear h
                have hpl : ([s[k]]).length = 1 := rfl
                have hpo := put_over (n := n) (p := [s[k]]) (by rw [hpl]; exact hov)
                rw [hp, hpo.1, hpo.2, hpl] at hacc
                have HR : Hid ((out ++ [61, 13, 10]) ++ [s[k]] ++ qpB false (1) (s.data.toList.drop (k + 1)) = ANS) := Lib.hid (by rw [← hacc.out]; simp only [List.append_assoc])
                clear hpo hp hpl hacc
                go_wp2_with (first
                    | (go_at_call 32; with_reducible refine (HE0.out _).mono ?_; rintro e w' ⟨rfl, rfl⟩)
                    | (go_at_call 32; with_reducible refine (HE1.out _).mono ?_; rintro e w' ⟨rfl, rfl⟩)
                    | (at_builtin; refine app_at rfl _ _ rfl w.heap.size (wr.heap.size + 1) out [61, 13, 10] 3 (Ow.alloc (Ow.alloc hown.out _) _) (HgB.out _) rfl rfl rfl (by omega) (by simp only [World.size_alloc]; omega) ?_; intro v' w2 hown2 hb2 hkeep; have hg2 := (hkeep wr.heap.size (by simp only [World.size_alloc]; omega) HN0.out).trans (HgA2.out _))
                    | (at_builtin; refine app_at rfl _ _ rfl w.heap.size wr.heap.size (out ++ [61, 13, 10]) ([s[k]]) 1 hown2 hg2 rfl rfl rfl (by simp only [List.length_append, List.length_cons, List.length_nil]; omega) (Nat.le_trans (by simp only [World.size_alloc]; omega) hb2.size) ?_; intro v2 w3 hown3 hb3 _))
                go_roundw
                case rel => exact ⟨k + 1, 1, (out ++ [61, 13, 10]) ++ [s[k]], by omega, by go_num, by go_num, by omega, Lib.hid hown3, ((HbA.out.alloc (by simp only [World.size_alloc]; omega) _).trans hb2).trans hb3, HR, by simp only [List.length_append, List.length_cons, List.length_nil, show (esc s[k]).length = 3 from rfl]; omega⟩
                case measure => simp [intOf]; omega
              · have hp := piece_plain (show asItself s[k] false = true from by rw [asItself_is, if_pos (by omega)]; rfl)
                have e32 : ((s[k].toNat : Int) != 32) = false := by rw [bne_eq_false_iff_eq]; omega
                have hx1 : s[k].toNat < 33 := by omega
                clear h
                have hpl : ([s[k]]).length = 1 := rfl
                have hpo := put_in (n := n) (p := [s[k]]) (by rw [hpl]; exact hov)
                rw [hp, hpo.1, hpo.2, hpl] at hacc
                have HR : Hid (out ++ [s[k]] ++ qpB false (n + 1) (s.data.toList.drop (k + 1)) = ANS) := Lib.hid (by rw [← hacc.out]; simp only [List.append_assoc])
                clear hpo hp hpl hacc
                go_wp2_with (first
                    | (go_at_call 32; with_reducible refine (HE0.out _).mono ?_; rintro e w' ⟨rfl, rfl⟩)
                    | (go_at_call 32; with_reducible refine (HE1.out _).mono ?_; rintro e w' ⟨rfl, rfl⟩)
                    | (at_builtin; refine app_at rfl _ _ rfl w.heap.size wr.heap.size out ([s[k]]) 1 (Ow.alloc hown.out _) HgA.out rfl rfl rfl (by omega) (by simp only [World.size_alloc]; omega) ?_; intro v2 w3 hown3 hb3 _))
                go_roundw
                case rel => exact ⟨k + 1, n + 1, out ++ [s[k]], by omega, by go_num, by go_num, by omega, Lib.hid hown3, HbA.out.trans hb3, HR, by simp only [List.length_append, List.length_cons, List.length_nil, show (esc s[k]).length = 3 from rfl]; omega⟩
                case measure => simp [intOf]; omega
        · rcases hlast with hl | hl
          · rw [last_end s k hl] at hacc
            clear HE1
            have hle : (((k : Int) + 1) == (s.size : Int)) = true := by rw [beq_iff_eq]; omega
            by_cases hov : n + 3 > 75
            · have hp := piece_esc (show asItself s[k] true = false from by rw [asItself_is, if_pos (by omega)]; rfl)
              have e32 : ((s[k].toNat : Int) != 32) = true := by rw [bne_iff_ne]; omega
              have e9 : ((s[k].toNat : Int) != 9) = false := by rw [bne_eq_false_iff_eq]; omega
              have hx1 : s[k].toNat < 33 := by omega
              clear h
              have hpl : (esc s[k]).length = 3 := rfl
              have hpo := put_over (n := n) (p := esc s[k]) (by rw [hpl]; exact hov)
              rw [hp, hpo.1, hpo.2, hpl] at hacc
              have HR : Hid ((out ++ [61, 13, 10]) ++ esc s[k] ++ qpB false (3) (s.data.toList.drop (k + 1)) = ANS) := Lib.hid (by rw [← hacc.out]; simp only [List.append_assoc])
              clear hpo hp hpl hacc
              go_wp2_with (first
                  | (go_at_call 32; with_reducible refine (HE0.out _).mono ?_; rintro e w' ⟨rfl, rfl⟩)
                  | (go_at_call 33; with_reducible refine (H1.out _).mono ?_; rintro e w' ⟨rfl, rfl⟩)
                  | (go_at_call 33; with_reducible refine (H2.out _).mono ?_; rintro e w' ⟨rfl, rfl⟩)
                  | (at_builtin; refine app_at rfl _ _ rfl w.heap.size (wr.heap.size + 1 + 1) out [61, 13, 10] 3 (Ow.alloc (Ow.alloc (Ow.alloc hown.out _) _) _) (HgC.out _ _) rfl rfl rfl (by omega) (by simp only [World.size_alloc]; omega) ?_; intro v' w2 hown2 hb2 hkeep; have hg2 := (hkeep (wr.heap.size + 1) (by simp only [World.size_alloc]; omega) HN1.out).trans (HgB2.out _ _))
                  | (at_builtin; refine app_at rfl _ _ rfl w.heap.size (wr.heap.size + 1) (out ++ [61, 13, 10]) (esc s[k]) 3 hown2 hg2 rfl rfl rfl (by simp only [List.length_append, List.length_cons, List.length_nil]; omega) (Nat.le_trans (by simp only [World.size_alloc]; omega) hb2.size) ?_; intro v2 w3 hown3 hb3 _))
              go_roundw
              case rel => exact ⟨k + 1, 3, (out ++ [61, 13, 10]) ++ esc s[k], by omega, by go_num, by go_num, by omega, Lib.hid hown3, (((HbA.out.alloc (by simp only [World.size_alloc]; omega) _).alloc (by simp only [World.size_alloc]; omega) _).trans hb2).trans hb3, HR, by simp only [List.length_append, List.length_cons, List.length_nil, show (esc s[k]).length = 3 from rfl]; omega⟩
              case measure => simp [intOf]; omega
            · have hp := piece_esc (show asItself s[k] true = false from by rw [asItself_is, if_pos (by omega)]; rfl)
              have e32 : ((s[k].toNat : Int) != 32) = true := by rw [bne_iff_ne]; omega
              have e9 : ((s[k].toNat : Int) != 9) = false := by rw [bne_eq_false_iff_eq]; omega
              have hx1 : s[k].toNat < 33 := by omega
              clear h
              have hpl : (esc s[k]).length = 3 := rfl
              have hpo := put_in (n := n) (p := esc s[k]) (by rw [hpl]; exact hov)
              rw [hp, hpo.1, hpo.2, hpl] at hacc
              have HR : Hid (out ++ esc s[k] ++ qpB false (n + 3) (s.data.toList.drop (k + 1)) = ANS) := Lib.hid (by rw [← hacc.out]; simp only [List.append_assoc])
              clear hpo hp hpl hacc
              go_wp2_with (first
                  | (go_at_call 32; with_reducible refine (HE0.out _).mono ?_; rintro e w' ⟨rfl, rfl⟩)
                  | (go_at_call 33; with_reducible refine (H1.out _).mono ?_; rintro e w' ⟨rfl, rfl⟩)
                  | (go_at_call 33; with_reducible refine (H2.out _).mono ?_; rintro e w' ⟨rfl, rfl⟩)
                  | (at_builtin; refine app_at rfl _ _ rfl w.heap.size (wr.heap.size + 1) out (esc s[k]) 3 (Ow.alloc (Ow.alloc hown.out _) _) (HgB.out _) rfl rfl rfl (by omega) (by simp only [World.size_alloc]; omega) ?_; intro v2 w3 hown3 hb3 _))
              go_roundw
              case rel => exact ⟨k + 1, n + 3, out ++ esc s[k], by omega, by go_num, by go_num, by omega, Lib.hid hown3, (HbA.out.alloc (by simp only [World.size_alloc]; omega) _).trans hb3, HR, by simp only [List.length_append, List.length_cons, List.length_nil, show (esc s[k]).length = 3 from rfl]; omega⟩
              case measure => simp [intOf]; omega
          · rw [last_mid s k hl] at hacc
            replace HE1 := HE1 hl
            have hle : (((k : Int) + 1) == (s.size : Int)) = false := by rw [beq_eq_false_iff_ne]; omega
            generalize crlfAt (s.data.toList.drop (k + 1)) = f at hacc HE1
            cases f with
            | true =>
              by_cases hov : n + 3 > 75
              · have hp := piece_esc (show asItself s[k] true = false from by rw [asItself_is, if_pos (by omega)]; rfl)
                have e32 : ((s[k].toNat : Int) != 32) = true := by rw [bne_iff_ne]; omega
                have e9 : ((s[k].toNat : Int) != 9) = false := by rw [bne_eq_false_iff_eq]; omega
                have hx1 : s[k].toNat < 33 := by omega
                clear h
                have hpl : (esc s[k]).length = 3 := rfl
                have hpo := put_over (n := n) (p := esc s[k]) (by rw [hpl]; exact hov)
                rw [hp, hpo.1, hpo.2, hpl] at hacc
                have HR : Hid ((out ++ [61, 13, 10]) ++ esc s[k] ++ qpB false (3) (s.data.toList.drop (k + 1)) = ANS) := Lib.hid (by rw [← hacc.out]; simp only [List.append_assoc])
                clear hpo hp hpl hacc
                go_wp2_with (first
                    | (go_at_call 32; with_reducible refine (HE0.out _).mono ?_; rintro e w' ⟨rfl, rfl⟩)
                    | (go_at_call 32; with_reducible refine (HE1.out _).mono ?_; rintro e w' ⟨rfl, rfl⟩)
                    | (go_at_call 33; with_reducible refine (H1.out _).mono ?_; rintro e w' ⟨rfl, rfl⟩)
                    | (go_at_call 33; with_reducible refine (H2.out _).mono ?_; rintro e w' ⟨rfl, rfl⟩)
                    | (at_builtin; refine app_at rfl _ _ rfl w.heap.size (wr.heap.size + 1 + 1) out [61, 13, 10] 3 (Ow.alloc (Ow.alloc (Ow.alloc hown.out _) _) _) (HgC.out _ _) rfl rfl rfl (by omega) (by simp only [World.size_alloc]; omega) ?_; intro v' w2 hown2 hb2 hkeep; have hg2 := (hkeep (wr.heap.size + 1) (by simp only [World.size_alloc]; omega) HN1.out).trans (HgB2.out _ _))
                    | (at_builtin; refine app_at rfl _ _ rfl w.heap.size (wr.heap.size + 1) (out ++ [61, 13, 10]) (esc s[k]) 3 hown2 hg2 rfl rfl rfl (by simp only [List.length_append, List.length_cons, List.length_nil]; omega) (Nat.le_trans (by simp only [World.size_alloc]; omega) hb2.size) ?_; intro v2 w3 hown3 hb3 _))
                go_roundw
                case rel => exact ⟨k + 1, 3, (out ++ [61, 13, 10]) ++ esc s[k], by omega, by go_num, by go_num, by omega, Lib.hid hown3, (((HbA.out.alloc (by simp only [World.size_alloc]; omega) _).alloc (by simp only [World.size_alloc]; omega) _).trans hb2).trans hb3, HR, by simp only [List.length_append, List.length_cons, List.length_nil, show (esc s[k]).length = 3 from rfl]; omega⟩
                case measure => simp [intOf]; omega
              · have hp := piece_esc (show asItself s[k] true = false from by rw [asItself_is, if_pos (by omega)]; rfl)
                have e32 : ((s[k].toNat : Int) != 32) = true := by rw [bne_iff_ne]; omega
                have e9 : ((s[k].toNat : Int) != 9) = false := by rw [bne_eq_false_iff_eq]; omega
                have hx1 : s[k].toNat < 33 := by omega
                clear h
                have hpl : (esc s[k]).length = 3 := rfl
                have hpo := put_in (n := n) (p := esc s[k]) (by rw [hpl]; exact hov)
                rw [hp, hpo.1, hpo.2, hpl] at hacc
                have HR : Hid (out ++ esc s[k] ++ qpB false (n + 3) (s.data.toList.drop (k + 1)) = ANS) := Lib.hid (by rw [← hacc.out]; simp only [List.append_assoc])
                clear hpo hp hpl hacc
                go_wp2_with (first
                    | (go_at_call 32; with_reducible refine (HE0.out _).mono ?_; rintro e w' ⟨rfl, rfl⟩)
                    | (go_at_call 32; with_reducible refine (HE1.out _).mono ?_; rintro e w' ⟨rfl, rfl⟩)
                    | (go_at_call 33; with_reducible refine (H1.out _).mono ?_; rintro e w' ⟨rfl, rfl⟩)
                    | (go_at_call 33; with_reducible refine (H2.out _).mono ?_; rintro e w' ⟨rfl, rfl⟩)
                    | (at_builtin; refine app_at rfl _ _ rfl w.heap.size (wr.heap.size + 1) out (esc s[k]) 3 (Ow.alloc (Ow.alloc hown.out _) _) (HgB.out _) rfl rfl rfl (by omega) (by simp only [World.size_alloc]; omega) ?_; intro v2 w3 hown3 hb3 _))
                go_roundw
                case rel => exact ⟨k + 1, n + 3, out ++ esc s[k], by omega, by go_num, by go_num, by omega, Lib.hid hown3, (HbA.out.alloc (by simp only [World.size_alloc]; omega) _).trans hb3, HR, by simp only [List.length_append, List.length_cons, List.length_nil, show (esc s[k]).length = 3 from rfl]; omega⟩
                case measure => simp [intOf]; omega
            | false =>
              by_cases hov : n + 1 > 75
              · have hp := piece_plain (show asItself s[k] false = true from by rw [asItself_is, if_pos (by omega)]; rfl)
                have e32 : ((s[k].toNat : Int) != 32) = true := by rw [bne_iff_ne]; omega
                have e9 : ((s[k].toNat : Int) != 9) = false := by rw [bne_eq_false_iff_eq]; omega
                have hx1 : s[k].toNat < 33 := by omega
                clear h
                have hpl : ([s[k]]).length = 1 := rfl
                have hpo := put_over (n := n) (p := [s[k]]) (by rw [hpl]; exact hov)
                rw [hp, hpo.1, hpo.2, hpl] at hacc
                have HR : Hid ((out ++ [61, 13, 10]) ++ [s[k]] ++ qpB false (1) (s.data.toList.drop (k + 1)) = ANS) := Lib.hid (by rw [← hacc.out]; simp only [List.append_assoc])
                clear hpo hp hpl hacc
                go_wp2_with (first
                    | (go_at_call 32; with_reducible refine (HE0.out _).mono ?_; rintro e w' ⟨rfl, rfl⟩)
                    | (go_at_call 32; with_reducible refine (HE1.out _).mono ?_; rintro e w' ⟨rfl, rfl⟩)
                    | (at_builtin; refine app_at rfl _ _ rfl w.heap.size (wr.heap.size + 1) out [61, 13, 10] 3 (Ow.alloc (Ow.alloc hown.out _) _) (HgB.out _) rfl rfl rfl (by omega) (by simp only [World.size_alloc]; omega) ?_; intro v' w2 hown2 hb2 hkeep; have hg2 := (hkeep wr.heap.size (by simp only [World.size_alloc]; omega) HN0.out).trans (HgA2.out _))
                    | (at_builtin; refine app_at rfl _ _ rfl w.heap.size wr.heap.size (out ++ [61, 13, 10]) ([s[k]]) 1 hown2 hg2 rfl rfl rfl (by simp only [List.length_append, List.length_cons, List.length_nil]; omega) (Nat.le_trans (by simp only [World.size_alloc]; omega) hb2.size) ?_; intro v2 w3 hown3 hb3 _))
                go_roundw
                case rel => exact ⟨k + 1, 1, (out ++ [61, 13, 10]) ++ [s[k]], by omega, by go_num, by go_num, by omega, Lib.hid hown3, ((HbA.out.alloc (by simp only [World.size_alloc]; omega) _).trans hb2).trans hb3, HR, by simp only [List.length_append, List.length_cons, List.length_nil, show (esc s[k]).length = 3 from rfl]; omega⟩
                case measure => simp [intOf]; omega
              · have hp := piece_plain (show asItself s[k] false = true from by rw [asItself_is, if_pos (by omega)]; rfl)
                have e32 : ((s[k].toNat : Int) != 32) = true := by rw [bne_iff_ne]; omega
                have e9 : ((s[k].toNat : Int) != 9) = false := by rw [bne_eq_false_iff_eq]; omega
                have hx1 : s[k].toNat < 33 := by omega
                clear h
                have hpl : ([s[k]]).length = 1 := rfl
                have hpo := put_in (n := n) (p := [s[k]]) (by rw [hpl]; exact hov)
                rw [hp, hpo.1, hpo.2, hpl] at hacc
                have HR : Hid (out ++ [s[k]] ++ qpB false (n + 1) (s.data.toList.drop (k + 1)) = ANS) := Lib.hid (by rw [← hacc.out]; simp only [List.append_assoc])
                clear hpo hp hpl hacc
                go_wp2_with (first
                    | (go_at_call 32; with_reducible refine (HE0.out _).mono ?_; rintro e w' ⟨rfl, rfl⟩)
                    | (go_at_call 32; with_reducible refine (HE1.out _).mono ?_; rintro e w' ⟨rfl, rfl⟩)
                    | (at_builtin; refine app_at rfl _ _ rfl w.heap.size wr.heap.size out ([s[k]]) 1 (Ow.alloc hown.out _) HgA.out rfl rfl rfl (by omega) (by simp only [World.size_alloc]; omega) ?_; intro v2 w3 hown3 hb3 _))
                go_roundw
                case rel => exact ⟨k + 1, n + 1, out ++ [s[k]], by omega, by go_num, by go_num, by omega, Lib.hid hown3, HbA.out.trans hb3, HR, by simp only [List.length_append, List.length_cons, List.length_nil, show (esc s[k]).length = 3 from rfl]; omega⟩
                case measure => simp [intOf]; omega
        · rcases hlast with hl | hl
          · rw [last_end s k hl] at hacc
            clear HE1
            have hle : (((k : Int) + 1) == (s.size : Int)) = true := by rw [beq_iff_eq]; omega
            by_cases hov : n + 3 > 75
            · have hp := piece_esc (show asItself s[k] true = false from by rw [asItself_is, if_neg (by omega), decide_eq_false (show ¬ 33 ≤ s[k].toNat by omega)]; rfl)
              have e32 : ((s[k].toNat : Int) != 32) = true := by rw [bne_iff_ne]; omega
              have e9 : ((s[k].toNat : Int) != 9) = true := by rw [bne_iff_ne]; omega
              replace h := h.1
              have hpl : (esc s[k]).length = 3 := rfl
              have hpo := put_over (n := n) (p := esc s[k]) (by rw [hpl]; exact hov)
              rw [hp, hpo.1, hpo.2, hpl] at hacc
              have HR : Hid ((out ++ [61, 13, 10]) ++ esc s[k] ++ qpB false (3) (s.data.toList.drop (k + 1)) = ANS) := Lib.hid (by rw [← hacc.out]; simp only [List.append_assoc])
              clear hpo hp hpl hacc
              go_wp2_with (first
                  | (go_at_call 32; with_reducible refine (HE0.out _).mono ?_; rintro e w' ⟨rfl, rfl⟩)
                  | (go_at_call 33; with_reducible refine (H1.out _).mono ?_; rintro e w' ⟨rfl, rfl⟩)
                  | (go_at_call 33; with_reducible refine (H2.out _).mono ?_; rintro e w' ⟨rfl, rfl⟩)
                  | (at_builtin; refine app_at rfl _ _ rfl w.heap.size (wr.heap.size + 1 + 1) out [61, 13, 10] 3 (Ow.alloc (Ow.alloc (Ow.alloc hown.out _) _) _) (HgC.out _ _) rfl rfl rfl (by omega) (by simp only [World.size_alloc]; omega) ?_; intro v' w2 hown2 hb2 hkeep; have hg2 := (hkeep (wr.heap.size + 1) (by simp only [World.size_alloc]; omega) HN1.out).trans (HgB2.out _ _))
                  | (at_builtin; refine app_at rfl _ _ rfl w.heap.size (wr.heap.size + 1) (out ++ [61, 13, 10]) (esc s[k]) 3 hown2 hg2 rfl rfl rfl (by simp only [List.length_append, List.length_cons, List.length_nil]; omega) (Nat.le_trans (by simp only [World.size_alloc]; omega) hb2.size) ?_; intro v2 w3 hown3 hb3 _))
              go_roundw
              case rel => exact ⟨k + 1, 3, (out ++ [61, 13, 10]) ++ esc s[k], by omega, by go_num, by go_num, by omega, Lib.hid hown3, (((HbA.out.alloc (by simp only [World.size_alloc]; omega) _).alloc (by simp only [World.size_alloc]; omega) _).trans hb2).trans hb3, HR, by simp only [List.length_append, List.length_cons, List.length_nil, show (esc s[k]).length = 3 from rfl]; omega⟩
              case measure => simp [intOf]; omega
            · have hp := piece_esc (show asItself s[k] true = false from by rw [asItself_is, if_neg (by omega), decide_eq_false (show ¬ 33 ≤ s[k].toNat by omega)]; rfl)
              have e32 : ((s[k].toNat : Int) != 32) = true := by rw [bne_iff_ne]; omega
              have e9 : ((s[k].toNat : Int) != 9) = true := by rw [bne_iff_ne]; omega
              replace h := h.1
              have hpl : (esc s[k]).length = 3 := rfl
              have hpo := put_in (n := n) (p := esc s[k]) (by rw [hpl]; exact hov)
              rw [hp, hpo.1, hpo.2, hpl] at hacc
              have HR : Hid (out ++ esc s[k] ++ qpB false (n + 3) (s.data.toList.drop (k + 1)) = ANS) := Lib.hid (by rw [← hacc.out]; simp only [List.append_assoc])
              clear hpo hp hpl hacc
              go_wp2_with (first
                  | (go_at_call 32; with_reducible refine (HE0.out _).mono ?_; rintro e w' ⟨rfl, rfl⟩)
                  | (go_at_call 33; with_reducible refine (H1.out _).mono ?_; rintro e w' ⟨rfl, rfl⟩)
                  | (go_at_call 33; with_reducible refine (H2.out _).mono ?_; rintro e w' ⟨rfl, rfl⟩)
                  | (at_builtin; refine app_at rfl _ _ rfl w.heap.size (wr.heap.size + 1) out (esc s[k]) 3 (Ow.alloc (Ow.alloc hown.out _) _) (HgB.out _) rfl rfl rfl (by omega) (by simp only [World.size_alloc]; omega) ?_; intro v2 w3 hown3 hb3 _))
              go_roundw
              case rel => exact ⟨k + 1, n + 3, out ++ esc s[k], by omega, by go_num, by go_num, by omega, Lib.hid hown3, (HbA.out.alloc (by simp only [World.size_alloc]; omega) _).trans hb3, HR, by simp only [List.length_append, List.length_cons, List.length_nil, show (esc s[k]).length = 3 from rfl]; omega⟩
              case measure => simp [intOf]; omega
          · rw [last_mid s k hl] at hacc
            replace HE1 := HE1 hl
            have hle : (((k : Int) + 1) == (s.size : Int)) = false := by rw [beq_eq_false_iff_ne]; omega
            generalize crlfAt (s.data.toList.drop (k + 1)) = f at hacc HE1
            by_cases hov : n + 3 > 75
            · have hp := piece_esc (show asItself s[k] f = false from by rw [asItself_is, if_neg (by omega), decide_eq_false (show ¬ 33 ≤ s[k].toNat by omega)]; rfl)
              have e32 : ((s[k].toNat : Int) != 32) = true := by rw [bne_iff_ne]; omega
              have e9 : ((s[k].toNat : Int) != 9) = true := by rw [bne_iff_ne]; omega
              replace h := h.1
              have hpl : (esc s[k]).length = 3 := rfl
              have hpo := put_over (n := n) (p := esc s[k]) (by rw [hpl]; exact hov)
              rw [hp, hpo.1, hpo.2, hpl] at hacc
              have HR : Hid ((out ++ [61, 13, 10]) ++ esc s[k] ++ qpB false (3) (s.data.toList.drop (k + 1)) = ANS) := Lib.hid (by rw [← hacc.out]; simp only [List.append_assoc])
              clear hpo hp hpl hacc
              go_wp2_with (first
                  | (go_at_call 32; with_reducible refine (HE0.out _).mono ?_; rintro e w' ⟨rfl, rfl⟩)
                  | (go_at_call 32; with_reducible refine (HE1.out _).mono ?_; rintro e w' ⟨rfl, rfl⟩)
                  | (go_at_call 33; with_reducible refine (H1.out _).mono ?_; rintro e w' ⟨rfl, rfl⟩)
                  | (go_at_call 33; with_reducible refine (H2.out _).mono ?_; rintro e w' ⟨rfl, rfl⟩)
                  | (at_builtin; refine app_at rfl _ _ rfl w.heap.size (wr.heap.size + 1 + 1) out [61, 13, 10] 3 (Ow.alloc (Ow.alloc (Ow.alloc hown.out _) _) _) (HgC.out _ _) rfl rfl rfl (by omega) (by simp only [World.size_alloc]; omega) ?_; intro v' w2 hown2 hb2 hkeep; have hg2 := (hkeep (wr.heap.size + 1) (by simp only [World.size_alloc]; omega) HN1.out).trans (HgB2.out _ _))
                  | (at_builtin; refine app_at rfl _ _ rfl w.heap.size (wr.heap.size + 1) (out ++ [61, 13, 10]) (esc s[k]) 3 hown2 hg2 rfl rfl rfl (by simp only [List.length_append, List.length_cons, List.length_nil]; omega) (Nat.le_trans (by simp only [World.size_alloc]; omega) hb2.size) ?_; intro v2 w3 hown3 hb3 _))
              go_roundw
              case rel => exact ⟨k + 1, 3, (out ++ [61, 13, 10]) ++ esc s[k], by omega, by go_num, by go_num, by omega, Lib.hid hown3, (((HbA.out.alloc (by simp only [World.size_alloc]; omega) _).alloc (by simp only [World.size_alloc]; omega) _).trans hb2).trans hb3, HR, by simp only [List.length_append, List.length_cons, List.length_nil, show (esc s[k]).length = 3 from rfl]; omega⟩
              case measure => simp [intOf]; omega
            · have hp := piece_esc (show asItself s[k] f = false from by rw [asItself_is, if_neg (by omega), decide_eq_false (show ¬ 33 ≤ s[k].toNat by omega)]; rfl)
              have e32 : ((s[k].toNat : Int) != 32) = true := by rw [bne_iff_ne]; omega
              have e9 : ((s[k].toNat : Int) != 9) = true := by rw [bne_iff_ne]; omega
              replace h := h.1
              have hpl : (esc s[k]).length = 3 := rfl
              have hpo := put_in (n := n) (p := esc s[k]) (by rw [hpl]; exact hov)
              rw [hp, hpo.1, hpo.2, hpl] at hacc
              have HR : Hid (out ++ esc s[k] ++ qpB false (n + 3) (s.data.toList.drop (k + 1)) = ANS) := Lib.hid (by rw [← hacc.out]; simp only [List.append_assoc])
              clear hpo hp hpl hacc
              go_wp2_with (first
                  | (go_at_call 32; with_reducible refine (HE0.out _).mono ?_; rintro e w' ⟨rfl, rfl⟩)
                  | (go_at_call 32; with_reducible refine (HE1.out _).mono ?_; rintro e w' ⟨rfl, rfl⟩)
                  | (go_at_call 33; with_reducible refine (H1.out _).mono ?_; rintro e w' ⟨rfl, rfl⟩)
                  | (go_at_call 33; with_reducible refine (H2.out _).mono ?_; rintro e w' ⟨rfl, rfl⟩)
                  | (at_builtin; refine app_at rfl _ _ rfl w.heap.size (wr.heap.size + 1) out (esc s[k]) 3 (Ow.alloc (Ow.alloc hown.out _) _) (HgB.out _) rfl rfl rfl (by omega) (by simp only [World.size_alloc]; omega) ?_; intro v2 w3 hown3 hb3 _))
              go_roundw
              case rel => exact ⟨k + 1, n + 3, out ++ esc s[k], by omega, by go_num, by go_num, by omega, Lib.hid hown3, (HbA.out.alloc (by simp only [World.size_alloc]; omega) _).trans hb3, HR, by simp only [List.length_append, List.length_cons, List.length_nil, show (esc s[k]).length = 3 from rfl]; omega⟩
              case measure => simp [intOf]; omega
        · rcases hlast with hl | hl
          · rw [last_end s k hl] at hacc
            clear HE1
            have hle : (((k : Int) + 1) == (s.size : Int)) = true := by rw [beq_iff_eq]; omega
            by_cases hov : n + 3 > 75
            · have hp := piece_esc (show asItself s[k] true = false from by rw [asItself_is, if_neg (by omega), decide_eq_false (show ¬ s[k].toNat ≠ 61 by omega), Bool.and_false])
              have e32 : ((s[k].toNat : Int) != 32) = true := by rw [bne_iff_ne]; omega
              have e9 : ((s[k].toNat : Int) != 9) = true := by rw [bne_iff_ne]; omega
              have e61 : ((s[k].toNat : Int) == 61) = true := by rw [beq_iff_eq]; omega
              have hx1 : 33 ≤ s[k].toNat := by omega
              have hx2 : s[k].toNat ≤ 126 := by omega
              clear h
              have hpl : (esc s[k]).length = 3 := rfl
              have hpo := put_over (n := n) (p := esc s[k]) (by rw [hpl]; exact hov)
              rw [hp, hpo.1, hpo.2, hpl] at hacc
              have HR : Hid ((out ++ [61, 13, 10]) ++ esc s[k] ++ qpB false (3) (s.data.toList.drop (k + 1)) = ANS) := Lib.hid (by rw [← hacc.out]; simp only [List.append_assoc])
              clear hpo hp hpl hacc
              go_wp2_with (first
                  | (go_at_call 32; with_reducible refine (HE0.out _).mono ?_; rintro e w' ⟨rfl, rfl⟩)
                  | (go_at_call 33; with_reducible refine (H1.out _).mono ?_; rintro e w' ⟨rfl, rfl⟩)
                  | (go_at_call 33; with_reducible refine (H2.out _).mono ?_; rintro e w' ⟨rfl, rfl⟩)
                  | (at_builtin; refine app_at rfl _ _ rfl w.heap.size (wr.heap.size + 1 + 1) out [61, 13, 10] 3 (Ow.alloc (Ow.alloc (Ow.alloc hown.out _) _) _) (HgC.out _ _) rfl rfl rfl (by omega) (by simp only [World.size_alloc]; omega) ?_; intro v' w2 hown2 hb2 hkeep; have hg2 := (hkeep (wr.heap.size + 1) (by simp only [World.size_alloc]; omega) HN1.out).trans (HgB2.out _ _))
                  | (at_builtin; refine app_at rfl _ _ rfl w.heap.size (wr.heap.size + 1) (out ++ [61, 13, 10]) (esc s[k]) 3 hown2 hg2 rfl rfl rfl (by simp only [List.length_append, List.length_cons, List.length_nil]; omega) (Nat.le_trans (by simp only [World.size_alloc]; omega) hb2.size) ?_; intro v2 w3 hown3 hb3 _))
              go_roundw
              case rel => exact ⟨k + 1, 3, (out ++ [61, 13, 10]) ++ esc s[k], by omega, by go_num, by go_num, by omega, Lib.hid hown3, (((HbA.out.alloc (by simp only [World.size_alloc]; omega) _).alloc (by simp only [World.size_alloc]; omega) _).trans hb2).trans hb3, HR, by simp only [List.length_append, List.length_cons, List.length_nil, show (esc s[k]).length = 3 from rfl]; omega⟩
              case measure => simp [intOf]; omega
            · have hp := piece_esc (show asItself s[k] true = false from by rw [asItself_is, if_neg (by omega), decide_eq_false (show ¬ s[k].toNat ≠ 61 by omega), Bool.and_false])
              have e32 : ((s[k].toNat : Int) != 32) = true := by rw [bne_iff_ne]; omega
              have e9 : ((s[k].toNat : Int) != 9) = true := by rw [bne_iff_ne]; omega
              have e61 : ((s[k].toNat : Int) == 61) = true := by rw [beq_iff_eq]; omega
              have hx1 : 33 ≤ s[k].toNat := by omega
              have hx2 : s[k].toNat ≤ 126 := by omega
              clear h
              have hpl : (esc s[k]).length = 3 := rfl
              have hpo := put_in (n := n) (p := esc s[k]) (by rw [hpl]; exact hov)
              rw [hp, hpo.1, hpo.2, hpl] at hacc
              have HR : Hid (out ++ esc s[k] ++ qpB false (n + 3) (s.data.toList.drop (k + 1)) = ANS) := Lib.hid (by rw [← hacc.out]; simp only [List.append_assoc])
              clear hpo hp hpl hacc
              go_wp2_with (first
                  | (go_at_call 32; with_reducible refine (HE0.out _).mono ?_; rintro e w' ⟨rfl, rfl⟩)
                  | (go_at_call 33; with_reducible refine (H1.out _).mono ?_; rintro e w' ⟨rfl, rfl⟩)
                  | (go_at_call 33; with_reducible refine (H2.out _).mono ?_; rintro e w' ⟨rfl, rfl⟩)
                  | (at_builtin; refine app_at rfl _ _ rfl w.heap.size (wr.heap.size + 1) out (esc s[k]) 3 (Ow.alloc (Ow.alloc hown.out _) _) (HgB.out _) rfl rfl rfl (by omega) (by simp only [World.size_alloc]; omega) ?_; intro v2 w3 hown3 hb3 _))
              go_roundw
              case rel => exact ⟨k + 1, n + 3, out ++ esc s[k], by omega, by go_num, by go_num, by omega, Lib.hid hown3, (HbA.out.alloc (by simp only [World.size_alloc]; omega) _).trans hb3, HR, by simp only [List.length_append, List.length_cons, List.length_nil, show (esc s[k]).length = 3 from rfl]; omega⟩
              case measure => simp [intOf]; omega
          · rw [last_mid s k hl] at hacc
            replace HE1 := HE1 hl
            have hle : (((k : Int) + 1) == (s.size : Int)) = false := by rw [beq_eq_false_iff_ne]; omega
            generalize crlfAt (s.data.toList.drop (k + 1)) = f at hacc HE1
            by_cases hov : n + 3 > 75
            · have hp := piece_esc (show asItself s[k] f = false from by rw [asItself_is, if_neg (by omega), decide_eq_false (show ¬ s[k].toNat ≠ 61 by omega), Bool.and_false])
              have e32 : ((s[k].toNat : Int) != 32) = true := by rw [bne_iff_ne]; omega
              have e9 : ((s[k].toNat : Int) != 9) = true := by rw [bne_iff_ne]; omega
              have e61 : ((s[k].toNat : Int) == 61) = true := by rw [beq_iff_eq]; omega
              have hx1 : 33 ≤ s[k].toNat := by omega
              have hx2 : s[k].toNat ≤ 126 := by omega
              clear h
              have hpl : (esc s[k]).length = 3 := rfl
              have hpo := put_over (n := n) (p := esc s[k]) (by rw [hpl]; exact hov)
              rw [hp, hpo.1, hpo.2, hpl] at hacc
              have HR : Hid ((out ++ [61, 13, 10]) ++ esc s[k] ++ qpB false (3) (s.data.toList.drop (k + 1)) = ANS) := Lib.hid (by rw [← hacc.out]; simp only [List.append_assoc])
              clear hpo hp hpl hacc
              go_wp2_with (first
                  | (go_at_call 32; with_reducible refine (HE0.out _).mono ?_; rintro e w' ⟨rfl, rfl⟩)
                  | (go_at_call 32; with_reducible refine (HE1.out _).mono ?_; rintro e w' ⟨rfl, rfl⟩)
                  | (go_at_call 33; with_reducible refine (H1.out _).mono ?_; rintro e w' ⟨rfl, rfl⟩)
                  | (go_at_call 33; with_reducible refine (H2.out _).mono ?_; rintro e w' ⟨rfl, rfl⟩)
                  | (at_builtin; refine app_at rfl _ _ rfl w.heap.size (wr.heap.size + 1 + 1) out [61, 13, 10] 3 (Ow.alloc (Ow.alloc (Ow.alloc hown.out _) _) _) (HgC.out _ _) rfl rfl rfl (by omega) (by simp only [World.size_alloc]; omega) ?_; intro v' w2 hown2 hb2 hkeep; have hg2 := (hkeep (wr.heap.size + 1) (by simp only [World.size_alloc]; omega) HN1.out).trans (HgB2.out _ _))
                  | (at_builtin; refine app_at rfl _ _ rfl w.heap.size (wr.heap.size + 1) (out ++ [61, 13, 10]) (esc s[k]) 3 hown2 hg2 rfl rfl rfl (by simp only [List.length_append, List.length_cons, List.length_nil]; omega) (Nat.le_trans (by simp only [World.size_alloc]; omega) hb2.size) ?_; intro v2 w3 hown3 hb3 _))
              go_roundw
              case rel => exact ⟨k + 1, 3, (out ++ [61, 13, 10]) ++ esc s[k], by omega, by go_num, by go_num, by omega, Lib.hid hown3, (((HbA.out.alloc (by simp only [World.size_alloc]; omega) _).alloc (by simp only [World.size_alloc]; omega) _).trans hb2).trans hb3, HR, by simp only [List.length_append, List.length_cons, List.length_nil, show (esc s[k]).length = 3 from rfl]; omega⟩
              case measure => simp [intOf]; omega
            · have hp := piece_esc (show asItself s[k] f = false from by rw [asItself_is, if_neg (by omega), decide_eq_false (show ¬ s[k].toNat ≠ 61 by omega), Bool.and_false])
              have e32 : ((s[k].toNat : Int) != 32) = true := by rw [bne_iff_ne]; omega
              have e9 : ((s[k].toNat : Int) != 9) = true := by rw [bne_iff_ne]; omega
              have e61 : ((s[k].toNat : Int) == 61) = true := by rw [beq_iff_eq]; omega
              have hx1 : 33 ≤ s[k].toNat := by omega
              have hx2 : s[k].toNat ≤ 126 := by omega
              clear h
              have hpl : (esc s[k]).length = 3 := rfl
              have hpo := put_in (n := n) (p := esc s[k]) (by rw [hpl]; exact hov)
              rw [hp, hpo.1, hpo.2, hpl] at hacc
              have HR : Hid (out ++ esc s[k] ++ qpB false (n + 3) (s.data.toList.drop (k + 1)) = ANS) := Lib.hid (by rw [← hacc.out]; simp only [List.append_assoc])
              clear hpo hp hpl hacc
              go_wp2_with (first
                  | (go_at_call 32; with_reducible refine (HE0.out _).mono ?_; rintro e w' ⟨rfl, rfl⟩)
                  | (go_at_call 32; with_reducible refine (HE1.out _).mono ?_; rintro e w' ⟨rfl, rfl⟩)
                  | (go_at_call 33; with_reducible refine (H1.out _).mono ?_; rintro e w' ⟨rfl, rfl⟩)
                  | (go_at_call 33; with_reducible refine (H2.out _).mono ?_; rintro e w' ⟨rfl, rfl⟩)
                  | (at_builtin; refine app_at rfl _ _ rfl w.heap.size (wr.heap.size + 1) out (esc s[k]) 3 (Ow.alloc (Ow.alloc hown.out _) _) (HgB.out _) rfl rfl rfl (by omega) (by simp only [World.size_alloc]; omega) ?_; intro v2 w3 hown3 hb3 _))
              go_roundw
              case rel => exact ⟨k + 1, n + 3, out ++ esc s[k], by omega, by go_num, by go_num, by omega, Lib.hid hown3, (HbA.out.alloc (by simp only [World.size_alloc]; omega) _).trans hb3, HR, by simp only [List.length_append, List.length_cons, List.length_nil, show (esc s[k]).length = 3 from rfl]; omega⟩
              case measure => simp [intOf]; omega
        · rcases hlast with hl | hl
          · rw [last_end s k hl] at hacc
            clear HE1
            have hle : (((k : Int) + 1) == (s.size : Int)) = true := by rw [beq_iff_eq]; omega
            by_cases hov : n + 3 > 75
            · have hp := piece_esc (show asItself s[k] true = false from by rw [asItself_is, if_neg (by omega), decide_eq_false (show ¬ s[k].toNat ≤ 126 by omega), Bool.and_false, Bool.false_and])
              have e32 : ((s[k].toNat : Int) != 32) = true := by rw [bne_iff_ne]; omega
              have e9 : ((s[k].toNat : Int) != 9) = true := by rw [bne_iff_ne]; omega
              have e61 : ((s[k].toNat : Int) == 61) = false := by rw [beq_eq_false_iff_ne]; omega
              have hx1 : 33 ≤ s[k].toNat := by omega
              have hpl : (esc s[k]).length = 3 := rfl
              have hpo := put_over (n := n) (p := esc s[k]) (by rw [hpl]; exact hov)
              rw [hp, hpo.1, hpo.2, hpl] at hacc
              have HR : Hid ((out ++ [61, 13, 10]) ++ esc s[k] ++ qpB false (3) (s.data.toList.drop (k + 1)) = ANS) := Lib.hid (by rw [← hacc.out]; simp only [List.append_assoc])
              clear hpo hp hpl hacc
              go_wp2_with (first
                  | (go_at_call 32; with_reducible refine (HE0.out _).mono ?_; rintro e w' ⟨rfl, rfl⟩)
                  | (go_at_call 33; with_reducible refine (H1.out _).mono ?_; rintro e w' ⟨rfl, rfl⟩)
                  | (go_at_call 33; with_reducible refine (H2.out _).mono ?_; rintro e w' ⟨rfl, rfl⟩)
                  | (at_builtin; refine app_at rfl _ _ rfl w.heap.size (wr.heap.size + 1 + 1) out [61, 13, 10] 3 (Ow.alloc (Ow.alloc (Ow.alloc hown.out _) _) _) (HgC.out _ _) rfl rfl rfl (by omega) (by simp only [World.size_alloc]; omega) ?_; intro v' w2 hown2 hb2 hkeep; have hg2 := (hkeep (wr.heap.size + 1) (by simp only [World.size_alloc]; omega) HN1.out).trans (HgB2.out _ _))
                  | (at_builtin; refine app_at rfl _ _ rfl w.heap.size (wr.heap.size + 1) (out ++ [61, 13, 10]) (esc s[k]) 3 hown2 hg2 rfl rfl rfl (by simp only [List.length_append, List.length_cons, List.length_nil]; omega) (Nat.le_trans (by simp only [World.size_alloc]; omega) hb2.size) ?_; intro v2 w3 hown3 hb3 _))
              go_roundw
              case rel => exact ⟨k + 1, 3, (out ++ [61, 13, 10]) ++ esc s[k], by omega, by go_num, by go_num, by omega, Lib.hid hown3, (((HbA.out.alloc (by simp only [World.size_alloc]; omega) _).alloc (by simp only [World.size_alloc]; omega) _).trans hb2).trans hb3, HR, by simp only [List.length_append, List.length_cons, List.length_nil, show (esc s[k]).length = 3 from rfl]; omega⟩
              case measure => simp [intOf]; omega
            · have hp := piece_esc (show asItself s[k] true = false from by rw [asItself_is, if_neg (by omega), decide_eq_false (show ¬ s[k].toNat ≤ 126 by omega), Bool.and_false, Bool.false_and])
              have e32 : ((s[k].toNat : Int) != 32) = true := by rw [bne_iff_ne]; omega
              have e9 : ((s[k].toNat : Int) != 9) = true := by rw [bne_iff_ne]; omega
              have e61 : ((s[k].toNat : Int) == 61) = false := by rw [beq_eq_false_iff_ne]; omega
              have hx1 : 33 ≤ s[k].toNat := by omega
              have hpl : (esc s[k]).length = 3 := rfl
              have hpo := put_in (n := n) (p := esc s[k]) (by rw [hpl]; exact hov)
              rw [hp, hpo.1, hpo.2, hpl] at hacc
              have HR : Hid (out ++ esc s[k] ++ qpB false (n + 3) (s.data.toList.drop (k + 1)) = ANS) := Lib.hid (by rw [← hacc.out]; simp only [List.append_assoc])
              clear hpo hp hpl hacc
              go_wp2_with (first
                  | (go_at_call 32; with_reducible refine (HE0.out _).mono ?_; rintro e w' ⟨rfl, rfl⟩)
                  | (go_at_call 33; with_reducible refine (H1.out _).mono ?_; rintro e w' ⟨rfl, rfl⟩)
                  | (go_at_call 33; with_reducible refine (H2.out _).mono ?_; rintro e w' ⟨rfl, rfl⟩)
                  | (at_builtin; refine app_at rfl _ _ rfl w.heap.size (wr.heap.size + 1) out (esc s[k]) 3 (Ow.alloc (Ow.alloc hown.out _) _) (HgB.out _) rfl rfl rfl (by omega) (by simp only [World.size_alloc]; omega) ?_; intro v2 w3 hown3 hb3 _))
              go_roundw
              case rel => exact ⟨k + 1, n + 3, out ++ esc s[k], by omega, by go_num, by go_num, by omega, Lib.hid hown3, (HbA.out.alloc (by simp only [World.size_alloc]; omega) _).trans hb3, HR, by simp only [List.length_append, List.length_cons, List.length_nil, show (esc s[k]).length = 3 from rfl]; omega⟩
              case measure => simp [intOf]; omega
          · rw [last_mid s k hl] at hacc
            replace HE1 := HE1 hl
            have hle : (((k : Int) + 1) == (s.size : Int)) = false := by rw [beq_eq_false_iff_ne]; omega
            generalize crlfAt (s.data.toList.drop (k + 1)) = f at hacc HE1
            by_cases hov : n + 3 > 75
            · have hp := piece_esc (show asItself s[k] f = false from by rw [asItself_is, if_neg (by omega), decide_eq_false (show ¬ s[k].toNat ≤ 126 by omega), Bool.and_false, Bool.false_and])
              have e32 : ((s[k].toNat : Int) != 32) = true := by rw [bne_iff_ne]; omega
              have e9 : ((s[k].toNat : Int) != 9) = true := by rw [bne_iff_ne]; omega
              have e61 : ((s[k].toNat : Int) == 61) = false := by rw [beq_eq_false_iff_ne]; omega
              have hx1 : 33 ≤ s[k].toNat := by omega
              have hpl : (esc s[k]).length = 3 := rfl
              have hpo := put_over (n := n) (p := esc s[k]) (by rw [hpl]; exact hov)
              rw [hp, hpo.1, hpo.2, hpl] at hacc
              have HR : Hid ((out ++ [61, 13, 10]) ++ esc s[k] ++ qpB false (3) (s.data.toList.drop (k + 1)) = ANS) := Lib.hid (by rw [← hacc.out]; simp only [List.append_assoc])
              clear hpo hp hpl hacc
              go_wp2_with (first
                  | (go_at_call 32; with_reducible refine (HE0.out _).mono ?_; rintro e w' ⟨rfl, rfl⟩)
                  | (go_at_call 32; with_reducible refine (HE1.out _).mono ?_; rintro e w' ⟨rfl, rfl⟩)
                  | (go_at_call 33; with_reducible refine (H1.out _).mono ?_; rintro e w' ⟨rfl, rfl⟩)
                  | (go_at_call 33; with_reducible refine (H2.out _).mono ?_; rintro e w' ⟨rfl, rfl⟩)
                  | (at_builtin; refine app_at rfl _ _ rfl w.heap.size (wr.heap.size + 1 + 1) out [61, 13, 10] 3 (Ow.alloc (Ow.alloc (Ow.alloc hown.out _) _) _) (HgC.out _ _) rfl rfl rfl (by omega) (by simp only [World.size_alloc]; omega) ?_; intro v' w2 hown2 hb2 hkeep; have hg2 := (hkeep (wr.heap.size + 1) (by simp only [World.size_alloc]; omega) HN1.out).trans (HgB2.out _ _))
                  | (at_builtin; refine app_at rfl _ _ rfl w.heap.size (wr.heap.size + 1) (out ++ [61, 13, 10]) (esc s[k]) 3 hown2 hg2 rfl rfl rfl (by simp only [List.length_append, List.length_cons, List.length_nil]; omega) (Nat.le_trans (by simp only [World.size_alloc]; omega) hb2.size) ?_; intro v2 w3 hown3 hb3 _))
              go_roundw
              case rel => exact ⟨k + 1, 3, (out ++ [61, 13, 10]) ++ esc s[k], by omega, by go_num, by go_num, by omega, Lib.hid hown3, (((HbA.out.alloc (by simp only [World.size_alloc]; omega) _).alloc (by simp only [World.size_alloc]; omega) _).trans hb2).trans hb3, HR, by simp only [List.length_append, List.length_cons, List.length_nil, show (esc s[k]).length = 3 from rfl]; omega⟩
              case measure => simp [intOf]; omega
            · have hp := piece_esc (show asItself s[k] f = false from by rw [asItself_is, if_neg (by omega), decide_eq_false (show ¬ s[k].toNat ≤ 126 by omega), Bool.and_false, Bool.false_and])
              have e32 : ((s[k].toNat : Int) != 32) = true := by rw [bne_iff_ne]; omega
              have e9 : ((s[k].toNat : Int) != 9) = true := by rw [bne_iff_ne]; omega
              have e61 : ((s[k].toNat : Int) == 61) = false := by rw [beq_eq_false_iff_ne]; omega
              have hx1 : 33 ≤ s[k].toNat := by omega
              have hpl : (esc s[k]).length = 3 := rfl
              have hpo := put_in (n := n) (p := esc s[k]) (by rw [hpl]; exact hov)
              rw [hp, hpo.1, hpo.2, hpl] at hacc
              have HR : Hid (out ++ esc s[k] ++ qpB false (n + 3) (s.data.toList.drop (k + 1)) = ANS) := Lib.hid (by rw [← hacc.out]; simp only [List.append_assoc])
              clear hpo hp hpl hacc
              go_wp2_with (first
                  | (go_at_call 32; with_reducible refine (HE0.out _).mono ?_; rintro e w' ⟨rfl, rfl⟩)
                  | (go_at_call 32; with_reducible refine (HE1.out _).mono ?_; rintro e w' ⟨rfl, rfl⟩)
                  | (go_at_call 33; with_reducible refine (H1.out _).mono ?_; rintro e w' ⟨rfl, rfl⟩)
                  | (go_at_call 33; with_reducible refine (H2.out _).mono ?_; rintro e w' ⟨rfl, rfl⟩)
                  | (at_builtin; refine app_at rfl _ _ rfl w.heap.size (wr.heap.size + 1) out (esc s[k]) 3 (Ow.alloc (Ow.alloc hown.out _) _) (HgB.out _) rfl rfl rfl (by omega) (by simp only [World.size_alloc]; omega) ?_; intro v2 w3 hown3 hb3 _))
              go_roundw
              case rel => exact ⟨k + 1, n + 3, out ++ esc s[k], by omega, by go_num, by go_num, by omega, Lib.hid hown3, (HbA.out.alloc (by simp only [World.size_alloc]; omega) _).trans hb3, HR, by simp only [List.length_append, List.length_cons, List.length_nil, show (esc s[k]).length = 3 from rfl]; omega⟩
              case measure => simp [intOf]; omega
    · have hend : out = ANS := by
        rw [← hacc.out, List.drop_eq_nil_of_le (by rw [← size_list]; omega)]
        simp [qpB]
      subst hend
      have hcv := hown.out.conv
      clear hacc
      go_wp2_with fail
      go_ret
      exact ⟨rfl, hb⟩
end Go.Proofs.YtblbajhjmdcdiaaDoor
