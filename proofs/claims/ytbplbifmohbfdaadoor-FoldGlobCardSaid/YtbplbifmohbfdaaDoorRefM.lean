/- The reference's Marks. -/
import Derived.Test.YtbplbifmohbfdaaDoorRefU
namespace Go.Proofs.YtbplbifmohbfdaaDoor
open Go.ChangeShapes Go.WideShapes Go.ChangeAt Go.RowKit

def mkK : Mk → Int
  | .lit _ => 0
  | .one => 1
  | .star => 2
def mkT : Mk → List UInt8
  | .lit u => u
  | _ => []
def markV (m : Mk) : List Value := [.int .i64 (mkK m), .string (strL (mkT m))]
def marksOf (l : List Mk) : List Value := l.flatMap markV
theorem marksOf_len (l : List Mk) : (marksOf l).length = l.length * 2 := by
  unfold marksOf
  induction l with
  | nil => rfl
  | cons m l ih => rw [List.flatMap_cons, List.length_append, ih, List.length_cons]; simp [markV]; omega
theorem marksOf_app (a b : List Mk) : marksOf a ++ marksOf b = marksOf (a ++ b) := by unfold marksOf; rw [List.flatMap_append]
theorem marksOf_at : ∀ (l : List Mk) (i : Nat) (m : Mk), l[i]? = some m → (marksOf l)[2 * i]? = some (.int .i64 (mkK m)) ∧ (marksOf l)[2 * i + 1]? = some (.string (strL (mkT m)))
  | [], i, m, h => by simp at h
  | x :: l, 0, m, h => by
    simp at h
    subst h
    exact ⟨rfl, rfl⟩
  | x :: l, i + 1, m, h => by
    have ih := marksOf_at l i m (by simpa using h)
    have e : marksOf (x :: l) = markV x ++ marksOf l := by unfold marksOf; rw [List.flatMap_cons]
    rw [e, List.getElem?_append_right (by simp [markV]; omega), List.getElem?_append_right (by simp [markV]; omega)]
    have e1 : 2 * (i + 1) - (markV x).length = 2 * i := by simp [markV]; omega
    have e2 : 2 * (i + 1) + 1 - (markV x).length = 2 * i + 1 := by simp [markV]; omega
    rw [e1, e2]
    exact ih
theorem markV_one (m : Mk) : ∀ u ∈ marksOf [m], u.oneCell' = true := by
  intro u hu
  simp [marksOf, markV] at hu
  rcases hu with rfl | rfl <;> rfl
theorem news_two (W : World) (x y : Value) (t : TypeId) : ∀ j u, [x, y][j]? = some u → (W.alloc (.cells #[x, y] t)).cell? ((⟨W.heap.size, 0, none⟩ : Addr).add j) = some u := by
  intro j u h
  rw [add_none, Nat.zero_add]
  have := Go.heap_alloc_new W (.cells #[x, y] t)
  simp only [World.cell?, this]
  simpa using h
def MarksAt (w : World) (a : Option Addr) (l : List Mk) : Prop := ∀ i m, l[i]? = some m → ∃ g, a = some ⟨g, 0, none⟩ ∧ w.cell? ⟨g, i * 2, none⟩ = some (.int .i64 (mkK m)) ∧ w.cell? ⟨g, i * 2 + 1, none⟩ = some (.string (strL (mkT m)))
theorem MarksAt.below {w w' : World} {a : Option Addr} {l : List Mk} (h : MarksAt w a l) (hb : Below w.heap.size w w') : MarksAt w' a l := by
  intro i m hm
  obtain ⟨g, e, h1, h2⟩ := h i m hm
  exact ⟨g, e, cell_below h1 hb, cell_below h2 hb⟩
theorem marks_own {w : World} {base : Nat} {v : Value} {n : Nat} {l : List Mk} (h : w.ownsRow base 35 2 v n (marksOf l)) (hn : l.length = n) : ∃ a c, v = .slice a n c ∧ MarksAt w a l := by
  rcases h.2 with ⟨rfl, h0⟩ | ⟨g, cap, cur, rfl, _⟩
  · subst h0
    obtain rfl : l = [] := List.eq_nil_of_length_eq_zero hn
    exact ⟨none, 0, rfl, fun i m hm => by simp at hm⟩
  · refine ⟨_, cap, rfl, fun i m hm => ⟨g, rfl, ?_⟩⟩
    have h1 := marksOf_at l i m hm
    have c1 := h.cells (g := g) rfl _ _ h1.1
    have c2 := h.cells (g := g) rfl _ _ h1.2
    rw [add_none, Nat.zero_add] at c1 c2
    rw [Nat.mul_comm i 2]
    exact ⟨c1, c2⟩
theorem news_at (W : World) (g : Nat) (hg : W.heap.size = g) (x y : Value) (t : TypeId) : ∀ j u, [x, y][j]? = some u → (W.alloc (.cells #[x, y] t)).cell? ((⟨g, 0, none⟩ : Addr).add j) = some u := by
  subst hg
  exact news_two W x y t
theorem marksOf_star (d : List Mk) : marksOf d ++ [.int .i64 2, .string ⟨#[]⟩] = marksOf (d ++ [.star]) := by rw [← marksOf_app]; rfl
theorem marksOf_one (d : List Mk) : marksOf d ++ [.int .i64 1, .string ⟨#[]⟩] = marksOf (d ++ [.one]) := by rw [← marksOf_app]; rfl
theorem marksOf_lit (d : List Mk) (u : List UInt8) : marksOf d ++ [.int .i64 0, .string (strL u)] = marksOf (d ++ [.lit u]) := by rw [← marksOf_app]; rfl
theorem two_one (k : Int) (s : ByteArray) : ∀ u ∈ [Value.int .i64 k, .string s], u.oneCell' = true := by
  intro u hu
  simp at hu
  rcases hu with rfl | rfl <;> rfl
theorem news_mk (W : World) (m : Mk) : ∀ j u, (marksOf [m])[j]? = some u → (W.alloc (.cells (marksOf [m]).toArray 35)).cell? ((⟨W.heap.size, 0, none⟩ : Addr).add j) = some u := by
  intro j u h
  rw [add_none, Nat.zero_add]
  have := Go.heap_alloc_new W (.cells (marksOf [m]).toArray 35)
  simp only [World.cell?, this]
  simpa using h
theorem info35 : (Tryd.prog.info? 35).map (fun i => (i.zero, i.size, i.bytes)) = some (some (.agg #[.int .i64 0, .string ⟨#[]⟩]), 2, 24) := by kernel_rfl
set_option maxHeartbeats 4000000 in
set_option maxRecDepth 1000000 in
theorem rmarks_any (s : ByteArray) (hs : s.size ≤ 1000000) (w : World) :
    Calls Tryd.prog 20 #[.string s] w fun e w' => ∃ a c, e = .returned (.slice a (marksU (unitsL s.data.toList)).length c) ∧ MarksAt w' a (marksU (unitsL s.data.toList)) ∧ Below w.heap.size w w' := by
  obtain ⟨i0, hi, hz0, hz1, hz2⟩ := info_parts info35
  have hlen : (unitsL s.data.toList).length ≤ s.size := by rw [size_list]; exact units_le _
  have cU := runits_any s hs w
  generalize unitsL s.data.toList = U at cU hlen ⊢
  obtain ⟨R, hR⟩ : ∃ R, marksU U = R := ⟨_, rfl⟩
  rw [hR]
  have HR := Lib.hid hR
  clear hR
  obtain ⟨N, hN⟩ : ∃ N, U.length = N := ⟨_, rfl⟩
  rw [hN] at cU hlen
  go_enter Tryd.func20, Tryd.ntmps20
  go_wp2_with fail
  refine cU.mono ?_
  rintro e W1 ⟨ua, uc, rfl, hSU, hb1⟩
  clear cU
  have hz := hb1.size
  go_wp2_with fail
  go_loopw [4, 5] (fun v i wr => ∃ (q m : Nat) (d : List Mk), i = .int .i64 q ∧ q ≤ N ∧ m ≤ q ∧ d.length = m ∧ wr.ownsRow W1.heap.size 35 2 v m (marksOf d) ∧ Below W1.heap.size W1 wr ∧ Hid (d ++ marksU (U.drop q) = R)) (fun _ i _ => N - (intOf i).toNat)
  case atStart => exact ⟨0, 0, [], rfl, Nat.zero_le _, Nat.le_refl _, rfl, World.ownsRow_nil _ _ _ _, Below.refl _ _, Lib.hid (by rw [List.drop_zero]; exact HR.out)⟩
  case round =>
    obtain ⟨q, m, d, rfl, hq, hmq, hdm, hown, hbw, HK⟩ := hrel
    have hst := HK.out
    by_cases hlt : q < N
    · have hqU : q < U.length := by omega
      have hSr := hSU.below hbw
      obtain ⟨g1, o1, rfl, l1⟩ := hSr.get hqU
      obtain ⟨u, hu⟩ : ∃ u, U[q] = u := ⟨_, rfl⟩
      rw [hu] at l1
      have hdrop : U.drop q = u :: U.drop (q + 1) := by rw [List.drop_eq_getElem_cons hqU, hu]
      rw [hdrop] at hst
      have hlg := cell_lt l1
      have hszr := hbw.size
      have hlt0 : ∀ j, u4.ownBlock = some j → W1.heap.size ≤ j := fun j hj => (hown.lt j hj).1
      replace hlt0 := Lib.hid hlt0
      replace hSr := Lib.hid hSr
      clear hu hdrop HK hSU
      by_cases k1 : u = [42]
      · have x1 := unit_is u 42 true (by rw [k1]; rfl)
        rw [k1, marks_star] at hst
        replace hst := Lib.hid hst
        clear k1
        go_wp2_with (at_builtin; refine wpList_append_own_at _ rfl (.tmp 51) (.tmp 53) 32 rfl W1.heap.size 35 i0 (.agg #[.int .i64 0, .string ⟨#[]⟩]) 2 24 Tryd.underlying32 hi hz0 hz1 hz2 rfl (by decide) u4 m (marksOf d) rfl ((hown.alloc _).alloc _) ⟨_, 0, none⟩ 1 1 [.int .i64 2, .string ⟨#[]⟩] rfl rfl (news_at _ _ (by simp) _ _ _) (two_one _ _) (by unfold maxLen; omega) (by omega) (by simp; omega) ?_; intro v2 w2 hown2 hgrow2 hnil2 hblk2; rw [marksOf_star] at hown2; replace hgrow2 := Lib.hid hgrow2; clear hnil2 hblk2)
        go_roundw
        case rel => exact ⟨q + 1, m + 1, d ++ [.star], rfl, by omega, by omega, by rw [List.length_append, hdm]; rfl, hown2, ((hbw.alloc hszr _).alloc (by simp; omega) _).grown hgrow2.out (by simp; omega) hlt0.out, Lib.hid (by rw [List.append_assoc]; exact hst.out)⟩
        case measure => simp only [intOf]; omega
      · have x1 := unit_is u 42 false (by rw [decide_eq_false k1])
        by_cases k2 : u = [63]
        · have x2 := unit_is u 63 true (by rw [k2]; rfl)
          rw [k2, marks_one] at hst
          replace hst := Lib.hid hst
          clear k1 k2
          go_wp2_with (at_builtin; refine wpList_append_own_at _ rfl (.tmp 51) (.tmp 53) 32 rfl W1.heap.size 35 i0 (.agg #[.int .i64 0, .string ⟨#[]⟩]) 2 24 Tryd.underlying32 hi hz0 hz1 hz2 rfl (by decide) u4 m (marksOf d) rfl ((hown.alloc _).alloc _) ⟨_, 0, none⟩ 1 1 [.int .i64 1, .string ⟨#[]⟩] rfl rfl (news_at _ _ (by simp) _ _ _) (two_one _ _) (by unfold maxLen; omega) (by omega) (by simp; omega) ?_; intro v2 w2 hown2 hgrow2 hnil2 hblk2; rw [marksOf_one] at hown2; replace hgrow2 := Lib.hid hgrow2; clear hnil2 hblk2)
          go_roundw
          case rel => exact ⟨q + 1, m + 1, d ++ [.one], rfl, by omega, by omega, by rw [List.length_append, hdm]; rfl, hown2, ((hbw.alloc hszr _).alloc (by simp; omega) _).grown hgrow2.out (by simp; omega) hlt0.out, Lib.hid (by rw [List.append_assoc]; exact hst.out)⟩
          case measure => simp only [intOf]; omega
        · have x2 := unit_is u 63 false (by rw [decide_eq_false k2])
          by_cases k3 : u = [92]
          · have x3 := unit_is u 92 true (by rw [k3]; rfl)
            by_cases hlt2 : q + 1 < N
            · have hqU2 : q + 1 < U.length := by omega
              obtain ⟨g2, o2, e2, l2⟩ := hSr.out.get hqU2
              cases e2
              obtain ⟨v, hv⟩ : ∃ v, U[q + 1] = v := ⟨_, rfl⟩
              rw [hv] at l2
              have hdrop2 : U.drop (q + 1) = v :: U.drop (q + 2) := by rw [List.drop_eq_getElem_cons hqU2, hv]
              rw [hdrop2, k3, marks_back] at hst
              replace hst := Lib.hid hst
              clear hv hdrop2 k1 k2 k3
              have l3 := l2
              rw [← Nat.add_assoc] at l3
              have hlt3 : (q : Int) + 1 < (N : Int) := by omega
              go_wp2_with (at_builtin; refine wpList_append_own_at _ rfl (.tmp 51) (.tmp 53) 32 rfl W1.heap.size 35 i0 (.agg #[.int .i64 0, .string ⟨#[]⟩]) 2 24 Tryd.underlying32 hi hz0 hz1 hz2 rfl (by decide) u4 m (marksOf d) rfl ((hown.alloc _).alloc _) ⟨_, 0, none⟩ 1 1 [.int .i64 0, .string (strL v)] rfl rfl (news_at _ _ (by simp) _ _ _) (two_one _ _) (by unfold maxLen; omega) (by omega) (by simp; omega) ?_; intro v2 w2 hown2 hgrow2 hnil2 hblk2; rw [marksOf_lit] at hown2; replace hgrow2 := Lib.hid hgrow2; clear hnil2 hblk2)
              go_roundw
              case rel => exact ⟨q + 2, m + 1, d ++ [(.lit v)], rfl, by omega, by omega, by rw [List.length_append, hdm]; rfl, hown2, ((hbw.alloc hszr _).alloc (by simp; omega) _).grown hgrow2.out (by simp; omega) hlt0.out, Lib.hid (by rw [List.append_assoc]; exact hst.out)⟩
              case measure => simp only [intOf]; omega
            · have hlt3 : ¬ (q : Int) + 1 < (N : Int) := by omega
              rw [List.drop_eq_nil_of_le (by omega), marks_last u k1 k2] at hst
              have hd2 : U.drop (q + 1) = [] := List.drop_eq_nil_of_le (by omega)
              replace hst : Hid (d ++ .lit u :: marksU (U.drop (q + 1)) = R) := Lib.hid (by rw [hd2]; exact hst)
              clear k1 k2 k3 hd2
              go_wp2_with (at_builtin; refine wpList_append_own_at _ rfl (.tmp 51) (.tmp 53) 32 rfl W1.heap.size 35 i0 (.agg #[.int .i64 0, .string ⟨#[]⟩]) 2 24 Tryd.underlying32 hi hz0 hz1 hz2 rfl (by decide) u4 m (marksOf d) rfl ((hown.alloc _).alloc _) ⟨_, 0, none⟩ 1 1 [.int .i64 0, .string (strL u)] rfl rfl (news_at _ _ (by simp) _ _ _) (two_one _ _) (by unfold maxLen; omega) (by omega) (by simp; omega) ?_; intro v2 w2 hown2 hgrow2 hnil2 hblk2; rw [marksOf_lit] at hown2; replace hgrow2 := Lib.hid hgrow2; clear hnil2 hblk2)
              go_roundw
              case rel => exact ⟨q + 1, m + 1, d ++ [(.lit u)], rfl, by omega, by omega, by rw [List.length_append, hdm]; rfl, hown2, ((hbw.alloc hszr _).alloc (by simp; omega) _).grown hgrow2.out (by simp; omega) hlt0.out, Lib.hid (by rw [List.append_assoc]; exact hst.out)⟩
              case measure => simp only [intOf]; omega
          · have x3 := unit_is u 92 false (by rw [decide_eq_false k3])
            rw [marks_lit u _ k1 k2 k3] at hst
            replace hst := Lib.hid hst
            clear k1 k2 k3
            go_wp2_with (at_builtin; refine wpList_append_own_at _ rfl (.tmp 51) (.tmp 53) 32 rfl W1.heap.size 35 i0 (.agg #[.int .i64 0, .string ⟨#[]⟩]) 2 24 Tryd.underlying32 hi hz0 hz1 hz2 rfl (by decide) u4 m (marksOf d) rfl ((hown.alloc _).alloc _) ⟨_, 0, none⟩ 1 1 [.int .i64 0, .string (strL u)] rfl rfl (news_at _ _ (by simp) _ _ _) (two_one _ _) (by unfold maxLen; omega) (by omega) (by simp; omega) ?_; intro v2 w2 hown2 hgrow2 hnil2 hblk2; rw [marksOf_lit] at hown2; replace hgrow2 := Lib.hid hgrow2; clear hnil2 hblk2)
            go_roundw
            case rel => exact ⟨q + 1, m + 1, d ++ [(.lit u)], rfl, by omega, by omega, by rw [List.length_append, hdm]; rfl, hown2, ((hbw.alloc hszr _).alloc (by simp; omega) _).grown hgrow2.out (by simp; omega) hlt0.out, Lib.hid (by rw [List.append_assoc]; exact hst.out)⟩
            case measure => simp only [intOf]; omega
    · rw [List.drop_eq_nil_of_le (by omega)] at hst
      simp only [marksU, List.append_nil] at hst
      subst hst
      obtain ⟨a, c, rfl, hMA⟩ := marks_own hown hdm
      subst hdm
      go_wp2_with fail
      go_ret
      exact ⟨a, c, rfl, hMA, hb1.trans (hbw.mono hz)⟩
end Go.Proofs.YtbplbifmohbfdaaDoor
