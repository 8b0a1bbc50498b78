/- FoldOrder: an order, and the match types agree with its sign. -/
import Derived.Test.YtbplbifmohbfdaaDoorSmall
namespace Go.Proofs.YtbplbifmohbfdaaDoor
open Go.ChangeShapes Go.WideShapes Go.ChangeAt Go.RowKit

theorem small_st {w0 w : World} {L : List (Option Addr × List (List UInt8))} (h : St w0 w L) : Calls Tryd.prog 8 #[] w fun e w' => e = .returned (.bool true) ∧ St w0 w' L :=
  (small_any w h.1).mono fun _e _w' h1 => ⟨h1.1, h.next h1.2⟩
set_option maxHeartbeats 4000000 in
set_option maxRecDepth 1000000 in
theorem order_law (comp : Int) (a b c : ByteArray) (w : World) (hv : Vars w) :
    Calls Tryd.prog 6 #[.int .i64 comp, .string a, .string b, .string c] w fun e w' => e = .returned (.bool true) ∧ Below w.heap.size w w' := by
  have hst : St w w [] := ⟨hv, Below.refl _ _, fun p hp => by cases hp⟩
  by_cases h1 : a.size ≤ 1000
  · by_cases h2 : b.size ≤ 1000
    · by_cases h3 : c.size ≤ 1000
      · have hS := ord_sorted comp
        have hr := hS.range a.data.toList b.data.toList
        have ha := hS.anti a.data.toList b.data.toList
        have hs := hS.self a.data.toList
        have ht := hS.trans a.data.toList b.data.toList c.data.toList
        obtain ⟨x, hx⟩ : ∃ x, ordL comp a.data.toList b.data.toList = x := ⟨_, rfl⟩
        obtain ⟨y, hy⟩ : ∃ y, ordL comp b.data.toList c.data.toList = y := ⟨_, rfl⟩
        obtain ⟨z, hz⟩ : ∃ z, ordL comp a.data.toList c.data.toList = z := ⟨_, rfl⟩
        rw [hx] at hr ha ht
        rw [hy, hz] at ht
        have k1 := fun (w1 : World) (h : St w w1 []) => order_is comp a b (by omega) (by omega) x hx h
        have k2 := fun (w1 : World) (h : St w w1 []) => order_is comp b c (by omega) (by omega) y hy h
        have k3 := fun (w1 : World) (h : St w w1 []) => order_is comp a c (by omega) (by omega) z hz h
        obtain ⟨nx, hnx⟩ : ∃ nx, -x = nx := ⟨_, rfl⟩
        obtain ⟨p, hp⟩ : ∃ p, decide (x = 0) = p := ⟨_, rfl⟩
        obtain ⟨q, hq⟩ : ∃ q, decide (0 < x) = q := ⟨_, rfl⟩
        obtain ⟨r, hrr⟩ : ∃ r, decide (x < 0) = r := ⟨_, rfl⟩
        have k4 := fun (w1 : World) (h : St w w1 []) => order_is comp b a (by omega) (by omega) nx (by rw [ha, hnx]) h
        have k5 := fun (w1 : World) (h : St w w1 []) => order_is comp a a (by omega) (by omega) 0 hs h
        have k6 := fun (w1 : World) (h : St w w1 []) => is_is comp a b (by omega) (by omega) p (by rw [hx, hp]) h
        have k7 := fun (w1 : World) (h : St w w1 []) => above_is comp a b (by omega) (by omega) q (by rw [hx, hq]) h
        have k8 := fun (w1 : World) (h : St w w1 []) => below_is comp a b (by omega) (by omega) r (by rw [hx, hrr]) h
        clear hx hy hz hS ha hs hv
        have i1 : ¬ (1000 : Int) < a.size := by omega
        have i2 : ¬ (1000 : Int) < b.size := by omega
        have i3 : ¬ (1000 : Int) < c.size := by omega
        rcases hr with rfl | rfl | rfl
        · obtain rfl : nx = 1 := by omega
          obtain rfl : p = false := by rw [← hp]; rfl
          obtain rfl : q = false := by rw [← hq]; rfl
          obtain rfl : r = true := by rw [← hrr]; rfl
          clear hnx hp hq hrr
          by_cases j1 : y ≤ 0
          · have j := ht (by omega) j1
            have j2 : ¬ 0 < z := by omega
            have j3 : ¬ z = 0 := by omega
            clear ht j
            go_enter Tryd.func6, Tryd.ntmps6
            go_wp2_with (first
              | (go_at_call 8; refine (small_st hst).mono ?_; rintro e w1 ⟨rfl, hs1⟩)
              | (go_at_call 16; with_reducible refine (k1 _ (by assumption)).mono ?_; rintro e w1 ⟨rfl, hs1⟩)
              | (go_at_call 16; with_reducible refine (k2 _ (by assumption)).mono ?_; rintro e w1 ⟨rfl, hs1⟩)
              | (go_at_call 16; with_reducible refine (k3 _ (by assumption)).mono ?_; rintro e w1 ⟨rfl, hs1⟩)
              | (go_at_call 16; with_reducible refine (k4 _ (by assumption)).mono ?_; rintro e w1 ⟨rfl, hs1⟩)
              | (go_at_call 16; with_reducible refine (k5 _ (by assumption)).mono ?_; rintro e w1 ⟨rfl, hs1⟩)
              | (go_at_call 21; with_reducible refine (k6 _ (by assumption)).mono ?_; rintro e w1 ⟨rfl, hs1⟩)
              | (go_at_call 21; with_reducible refine (k7 _ (by assumption)).mono ?_; rintro e w1 ⟨rfl, hs1⟩)
              | (go_at_call 21; with_reducible refine (k8 _ (by assumption)).mono ?_; rintro e w1 ⟨rfl, hs1⟩))
            go_ret
            exact ⟨rfl, (show St w _ [] from by assumption).2.1⟩
          · clear ht
            go_enter Tryd.func6, Tryd.ntmps6
            go_wp2_with (first
              | (go_at_call 8; refine (small_st hst).mono ?_; rintro e w1 ⟨rfl, hs1⟩)
              | (go_at_call 16; with_reducible refine (k1 _ (by assumption)).mono ?_; rintro e w1 ⟨rfl, hs1⟩)
              | (go_at_call 16; with_reducible refine (k2 _ (by assumption)).mono ?_; rintro e w1 ⟨rfl, hs1⟩)
              | (go_at_call 16; with_reducible refine (k3 _ (by assumption)).mono ?_; rintro e w1 ⟨rfl, hs1⟩)
              | (go_at_call 16; with_reducible refine (k4 _ (by assumption)).mono ?_; rintro e w1 ⟨rfl, hs1⟩)
              | (go_at_call 16; with_reducible refine (k5 _ (by assumption)).mono ?_; rintro e w1 ⟨rfl, hs1⟩)
              | (go_at_call 21; with_reducible refine (k6 _ (by assumption)).mono ?_; rintro e w1 ⟨rfl, hs1⟩)
              | (go_at_call 21; with_reducible refine (k7 _ (by assumption)).mono ?_; rintro e w1 ⟨rfl, hs1⟩)
              | (go_at_call 21; with_reducible refine (k8 _ (by assumption)).mono ?_; rintro e w1 ⟨rfl, hs1⟩))
            go_ret
            exact ⟨rfl, (show St w _ [] from by assumption).2.1⟩
        · obtain rfl : nx = 0 := by omega
          obtain rfl : p = true := by rw [← hp]; rfl
          obtain rfl : q = false := by rw [← hq]; rfl
          obtain rfl : r = false := by rw [← hrr]; rfl
          clear hnx hp hq hrr
          by_cases j1 : y ≤ 0
          · have j := ht (by omega) j1
            by_cases j3 : z = 0
            · subst j3
              obtain rfl : y = 0 := by omega
              clear ht j j1
              go_enter Tryd.func6, Tryd.ntmps6
              go_wp2_with (first
                | (go_at_call 8; refine (small_st hst).mono ?_; rintro e w1 ⟨rfl, hs1⟩)
                | (go_at_call 16; with_reducible refine (k1 _ (by assumption)).mono ?_; rintro e w1 ⟨rfl, hs1⟩)
                | (go_at_call 16; with_reducible refine (k2 _ (by assumption)).mono ?_; rintro e w1 ⟨rfl, hs1⟩)
                | (go_at_call 16; with_reducible refine (k3 _ (by assumption)).mono ?_; rintro e w1 ⟨rfl, hs1⟩)
                | (go_at_call 16; with_reducible refine (k4 _ (by assumption)).mono ?_; rintro e w1 ⟨rfl, hs1⟩)
                | (go_at_call 16; with_reducible refine (k5 _ (by assumption)).mono ?_; rintro e w1 ⟨rfl, hs1⟩)
                | (go_at_call 21; with_reducible refine (k6 _ (by assumption)).mono ?_; rintro e w1 ⟨rfl, hs1⟩)
                | (go_at_call 21; with_reducible refine (k7 _ (by assumption)).mono ?_; rintro e w1 ⟨rfl, hs1⟩)
                | (go_at_call 21; with_reducible refine (k8 _ (by assumption)).mono ?_; rintro e w1 ⟨rfl, hs1⟩))
              go_ret
              exact ⟨rfl, (show St w _ [] from by assumption).2.1⟩
            · have j2 : ¬ 0 < z := by omega
              clear ht j
              go_enter Tryd.func6, Tryd.ntmps6
              go_wp2_with (first
                | (go_at_call 8; refine (small_st hst).mono ?_; rintro e w1 ⟨rfl, hs1⟩)
                | (go_at_call 16; with_reducible refine (k1 _ (by assumption)).mono ?_; rintro e w1 ⟨rfl, hs1⟩)
                | (go_at_call 16; with_reducible refine (k2 _ (by assumption)).mono ?_; rintro e w1 ⟨rfl, hs1⟩)
                | (go_at_call 16; with_reducible refine (k3 _ (by assumption)).mono ?_; rintro e w1 ⟨rfl, hs1⟩)
                | (go_at_call 16; with_reducible refine (k4 _ (by assumption)).mono ?_; rintro e w1 ⟨rfl, hs1⟩)
                | (go_at_call 16; with_reducible refine (k5 _ (by assumption)).mono ?_; rintro e w1 ⟨rfl, hs1⟩)
                | (go_at_call 21; with_reducible refine (k6 _ (by assumption)).mono ?_; rintro e w1 ⟨rfl, hs1⟩)
                | (go_at_call 21; with_reducible refine (k7 _ (by assumption)).mono ?_; rintro e w1 ⟨rfl, hs1⟩)
                | (go_at_call 21; with_reducible refine (k8 _ (by assumption)).mono ?_; rintro e w1 ⟨rfl, hs1⟩))
              go_ret
              exact ⟨rfl, (show St w _ [] from by assumption).2.1⟩
          · clear ht
            go_enter Tryd.func6, Tryd.ntmps6
            go_wp2_with (first
              | (go_at_call 8; refine (small_st hst).mono ?_; rintro e w1 ⟨rfl, hs1⟩)
              | (go_at_call 16; with_reducible refine (k1 _ (by assumption)).mono ?_; rintro e w1 ⟨rfl, hs1⟩)
              | (go_at_call 16; with_reducible refine (k2 _ (by assumption)).mono ?_; rintro e w1 ⟨rfl, hs1⟩)
              | (go_at_call 16; with_reducible refine (k3 _ (by assumption)).mono ?_; rintro e w1 ⟨rfl, hs1⟩)
              | (go_at_call 16; with_reducible refine (k4 _ (by assumption)).mono ?_; rintro e w1 ⟨rfl, hs1⟩)
              | (go_at_call 16; with_reducible refine (k5 _ (by assumption)).mono ?_; rintro e w1 ⟨rfl, hs1⟩)
              | (go_at_call 21; with_reducible refine (k6 _ (by assumption)).mono ?_; rintro e w1 ⟨rfl, hs1⟩)
              | (go_at_call 21; with_reducible refine (k7 _ (by assumption)).mono ?_; rintro e w1 ⟨rfl, hs1⟩)
              | (go_at_call 21; with_reducible refine (k8 _ (by assumption)).mono ?_; rintro e w1 ⟨rfl, hs1⟩))
            go_ret
            exact ⟨rfl, (show St w _ [] from by assumption).2.1⟩
        · obtain rfl : nx = -1 := by omega
          obtain rfl : p = false := by rw [← hp]; rfl
          obtain rfl : q = true := by rw [← hq]; rfl
          obtain rfl : r = false := by rw [← hrr]; rfl
          clear hnx hp hq hrr ht
          go_enter Tryd.func6, Tryd.ntmps6
          go_wp2_with (first
            | (go_at_call 8; refine (small_st hst).mono ?_; rintro e w1 ⟨rfl, hs1⟩)
            | (go_at_call 16; with_reducible refine (k1 _ (by assumption)).mono ?_; rintro e w1 ⟨rfl, hs1⟩)
            | (go_at_call 16; with_reducible refine (k2 _ (by assumption)).mono ?_; rintro e w1 ⟨rfl, hs1⟩)
            | (go_at_call 16; with_reducible refine (k3 _ (by assumption)).mono ?_; rintro e w1 ⟨rfl, hs1⟩)
            | (go_at_call 16; with_reducible refine (k4 _ (by assumption)).mono ?_; rintro e w1 ⟨rfl, hs1⟩)
            | (go_at_call 16; with_reducible refine (k5 _ (by assumption)).mono ?_; rintro e w1 ⟨rfl, hs1⟩)
            | (go_at_call 21; with_reducible refine (k6 _ (by assumption)).mono ?_; rintro e w1 ⟨rfl, hs1⟩)
            | (go_at_call 21; with_reducible refine (k7 _ (by assumption)).mono ?_; rintro e w1 ⟨rfl, hs1⟩)
            | (go_at_call 21; with_reducible refine (k8 _ (by assumption)).mono ?_; rintro e w1 ⟨rfl, hs1⟩))
          go_ret
          exact ⟨rfl, (show St w _ [] from by assumption).2.1⟩
      · have i3 : (1000 : Int) < c.size := by omega
        go_enter Tryd.func6, Tryd.ntmps6
        go_wp2_with (go_at_call 8; refine (small_any w hv).mono ?_; rintro e w1 ⟨rfl, hb1⟩)
        go_ret
        exact ⟨rfl, hb1⟩
    · have i3 : (1000 : Int) < b.size := by omega
      go_enter Tryd.func6, Tryd.ntmps6
      go_wp2_with (go_at_call 8; refine (small_any w hv).mono ?_; rintro e w1 ⟨rfl, hb1⟩)
      go_ret
      exact ⟨rfl, hb1⟩
  · have i3 : (1000 : Int) < a.size := by omega
    go_enter Tryd.func6, Tryd.ntmps6
    go_wp2_with (go_at_call 8; refine (small_any w hv).mono ?_; rintro e w1 ⟨rfl, hb1⟩)
    go_ret
    exact ⟨rfl, hb1⟩
end Go.Proofs.YtbplbifmohbfdaaDoor
