/- Names without regard to case. -/
import Derived.Test.YtocghngmjipjoaaDoorSameT
import Derived.Test.YtocghngmjipjoaaDoorByte
namespace Go.Proofs.YtocghngmjipjoaaDoor
open Go.ChangeShapes Go.WideShapes Go.ChangeAt Go.RowKit
open LinesP HdrP

theorem lower_w (c : UInt8) (x : Nat) (hx : c.toNat = x) (w : World) :
    Calls Tryd.prog 64 #[.int .u8 x] w fun e w' => e = .returned (.int .u8 ((low c).toNat : Int)) ∧ w' = w :=
  (lower_any c x hx w).mono fun _ _ hh => ⟨hh.1, hh.2.symm⟩
theorem low_same {a b : List UInt8} (h : a.length = b.length) (k : Nat) (hk : a.length ≤ k) (he : ∀ i (_ : i < k) (c d : UInt8), a[i]? = some c → b[i]? = some d → low c = low d) : a.map low = b.map low := by
  refine List.ext_getElem (by simpa using h) fun i h1 h2 => ?_
  rw [List.length_map] at h1 h2
  rw [List.getElem_map, List.getElem_map]
  exact he i (by omega) _ _ (List.getElem?_eq_getElem h1) (List.getElem?_eq_getElem h2)
theorem low_differ {a b : List UInt8} {k : Nat} {c d : UInt8} (h1 : a[k]? = some c) (h2 : b[k]? = some d) (hn : low c ≠ low d) : a.map low ≠ b.map low := by
  intro e
  have := congrArg (·[k]?) e
  simp only [List.getElem?_map, h1, h2, Option.map_some, Option.some.injEq] at this
  exact hn this
set_option maxRecDepth 100000 in
set_option maxHeartbeats 4000000 in
theorem sameName_any (a b : ByteArray) (ha : a.size ≤ 1000000) (w : World) :
    Calls Tryd.prog 51 #[.string a, .string b] w fun e w' => e = .returned (.bool (decide (a.data.toList.map low = b.data.toList.map low))) ∧ w.grownBy w' none := by
  have HA := Lib.hid (size_list a)
  have HB := Lib.hid (size_list b)
  by_cases hl : a.size = b.size
  · have hne : ((a.size : Int) != (b.size : Int)) = false := by rw [bne, hl]; simp
    have HL := Lib.hid hl
    clear hl
    go_enter Tryd.func51, Tryd.ntmps51
    go_wp2_with fail
    go_loopw [13] (fun i wr => ∃ k : Nat, k ≤ a.size ∧ i = .int .i64 k ∧ Hid (w.grownBy wr none) ∧ Hid (∀ i (_ : i < k) (c d : UInt8), a.data.toList[i]? = some c → b.data.toList[i]? = some d → low c = low d)) (fun i _ => a.size - (intOf i).toNat)
    case atStart => exact ⟨0, Nat.zero_le _, rfl, World.grownBy.refl _ _, by intro i h; omega⟩
    case round =>
      obtain ⟨k, hk, rfl, hgr, heq⟩ := hrel
      have F1 : IntKind.i64.wrap ((k : Int) + 1) = (k : Int) + 1 := by rw [IntKind.wrap_i64]; omega
      by_cases hlt : k < a.size
      · have hlt' : (k : Int) < (a.size : Int) := by omega
        obtain ⟨c, x, hc, hx, _, RI⟩ := run_byte a k hlt
        obtain ⟨d, y, hd, hy, _, RJ⟩ := run_byte b k (by have := HL.out; omega)
        have c1 := fun w => lower_w c x hx w
        have c2 := fun w => lower_w d y hy w
        by_cases he : low c = low d
        · have HE : Hid (∀ i (_ : i < k + 1) (c d : UInt8), a.data.toList[i]? = some c → b.data.toList[i]? = some d → low c = low d) := by
            intro i h c' d' h1 h2
            rcases (show i < k ∨ i = k by omega) with h' | rfl
            · exact heq.out i h' c' d' h1 h2
            · rw [hc] at h1
              rw [hd] at h2
              cases h1; cases h2; exact he
          rw [he] at c1
          have hpq : ((((low d).toNat : Nat) : Int) != (((low d).toNat : Nat) : Int)) = false := by simp
          generalize (low d).toNat = p at c1 c2 hpq
          clear hc hd hx hy he
          go_wp2_with fail
          go_quiet ((first | (go_at_call 64; with_reducible exact Calls.quiet_of_same (c1 _)) | (go_at_call 64; with_reducible exact Calls.quiet_of_same (c2 _))))
          go_wp2_with fail
          go_roundw
          case rel => exact ⟨k + 1, by omega, by go_num, grown_drewN hgr.out _, HE.out⟩
          case measure => simp [intOf]; omega
        · have HE : Hid (decide (a.data.toList.map low = b.data.toList.map low) = false) := by
            show _ = _
            rw [decide_eq_false_iff_not]
            exact low_differ hc hd he
          have hpq : ((((low c).toNat : Nat) : Int) != (((low d).toNat : Nat) : Int)) = true := by
            rw [bne, Bool.not_eq_true', beq_eq_false_iff_ne]
            intro e
            exact he (UInt8.toNat_inj.1 (by omega))
          have hpq' : ((((low c).toNat : Nat) : Int) == (((low d).toNat : Nat) : Int)) = false := by
            rw [beq_eq_false_iff_ne]
            intro e
            exact he (UInt8.toNat_inj.1 (by omega))
          generalize (low c).toNat = p at c1 hpq hpq'
          generalize (low d).toNat = q at c2 hpq hpq'
          clear hc hd hx hy he
          go_wp2_with fail
          go_quiet ((first | (go_at_call 64; with_reducible exact Calls.quiet_of_same (c1 _)) | (go_at_call 64; with_reducible exact Calls.quiet_of_same (c2 _))))
          go_wp2_with fail
          go_ret
          rw [HE.out]
          exact ⟨rfl, grown_drewN hgr.out _⟩
      · have hlt' : ¬ (k : Int) < (a.size : Int) := by omega
        have HE : Hid (decide (a.data.toList.map low = b.data.toList.map low) = true) := by
          show _ = _
          rw [decide_eq_true_iff]
          have h1 := HA.out
          have h2 := HB.out
          have h3 := HL.out
          exact low_same (by omega) k (by omega) heq.out
        go_wp2_with fail
        go_ret
        rw [HE.out]
        exact ⟨rfl, hgr.out⟩
  · have HE : Hid (decide (a.data.toList.map low = b.data.toList.map low) = false) := by
      show _ = _
      rw [decide_eq_false_iff_not]
      intro e
      have := low_map_len e
      rw [← size_list, ← size_list] at this
      exact hl this
    have hne : ((a.size : Int) == (b.size : Int)) = false := beq_eq_false_iff_ne.2 (by omega)
    have hne' : ((a.size : Int) != (b.size : Int)) = true := by rw [bne, hne]; rfl
    clear hl
    go_enter Tryd.func51, Tryd.ntmps51
    go_wp2_with fail
    go_ret
    rw [HE.out]
    exact ⟨rfl, World.grownBy.refl _ _⟩
end Go.Proofs.YtocghngmjipjoaaDoor
