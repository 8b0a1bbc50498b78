/- The reference's Bare. -/
import Derived.Test.YtgponokcigapaaaDoorK2
namespace Go.Proofs.YtgponokcigapaaaDoor
open Go.ChangeShapes Go.WideShapes Go.ChangeAt Go.RowKit
open TokP

set_option maxRecDepth 100000 in
set_option maxHeartbeats 2000000 in
theorem rbare_any (v : Value) (l : List Tok) (w : World) (h : HasF w v l) (hn : l.length ≤ 1000000) :
    Calls Tryd.prog 49 #[v] w fun e w' => ∃ a c, e = .returned (.slice a (bareL l).length c) ∧ OwnF w' (.slice a (bareL l).length c) (bareL l) ∧ Below w.heap.size w w' := by
  rcases h with ⟨rfl, rfl⟩ | ⟨g, o, c, rfl, h⟩
  · clear hn
    go_enter Tryd.func49, Tryd.ntmps49
    go_wp2_with fail
    go_loopw [3, 4] (fun r i wr => i = .int .i64 0 ∧ r = .slice none 0 0 ∧ wr = w) (fun _ _ _ => 0)
    case atStart => exact ⟨rfl, rfl, rfl⟩
    case round =>
      obtain ⟨rfl, rfl, rfl⟩ := hrel
      go_wp2_with fail
      go_ret
      exact ⟨none, 0, rfl, ⟨0, rfl, .inl ⟨rfl, rfl⟩⟩, Below.refl _ _⟩
  · obtain ⟨n, hnn⟩ : ∃ n, l.length = n := ⟨_, rfl⟩
    rw [hnn] at hn ⊢
    have HN := Lib.hid hnn
    have H := Lib.hid h
    clear hnn h
    go_enter Tryd.func49, Tryd.ntmps49
    go_wp2_with fail
    go_loopw [3, 4] (fun r i wr => ∃ (k m : Nat), k ≤ n ∧ m ≤ k ∧ i = .int .i64 k ∧ (∃ a c, r = .slice a m c) ∧ Hid ((bareL (l.take k)).length = m) ∧ Hid (wr.ownsRow w.heap.size 43 2 r (bareL (l.take k)).length (toksV (bareL (l.take k)))) ∧ Hid (Below w.heap.size w wr)) (fun _ i _ => n - (intOf i).toNat)
    case atStart => exact ⟨0, 0, Nat.zero_le _, Nat.le_refl _, rfl, ⟨none, 0, rfl⟩, rfl, ⟨rfl, .inl ⟨rfl, rfl⟩⟩, Below.refl _ _⟩
    case round =>
      obtain ⟨k, m, hk, hmk, rfl, ⟨a, c2, rfl⟩, hm, ho, hb⟩ := hrel
      have F1 : IntKind.i64.wrap ((k : Int) + 1) = (k : Int) + 1 := by rw [IntKind.wrap_i64]; omega
      by_cases hlt : k < n
      · have hlt' : (k : Int) < (n : Int) := by omega
        obtain ⟨f, hf⟩ : ∃ f, l[k]? = some f := ⟨_, List.getElem?_eq_getElem (by rw [HN.out]; exact hlt)⟩
        obtain ⟨k0, k1⟩ := H.out.step hb.out k f hf
        have hstep := bare_step l k f hf
        by_cases h6 : f.kind = 6
        · rw [if_pos (.inl h6), List.append_nil] at hstep
          have HST := Lib.hid hstep
          rw [h6] at k0
          clear hstep hf h6 k1
          go_wp2_with fail
          go_roundw
          case rel => exact ⟨k + 1, m, by omega, by omega, by go_num, ⟨a, c2, rfl⟩, by rw [HST.out]; exact hm, by rw [HST.out]; exact ho, hb⟩
          case measure => simp [intOf]; omega
        · by_cases h3 : f.kind = 3
          · rw [if_pos (.inr h3), List.append_nil] at hstep
            have HST := Lib.hid hstep
            rw [h3] at k0
            clear hstep hf h6 h3 k1
            go_wp2_with fail
            go_roundw
            case rel => exact ⟨k + 1, m, by omega, by omega, by go_num, ⟨a, c2, rfl⟩, by rw [HST.out]; exact hm, by rw [HST.out]; exact ho, hb⟩
            case measure => simp [intOf]; omega
          · rw [if_neg (fun e => e.elim h6 h3)] at hstep
            have HST := Lib.hid hstep
            have g6 : (((f.kind : Nat) : Int) != 6) = true := by rw [bne_iff_ne]; omega
            have g3 : (((f.kind : Nat) : Int) != 3) = true := by rw [bne_iff_ne]; omega
            have n6 : ¬ f.kind = 6 := h6
            have n3 : ¬ f.kind = 3 := h3
            have hm1 : m ≤ 1000000 := by omega
            clear hstep hf hlt h6 h3
            go_wp2_with (at_builtin; refine wpList_appF (by rfl) (.tmp 25) (.tmp 30) rfl rfl w.heap.size f rfl rfl ho.out hm.out hb.out.size hm1 ?_; intro a2 c3 w2 h2 g2; replace h2 := Lib.hid h2; replace g2 := Lib.hid g2)
            go_roundw
            case rel => exact ⟨k + 1, m + 1, by omega, by omega, by go_num, ⟨a2, c3, rfl⟩, Lib.hid (by rw [HST.out, List.length_append, hm.out]; rfl), Lib.hid (by rw [HST.out]; exact h2.out), (hb.out.alloc hb.out.size _).grown g2.out (by have := hb.out.size; rw [World.size_alloc]; omega) (fun k e => (ho.out.lt k e).1)⟩
            case measure => simp [intOf]; omega
      · obtain rfl : k = n := by omega
        have hT : l.take k = l := List.take_of_length_le (by rw [HN.out]; exact Nat.le_refl _)
        rw [hT] at ho hm
        have hlt' : ¬ (k : Int) < (k : Int) := by omega
        clear hT
        go_wp2_with fail
        go_ret
        have e := hm.out
        subst e
        exact ⟨a, c2, rfl, ⟨_, ho.out⟩, hb.out⟩
end Go.Proofs.YtgponokcigapaaaDoor
