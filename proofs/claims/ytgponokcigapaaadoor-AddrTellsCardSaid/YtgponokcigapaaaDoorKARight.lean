/- The reference's Right. -/
import Derived.Test.YtgponokcigapaaaDoorK6
import Derived.Deep.Cut
namespace Go.Proofs.YtgponokcigapaaaDoor
open Go.ChangeShapes Go.WideShapes Go.ChangeAt Go.RowKit
open TokP AdrP

def goodB (c : UInt8) : Bool := decide (32 < c.toNat) && c != 127 && c != 91 && c != 93 && c != 92
theorem shown_app (a b : List UInt8) : shown (a ++ b) = (shown a && shown b) := List.all_append
theorem right_mid (a : Adr) (h1 : 0 < a.loc.length) (h2 : a.loc.length ≤ 64) (h3 : a.dom.length ≤ 255) (h4 : a.name.length ≤ 200) : rightB a = (shown (a.loc ++ a.name) && domB a.dom) := by
  unfold rightB
  rw [decide_eq_true h1, decide_eq_true h2, decide_eq_true h3, decide_eq_true h4, shown_app]
  cases shown a.loc <;> cases shown a.name <;> cases domB a.dom <;> rfl
theorem right_head (a : Adr) (h : a.loc.length = 0 ∨ 64 < a.loc.length ∨ 255 < a.dom.length ∨ 200 < a.name.length) : rightB a = false := by
  unfold rightB
  rcases h with h | h | h | h
  · rw [decide_eq_false (by omega : ¬ 0 < a.loc.length)]; rfl
  · rw [decide_eq_false (by omega : ¬ a.loc.length ≤ 64), Bool.and_false]; rfl
  · rw [decide_eq_false (by omega : ¬ a.dom.length ≤ 255), Bool.false_and, Bool.and_false]; rfl
  · rw [decide_eq_false (by omega : ¬ a.name.length ≤ 200), Bool.false_and, Bool.and_false]
theorem dom_plain (d : List UInt8) (h : d.length < 2 ∨ d[0]? ≠ some 91 ∨ d[d.length - 1]? ≠ some 93) : domB d = dotA false d := by
  unfold domB litB
  rw [List.head?_eq_getElem?, List.getLast?_eq_getElem?]
  rcases h with h | h | h
  · rw [decide_eq_false (by omega : ¬ 2 ≤ d.length)]; simp
  · rw [show (d[0]? == some 91) = false from beq_eq_false_iff_ne.2 h]; simp
  · rw [show (d[d.length - 1]? == some 93) = false from beq_eq_false_iff_ne.2 h]; simp
theorem dom_brack (d : List UInt8) (h1 : 2 ≤ d.length) (h2 : d[0]? = some 91) (h3 : d[d.length - 1]? = some 93) : domB d = ((d.take (d.length - 1)).drop 1).all goodB := by
  have hd : dotA false d = false := by
    cases d with
    | nil => simp at h1
    | cons c t =>
      obtain rfl : c = 91 := by simpa using h2
      rw [dotA, if_neg (by decide), if_neg (by decide)]
  have e : (d.drop 1).dropLast = (d.take (d.length - 1)).drop 1 := by
    rw [List.dropLast_eq_take, List.length_drop, List.drop_take]
  unfold domB litB
  rw [List.head?_eq_getElem?, List.getLast?_eq_getElem?, h2, h3, hd, decide_eq_true h1, e]
  rfl
theorem take_good (d : List UInt8) (i : Nat) (c : UInt8) (h1 : 1 ≤ i) (h : d[i]? = some c) : ((d.take (i + 1)).drop 1).all goodB = (((d.take i).drop 1).all goodB && goodB c) := by
  have hi : i < d.length := (List.getElem?_eq_some_iff.1 h).1
  rw [List.take_add_one, h, Option.toList_some, List.drop_append_of_le_length (by rw [List.length_take]; omega), List.all_append]
  simp
theorem all_cut (d : List UInt8) (i e : Nat) (h : ((d.take i).drop 1).all goodB = false) (hi : i ≤ e) : ((d.take e).drop 1).all goodB = false := by
  obtain ⟨x, hx, hg⟩ := List.all_eq_false.1 h
  refine List.all_eq_false.2 ⟨x, ?_, hg⟩
  rw [List.drop_take] at hx ⊢
  exact (List.take_sublist_take_left (by omega)).mem hx
theorem box_adr (w : World) (N L D : ByteArray) : (w.alloc (.cells #[.string N, .string L, .string D] 34)).cell? ⟨w.heap.size, 0, none⟩ = some (.string N) ∧ (w.alloc (.cells #[.string N, .string L, .string D] 34)).cell? ⟨w.heap.size, 1, none⟩ = some (.string L) ∧ (w.alloc (.cells #[.string N, .string L, .string D] 34)).cell? ⟨w.heap.size, 2, none⟩ = some (.string D) := by
  have h := fun j => World.cell?_alloc_mark w #[.string N, .string L, .string D] 34 (0, 0) j
  exact ⟨h 0, h 1, h 2⟩
set_option maxRecDepth 1000000 in
set_option maxHeartbeats 4000000 in
theorem rright_str (N L D : ByteArray) (hN : N.size ≤ 300) (hL : L.size ≤ 300) (hD : D.size ≤ 300) (w : World) :
    Calls Tryd.prog 19 #[.agg #[.string N, .string L, .string D]] w fun e w' => e = .returned (.bool (rightB ⟨N.data.toList, L.data.toList, D.data.toList⟩)) ∧ Below w.heap.size w w' := by
  obtain ⟨R, hR⟩ : ∃ R, rightB ⟨N.data.toList, L.data.toList, D.data.toList⟩ = R := ⟨_, rfl⟩
  rw [hR]
  have HB := Lib.hid (below_box w (.cells #[.string N, .string L, .string D] 34))
  have HHD := Lib.hid (fun h => (right_head ⟨N.data.toList, L.data.toList, D.data.toList⟩ h).symm.trans hR)
  dsimp only at HHD
  rw [← size_list, ← size_list, ← size_list] at HHD
  by_cases h0 : L.size = 0
  · obtain rfl := HHD.out (.inl h0)
    have q2 : (L.toList == []) = true := by
      rw [beq_iff_eq, ByteArray.toList_eq]
      exact List.eq_nil_of_length_eq_zero ((size_list L).symm.trans h0)
    clear HHD hR h0 hL
    go_enter Tryd.func19, Tryd.ntmps19
    go_wp2_with fail
    go_ret
    exact ⟨rfl, HB.out⟩
  · have q0 : (L.toList == []) = false := by
      rw [beq_eq_false_iff_ne, ByteArray.toList_eq]
      intro e
      rw [size_list, e] at h0
      exact h0 rfl
    have q0' : L.toList.isEmpty = false := by rw [← q0]; cases L.toList <;> rfl
    have q0'' : ¬ L.toList = [] := by rw [beq_eq_false_iff_ne] at q0; exact q0
    by_cases h1 : L.size ≤ 64
    · have q1 : ¬ (64 : Int) < (L.size : Int) := by omega
      by_cases h2 : D.size ≤ 255
      · have q2 : ¬ (255 : Int) < (D.size : Int) := by omega
        by_cases h3 : N.size ≤ 200
        · have q3 : ¬ (200 : Int) < (N.size : Int) := by omega
          have hm := (right_mid ⟨N.data.toList, L.data.toList, D.data.toList⟩ (by rw [← size_list]; omega) (by rw [← size_list]; omega) (by rw [← size_list]; omega) (by rw [← size_list]; omega)).symm.trans hR
          dsimp only at hm
          rw [← list_append] at hm
          have HM := Lib.hid hm
          have zA : (L ++ N).size = L.size + N.size := ByteArray.size_append
          clear HHD hR hm h0
          go_enter Tryd.func19, Tryd.ntmps19
          go_wp2_with fail
          go_loopw [4] (fun i wr => ∃ k : Nat, k ≤ (L ++ N).size ∧ i = .int .i64 k ∧ wr = w.alloc (.cells #[.string N, .string L, .string D] 34) ∧ Hid (shown ((L ++ N).data.toList.take k) = true)) (fun i _ => (L ++ N).size - (intOf i).toNat)
          case atStart => exact ⟨0, Nat.zero_le _, rfl, rfl, rfl⟩
          case round =>
            obtain ⟨k, hk, rfl, rfl, HS⟩ := hrel
            have F1 : IntKind.i64.wrap ((k : Int) + 1) = (k : Int) + 1 := by rw [IntKind.wrap_i64]; omega
            by_cases hlt : k < (L ++ N).size
            · have hlt' : (k : Int) < ((L ++ N).size : Int) := by omega
              obtain ⟨c, x, hc, hx, hx2, S1⟩ := run_byte (L ++ N) k hlt
              have e127 := byte_is c x hx 127 (by decide)
              rw [show ((127 : Nat) : Int) = 127 from rfl] at e127
              have hst : shown ((L ++ N).data.toList.take (k + 1)) = (decide (32 ≤ c.toNat) && c != 127) := by
                rw [List.take_add_one, hc, shown_app, HS.out]
                simp [shown]
              have hbad : (decide (32 ≤ c.toNat) && c != 127) = false → false = R := fun h => by
                rw [h] at hst
                have h2 := HM.out
                rw [← List.take_append_drop (k + 1) (L ++ N).data.toList, shown_app, hst, Bool.false_and, Bool.false_and] at h2
                exact h2
              by_cases h32 : x < 32
              · have h32' : (x : Int) < 32 := by omega
                obtain rfl := hbad (by rw [decide_eq_false (by omega : ¬ 32 ≤ c.toNat)]; rfl)
                clear hc hx hx2 e127 hst hbad HS HM
                go_wp2_with fail
                go_ret
                exact ⟨rfl, HB.out⟩
              · have h32' : ¬ (x : Int) < 32 := by omega
                by_cases h127 : c = 127
                · rw [show decide (c = UInt8.ofNat 127) = true from decide_eq_true h127] at e127
                  obtain rfl := hbad (by rw [h127]; decide)
                  clear hc hx hx2 hst hbad HS HM
                  go_wp2_with fail
                  go_ret
                  exact ⟨rfl, HB.out⟩
                · rw [show decide (c = UInt8.ofNat 127) = false from decide_eq_false h127] at e127
                  have HS2 := Lib.hid (show shown ((L ++ N).data.toList.take (k + 1)) = true by
                    rw [hst, decide_eq_true (by omega : 32 ≤ c.toNat), Bool.true_and]
                    exact bne_iff_ne.2 h127)
                  clear hc hx hx2 hst hbad HS h127 h32
                  go_wp2_with fail
                  go_roundw
                  case rel => exact ⟨k + 1, by omega, by go_num, trivial, HS2⟩
                  case measure => simp [intOf]; omega
            · obtain rfl : k = (L ++ N).size := by omega
              have hlt' : ¬ ((L ++ N).size : Int) < ((L ++ N).size : Int) := by omega
              have hs := HS.out
              rw [List.take_of_length_le (by rw [← size_list]; exact Nat.le_refl _)] at hs
              have HMD := Lib.hid (show domB D.data.toList = R by rw [← HM.out, hs, Bool.true_and])
              clear hs HS HM hk F1
              have cD := fun W => dotted_any D (by omega) W
              by_cases hd2 : D.size < 2
              · have hd2' : (D.size : Int) < 2 := by omega
                rw [← dom_plain D.data.toList (.inl (by rw [← size_list]; exact hd2)), HMD.out] at cD
                go_wp2_with (go_at_call 37; (with_reducible refine (cD _).mono ?_); rintro e w2 ⟨rfl, rfl⟩)
                go_ret
                exact ⟨rfl, HB.out⟩
              · have hd2' : ¬ (D.size : Int) < 2 := by omega
                obtain ⟨e, he⟩ : ∃ e, D.size = e + 1 := ⟨D.size - 1, by omega⟩
                have Fm : IntKind.i64.wrap ((D.size : Int) - 1) = (e : Int) := by rw [IntKind.wrap_i64]; omega
                have Fm' : (D.size : Int) - 1 = (e : Int) := by omega
                obtain ⟨c0, x0, t0, hc0, hx0, hx02, S0⟩ := run_byte0 D (by omega)
                obtain ⟨c9, x9, hc9, hx9, hx92, S9⟩ := run_byte D e (by omega)
                have e91 := byte_is c0 x0 hx0 91 (by decide)
                rw [show ((91 : Nat) : Int) = 91 from rfl] at e91
                have e93 := byte_is c9 x9 hx9 93 (by decide)
                rw [show ((93 : Nat) : Int) = 93 from rfl] at e93
                have hle : D.data.toList.length - 1 = e := by rw [← size_list]; omega
                have hat0 : D.data.toList[0]? = some c0 := by rw [hc0]; rfl
                by_cases h91 : c0 = 91
                · rw [show decide (c0 = UInt8.ofNat 91) = true from decide_eq_true h91] at e91
                  have n91 : ((x0 : Int) != 91) = false := by rw [bne, e91]; rfl
                  by_cases h93 : c9 = 93
                  · rw [show decide (c9 = UInt8.ofNat 93) = true from decide_eq_true h93] at e93
                    have n93 : ((x9 : Int) != 93) = false := by rw [bne, e93]; rfl
                    have hdb := dom_brack D.data.toList (by rw [← size_list]; omega) (by rw [hat0, h91]) (by rw [hle, hc9, h93])
                    rw [hle] at hdb
                    have HR := Lib.hid (hdb.symm.trans HMD.out)
                    clear hdb hc0 hx0 hx02 hc9 hx9 hx92 h91 h93 hat0 hle HMD cD
                    go_wp2_with fail
                    go_loopw [7] (fun i wr => ∃ k : Nat, 1 ≤ k ∧ k ≤ e ∧ i = .int .i64 k ∧ wr = w.alloc (.cells #[.string N, .string L, .string D] 34) ∧ Hid (((D.data.toList.take k).drop 1).all goodB = true)) (fun i _ => e - (intOf i).toNat)
                    case atStart => exact ⟨1, Nat.le_refl _, by omega, rfl, rfl, by
                      show _ = _
                      have : (D.data.toList.take 1).drop 1 = [] := by rw [List.drop_eq_nil_iff, List.length_take]; omega
                      rw [this]; rfl⟩
                    case round =>
                      obtain ⟨k, hk1, hk, rfl, rfl, HG⟩ := hrel
                      have F1 : IntKind.i64.wrap ((k : Int) + 1) = (k : Int) + 1 := by rw [IntKind.wrap_i64]; omega
                      by_cases hlk : k < e
                      · have hlk' : (k : Int) < (e : Int) := by omega
                        obtain ⟨c, x, hc, hx, hx2, S1⟩ := run_byte D k (by omega)
                        have f127 := byte_is c x hx 127 (by decide)
                        rw [show ((127 : Nat) : Int) = 127 from rfl] at f127
                        have f91 := byte_is c x hx 91 (by decide)
                        rw [show ((91 : Nat) : Int) = 91 from rfl] at f91
                        have f93 := byte_is c x hx 93 (by decide)
                        rw [show ((93 : Nat) : Int) = 93 from rfl] at f93
                        have f92 := byte_is c x hx 92 (by decide)
                        rw [show ((92 : Nat) : Int) = 92 from rfl] at f92
                        have hst := take_good D.data.toList k c hk1 hc
                        rw [HG.out, Bool.true_and] at hst
                        have hbad : goodB c = false → false = R := fun h => by
                          rw [h] at hst
                          rw [← HR.out]
                          exact (all_cut _ _ _ hst (by omega)).symm
                        by_cases h32 : x ≤ 32
                        · have h32' : (x : Int) ≤ 32 := by omega
                          obtain rfl := hbad (by unfold goodB; rw [decide_eq_false (by omega : ¬ 32 < c.toNat)]; rfl)
                          clear hc hx hx2 hst hbad HG HR f127 f91 f93 f92
                          go_wp2_with fail
                          go_ret
                          exact ⟨rfl, HB.out⟩
                        · have h32' : ¬ (x : Int) ≤ 32 := by omega
                          by_cases g127 : c = 127
                          · rw [show decide (c = UInt8.ofNat 127) = true from decide_eq_true g127] at f127
                            obtain rfl := hbad (by rw [g127]; decide)
                            clear hc hx hx2 hst hbad HG HR f91 f93 f92
                            go_wp2_with fail
                            go_ret
                            exact ⟨rfl, HB.out⟩
                          rw [show decide (c = UInt8.ofNat 127) = false from decide_eq_false g127] at f127
                          by_cases g91 : c = 91
                          · rw [show decide (c = UInt8.ofNat 91) = true from decide_eq_true g91] at f91
                            obtain rfl := hbad (by rw [g91]; decide)
                            clear hc hx hx2 hst hbad HG HR f93 f92
                            go_wp2_with fail
                            go_ret
                            exact ⟨rfl, HB.out⟩
                          rw [show decide (c = UInt8.ofNat 91) = false from decide_eq_false g91] at f91
                          by_cases g93 : c = 93
                          · rw [show decide (c = UInt8.ofNat 93) = true from decide_eq_true g93] at f93
                            obtain rfl := hbad (by rw [g93]; decide)
                            clear hc hx hx2 hst hbad HG HR f92
                            go_wp2_with fail
                            go_ret
                            exact ⟨rfl, HB.out⟩
                          rw [show decide (c = UInt8.ofNat 93) = false from decide_eq_false g93] at f93
                          by_cases g92 : c = 92
                          · rw [show decide (c = UInt8.ofNat 92) = true from decide_eq_true g92] at f92
                            obtain rfl := hbad (by rw [g92]; decide)
                            clear hc hx hx2 hst hbad HG HR 
                            go_wp2_with fail
                            go_ret
                            exact ⟨rfl, HB.out⟩
                          rw [show decide (c = UInt8.ofNat 92) = false from decide_eq_false g92] at f92
                          have HG2 := Lib.hid (show ((D.data.toList.take (k + 1)).drop 1).all goodB = true by
                            rw [hst]
                            unfold goodB
                            rw [decide_eq_true (by omega : 32 < c.toNat), bne_iff_ne.2 g127, bne_iff_ne.2 g91, bne_iff_ne.2 g93, bne_iff_ne.2 g92]; rfl)
                          clear hc hx hx2 hst hbad HG HR g127 g91 g93 g92 h32
                          go_wp2_with fail
                          go_roundw
                          case rel => exact ⟨k + 1, by omega, by omega, by go_num, trivial, HG2⟩
                          case measure => simp [intOf]; omega
                      · obtain rfl : k = e := by omega
                        have hlk' : ¬ (k : Int) < (k : Int) := by omega
                        obtain rfl : true = R := HG.out.symm.trans HR.out
                        clear HG HR
                        go_wp2_with fail
                        go_ret
                        exact ⟨rfl, HB.out⟩
                  · rw [show decide (c9 = UInt8.ofNat 93) = false from decide_eq_false h93] at e93
                    have n93 : ((x9 : Int) != 93) = true := by rw [bne, e93]; rfl
                    rw [← dom_plain D.data.toList (.inr (.inr (by rw [hle, hc9]; intro h; exact h93 (Option.some.inj h)))), HMD.out] at cD
                    clear hc0 hx0 hx02 hc9 hx9 hx92 h91 h93 hat0 hle HMD
                    go_wp2_with (go_at_call 37; (with_reducible refine (cD _).mono ?_); rintro e w2 ⟨rfl, rfl⟩)
                    go_ret
                    exact ⟨rfl, HB.out⟩
                · rw [show decide (c0 = UInt8.ofNat 91) = false from decide_eq_false h91] at e91
                  have n91 : ((x0 : Int) != 91) = true := by rw [bne, e91]; rfl
                  rw [← dom_plain D.data.toList (.inr (.inl (by rw [hat0]; intro h; exact h91 (Option.some.inj h)))), HMD.out] at cD
                  clear hc0 hx0 hx02 hc9 hx9 hx92 h91 hat0 hle HMD e93
                  go_wp2_with (go_at_call 37; (with_reducible refine (cD _).mono ?_); rintro e w2 ⟨rfl, rfl⟩)
                  go_ret
                  exact ⟨rfl, HB.out⟩
        · obtain rfl := HHD.out (.inr (.inr (.inr (by omega))))
          have q3 : (200 : Int) < (N.size : Int) := by omega
          clear HHD hR h0
          go_enter Tryd.func19, Tryd.ntmps19
          go_wp2_with fail
          go_ret
          exact ⟨rfl, HB.out⟩
      · obtain rfl := HHD.out (.inr (.inr (.inl (by omega))))
        have q2 : (255 : Int) < (D.size : Int) := by omega
        clear HHD hR h0
        go_enter Tryd.func19, Tryd.ntmps19
        go_wp2_with fail
        go_ret
        exact ⟨rfl, HB.out⟩
    · obtain rfl := HHD.out (.inr (.inl (by omega)))
      have q1 : (64 : Int) < (L.size : Int) := by omega
      clear HHD hR h0
      go_enter Tryd.func19, Tryd.ntmps19
      go_wp2_with fail
      go_ret
      exact ⟨rfl, HB.out⟩
theorem rright_ok : RRightOk := fun a h W => by
  unfold smallA at h
  simp only [Bool.and_eq_true, decide_eq_true_eq] at h
  have := rright_str (strL a.name) (strL a.loc) (strL a.dom) (by rw [strL_size]; exact h.1.1) (by rw [strL_size]; exact h.1.2) (by rw [strL_size]; exact h.2) W
  rw [strL_list, strL_list, strL_list] at this
  exact this
end Go.Proofs.YtgponokcigapaaaDoor
