/- AddrIds, from what addr.Ids answers. -/
import Derived.Test.YtgponokcigapaaaDoorK8
namespace Go.Proofs.YtgponokcigapaaaDoor
open Go.ChangeShapes Go.WideShapes Go.ChangeAt Go.RowKit
open TokP AdrP

theorem has_form {w : World} {v : Value} {xs : List (List UInt8)} (h : Has strV w v xs) : ∃ a c, v = .slice a xs.length c := by
  rcases h with ⟨rfl, rfl⟩ | ⟨a, c, rfl, _⟩
  · exact ⟨none, 0, rfl⟩
  · exact ⟨some a, c, rfl⟩
theorem has_at {w : World} {a : Option Addr} {n c : Nat} {xs : List (List UInt8)} (h : Has strV w (.slice a n c) xs) (hn : 0 < xs.length) : ∃ g, a = some g ∧ ∀ (k : Nat) (y : List UInt8), xs[k]? = some y → w.cell? (g.add k) = some (.string (strL y)) := by
  rcases h with ⟨_, rfl⟩ | ⟨g, d, e, h2⟩
  · exact absurd hn (by simp)
  · obtain ⟨rfl, _⟩ : a = some g ∧ True := ⟨by injection e, trivial⟩
    refine ⟨g, rfl, fun k y hk => ?_⟩
    obtain ⟨hlt, rfl⟩ := List.getElem?_eq_some_iff.1 hk
    exact h2 k hlt
theorem idText_app : ∀ (l : List (List UInt8 × List UInt8)) (z : List UInt8), idText l z = idText l [] ++ z
  | [], z => rfl
  | (b, i) :: r, z => by
    rw [idText, idText, idText_app r z]
    simp
theorem idText_snoc : ∀ (l : List (List UInt8 × List UInt8)) (b i z : List UInt8), idText (l ++ [(b, i)]) z = idText l (b ++ (60 :: (i ++ (62 :: z))))
  | [], b, i, z => rfl
  | (b', i') :: r, b, i, z => by
    rw [List.cons_append, idText, idText, idText_snoc r b i z]
set_option maxRecDepth 1000000 in
set_option maxHeartbeats 4000000 in
theorem idsl_any (cSm : SmallOk) (cId : IdsOk) (u v : Value) (is bs : List (List UInt8)) (w : World) (hu : Has strV w u is) (hv : Has strV w v bs) (hi : is.length ≤ 9223372036854775807) (hbl : bs.length ≤ 9223372036854775807) :
    Calls Tryd.prog 8 #[u, v] w fun e w' => e = .returned (.bool true) ∧ Below w.heap.size w w' := by
  have cS := cSm w
  clear cSm
  obtain ⟨au, cu, rfl⟩ := has_form hu
  obtain ⟨av, cv, rfl⟩ := has_form hv
  obtain ⟨m, hm⟩ : ∃ m, is.length = m := ⟨_, rfl⟩
  obtain ⟨n, hn⟩ : ∃ n, bs.length = n := ⟨_, rfl⟩
  have HUV := Lib.hid (And.intro hu hv)
  clear hu hv
  have HN := Lib.hid (And.intro hm hn)
  rw [hm, hn] at HUV ⊢
  rw [hm] at hi
  rw [hn] at hbl
  clear hm hn
  by_cases h20 : m ≤ 20
  · have h20' : ¬ (20 : Int) < (m : Int) := by omega
    have F0 : IntKind.i64.wrap ((m : Int) + 1) = (m : Int) + 1 := by rw [IntKind.wrap_i64]; omega
    by_cases hnm : n = m + 1
    · obtain rfl := hnm
      have HCI := Lib.hid cId
      clear cId
      go_enter Tryd.func8, Tryd.ntmps8
      go_wp2_with (go_at_call 10; (with_reducible refine cS.mono ?_); rintro e w1 ⟨rfl, hb1⟩; clear cS; replace HUV : Hid (Has strV w1 (.slice au m cu) is ∧ Has strV w1 (.slice av (m + 1) cv) bs) := Lib.hid ⟨HUV.out.1.below' hb1, HUV.out.2.below' hb1⟩; have HB := Lib.hid hb1; clear hb1)
      go_loopw [6, 7] (fun s i wr => ∃ (k : Nat) (S : ByteArray), k ≤ m + 1 ∧ s = .string S ∧ i = .int .i64 k ∧ wr = w1 ∧ S.size ≤ 600 * k ∧ Hid ((k ≤ m ∧ ∃ X : List (List UInt8 × List UInt8), X.map Prod.snd = is.take k ∧ (∀ x ∈ X, 60 ∉ x.1 ∧ idOk x.2) ∧ S.data.toList = idText X []) ∨ (k = m + 1 ∧ idsL S.data.toList = is))) (fun _ i _ => m + 1 - (intOf i).toNat)
      case atStart => exact ⟨0, _, Nat.zero_le _, rfl, rfl, rfl, Nat.le_refl _, .inl ⟨Nat.zero_le _, [], rfl, fun x hx => by simp at hx, rfl⟩⟩
      case round =>
        obtain ⟨k, S, hk, rfl, rfl, rfl, hSz, HX⟩ := hrel
        have F1 : IntKind.i64.wrap ((k : Int) + 1) = (k : Int) + 1 := by rw [IntKind.wrap_i64]; omega
        by_cases hlt : k < m + 1
        · have hlt' : (k : Int) < (m : Int) + 1 := by omega
          obtain ⟨gv, rfl, hcv⟩ := has_at HUV.out.2 (by rw [HN.out.2]; omega)
          obtain ⟨y, hy⟩ : ∃ y, bs[k]? = some y := ⟨_, List.getElem?_eq_getElem (by rw [HN.out.2]; exact hlt)⟩
          have ky := hcv k y hy
          have HY := Lib.hid (strL_list y)
          generalize strL y = B at ky HY
          clear hcv hy
          by_cases h300 : B.size ≤ 300
          · have h300' : ¬ (300 : Int) < (B.size : Int) := by omega
            go_wp2_with fail
            go_loopw [8] (fun j wq => ∃ q : Nat, q ≤ B.size ∧ j = .int .i64 q ∧ wq = wr ∧ Hid (60 ∉ B.data.toList.take q)) (fun j _ => B.size - (intOf j).toNat)
            case atStart => exact ⟨0, Nat.zero_le _, rfl, rfl, fun h => by simp at h⟩
            case round =>
              obtain ⟨q, hq, rfl, rfl, HQ⟩ := hrel
              have F2 : IntKind.i64.wrap ((q : Int) + 1) = (q : Int) + 1 := by rw [IntKind.wrap_i64]; omega
              by_cases hql : q < B.size
              · have hql' : (q : Int) < (B.size : Int) := by omega
                obtain ⟨c, x, hc, hx, hx2, S1⟩ := run_byte B q hql
                have e60 := byte_is c x hx 60 (by decide)
                rw [show ((60 : Nat) : Int) = 60 from rfl] at e60
                by_cases h60 : c = 60
                · rw [show decide (c = UInt8.ofNat 60) = true from decide_eq_true h60] at e60
                  clear hc hx hx2
                  go_wp2_with fail
                  go_ret
                  exact ⟨rfl, HB.out⟩
                · rw [show decide (c = UInt8.ofNat 60) = false from decide_eq_false h60] at e60
                  have HQ2 := Lib.hid (show 60 ∉ B.data.toList.take (q + 1) by
                    rw [List.take_add_one, hc]
                    intro h
                    rcases List.mem_append.1 h with h | h
                    · exact HQ.out h
                    · exact h60 ((by simpa using h : (60 : UInt8) = c).symm))
                  clear hc hx hx2 h60 HQ
                  go_wp2_with fail
                  go_roundw
                  case rel => exact ⟨q + 1, by omega, by go_num, trivial, HQ2⟩
                  case measure => simp [intOf]; omega
              · obtain rfl : q = B.size := by omega
                have hql' : ¬ (B.size : Int) < (B.size : Int) := by omega
                have HQ2 := Lib.hid (show 60 ∉ B.data.toList by
                  have := HQ.out
                  rw [List.take_of_length_le (by rw [← size_list]; exact Nat.le_refl _)] at this
                  exact this)
                clear HQ F2
                have z1 : (S ++ B).size = S.size + B.size := ByteArray.size_append
                by_cases hkm : k = m
                · skip
                  have HZ := Lib.hid (show idsL (S ++ B).data.toList = is by
                    rcases HX.out with ⟨_, X, h1, h2, h3⟩ | ⟨h1, _⟩
                    · rw [list_append, h3, ← idText_app, ids_text X _ h2 HQ2.out, h1, hkm]
                      exact List.take_of_length_le (by rw [HN.out.1]; exact Nat.le_refl _)
                    · omega)
                  clear HX HQ2
                  subst hkm
                  go_wp2_with fail
                  go_roundw
                  case rel => exact ⟨k + 1, _, by omega, rfl, by go_num, trivial, by omega, .inr ⟨by omega, HZ.out⟩⟩
                  case measure => simp [intOf]
                · have hkm' : ((k : Int) == (m : Int)) = false := beq_eq_false_iff_ne.2 (by omega)
                  have hltm : (k : Int) < (m : Int) := by omega
                  obtain ⟨gu, rfl, hcu⟩ := has_at HUV.out.1 (by rw [HN.out.1]; omega)
                  obtain ⟨x, hx⟩ : ∃ x, is[k]? = some x := ⟨_, List.getElem?_eq_getElem (by rw [HN.out.1]; omega)⟩
                  have kx := hcu k x hx
                  have HXL := Lib.hid (And.intro (strL_list x) hx)
                  generalize strL x = I at kx HXL
                  clear hcu hx
                  by_cases hi1 : 1 ≤ I.size
                  · have hi1' : ¬ (I.size : Int) < 1 := by omega
                    by_cases hi2 : I.size ≤ 250
                    · have hi2' : ¬ (250 : Int) < (I.size : Int) := by omega
                      go_wp2_with fail
                      go_loopw [9] (fun j wz => ∃ q : Nat, q ≤ I.size ∧ j = .int .i64 q ∧ wz = wr ∧ Hid (∀ c ∈ I.data.toList.take q, 32 < c.toNat ∧ c ≠ 127 ∧ c ≠ 60 ∧ c ≠ 62)) (fun j _ => I.size - (intOf j).toNat)
                      case atStart => exact ⟨0, Nat.zero_le _, rfl, rfl, fun c hc => by simp at hc⟩
                      case round =>
                        obtain ⟨q, hq, rfl, rfl, HQ⟩ := hrel
                        have F2 : IntKind.i64.wrap ((q : Int) + 1) = (q : Int) + 1 := by rw [IntKind.wrap_i64]; omega
                        by_cases hql : q < I.size
                        · have hql' : (q : Int) < (I.size : Int) := by omega
                          obtain ⟨c, x, hc, hx, hx2, S1⟩ := run_byte I q hql
                          have e60 := byte_is c x hx 60 (by decide)
                          have e62 := byte_is c x hx 62 (by decide)
                          have e127 := byte_is c x hx 127 (by decide)
                          rw [show ((60 : Nat) : Int) = 60 from rfl] at e60
                          rw [show ((62 : Nat) : Int) = 62 from rfl] at e62
                          rw [show ((127 : Nat) : Int) = 127 from rfl] at e127
                          by_cases h32 : x ≤ 32
                          · have h32' : (x : Int) ≤ 32 := by omega
                            clear hc hx hx2 e60 e62 e127
                            go_wp2_with fail
                            go_ret
                            exact ⟨rfl, HB.out⟩
                          · have h32' : ¬ (x : Int) ≤ 32 := by omega
                            by_cases h127 : c = 127
                            · rw [show decide (c = UInt8.ofNat 127) = true from decide_eq_true h127] at e127
                              clear hc hx hx2 e60 e62
                              go_wp2_with fail
                              go_ret
                              exact ⟨rfl, HB.out⟩
                            · rw [show decide (c = UInt8.ofNat 127) = false from decide_eq_false h127] at e127
                              by_cases h60 : c = 60
                              · rw [show decide (c = UInt8.ofNat 60) = true from decide_eq_true h60] at e60
                                clear hc hx hx2 e62
                                go_wp2_with fail
                                go_ret
                                exact ⟨rfl, HB.out⟩
                              · rw [show decide (c = UInt8.ofNat 60) = false from decide_eq_false h60] at e60
                                by_cases h62 : c = 62
                                · rw [show decide (c = UInt8.ofNat 62) = true from decide_eq_true h62] at e62
                                  clear hc hx hx2
                                  go_wp2_with fail
                                  go_ret
                                  exact ⟨rfl, HB.out⟩
                                · rw [show decide (c = UInt8.ofNat 62) = false from decide_eq_false h62] at e62
                                  have HQ3 := Lib.hid (show ∀ c ∈ I.data.toList.take (q + 1), 32 < c.toNat ∧ c ≠ 127 ∧ c ≠ 60 ∧ c ≠ 62 by
                                    rw [List.take_add_one, hc]
                                    intro d h
                                    rcases List.mem_append.1 h with h | h
                                    · exact HQ.out d h
                                    · obtain rfl : d = c := by simpa [eq_comm] using h
                                      exact ⟨by omega, h127, h60, h62⟩)
                                  clear hc hx hx2 h60 h62 h127 HQ h32
                                  go_wp2_with fail
                                  go_roundw
                                  case rel => exact ⟨q + 1, by omega, by go_num, trivial, HQ3⟩
                                  case measure => simp [intOf]; omega
                        · obtain rfl : q = I.size := by omega
                          have hql' : ¬ (I.size : Int) < (I.size : Int) := by omega
                          have hq' := HQ.out
                          rw [List.take_of_length_le (by rw [← size_list]; exact Nat.le_refl _)] at hq'
                          have z2 : ((S ++ B) ++ (⟨#[60]⟩ : ByteArray)).size = S.size + B.size + 1 := by rw [ByteArray.size_append, z1]; rfl
                          have z3 : (((S ++ B) ++ (⟨#[60]⟩ : ByteArray)) ++ I).size = S.size + B.size + 1 + I.size := by rw [ByteArray.size_append, z2]
                          have z4 : ((((S ++ B) ++ (⟨#[60]⟩ : ByteArray)) ++ I) ++ (⟨#[62]⟩ : ByteArray)).size = S.size + B.size + 1 + I.size + 1 := by rw [ByteArray.size_append, z3]; rfl
                          have HZ : Hid ((k + 1 ≤ m ∧ ∃ X : List (List UInt8 × List UInt8), X.map Prod.snd = is.take (k + 1) ∧ (∀ x ∈ X, 60 ∉ x.1 ∧ idOk x.2) ∧ ((((S ++ B) ++ (⟨#[60]⟩ : ByteArray)) ++ I) ++ (⟨#[62]⟩ : ByteArray)).data.toList = idText X []) ∨ (k + 1 = m + 1 ∧ idsL ((((S ++ B) ++ (⟨#[60]⟩ : ByteArray)) ++ I) ++ (⟨#[62]⟩ : ByteArray)).data.toList = is)) := by
                            show _ ∨ _
                            left
                            refine ⟨by omega, ?_⟩
                            rcases HX.out with ⟨_, X, h1, h2, h3⟩ | ⟨h1, _⟩
                            · refine ⟨X ++ [(B.data.toList, I.data.toList)], ?_, ?_, ?_⟩
                              · rw [List.map_append, h1, List.take_add_one, HXL.out.2, HXL.out.1]; rfl
                              · intro p hp
                                rcases List.mem_append.1 hp with hp | hp
                                · exact h2 p hp
                                · obtain rfl : p = (B.data.toList, I.data.toList) := by simpa using hp
                                  exact ⟨HQ2.out, by rw [← size_list]; omega, by rw [← size_list]; omega, hq'⟩
                              · rw [list_append, list_append, list_append, list_append, h3, idText_snoc, idText_app X (_ ++ _)]
                                simp
                            · omega
                          clear HX HQ2 HQ hq' F2
                          go_wp2_with fail
                          go_roundw
                          case rel => exact ⟨k + 1, _, by omega, rfl, by go_num, trivial, by omega, HZ⟩
                          case measure => simp [intOf]; omega
                    · have hi2' : (250 : Int) < (I.size : Int) := by omega
                      go_wp2_with fail
                      go_ret
                      exact ⟨rfl, HB.out⟩
                  · have hi1' : (I.size : Int) < 1 := by omega
                    go_wp2_with fail
                    go_ret
                    exact ⟨rfl, HB.out⟩
          · have h300' : (300 : Int) < (B.size : Int) := by omega
            go_wp2_with fail
            go_ret
            exact ⟨rfl, HB.out⟩
        · obtain rfl : k = m + 1 := by omega
          have hlt' : ¬ (m : Int) + 1 < (m : Int) + 1 := by omega
          have hids : idsL S.data.toList = is := by
            rcases HX.out with ⟨h1, _⟩ | ⟨_, h1⟩
            · omega
            · exact h1
          have cI := fun W => HCI.out S (by omega) W
          rw [hids, HN.out.1] at cI
          have cY := fun W v u (h : Hid (Has strV W v is)) (k' : Hid (Has strV W u is)) => same_any h.out k'.out (by rw [HN.out.1]; omega : is.length ≤ 1000000)
          rw [show decide (is = is) = true from decide_eq_true rfl] at cY
          have HU := Lib.hid HUV.out.1
          clear hids HX
          go_wp2_with (first
            | (go_at_call 15; (with_reducible refine (cI _).mono ?_); rintro e w6 ⟨a3, d3, rfl, ho, hb⟩; clear cI; have HI := Lib.hid ho.has; replace HU := Lib.hid (HU.out.below' hb); replace HB := Lib.hid (Qtrans HB.out hb); clear ho hb)
            | (go_at_call 14; (refine (cY _ _ _ HI HU).mono ?_); rintro e w8 ⟨rfl, hb⟩; replace HB := Lib.hid (Qtrans HB.out hb); clear cY HI HU hb))
          go_ret
          exact ⟨rfl, HB.out⟩
    · have hnm' : ¬ (n : Int) = (m : Int) + 1 := by omega
      have hnm2 : ((n : Int) != (m : Int) + 1) = true := by rw [bne, beq_eq_false_iff_ne.2 hnm']; rfl
      clear cId
      go_enter Tryd.func8, Tryd.ntmps8
      go_wp2_with (go_at_call 10; (with_reducible refine cS.mono ?_); rintro e w1 ⟨rfl, hb1⟩)
      go_ret
      exact ⟨rfl, hb1⟩
  · have h20' : (20 : Int) < (m : Int) := by omega
    clear cId
    go_enter Tryd.func8, Tryd.ntmps8
    go_wp2_with (go_at_call 10; (with_reducible refine cS.mono ?_); rintro e w1 ⟨rfl, hb1⟩)
    go_ret
    exact ⟨rfl, hb1⟩
end Go.Proofs.YtgponokcigapaaaDoor
