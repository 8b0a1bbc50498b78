/- base64, written. -/
import Derived.Test.YtblbajhjmdcdiaaDoorGroup
import Derived.Laws.AppendOwn
namespace Go.Proofs.YtblbajhjmdcdiaaDoor
open Go.ChangeShapes Go.WideShapes Go.ChangeAt Go.RowKit

theorem group_any (s : ByteArray) (h1 : s.data.toList ≠ []) (h3 : s.size ≤ 3) (w : World) :
    Calls Tryd.prog 24 #[.string s] w fun e w' => e = .returned (.agg (cellsOf (quad s.data.toList)).toArray) ∧ Below w.heap.size w w' := by
  have hsz := size_list s
  match hs : s.data.toList with
  | [] => exact absurd hs h1
  | [x] =>
    rw [hs] at hsz
    have h := group_core s 1 hsz (Nat.le_refl _) (by decide) x 0 0 (by rw [hs]; rfl) w
    exact h
  | [x, y] =>
    rw [hs] at hsz
    exact group_core s 2 hsz (by decide) (by decide) x y 0 (by rw [hs]; rfl) w
  | [x, y, z] =>
    rw [hs] at hsz
    exact group_core s 3 hsz (by decide) (by decide) x y z (by rw [hs]; rfl) w
  | x :: y :: z :: v :: r => rw [hs] at hsz; simp only [List.length_cons] at hsz; omega

/-! ### Write -/
theorem check_any (b g : Nat) (l : List UInt8) (w : World) (h : Bd w b l) (hne : g ≠ b) :
    Calls Tryd.prog 41 #[.pointer (some ⟨b, 0, none⟩)] w fun e w' => e = .returned (.tuple #[]) ∧ Lib.BuilderAt 31 5 b b (.pointer (some ⟨b, 0, none⟩)) (Lib.byteCells l) w' ∧ Below b w w' ∧ w'.heap[g]? = w.heap[g]? := by
  rcases h with h | h
  · refine (Tryd.Builder_copyCheck_fresh b w h.cell0 h.shape h.frozen0).mono ?_
    rintro e w' ⟨rfl, rfl⟩
    exact ⟨rfl, h.used _, (Below.refl b w).setCell (p := ⟨b, 0, none⟩) h.1 _, Below.heap_setCell w ⟨b, 0, none⟩ _ g hne⟩
  · refine (Tryd.Builder_copyCheck_used b w h.cell0).mono ?_
    rintro e w' ⟨rfl, rfl⟩
    exact ⟨rfl, h, Below.refl _ _, rfl⟩

set_option maxHeartbeats 2000000 in
set_option maxRecDepth 100000 in
theorem bd_write (b : Nat) (l : List UInt8) (g m c : Nat) (news : List UInt8) (t : TypeId) (w : World) (h : Bd w b l) (hg : w.heap[g]? = some (.cells (cellsOf news).toArray t (0, 0))) (hne : g ≠ b) (hm : news.length = m)
    (hlen : l.length + m ≤ 140737488355328) :
    Calls Tryd.prog 25 #[.pointer (some ⟨b, 0, none⟩), .slice (some ⟨g, 0, none⟩) m c] w fun e w' => e = .returned (.tuple #[.int .i64 m, .nilIface]) ∧ Bd w' b (l ++ news) ∧ Below b w w' := by
  obtain ⟨i0, hi, hz0, hz1, hz2⟩ := info_parts info5
  have hlt := h.lt
  go_enter Tryd.func25, Tryd.ntmps25
  go_wp2_with (go_at_call 41; refine (check_any b g l w h hne).mono ?_)
  rintro e w1 ⟨rfl, h1', hb1, hg1⟩
  obtain ⟨hB, v, hbk, hown, hnb⟩ := h1'
  have c0 : w1.cell? ⟨b, 0, none⟩ = some (.pointer (some ⟨b, 0, none⟩)) := by rw [Lib.cell_of_heap hbk]; rfl
  have c1 : w1.cell? ⟨b, 1, none⟩ = some v := by rw [Lib.cell_of_heap hbk]; rfl
  have hg1' : w1.heap[g]? = some (.cells (cellsOf news).toArray t (0, 0)) := hg1.trans hg
  have hnews : ∀ j u, (cellsOf news)[j]? = some u → w1.cell? ((⟨g, 0, none⟩ : Addr).add j) = some u := fun j u hj => by
    have e : (⟨g, 0, none⟩ : Addr).add j = ⟨g, j, none⟩ := by unfold Addr.add; split <;> simp_all
    rw [e, Lib.cell_of_heap hg1', List.getElem?_toArray]; exact hj
  have hcl : (cellsOf news).length = m := by unfold cellsOf; rw [List.length_map, hm]
  have hbl : (Lib.byteCells l).length = l.length := Lib.byteCells_length l
  rw [hbl] at hown
  go_wp2_with (at_builtin; refine wpList_append_own _ rfl _ _ 25 rfl b 5 i0 (.int .u8 0) 1 1 Tryd.underlying25 hi hz0 hz1 hz2 rfl (by decide) _ _ _ rfl hown ⟨g, 0, none⟩ m c (cellsOf news) rfl (by omega) hnews (cellsOf_one _) ?c3 ?c4 ?c5 ?_)
  case c3 => unfold maxLen; omega
  case c4 => omega
  case c5 => have := hb1.size; omega
  intro v' w2 hown' hgrow _
  have hlt1 : b < w1.heap.size := (Array.getElem?_eq_some_iff.1 hbk).1
  have hb2 : w2.heap[b]? = some (.cells #[.pointer (some ⟨b, 0, none⟩), v] 31 (0, 0)) := by
    rw [hgrow.block b hlt1 (fun e => hnb e.symm)]
    exact hbk
  have d0 : w2.cell? ⟨b, 0, none⟩ = some (.pointer (some ⟨b, 0, none⟩)) := by rw [Lib.cell_of_heap hb2]; rfl
  have d1 : w2.cell? ⟨b, 1, none⟩ = some v := by rw [Lib.cell_of_heap hb2]; rfl
  have f1 : w2.frozen? ⟨b, 1, none⟩ = false := Lib.frozen_of_heap hb2 1
  obtain ⟨ao, n', cap, rfl⟩ : ∃ ao n' cap, v' = .slice ao n' cap := by
    rcases hown'.2 with ⟨hv, _⟩ | ⟨g, cap, cur, hv, _⟩
    · exact ⟨_, _, _, hv⟩
    · exact ⟨_, _, _, hv⟩
  go_wp2
  go_ret2
  refine ⟨rfl, .inr ?_, ?_⟩
  · have hh := Lib.BuilderAt.put (T := 31) (e := 5) hB hb2 (bs' := Lib.byteCells l ++ cellsOf news) (by rw [List.length_append, hbl, hcl]; exact hown') (by decide)
    rw [show Lib.byteCells l ++ cellsOf news = Lib.byteCells (l ++ news) from (Lib.byteCells_append l news).symm] at hh
    exact hh
  · exact (hb1.grown hgrow (by have := hb1.size; omega) (fun k hk => (hown.lt k hk).1)).setCell (p := ⟨b, 1, none⟩) hB _
end Go.Proofs.YtblbajhjmdcdiaaDoor
