/- Pieces of a clean value: the program's and the reference's. -/
import Derived.Test.YtocghngmjipjoaaDoorByte
import Derived.Test.YtocghngmjipjoaaDoorOwn
namespace Go.Proofs.YtocghngmjipjoaaDoor
open Go.ChangeShapes Go.WideShapes Go.ChangeAt Go.RowKit
open LinesP HdrP

/-- Before index k: the pieces done, and where the one that has begun starts. -/
def CutP (S : List UInt8) (k a : Nat) (out : List (List UInt8)) : Prop := (S = [] ∧ k = 1 ∧ a = 0 ∧ out = []) ∨ HdrP.Cut S k a out
theorem CutP.start (S : List UInt8) : CutP S 1 0 [] := by
  by_cases h : S = []
  · exact .inl ⟨h, rfl, rfl, rfl⟩
  · exact .inr (HdrP.Cut.one (List.length_pos_iff.2 h))
theorem CutP.next {S : List UInt8} {k a : Nat} {out : List (List UInt8)} (h : CutP S k a out) {c p : UInt8} (hc : S[k]? = some c) (hp : S[k - 1]? = some p) :
    if (HdrP.blank c && !HdrP.blank p) = true then CutP S (k + 1) k (out ++ [(S.drop a).take (k - a)]) else CutP S (k + 1) a out := by
  rcases h with ⟨rfl, _⟩ | h
  · simp at hc
  · have := h.next c p hc hp
    split at this <;> rename_i hb
    · rw [if_pos hb]; exact .inr this
    · rw [if_neg hb]; exact .inr this
theorem CutP.done {S : List UInt8} {k a : Nat} {out : List (List UInt8)} (h : CutP S k a out) (hk : S.length ≤ k) : piecesP S = out ++ [S.drop a] := by
  rcases h with ⟨rfl, _, rfl, rfl⟩ | h
  · rfl
  · have hk2 : k = S.length := by have := h.2.1; omega
    subst hk2
    unfold piecesP
    rw [if_neg (by intro e; have := h.1; have := h.2.1; rw [e] at *; simp at *), h.done]
theorem CutP.empty {S : List UInt8} {k a : Nat} {out : List (List UInt8)} (h : CutP S k a out) (hS : S = []) : out = [] := by
  rcases h with ⟨_, _, _, h⟩ | h
  · exact h
  · have := h.1
    have := h.2.1
    rw [hS] at *
    simp at *
    omega

set_option maxRecDepth 100000 in
set_option maxHeartbeats 4000000 in
theorem pieces_any (s : ByteArray) (hs : s.size ≤ 900000) (w : World) :
    Calls Tryd.prog 43 #[.string s] w fun e w' => ∃ a c, e = .returned (.slice a (piecesP s.data.toList).length c) ∧ w'.ownsRow w.heap.size 9 1 (.slice a (piecesP s.data.toList).length c) (piecesP s.data.toList).length ((piecesP s.data.toList).map strV) ∧ Below w.heap.size w w' := by
  obtain ⟨S, hS⟩ : ∃ S, s.data.toList = S := ⟨_, rfl⟩
  have hsz : S.length = s.size := by rw [← hS, ← size_list]
  have HS := Lib.hid hS
  have HZ := Lib.hid hsz
  rw [hS]
  clear hS hsz
  go_enter Tryd.func43, Tryd.ntmps43
  go_wp2_with fail
  go_loopw [3, 4, 5] (fun o st i wr => ∃ (k a m : Nat) (out : List (List UInt8)), i = .int .i64 k ∧ st = .int .i64 a ∧ a < k ∧ a ≤ s.size ∧ k ≤ s.size + 1 ∧ m + 1 ≤ k ∧ out.length = m ∧ Hid (CutP S k a out) ∧ (∃ ad c, o = .slice ad m c) ∧ Hid (wr.ownsRow w.heap.size 9 1 o out.length (out.map strV)) ∧ Hid (Below w.heap.size w wr)) (fun _ _ i _ => s.size + 1 - (intOf i).toNat)
  case atStart => exact ⟨1, 0, 0, [], rfl, rfl, by omega, by omega, by omega, by omega, rfl, Lib.hid (CutP.start S), ⟨none, 0, rfl⟩, ⟨rfl, .inl ⟨rfl, rfl⟩⟩, Below.refl _ _⟩
  case round =>
    obtain ⟨k, a, m, out, rfl, rfl, hak, has, hks, hmk, hm, hcut, ⟨ad, c, rfl⟩, ho, hb⟩ := hrel
    have HM := Lib.hid hm
    clear hm
    have F1 : IntKind.i64.wrap ((k : Int) + 1) = (k : Int) + 1 := by rw [IntKind.wrap_i64]; omega
    by_cases hlt : k < s.size
    · have hlt' : (k : Int) < (s.size : Int) := by omega
      obtain ⟨ch, x, hc, hx, _, RI⟩ := run_byte s k hlt
      obtain ⟨ph, y, hp, hy, _, RJ⟩ := run_byte s (k - 1) (by omega)
      have F2 : IntKind.i64.wrap ((k : Int) - 1) = ((k - 1 : Nat) : Int) := by rw [IntKind.wrap_i64]; omega
      rw [HS.out] at hc hp
      have hn := hcut.out.next hc hp
      have cB := fun w => isBlank_any ch x hx w
      have cP := fun w => isBlank_any ph y hy w
      generalize HdrP.blank ch = b1 at hn cB
      generalize HdrP.blank ph = b2 at hn cP
      clear hx hy hc hp
      cases b1
      · rw [if_neg (by simp)] at hn
        have HN := Lib.hid hn
        clear hn cP RJ F2
        go_wp2_with (go_at_call 46; with_reducible refine (cB _).mono ?_; rintro e w9 ⟨rfl, hw⟩; rw [← hw]; clear hw w9)
        go_roundw
        case rel => exact ⟨k + 1, a, m, out, by go_num, rfl, by omega, has, by omega, by omega, HM.out, HN, ⟨ad, c, rfl⟩, ho, hb⟩
        case measure => simp [intOf]; omega
      · cases b2
        · rw [if_pos (by simp)] at hn
          have HN := Lib.hid hn
          obtain ⟨X, hX⟩ : ∃ X, (S.drop a).take (k - a) = X := ⟨_, rfl⟩
          rw [hX] at HN
          have hcx : s.extract a k = strL X := by rw [part_of s a k (by omega) (by omega), HS.out, hX]
          have R1 := run_slice_str s a k (k : Int) rfl (by omega) (by omega)
          rw [hcx] at R1
          clear hn hX hcx
          go_wp2_with (first
            | (go_at_call 46; with_reducible refine (cB _).mono ?_; rintro e w9 ⟨rfl, hw⟩; rw [← hw]; clear hw w9 cB)
            | (go_at_call 46; with_reducible refine (cP _).mono ?_; rintro e w9 ⟨rfl, hw⟩; rw [← hw]; clear hw w9 cP)
            | (at_builtin; refine wpList_app1 (by rfl) (.tmp 24) (.tmp 29) rfl rfl w.heap.size X rfl rfl ho.out HM.out (by exact hb.out.size) (by omega) ?_; intro a2 c2 w2 h2 g2; replace h2 := Lib.hid h2; replace g2 := Lib.hid g2))
          go_roundw
          case rel =>
            refine ⟨k + 1, k, m + 1, out ++ [X], by go_num, rfl, by omega, by omega, by omega, by omega, by rw [List.length_append, HM.out]; rfl, HN, ⟨a2, c2, rfl⟩, ?_, ?_⟩
            · exact h2
            · exact (hb.out.alloc hb.out.size _).grown g2.out (by have := hb.out.size; rw [World.size_alloc]; omega) (fun k e => (ho.out.lt k e).1)
          case measure => simp [intOf]; omega
        · rw [if_neg (by simp)] at hn
          have HN := Lib.hid hn
          clear hn
          go_wp2_with (first
            | (go_at_call 46; with_reducible refine (cB _).mono ?_; rintro e w9 ⟨rfl, hw⟩; rw [← hw]; clear hw w9 cB)
            | (go_at_call 46; with_reducible refine (cP _).mono ?_; rintro e w9 ⟨rfl, hw⟩; rw [← hw]; clear hw w9 cP))
          go_roundw
          case rel => exact ⟨k + 1, a, m, out, by go_num, rfl, by omega, has, by omega, by omega, HM.out, HN, ⟨ad, c, rfl⟩, ho, hb⟩
          case measure => simp [intOf]; omega
    · have hlt' : ¬ (k : Int) < (s.size : Int) := by omega
      have HD := Lib.hid (hcut.out.done (by rw [HZ.out]; omega))
      obtain ⟨X, hX⟩ : ∃ X, S.drop a = X := ⟨_, rfl⟩
      rw [hX] at HD
      have hcx : s.extract a s.size = strL X := bytes_is (by rw [part_rest s a has, HS.out, hX]; rfl)
      have R1 := run_slice_from s a (a : Int) rfl has
      rw [hcx] at R1
      clear hX hcx
      go_wp2_with (at_builtin; refine wpList_app1 (by rfl) (.tmp 32) (.tmp 36) rfl rfl w.heap.size X rfl rfl ho.out HM.out (by exact hb.out.size) (by omega) ?_; intro a2 c2 w2 h2 g2; replace h2 := Lib.hid h2; replace g2 := Lib.hid g2)
      go_ret
      rw [HD.out]
      exact ⟨a2, c2, by rw [List.length_append, HM.out]; rfl, by have h := h2.out; rw [List.length_append, HM.out] at *; exact h, (hb.out.alloc hb.out.size _).grown g2.out (by have := hb.out.size; rw [World.size_alloc]; omega) (fun k e => (ho.out.lt k e).1)⟩

set_option maxRecDepth 100000 in
set_option maxHeartbeats 4000000 in
theorem rpieces_any (s : ByteArray) (hs : s.size ≤ 900000) (w : World) :
    Calls Tryd.prog 28 #[.string s] w fun e w' => ∃ a c, e = .returned (.slice a (piecesL s.data.toList).length c) ∧ w'.ownsRow w.heap.size 9 1 (.slice a (piecesL s.data.toList).length c) (piecesL s.data.toList).length ((piecesL s.data.toList).map strV) ∧ Below w.heap.size w w' := by
  obtain ⟨S, hS⟩ : ∃ S, s.data.toList = S := ⟨_, rfl⟩
  have hsz : S.length = s.size := by rw [← hS, ← size_list]
  have HS := Lib.hid hS
  have HZ := Lib.hid hsz
  rw [hS]
  clear hS hsz
  go_enter Tryd.func28, Tryd.ntmps28
  go_wp2_with fail
  go_loopw [3, 4, 5] (fun o st i wr => ∃ (k a m : Nat) (out : List (List UInt8)), i = .int .i64 k ∧ st = .int .i64 a ∧ a < k ∧ a ≤ s.size ∧ k ≤ s.size + 1 ∧ m + 1 ≤ k ∧ out.length = m ∧ Hid (CutP S k a out) ∧ (∃ ad c, o = .slice ad m c) ∧ Hid (wr.ownsRow w.heap.size 9 1 o out.length (out.map strV)) ∧ Hid (Below w.heap.size w wr)) (fun _ _ i _ => s.size + 1 - (intOf i).toNat)
  case atStart => exact ⟨1, 0, 0, [], rfl, rfl, by omega, by omega, by omega, by omega, rfl, Lib.hid (CutP.start S), ⟨none, 0, rfl⟩, ⟨rfl, .inl ⟨rfl, rfl⟩⟩, Below.refl _ _⟩
  case round =>
    obtain ⟨k, a, m, out, rfl, rfl, hak, has, hks, hmk, hm, hcut, ⟨ad, c, rfl⟩, ho, hb⟩ := hrel
    have HM := Lib.hid hm
    clear hm
    have F1 : IntKind.i64.wrap ((k : Int) + 1) = (k : Int) + 1 := by rw [IntKind.wrap_i64]; omega
    by_cases hlt : k < s.size
    · have hlt' : (k : Int) < (s.size : Int) := by omega
      obtain ⟨ch, x, hc, hx, _, RI⟩ := run_byte s k hlt
      obtain ⟨ph, y, hp, hy, _, RJ⟩ := run_byte s (k - 1) (by omega)
      have F2 : IntKind.i64.wrap ((k : Int) - 1) = ((k - 1 : Nat) : Int) := by rw [IntKind.wrap_i64]; omega
      rw [HS.out] at hc hp
      have hn := hcut.out.next hc hp
      have cB := fun w => rblank_any ch x hx w
      have cP := fun w => rblank_any ph y hy w
      generalize HdrP.blank ch = b1 at hn cB
      generalize HdrP.blank ph = b2 at hn cP
      clear hx hy hc hp
      cases b1
      · rw [if_neg (by simp)] at hn
        have HN := Lib.hid hn
        clear hn cP RJ F2
        go_wp2_with (go_at_call 32; with_reducible refine (cB _).mono ?_; rintro e w9 ⟨rfl, hw⟩; rw [← hw]; clear hw w9)
        go_roundw
        case rel => exact ⟨k + 1, a, m, out, by go_num, rfl, by omega, has, by omega, by omega, HM.out, HN, ⟨ad, c, rfl⟩, ho, hb⟩
        case measure => simp [intOf]; omega
      · cases b2
        · rw [if_pos (by simp)] at hn
          have HN := Lib.hid hn
          obtain ⟨X, hX⟩ : ∃ X, (S.drop a).take (k - a) = X := ⟨_, rfl⟩
          rw [hX] at HN
          have hcx : s.extract a k = strL X := by rw [part_of s a k (by omega) (by omega), HS.out, hX]
          have R1 := run_slice_str s a k (k : Int) rfl (by omega) (by omega)
          rw [hcx] at R1
          clear hn hX hcx
          go_wp2_with (first
            | (go_at_call 32; with_reducible refine (cB _).mono ?_; rintro e w9 ⟨rfl, hw⟩; rw [← hw]; clear hw w9 cB)
            | (go_at_call 32; with_reducible refine (cP _).mono ?_; rintro e w9 ⟨rfl, hw⟩; rw [← hw]; clear hw w9 cP)
            | (at_builtin; refine wpList_app1 (by rfl) (.tmp 24) (.tmp 29) rfl rfl w.heap.size X rfl rfl ho.out HM.out (by exact hb.out.size) (by omega) ?_; intro a2 c2 w2 h2 g2; replace h2 := Lib.hid h2; replace g2 := Lib.hid g2))
          go_roundw
          case rel =>
            refine ⟨k + 1, k, m + 1, out ++ [X], by go_num, rfl, by omega, by omega, by omega, by omega, by rw [List.length_append, HM.out]; rfl, HN, ⟨a2, c2, rfl⟩, ?_, ?_⟩
            · exact h2
            · exact (hb.out.alloc hb.out.size _).grown g2.out (by have := hb.out.size; rw [World.size_alloc]; omega) (fun k e => (ho.out.lt k e).1)
          case measure => simp [intOf]; omega
        · rw [if_neg (by simp)] at hn
          have HN := Lib.hid hn
          clear hn
          go_wp2_with (first
            | (go_at_call 32; with_reducible refine (cB _).mono ?_; rintro e w9 ⟨rfl, hw⟩; rw [← hw]; clear hw w9 cB)
            | (go_at_call 32; with_reducible refine (cP _).mono ?_; rintro e w9 ⟨rfl, hw⟩; rw [← hw]; clear hw w9 cP))
          go_roundw
          case rel => exact ⟨k + 1, a, m, out, by go_num, rfl, by omega, has, by omega, by omega, HM.out, HN, ⟨ad, c, rfl⟩, ho, hb⟩
          case measure => simp [intOf]; omega
    · have hlt' : ¬ (k : Int) < (s.size : Int) := by omega
      have HD := Lib.hid (hcut.out.done (by rw [HZ.out]; omega))
      by_cases h0 : 0 < s.size
      · have h0' : (0 : Int) < (s.size : Int) := by omega
        obtain ⟨X, hX⟩ : ∃ X, S.drop a = X := ⟨_, rfl⟩
        rw [hX] at HD
        have hcx : s.extract a s.size = strL X := bytes_is (by rw [part_rest s a has, HS.out, hX]; rfl)
        have R1 := run_slice_from s a (a : Int) rfl has
        rw [hcx] at R1
        have HE : Hid (piecesL S = out ++ [X]) := by
          have := HD.out
          unfold piecesP at this
          rwa [if_neg (by intro e; have := HZ.out; rw [e] at this; simp at this; omega)] at this
        clear hX hcx
        go_wp2_with (at_builtin; refine wpList_app1 (by rfl) (.tmp 35) (.tmp 39) rfl rfl w.heap.size X rfl rfl ho.out HM.out (by exact hb.out.size) (by omega) ?_; intro a2 c2 w2 h2 g2; replace h2 := Lib.hid h2; replace g2 := Lib.hid g2)
        go_ret
        rw [HE.out]
        exact ⟨a2, c2, by rw [List.length_append, HM.out]; rfl, by have h := h2.out; rw [List.length_append, HM.out] at *; exact h, (hb.out.alloc hb.out.size _).grown g2.out (by have := hb.out.size; rw [World.size_alloc]; omega) (fun k e => (ho.out.lt k e).1)⟩
      · have h0' : ¬ (0 : Int) < (s.size : Int) := by omega
        have HE : Hid (S = [] ∧ out = []) := by
          have hS0 : S = [] := List.eq_nil_of_length_eq_zero (by rw [HZ.out]; omega)
          exact ⟨hS0, hcut.out.empty hS0⟩
        go_wp2_with fail
        go_ret
        obtain ⟨e1, e2⟩ := HE.out
        subst e1
        subst e2
        have := HM.out
        simp at this
        subst this
        exact ⟨ad, c, rfl, ho.out, hb.out⟩
end Go.Proofs.YtocghngmjipjoaaDoor
