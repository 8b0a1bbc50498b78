/- Words split off by a closure: wordSplitter. -/
import Derived.Test.YtnmdljadnlddeaaGreatDoorGap
import Derived.Test.YtnmdljadnlddeaaGreatDoorAny
import Derived.Deep.RegionWith
import Derived.OneCell
namespace Go.Proofs.YtnmdljadnlddeaaGreatDoor
open Go.ChangeShapes Go.WideShapes Go.ChangeAt Go.RowKit
open DateP (wd white flush plain)

theorem plain_iff (c : UInt8) : stops.contains c = false ↔ plain c := by
  unfold plain white stops
  simp only [List.contains_cons, List.contains_nil, Bool.or_false, Bool.or_eq_false_iff, beq_eq_false_iff_ne, ne_eq]
  constructor
  · rintro ⟨h1, h2, h3, h4, h5, h6⟩
    exact ⟨⟨⟨⟨⟨h1, h2⟩, h3⟩, h4⟩, h5⟩, h6⟩
  · rintro ⟨⟨⟨⟨⟨h1, h2⟩, h3⟩, h4⟩, h5⟩, h6⟩
    exact ⟨h1, h2, h3, h4, h5, h6⟩
/-- A string, parted where its first word ends. -/
theorem any_split : ∀ l : List UInt8, ∃ a b, l = a ++ b ∧ (∀ c ∈ a, plain c) ∧ ((b = [] ∧ Lib.indexAny l stops = -1) ∨ (∃ d t, b = d :: t ∧ ¬ plain d ∧ Lib.indexAny l stops = (a.length : Nat)))
  | [] => ⟨[], [], rfl, (fun _ h => by cases h), .inl ⟨rfl, rfl⟩⟩
  | c :: l => by
    cases hc : stops.contains c with
    | true =>
      refine ⟨[], c :: l, rfl, (fun _ h => by cases h), .inr ⟨c, l, rfl, (fun h => ?_), ?_⟩⟩
      · rw [(plain_iff c).2 h] at hc; cases hc
      · rw [Lib.indexAny, if_pos hc]; rfl
    | false =>
      obtain ⟨a, b, e, ha, hb⟩ := any_split l
      refine ⟨c :: a, b, by rw [e]; rfl, fun x hx => ?_, ?_⟩
      · rcases List.mem_cons.1 hx with rfl | hx
        · exact (plain_iff x).1 hc
        · exact ha x hx
      · rcases hb with ⟨h1, h2⟩ | ⟨d, t, h1, h2, h3⟩
        · exact .inl ⟨h1, by rw [Lib.indexAny, if_neg (by rw [hc]; decide), h2]; rfl⟩
        · refine .inr ⟨d, t, h1, h2, ?_⟩
          rw [Lib.indexAny, if_neg (by rw [hc]; decide), h3, if_neg (by simp), List.length_cons]
          push_cast
          rfl
theorem wd_step (cur : List UInt8) (d : UInt8) (t : List UInt8) : wd 0 cur (d :: t) = if white d then flush cur (wd 0 [] t) else if d = 40 then flush cur (wd 1 [] t) else wd 0 (cur ++ [d]) t := by rw [wd]
theorem flush_none (ws : List (List UInt8)) : flush [] ws = ws := if_pos rfl
theorem flush_some {a : List UInt8} (h : a ≠ []) (ws : List (List UInt8)) : flush a ws = a :: ws := if_neg h
theorem wd_apart {a b : List UInt8} (ha : ∀ c ∈ a, plain c) (hne : a ≠ []) (hb : b = [] ∨ ∃ d t, b = d :: t ∧ ¬ plain d) : wd 0 [] (a ++ b) = a :: wd 0 [] b := by
  rw [DateP.wd_plain ha, List.nil_append]
  rcases hb with rfl | ⟨d, t, rfl, hd⟩
  · rw [wd_nil, wd, flush_some hne]
  · rw [wd_step, wd_step]
    by_cases hw : white d = true
    · rw [if_pos hw, if_pos hw, flush_some hne, flush_none]
    · have h40 : d = 40 := by
        by_cases h : d = 40
        · exact h
        · exact absurd ⟨Bool.eq_false_iff.2 hw, h⟩ hd
      rw [if_neg hw, if_neg hw, if_pos h40, if_pos h40, flush_some hne, flush_none]
/-- What stands behind the gap, parted at its first word. -/
theorem words_part {l S : List UInt8} {n : Nat} (hn : GapP l n) (hS : S = l.drop n) {a b : List UInt8} (e : S = a ++ b) (ha : ∀ c ∈ a, plain c) (hb : b = [] ∨ ∃ d t, b = d :: t ∧ ¬ plain d) :
    (wd 0 [] l).headD [] = a ∧ (wd 0 [] l).tail = wd 0 [] b := by
  obtain ⟨_, h2, h3⟩ := hn
  rw [h2, ← hS]
  by_cases hne : a = []
  · subst hne
    rw [List.nil_append] at e
    rcases hb with rfl | ⟨d, t, rfl, hd⟩
    · rw [e, wd_nil]; exact ⟨rfl, rfl⟩
    · exact absurd (h3 d t (by rw [← hS, e])) hd
  · rw [e, wd_apart ha hne hb]
    exact ⟨rfl, rfl⟩

/-- The captured string. -/
def Cap (w : World) (b : Nat) (s : ByteArray) : Prop := w.heap[b]? = some (.cells #[.string s] 9 (0, 0))
theorem Cap.set {w : World} {b : Nat} {s : ByteArray} (h : Cap w b s) (r : ByteArray) : Cap (w.setCell ⟨b, 0, none⟩ (.string r)) b r := one_setCell h
theorem grown_set (w : World) (b : Nat) (v : Value) : w.grownBy (w.setCell ⟨b, 0, none⟩ v) (some b) :=
  ⟨rfl, rfl, rfl, by simp [World.setCell], fun k _ hk => Below.heap_setCell _ _ _ _ (fun e => hk (by simp [e]))⟩
theorem gtrans {a b c : World} {row : Option Nat} (h : a.grownBy b row) (k : b.grownBy c row) : a.grownBy c row :=
  ⟨k.os.trans h.os, k.tape.trans h.tape, k.output.trans h.output, Nat.le_trans h.size k.size, fun i hi hne => (k.block i (Nat.lt_of_lt_of_le hi h.size) hne).trans (h.block i hi hne)⟩
theorem grown_below {w w' : World} (b : Nat) (h : Below w.heap.size w w') : w.grownBy w' (some b) := ⟨h.os, h.tape, h.output, h.size, fun k hk _ => h.block k hk⟩
set_option maxHeartbeats 2000000 in
theorem split_any (s : ByteArray) (hs : s.size ≤ 100000) (b : Nat) (w : World) (h : Cap w b s) :
    Calls Tryz.prog 29 #[.pointer (some ⟨b, 0, none⟩)] w fun e w' => e = .returned (.string (strL ((wd 0 [] s.data.toList).headD []))) ∧ (∃ r, Cap w' b r ∧ wd 0 [] r.data.toList = (wd 0 [] s.data.toList).tail ∧ r.size ≤ s.size) ∧ w.grownBy w' (some b) := by
  have c0 := cell_of_one h
  have f0 := free_of_one h
  have HG := Lib.hid (gap_any s hs)
  have rs := fun n (hn : n ≤ s.size) W => run_slice_from s n hn W
  go_enter Tryz.func29, Tryz.ntmps29
  go_wp2_with fail
  go_region_with (go_at_call 30; refine (HG.out _).mono ?_; rintro e w1 ⟨n, rfl, hn, rfl⟩; have hnz := hn.1; rw [← size_list] at hnz; have rsn := rs n hnz)
  all_goals
    have hSl := part_rest s n hnz
    obtain ⟨S, hS⟩ : ∃ S, s.extract n s.size = S := ⟨_, rfl⟩
    rw [hS] at hSl
    rw [hS]
    have hSz : S.size ≤ s.size := by rw [← hS, ByteArray.size_extract]; omega
    obtain ⟨W, hW⟩ : ∃ W, (w.setCell ⟨b, 0, none⟩ (.string S)).drew = W := ⟨_, rfl⟩
    have cap : Cap W b S := by rw [← hW]; exact h.set S
    have gr : w.grownBy W (some b) := by rw [← hW]; exact ⟨rfl, rfl, rfl, (grown_set w b _).size, (grown_set w b _).block⟩
    rw [hW]
    obtain ⟨a, d, e1, e2, e3⟩ := any_split S.data.toList
    have hp := words_part hn hSl e1 e2 (e3.elim (fun h => .inl h.1) (fun ⟨d, t, h1, h2, _⟩ => .inr ⟨d, t, h1, h2⟩))
    have hk : a.length ≤ S.size := by rw [size_list, e1, List.length_append]; omega
    have hto : S.extract 0 a.length = strL a := strL_is (by rw [part_start S _ hk, e1, List.take_left'  rfl])
    have hfrom : S.extract a.length S.size = strL d := strL_is (by rw [part_rest S _ hk, e1, List.drop_left' rfl])
    have hval : (Lib.indexAny S.data.toList stops = -1 ∧ a.length = S.size) ∨ Lib.indexAny S.data.toList stops = (a.length : Nat) := by
      rcases e3 with ⟨h1, h2⟩ | ⟨_, _, _, _, h2⟩
      · exact .inl ⟨h2, by rw [size_list, e1, h1, List.append_nil]⟩
      · exact .inr h2
    have HA := Lib.hid (any_any S (by omega))
    have hdz : (strL d).size ≤ s.size := by rw [strL_size]; have := congrArg List.length e1; rw [List.length_append, ← size_list] at this; omega
    obtain ⟨K, hK⟩ : ∃ K, a.length = K := ⟨_, rfl⟩
    obtain ⟨I, hI⟩ : ∃ I, Lib.indexAny S.data.toList stops = I := ⟨_, rfl⟩
    have r1 := fun Q => run_slice_to S a.length hk Q
    have r2 := fun Q => run_slice_from S a.length hk Q
    rw [hto, hK] at r1
    rw [hfrom, hK] at r2
    rw [hI] at HA
    rw [hI, hK] at hval
    have HH := Lib.hid (And.intro hp (And.intro gr (And.intro cap hdz)))
    have cW := cell_of_one cap
    have hB : (⟨#[9, 10, 13, 32, 44, 40]⟩ : ByteArray) = stopB := rfl
    clear hn rsn hSl hS hW gr e1 e2 e3 hp hk hto hfrom hdz hI hK c0 f0
    rcases hval with ⟨rfl, hKs⟩ | rfl
    · rw [hKs] at r1 r2
      go_wp2_with (go_at_call 31; refine (HA.out _).mono ?_; rintro e w3 ⟨rfl, hb3⟩; have cap3 := block_below cap hb3; have c3 := cell_of_one cap3; have f3 := free_of_one cap3; have CP := Lib.hid cap3; clear cap3)
      go_ret
      exact ⟨by rw [HH.out.1.1]; rfl, ⟨strL d, Cap.set CP.out _, HH.out.1.2.symm, HH.out.2.2.2⟩, gtrans HH.out.2.1 (gtrans (grown_below b hb3) (grown_set _ _ _))⟩
    · go_wp2_with (go_at_call 31; refine (HA.out _).mono ?_; rintro e w3 ⟨rfl, hb3⟩; have cap3 := block_below cap hb3; have c3 := cell_of_one cap3; have f3 := free_of_one cap3; have CP := Lib.hid cap3; clear cap3)
      go_ret
      exact ⟨by rw [HH.out.1.1]; rfl, ⟨strL d, Cap.set CP.out _, HH.out.1.2.symm, HH.out.2.2.2⟩, gtrans HH.out.2.1 (gtrans (grown_below b hb3) (grown_set _ _ _))⟩
end Go.Proofs.YtnmdljadnlddeaaGreatDoor
