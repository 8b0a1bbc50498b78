/- prefix: how many bytes at the start belong, white space and atom bytes. first: the kind and the length of the first token. Scan: the tokens of a string, one by one. Rows and the parameter of a row by indices, as the program finds them; of no program. Parameters by the program's way: the parts under their places, names in their order; of no program. What the contracts of package num and of its reference share: the package-level variables that the library reads, kept by every call that only makes new memory. The canonical decimal form: num.canonical, by a range over a string. Parsing a decimal integer: num.Parse. A strings.Builder that a call has made. A strings.Builder that has just been made. A strings.Builder beside newer memory: what its methods leave as it was. -/
import Derived.Test.YtdinachiiimngaaGreatDoorK1
import Derived.Test.YtdinachiiimngaaGreatDoorK2
import Derived.Test.YtdinachiiimngaaGreatDoorKShelf
import Derived.WalkKit
import Derived.ProofKit
import Derived.Lib.Hide
import Derived.Lib.AtoiErrMem
import Derived.Laws.RangeString
import Derived.Lib.AtoiBound
import Derived.RangeFuncRecord
import Derived.Lib.OthersKept
namespace Go.Proofs.YtdinachiiimngaaGreatDoor
open Go.ChangeShapes Go.WideShapes Go.ChangeAt Go.RowKit

theorem while_at (p : UInt8 → Bool) (l : List UInt8) (k : Nat) (c : UInt8) (h : l[k]? = some c) : (l.drop k).takeWhile p = if p c = true then c :: (l.drop (k + 1)).takeWhile p else [] := by
  obtain ⟨h1, h2⟩ := List.getElem?_eq_some_iff.1 h
  rw [List.drop_eq_getElem_cons h1, h2, List.takeWhile_cons]
theorem while_more (p : UInt8 → Bool) (l : List UInt8) (k : Nat) (c : UInt8) (h : l[k]? = some c) (hp : p c = true) (he : (l.takeWhile p).length = k + ((l.drop k).takeWhile p).length) :
    (l.takeWhile p).length = k + 1 + ((l.drop (k + 1)).takeWhile p).length := by
  rw [while_at p l k c h, if_pos hp, List.length_cons] at he
  omega
theorem while_stop (p : UInt8 → Bool) (l : List UInt8) (k : Nat) (c : UInt8) (h : l[k]? = some c) (hp : p c = false) (he : (l.takeWhile p).length = k + ((l.drop k).takeWhile p).length) : (l.takeWhile p).length = k := by
  rw [while_at p l k c h, if_neg (by rw [hp]; exact Bool.false_ne_true), List.length_nil] at he
  omega
theorem while_end (p : UInt8 → Bool) (l : List UInt8) (k : Nat) (h : l.length ≤ k) (he : (l.takeWhile p).length = k + ((l.drop k).takeWhile p).length) : (l.takeWhile p).length = k := by
  rw [List.drop_eq_nil_of_le h, List.takeWhile_nil, List.length_nil] at he
  omega
set_option maxHeartbeats 1000000 in
theorem pre_white (s : ByteArray) (hs : s.size ≤ 4000000) (w : World) :
    Calls Tryz.prog 137 #[.string s, .func (.func 136) #[] #[]] w fun e w' => e = .returned (.int .i64 ((s.data.toList.takeWhile TokP.blank).length : Nat)) ∧ w = w' := by
  obtain ⟨n, hn⟩ : ∃ n, s.size = n := ⟨_, rfl⟩
  have HL := Lib.hid (size_list s)
  rw [hn] at hs
  have HN := Lib.hid hn
  clear hn
  go_enter Tryz.func137, Tryz.ntmps137
  have hn : s.size = n := HN.out
  go_wp2_with fail
  clear hn
  go_loopw [8] (fun i wr => ∃ k : Nat, k ≤ n ∧ i = .int .i64 k ∧ wr = w ∧ Hid ((s.data.toList.takeWhile TokP.blank).length = k + ((s.data.toList.drop k).takeWhile TokP.blank).length)) (fun i _ => n - (intOf i).toNat)
  case atStart => exact ⟨0, Nat.zero_le _, rfl, rfl, by show _ = _; rw [List.drop_zero, Nat.zero_add]⟩
  case round =>
    obtain ⟨k, hk, rfl, rfl, HS⟩ := hrel
    have F1 : IntKind.i64.wrap ((k : Int) + 1) = (k : Int) + 1 := by rw [IntKind.wrap_i64]; omega
    by_cases hlt : k < n
    · have hlt' : (k : Int) < (n : Int) := by omega
      obtain ⟨c, x, hc, hx, hx2, S1⟩ := run_byte s k (by rw [HN.out]; exact hlt)
      have cB := isWhite_any c x hx
      by_cases hp : TokP.blank c = true
      · have HS2 := Lib.hid (while_more _ _ k c hc hp HS.out)
        rw [hp] at cB
        clear hp hc hx hx2 HS HL HN
        go_wp2_with (go_at_call 136; refine (cB _).mono ?_; rintro e w' ⟨rfl, rfl⟩)
        go_roundw
        case rel => exact ⟨k + 1, by omega, by go_num, trivial, HS2⟩
        case measure => simp [intOf]; omega
      · have hp' : TokP.blank c = false := by simpa using hp
        have HS2 := Lib.hid (while_stop _ _ k c hc hp' HS.out)
        rw [hp'] at cB
        clear hp hp' hc hx hx2 HS HL HN
        go_wp2_with (go_at_call 136; refine (cB _).mono ?_; rintro e w' ⟨rfl, rfl⟩)
        go_ret
        exact ⟨by rw [HS2.out]; rfl, rfl⟩
    · have HS2 := Lib.hid (while_end _ _ k (by rw [← HL.out, HN.out]; omega) HS.out)
      obtain rfl : k = n := by omega
      have hlt' : ¬ (k : Int) < (k : Int) := by omega
      have hn : s.size = k := HN.out
      clear HS HL HN
      go_wp2_with fail
      go_ret
      exact ⟨by rw [HS2.out]; rfl, rfl⟩
set_option maxHeartbeats 1000000 in
theorem pre_atom (s : ByteArray) (hs : s.size ≤ 4000000) (w : World) :
    Calls Tryz.prog 137 #[.string s, .func (.func 140) #[] #[]] w fun e w' => e = .returned (.int .i64 ((s.data.toList.takeWhile TokP.atomB).length : Nat)) ∧ w = w' := by
  obtain ⟨n, hn⟩ : ∃ n, s.size = n := ⟨_, rfl⟩
  have HL := Lib.hid (size_list s)
  rw [hn] at hs
  have HN := Lib.hid hn
  clear hn
  go_enter Tryz.func137, Tryz.ntmps137
  have hn : s.size = n := HN.out
  go_wp2_with fail
  clear hn
  go_loopw [8] (fun i wr => ∃ k : Nat, k ≤ n ∧ i = .int .i64 k ∧ wr = w ∧ Hid ((s.data.toList.takeWhile TokP.atomB).length = k + ((s.data.toList.drop k).takeWhile TokP.atomB).length)) (fun i _ => n - (intOf i).toNat)
  case atStart => exact ⟨0, Nat.zero_le _, rfl, rfl, by show _ = _; rw [List.drop_zero, Nat.zero_add]⟩
  case round =>
    obtain ⟨k, hk, rfl, rfl, HS⟩ := hrel
    have F1 : IntKind.i64.wrap ((k : Int) + 1) = (k : Int) + 1 := by rw [IntKind.wrap_i64]; omega
    by_cases hlt : k < n
    · have hlt' : (k : Int) < (n : Int) := by omega
      obtain ⟨c, x, hc, hx, hx2, S1⟩ := run_byte s k (by rw [HN.out]; exact hlt)
      have cB := isAtom_any c x hx
      by_cases hp : TokP.atomB c = true
      · have HS2 := Lib.hid (while_more _ _ k c hc hp HS.out)
        rw [hp] at cB
        clear hp hc hx hx2 HS HL HN
        go_wp2_with (go_at_call 140; refine (cB _).mono ?_; rintro e w' ⟨rfl, rfl⟩)
        go_roundw
        case rel => exact ⟨k + 1, by omega, by go_num, trivial, HS2⟩
        case measure => simp [intOf]; omega
      · have hp' : TokP.atomB c = false := by simpa using hp
        have HS2 := Lib.hid (while_stop _ _ k c hc hp' HS.out)
        rw [hp'] at cB
        clear hp hp' hc hx hx2 HS HL HN
        go_wp2_with (go_at_call 140; refine (cB _).mono ?_; rintro e w' ⟨rfl, rfl⟩)
        go_ret
        exact ⟨by rw [HS2.out]; rfl, rfl⟩
    · have HS2 := Lib.hid (while_end _ _ k (by rw [← HL.out, HN.out]; omega) HS.out)
      obtain rfl : k = n := by omega
      have hlt' : ¬ (k : Int) < (k : Int) := by omega
      have hn : s.size = k := HN.out
      clear HS HL HN
      go_wp2_with fail
      go_ret
      exact ⟨by rw [HS2.out]; rfl, rfl⟩
end Go.Proofs.YtdinachiiimngaaGreatDoor
namespace Go.Proofs.YtdinachiiimngaaGreatDoor
open Go.ChangeShapes Go.WideShapes Go.ChangeAt Go.RowKit
open TokP

theorem encl_len (K : Int) (c : UInt8) (t : List UInt8) (n : Nat) (hn : n = (c :: t).length) (hK : (kindO c : Int) = K) (hb : ¬ TokP.blank c = true) (ho : opens c = true) :
    enclV K n (closeS (closer c) (c == 40) false 0 t) = .tuple #[.int .i64 ((frontL (c :: t)).kind : Nat), .int .i64 ((frontL (c :: t)).text.length : Nat)] := by
  rw [frontL, if_neg hb, if_pos ho]
  unfold closeL
  cases h : closeS (closer c) (c == 40) false 0 t with
  | none => rw [hn]; rfl
  | some m =>
    have := (close_le _ _ t _ _ m h).2
    show Value.tuple #[.int .i64 K, .int .i64 ((m : Int) + 1)] = .tuple #[.int .i64 (kindO c : Nat), .int .i64 ((c :: t.take m).length : Nat)]
    rw [hK, List.length_cons, List.length_take, Nat.min_eq_left this]
    rfl
theorem opens_cases (c : UInt8) : opens c = true → c = 40 ∨ c = 34 ∨ c = 91 := by
  unfold opens
  simp only [Bool.or_eq_true, beq_iff_eq]
  rintro ((h | h) | h)
  · exact .inl h
  · exact .inr (.inl h)
  · exact .inr (.inr h)
set_option maxHeartbeats 2000000 in
theorem first_any (s : ByteArray) (hs : s.size ≤ 4000000) (h0 : 0 < s.size) (w : World) :
    Calls Tryz.prog 96 #[.string s] w fun e w' => e = .returned (.tuple #[.int .i64 ((frontL s.data.toList).kind : Nat), .int .i64 ((frontL s.data.toList).text.length : Nat)]) ∧ w = w' := by
  obtain ⟨c, x, t, hl, hx, hx2, S1⟩ := run_byte0 s h0
  have cW := isWhite_any c x hx
  have cS := isSpecial_any c x hx
  have cA := isAtom_any c x hx
  have e40 := byte_is c x hx 40 (by decide)
  have e34 := byte_is c x hx 34 (by decide)
  have e91 := byte_is c x hx 91 (by decide)
  rw [show ((40 : Nat) : Int) = 40 from rfl] at e40
  rw [show ((34 : Nat) : Int) = 34 from rfl] at e34
  rw [show ((91 : Nat) : Int) = 91 from rfl] at e91
  have hsz : s.size = (c :: t).length := by rw [size_list, hl]
  by_cases hw : TokP.blank c = true
  · have cP := pre_white s hs
    rw [hl] at cP
    have HF : Hid (frontL s.data.toList = ⟨6, (c :: t).takeWhile TokP.blank⟩) := by
      show _ = _
      rw [hl, frontL, if_pos hw]
    generalize ((c :: t).takeWhile TokP.blank) = u at cP HF
    rw [hw] at cW
    clear hw hsz hl hx hx2 cS cA e40 e34 e91 hs h0
    go_enter Tryz.func96, Tryz.ntmps96
    go_wp2_with (first
      | (go_at_call 136; refine (cW _).mono ?_; rintro e w1 ⟨rfl, rfl⟩)
      | (go_at_call 137; refine (cP _).mono ?_; rintro e w2 ⟨rfl, rfl⟩))
    go_ret2
    exact ⟨by rw [HF.out]; rfl, rfl⟩
  · have hw' : TokP.blank c = false := by simpa using hw
    rw [hw'] at cW
    by_cases h40 : c = 40
    · rw [show decide (c = UInt8.ofNat 40) = true from decide_eq_true h40] at e40
      have cE := encl_any s hs 3 41 41 true rfl rfl (by decide) (by decide) _ rfl
      rw [hl, show (c :: t).drop 1 = t from rfl] at cE
      have HF := Lib.hid (encl_len 3 c t _ hsz (by rw [h40]; rfl) hw (by rw [h40]; rfl))
      rw [show (c == 40) = true by rw [h40]; rfl, show closer c = 41 by rw [h40]; rfl, ← hl] at HF
      have HE : ∀ w, Calls Tryz.prog 138 #[.string s, .int .i64 3, .int .u8 41] w fun e w' => e = .returned (.tuple #[.int .i64 ((frontL s.data.toList).kind : Nat), .int .i64 ((frontL s.data.toList).text.length : Nat)]) ∧ w = w' := by
        intro w
        rw [← HF.out]
        exact cE w
      clear cE HF hsz hl hx hx2 cS cA h40 e34 e91 hs h0 hw hw'
      generalize frontL s.data.toList = T at HE ⊢
      go_enter Tryz.func96, Tryz.ntmps96
      go_wp2_with (first
        | (go_at_call 136; refine (cW _).mono ?_; rintro e w1 ⟨rfl, rfl⟩)
        | (go_at_call 138; refine (HE _).mono ?_; rintro e w2 ⟨rfl, rfl⟩))
      go_ret2
      exact ⟨rfl, rfl⟩
    · rw [show decide (c = UInt8.ofNat 40) = false from decide_eq_false h40] at e40
      by_cases h34 : c = 34
      · rw [show decide (c = UInt8.ofNat 34) = true from decide_eq_true h34] at e34
        have cE := encl_any s hs 2 34 34 false rfl rfl (by decide) (by decide) _ rfl
        rw [hl, show (c :: t).drop 1 = t from rfl] at cE
        have HF := Lib.hid (encl_len 2 c t _ hsz (by rw [h34]; rfl) hw (by rw [h34]; rfl))
        rw [show (c == 40) = false by rw [h34]; rfl, show closer c = 34 by rw [h34]; rfl, ← hl] at HF
        have HE : ∀ w, Calls Tryz.prog 138 #[.string s, .int .i64 2, .int .u8 34] w fun e w' => e = .returned (.tuple #[.int .i64 ((frontL s.data.toList).kind : Nat), .int .i64 ((frontL s.data.toList).text.length : Nat)]) ∧ w = w' := by
          intro w
          rw [← HF.out]
          exact cE w
        clear cE HF hsz hl hx hx2 cS cA h40 h34 e91 hs h0 hw hw'
        generalize frontL s.data.toList = T at HE ⊢
        go_enter Tryz.func96, Tryz.ntmps96
        go_wp2_with (first
          | (go_at_call 136; refine (cW _).mono ?_; rintro e w1 ⟨rfl, rfl⟩)
          | (go_at_call 138; refine (HE _).mono ?_; rintro e w2 ⟨rfl, rfl⟩))
        go_ret2
        exact ⟨rfl, rfl⟩
      · rw [show decide (c = UInt8.ofNat 34) = false from decide_eq_false h34] at e34
        by_cases h91 : c = 91
        · rw [show decide (c = UInt8.ofNat 91) = true from decide_eq_true h91] at e91
          have cE := encl_any s hs 5 93 93 false rfl rfl (by decide) (by decide) _ rfl
          rw [hl, show (c :: t).drop 1 = t from rfl] at cE
          have HF := Lib.hid (encl_len 5 c t _ hsz (by rw [h91]; rfl) hw (by rw [h91]; rfl))
          rw [show (c == 40) = false by rw [h91]; rfl, show closer c = 93 by rw [h91]; rfl, ← hl] at HF
          have HE : ∀ w, Calls Tryz.prog 138 #[.string s, .int .i64 5, .int .u8 93] w fun e w' => e = .returned (.tuple #[.int .i64 ((frontL s.data.toList).kind : Nat), .int .i64 ((frontL s.data.toList).text.length : Nat)]) ∧ w = w' := by
            intro w
            rw [← HF.out]
            exact cE w
          clear cE HF hsz hl hx hx2 cS cA h40 h34 h91 hs h0 hw hw'
          generalize frontL s.data.toList = T at HE ⊢
          go_enter Tryz.func96, Tryz.ntmps96
          go_wp2_with (first
            | (go_at_call 136; refine (cW _).mono ?_; rintro e w1 ⟨rfl, rfl⟩)
            | (go_at_call 138; refine (HE _).mono ?_; rintro e w2 ⟨rfl, rfl⟩))
          go_ret2
          exact ⟨rfl, rfl⟩
        · rw [show decide (c = UInt8.ofNat 91) = false from decide_eq_false h91] at e91
          have ho : ¬ opens c = true := fun e => by
            rcases opens_cases c e with e | e | e
            · exact h40 e
            · exact h34 e
            · exact h91 e
          by_cases hsp : special c = true
          · have HF : Hid (frontL s.data.toList = ⟨4, [c]⟩) := by
              show _ = _
              rw [hl, frontL, if_neg hw, if_neg ho, if_pos hsp]
            rw [hsp] at cS
            clear hsz hl hx hx2 cA h40 h34 h91 hs h0 hw hw' ho hsp
            go_enter Tryz.func96, Tryz.ntmps96
            go_wp2_with (first
              | (go_at_call 136; refine (cW _).mono ?_; rintro e w1 ⟨rfl, rfl⟩)
              | (go_at_call 139; refine (cS _).mono ?_; rintro e w2 ⟨rfl, rfl⟩))
            go_ret2
            exact ⟨by rw [HF.out]; rfl, rfl⟩
          · have hsp' : special c = false := by simpa using hsp
            rw [hsp'] at cS
            by_cases ha : atomB c = true
            · have cP := pre_atom s hs
              rw [hl] at cP
              have HF : Hid (frontL s.data.toList = ⟨1, (c :: t).takeWhile atomB⟩) := by
                show _ = _
                rw [hl, frontL, if_neg hw, if_neg ho, if_neg hsp, if_pos ha]
              generalize ((c :: t).takeWhile atomB) = u at cP HF
              rw [ha] at cA
              clear hsz hl hx hx2 h40 h34 h91 hs h0 hw hw' ho hsp hsp' ha
              go_enter Tryz.func96, Tryz.ntmps96
              go_wp2_with (first
                | (go_at_call 136; refine (cW _).mono ?_; rintro e w1 ⟨rfl, rfl⟩)
                | (go_at_call 139; refine (cS _).mono ?_; rintro e w2 ⟨rfl, rfl⟩)
                | (go_at_call 140; refine (cA _).mono ?_; rintro e w2 ⟨rfl, rfl⟩)
                | (go_at_call 137; refine (cP _).mono ?_; rintro e w2 ⟨rfl, rfl⟩))
              go_ret2
              exact ⟨by rw [HF.out]; rfl, rfl⟩
            · have ha' : atomB c = false := by simpa using ha
              have HF : Hid (frontL s.data.toList = ⟨7, [c]⟩) := by
                show _ = _
                rw [hl, frontL, if_neg hw, if_neg ho, if_neg hsp, if_neg ha]
              rw [ha'] at cA
              clear hsz hl hx hx2 h40 h34 h91 hs h0 hw hw' ho hsp hsp' ha ha'
              go_enter Tryz.func96, Tryz.ntmps96
              go_wp2_with (first
                | (go_at_call 136; refine (cW _).mono ?_; rintro e w1 ⟨rfl, rfl⟩)
                | (go_at_call 139; refine (cS _).mono ?_; rintro e w2 ⟨rfl, rfl⟩)
                | (go_at_call 140; refine (cA _).mono ?_; rintro e w2 ⟨rfl, rfl⟩))
              go_ret2
              exact ⟨by rw [HF.out]; rfl, rfl⟩
end Go.Proofs.YtdinachiiimngaaGreatDoor
namespace Go.Proofs.YtdinachiiimngaaGreatDoor
open Go.ChangeShapes Go.WideShapes Go.ChangeAt Go.RowKit
open TokP

set_option maxHeartbeats 1000000 in
theorem clone_any (s : ByteArray) (w : World) (hs : s.size ≤ 4000000) : Calls Tryz.prog 41 #[.string s] w fun e w' => e = .returned (.string s) ∧ Below w.heap.size w w' := by
  have cC := Tryz.stringslite_Clone s w (by omega)
  go_enter Tryz.func41, Tryz.ntmps41
  go_wp2_with (go_at_call 76; refine cC.mono ?_; rintro e w' ⟨rfl, hb⟩)
  go_ret
  exact ⟨rfl, hb⟩
theorem front_take (l : List UInt8) : l.take (frontL l).text.length = (frontL l).text := by
  have h := front_pre l
  have h2 : l.take (frontL l).text.length = ((frontL l).text ++ l.drop (frontL l).text.length).take (frontL l).text.length := by rw [h]
  rw [h2, List.take_left' rfl]
/-- What is left of the string, and the tokens that have been read. -/
structure Sc (w0 w : World) (L S : List UInt8) (d : List Tok) (v : Value) (m : Nat) : Prop where
  all : d ++ scanL S = scanL L
  few : d.length + S.length ≤ m
  bel : Below w0.heap.size w0 w
  own : w.ownsRow w0.heap.size 89 2 v d.length (toksV d)
theorem Sc.step {w0 w w' : World} {L S : List UInt8} {d : List Tok} {v : Value} {m : Nat} (h : Sc w0 w L S d v m) (hb : Below w.heap.size w w') : Sc w0 w' L S d v m :=
  ⟨h.all, h.few, h.bel.trans (hb.mono h.bel.size), own_below h.own hb⟩
theorem Sc.next {w0 w w' : World} {L S : List UInt8} {d : List Tok} {v v' : Value} {m : Nat} (h : Sc w0 w L S d v m) (hS : S ≠ []) (o : Obj) (hg : (w.alloc o).grownBy w' v.ownBlock) (ho : w'.ownsRow w0.heap.size 89 2 v' (d ++ [frontL S]).length (toksV (d ++ [frontL S]))) :
    Sc w0 w' L (S.drop (frontL S).text.length) (d ++ [frontL S]) v' m := by
  refine ⟨?_, ?_, ?_, ho⟩
  · rw [List.append_assoc, List.singleton_append, ← scan_cons S hS]; exact h.all
  · have := h.few
    have := List.length_pos_iff.2 (front_pos S hS)
    have := front_le S
    rw [List.length_append, List.length_drop, List.length_singleton]
    omega
  · exact (h.bel.alloc h.bel.size o).grown hg (by have := h.bel.size; rw [World.size_alloc]; omega) (fun k e => (h.own.lt k e).1)
def strSize : Value → Nat
  | .string s => s.size
  | _ => 0
theorem front_parts (A : ByteArray) : (A.extract 0 (frontL A.data.toList).text.length) = strL (frontL A.data.toList).text ∧ (A.extract (frontL A.data.toList).text.length A.size) = strL (A.data.toList.drop (frontL A.data.toList).text.length) := by
  have h := front_le A.data.toList
  rw [← size_list] at h
  refine ⟨bytes_is ?_, bytes_is ?_⟩
  · rw [part_start A _ h, front_take]; rfl
  · rw [part_rest A _ h]; rfl
set_option maxRecDepth 100000 in
set_option maxHeartbeats 2000000 in
theorem scan_any (s : ByteArray) (hs : s.size ≤ 4000000) (w : World) :
    Calls Tryz.prog 63 #[.string s] w fun e w' => ∃ a c, e = .returned (.slice a (scanL s.data.toList).length c) ∧ OwnF w' (.slice a (scanL s.data.toList).length c) (scanL s.data.toList) ∧ Below w.heap.size w w' := by
  have cC := clone_any s w hs
  have HZ := Lib.hid (size_list s)
  go_enter Tryz.func63, Tryz.ntmps63
  go_wp2_with (go_at_call 41; with_reducible refine cC.mono ?_; rintro e w1 ⟨rfl, hb1⟩; clear cC)
  have HST := Lib.hid (show Sc w w1 s.data.toList s.data.toList [] (.slice none 0 0) s.size from ⟨rfl, by rw [← HZ.out]; simp, hb1, ⟨rfl, .inl ⟨rfl, rfl⟩⟩⟩)
  clear hb1
  go_loopw [3, 4] (fun x fs wr => ∃ (d : List Tok) (A : ByteArray) (m : Nat), x = .string A ∧ d.length = m ∧ A.size ≤ s.size ∧ ∃ a c, fs = .slice a m c ∧ Hid (Sc w wr s.data.toList A.data.toList d fs s.size)) (fun x _ _ => strSize x)
  case atStart => exact ⟨[], s, 0, rfl, rfl, Nat.le_refl _, none, 0, rfl, HST⟩
  case round =>
    obtain ⟨d, A, m, rfl, hm, hsz, a, c, rfl, hst⟩ := hrel
    have hA := size_list A
    by_cases h0 : A.data.toList = []
    · have hall := Lib.hid (show d = scanL s.data.toList by rw [← hst.out.all, h0, scan_nil, List.append_nil])
      obtain rfl : A = ⟨#[]⟩ := bytes_is h0
      clear hA h0
      go_wp2_with fail
      go_ret
      have h := hall.out
      rw [← h]
      subst hm
      exact ⟨a, c, rfl, ⟨_, hst.out.own⟩, hst.out.bel⟩
    · have hne : A.toList.isEmpty = false := by
        rw [ByteArray.toList_eq]
        cases hl : A.data.toList with
        | nil => exact absurd hl h0
        | cons _ _ => rfl
      have hpos : 0 < A.size := by rw [hA]; exact List.length_pos_iff.2 h0
      have cF := first_any A (by omega) hpos
      obtain ⟨e1, e2⟩ := front_parts A
      have hle := front_le A.data.toList
      have hfp := List.length_pos_iff.2 (front_pos _ h0)
      rw [← hA] at hle
      have hdm : m ≤ 4000000 := by have := hst.out.few; rw [hm] at this; omega
      have hbz := hst.out.bel.size
      have HN := Lib.hid (fun (v' : Value) (w' : World) => hst.out.next (v' := v') (w' := w') h0)
      generalize hr : A.data.toList.drop (frontL A.data.toList).text.length = r at e2 HN
      have hrl : r.length < A.size := by rw [← hr, List.length_drop, ← hA]; omega
      generalize frontL A.data.toList = f at cF e1 e2 hle HN hr hfp
      generalize hn : f.text.length = n at cF e1 e2 hle hr hfp
      have R1 := run_slice_to A n (n : Int) rfl hle
      have R2 := run_slice_from A n (n : Int) rfl hle
      rw [e1] at R1
      rw [e2] at R2
      have hT : (strL r).size < A.size := by rw [strL_size]; exact hrl
      have HT : Hid ((strL r).data.toList = r) := rfl
      generalize strL r = T at R2 hT HT
      have HM := Lib.hid hm
      clear e1 e2 hr hn hle hA hpos hrl h0 hfp hm
      go_wp2_with (first
        | (go_at_call 96; with_reducible refine (cF _).mono ?_; rintro e w2 ⟨rfl, rfl⟩; clear cF)
        | (at_builtin; refine wpList_appF (by rfl) (.tmp 16) (.tmp 22) rfl rfl w.heap.size f rfl rfl hst.out.own HM.out hbz hdm ?_; intro a2 c2 w5 h2 g2; replace h2 := Lib.hid h2; replace g2 := Lib.hid g2))
      go_roundw
      case rel =>
        have hn := HN.out _ _ _ g2.out h2.out
        rw [← HT.out] at hn
        exact ⟨d ++ [f], T, m + 1, rfl, by rw [List.length_append, HM.out]; rfl, by omega, a2, c2, rfl, Lib.hid hn⟩
      case measure => exact hT
end Go.Proofs.YtdinachiiimngaaGreatDoor
namespace Go.Proofs.YtdinachiiimngaaGreatDoor.CtP
open TokP AdrP

/-- Rows by the place of the first semicolon. -/
theorem rows_at {l : List Tok} {k : Nat} {t : Tok} (hk : l[k]? = some t) (ht : isS t 59 = true) (h : ∀ i u, i < k → l[i]? = some u → isS u 59 = false) : rowsT [] l = l.take k :: rowsT [] (l.drop (k + 1)) := by
  obtain ⟨h1, h2⟩ := List.getElem?_eq_some_iff.1 hk
  have e : l = l.take k ++ t :: l.drop (k + 1) := by rw [← h2, ← List.drop_eq_getElem_cons h1, List.take_append_drop]
  have ha : ∀ u ∈ l.take k, isS u 59 = false := fun u hu => by
    obtain ⟨i, hi, rfl⟩ := List.mem_iff_getElem.1 hu
    have hi2 : i < k := by rw [List.length_take] at hi; omega
    refine h i _ hi2 ?_
    rw [List.getElem_take]
    exact List.getElem?_eq_getElem (by omega)
  have hgo : ∀ (A B now : List Tok), (∀ u ∈ A, isS u 59 = false) → rowsT now (A ++ t :: B) = (now ++ A) :: rowsT [] B := by
    intro A
    induction A with
    | nil => intro B now _; rw [List.nil_append, rowsT, if_pos ht, List.append_nil]
    | cons u A ih =>
      intro B now hA
      rw [List.cons_append, rowsT, if_neg (by rw [hA u (by simp)]; exact Bool.false_ne_true), ih B _ (fun v hv => hA v (by simp [hv])), List.append_assoc]
      rfl
  conv => lhs; rw [e]
  rw [hgo _ _ [] ha, List.nil_append]
theorem rows_not {l : List Tok} (h : ∀ u ∈ l, isS u 59 = false) : rowsT [] l = [l] := by rw [rows_end l [] h, List.nil_append]
def hasEq (t : Tok) : Bool := decide (t.kind = 1) && t.text.contains 61
theorem hasEq_iff (t : Tok) : hasEq t = true ↔ t.kind = 1 ∧ 61 ∈ t.text := by
  unfold hasEq
  rw [Bool.and_eq_true, decide_eq_true_eq, List.contains_iff_mem]
theorem pair_none (num : List UInt8 → Option Nat) : ∀ (l : List Tok) (pre : List UInt8), (∀ u ∈ l, hasEq u = false) → pairP num pre l = none
  | [], _, _ => rfl
  | t :: r, pre, h => by
    rw [pairP, if_neg (fun hc => ?_)]
    · exact pair_none num r _ (fun u hu => h u (by simp [hu]))
    · have := h t (by simp)
      rw [(hasEq_iff t).2 hc] at this
      exact absurd this (by decide)
/-- What the row's name is in the program's words, and what it gives. -/
theorem pair_at (num : List UInt8 → Option Nat) {l : List Tok} {k : Nat} {t : Tok} (hk : l[k]? = some t) (ht : hasEq t = true) (h : ∀ i u, i < k → l[i]? = some u → hasEq u = false) :
    pairP num [] l = if (joinL (l.take k) ++ upC 61 t.text) = [] then none else some (toldP num ((joinL (l.take k) ++ upC 61 t.text).map lowA) (pairV (behind 61 t.text) (l.drop (k + 1)))) := by
  obtain ⟨h1, h2⟩ := List.getElem?_eq_some_iff.1 hk
  have e : l = l.take k ++ t :: l.drop (k + 1) := by rw [← h2, ← List.drop_eq_getElem_cons h1, List.take_append_drop]
  have ha : ∀ u ∈ l.take k, hasEq u = false := fun u hu => by
    obtain ⟨i, hi, rfl⟩ := List.mem_iff_getElem.1 hu
    have hi2 : i < k := by rw [List.length_take] at hi; omega
    refine h i _ hi2 ?_
    rw [List.getElem_take]
    exact List.getElem?_eq_getElem (by omega)
  have hgo : ∀ (A B : List Tok) (pre : List UInt8), (∀ u ∈ A, hasEq u = false) → pairP num pre (A ++ t :: B) = if ((pre ++ joinL A) ++ upC 61 t.text) = [] then none else some (toldP num (((pre ++ joinL A) ++ upC 61 t.text).map lowA) (pairV (behind 61 t.text) B)) := by
    intro A
    induction A with
    | nil =>
      intro B pre _
      have hj : joinL ([] : List Tok) = [] := rfl
      rw [List.nil_append, pairP, if_pos ((hasEq_iff t).1 ht), hj, List.append_nil]
    | cons u A ih =>
      intro B pre hA
      have hj : joinL (u :: A) = u.text ++ joinL A := by unfold joinL; simp
      rw [List.cons_append, pairP, if_neg (fun hc => ?_), ih B _ (fun v hv => hA v (by simp [hv])), hj, List.append_assoc pre]
      have := hA u (by simp)
      rw [(hasEq_iff u).2 hc] at this
      exact absurd this (by decide)
  conv => lhs; rw [e]
  rw [hgo _ _ [] ha, List.nil_append]
end Go.Proofs.YtdinachiiimngaaGreatDoor.CtP
namespace Go.Proofs.YtdinachiiimngaaGreatDoor.CtP
open TokP AdrP

/-- The place of a part: its name and its section's number; -1 and -2 tell of those that are none. -/
def plcZ (p : Par) : Int := match p.sec with
  | some k => k
  | none => if p.wide = true then -1 else -2
abbrev Ent := (List UInt8 × Int) × (List UInt8 × Bool)
def getE (L : List Ent) (n : List UInt8) (z : Int) : Option (List UInt8 × Bool) := (L.find? (fun e => e.1.1 == n && e.1.2 == z)).map Prod.snd
def entP (p : Par) : Ent := ((p.name, plcZ p), (p.value, p.wide))
def putE (L : List Ent) (p : Par) : List Ent := if (getE L p.name (plcZ p)).isSome = true then L else L ++ [entP p]
def putN (l : List (List UInt8)) (p : Par) : List (List UInt8) := if p.name ∈ l then l else l ++ [p.name]
def entsL (all : List Par) : List Ent := all.foldl putE []
def namesL (all : List Par) : List (List UInt8) := all.foldl putN []
def getA (all : List Par) (n : List UInt8) (z : Int) : Option (List UInt8 × Bool) := (all.find? (fun p => p.name == n && plcZ p == z)).map (fun p => (p.value, p.wide))
theorem get_app (L : List Ent) (e : Ent) (n : List UInt8) (z : Int) : getE (L ++ [e]) n z = match getE L n z with
    | some x => some x
    | none => if (e.1.1 == n && e.1.2 == z) = true then some e.2 else none := by
  unfold getE
  rw [List.find?_append]
  cases h : L.find? (fun e => e.1.1 == n && e.1.2 == z) with
  | some x => rfl
  | none =>
    simp only [Option.none_or, Option.map_none, List.find?_cons, List.find?_nil]
    by_cases hc : (e.1.1 == n && e.1.2 == z) = true
    · rw [hc]; rfl
    · rw [Bool.not_eq_true] at hc; rw [hc]; rfl
theorem get_put (L : List Ent) (p : Par) (n : List UInt8) (z : Int) : getE (putE L p) n z = match getE L n z with
    | some x => some x
    | none => if (p.name == n && plcZ p == z) = true then some (p.value, p.wide) else none := by
  unfold putE
  by_cases h : (getE L p.name (plcZ p)).isSome = true
  · rw [if_pos h]
    cases hg : getE L n z with
    | some x => rfl
    | none =>
      show none = _
      rw [if_neg (fun hc => ?_)]
      rw [Bool.and_eq_true, beq_iff_eq, beq_iff_eq] at hc
      rw [← hc.1, ← hc.2] at hg
      rw [hg] at h
      exact absurd h (by simp)
  · rw [if_neg h, get_app]
    rfl
theorem get_fold : ∀ (all : List Par) (L : List Ent) (n : List UInt8) (z : Int), getE (all.foldl putE L) n z = match getE L n z with
    | some x => some x
    | none => getA all n z
  | [], L, n, z => by
    rw [List.foldl_nil]
    cases getE L n z <;> rfl
  | p :: all, L, n, z => by
    rw [List.foldl_cons, get_fold all, get_put]
    cases hg : getE L n z with
    | some x => rfl
    | none =>
      show (match (if (p.name == n && plcZ p == z) = true then some (p.value, p.wide) else none) with
        | some x => some x
        | none => getA all n z) = getA (p :: all) n z
      unfold getA
      rw [List.find?_cons]
      by_cases hc : (p.name == n && plcZ p == z) = true
      · rw [if_pos hc, hc]; rfl
      · rw [if_neg hc]
        rw [Bool.not_eq_true] at hc
        rw [hc]
theorem get_ents (all : List Par) (n : List UInt8) (z : Int) : getE (entsL all) n z = getA all n z := get_fold all [] n z
/-- The parts of a name: its sections up to a gap, or the one that is the whole. -/
def secsF (G : Int → Option (List UInt8 × Bool)) : Nat → Nat → List (List UInt8 × Bool)
  | 0, _ => []
  | f + 1, k => match G k with
    | none => []
    | some p => p :: secsF G f (k + 1)
def orL (l : List (List UInt8 × Bool)) (o : Option (List UInt8 × Bool)) : List (List UInt8 × Bool) := if l = [] then o.toList else l
def partsL (G : Int → Option (List UInt8 × Bool)) : List (List UInt8 × Bool) := orL (orL (secsF G 64 0) (G (-1))) (G (-2))
def bytesL (l : List (List UInt8 × Bool)) : List UInt8 := l.flatMap (fun p => if p.2 = true then pctL p.1 else p.1)
def joinedL (rep : List UInt8 → List UInt8) (dec : List UInt8 → List UInt8 → List UInt8) : List (List UInt8 × Bool) → List UInt8
  | [] => []
  | p :: r => if p.2 = true then meantP rep dec (splitQ p.1).1 (pctL (splitQ p.1).2 ++ bytesL r) else bytesL (p :: r)
theorem orL_cons (p : List UInt8 × Bool) (l : List (List UInt8 × Bool)) (o : Option (List UInt8 × Bool)) : orL (p :: l) o = p :: l := if_neg (by simp)
theorem orL_nil (o : Option (List UInt8 × Bool)) : orL [] o = o.toList := if_pos rfl
theorem joinedL_cons (rep : List UInt8 → List UInt8) (dec : List UInt8 → List UInt8 → List UInt8) (p : List UInt8 × Bool) (r : List (List UInt8 × Bool)) : joinedL rep dec (p :: r) = if p.2 = true then meantP rep dec (splitQ p.1).1 (pctL (splitQ p.1).2 ++ bytesL r) else bytesL (p :: r) := rfl
theorem bytesL_cons (p : List UInt8 × Bool) (r : List (List UInt8 × Bool)) : bytesL (p :: r) = (if p.2 = true then pctL p.1 else p.1) ++ bytesL r := by unfold bytesL; rw [List.flatMap_cons]
theorem getA_sec (all : List Par) (n : List UInt8) (k : Nat) : getA all n k = (firstP all n (some k)).map (fun p => (p.value, p.wide)) := by
  unfold getA firstP
  congr 2
  funext p
  congr 1
  unfold plcZ
  cases h : p.sec with
  | none => 
    rw [Bool.eq_iff_iff, beq_iff_eq, beq_iff_eq]
    constructor
    · intro e
      simp only at e
      split at e <;> omega
    · intro e; exact absurd e (by simp)
  | some j =>
    rw [Bool.eq_iff_iff, beq_iff_eq, beq_iff_eq]
    constructor
    · intro e
      simp only at e
      rw [show j = k by omega]
    · intro e
      rw [Option.some.inj e]
theorem getA_wide (all : List Par) (n : List UInt8) : getA all n (-1) = (all.find? (fun x => x.name == n && x.sec == none && x.wide)).map (fun p => (p.value, p.wide)) := by
  unfold getA
  congr 2
  funext p
  rw [Bool.and_assoc]
  congr 1
  unfold plcZ
  cases h : p.sec with
  | none => cases hw : p.wide <;> simp
  | some j =>
    rw [Bool.eq_iff_iff, beq_iff_eq]
    constructor
    · intro e
      simp only at e
      omega
    · intro e; exact absurd e (by simp)
theorem find_no_wide {all : List Par} {n : List UInt8} (h : all.find? (fun x => x.name == n && x.sec == none && x.wide) = none) : getA all n (-2) = (firstP all n none).map (fun p => (p.value, p.wide)) := by
  unfold getA firstP
  rw [List.find?_eq_none] at h
  induction all with
  | nil => rfl
  | cons p all ih =>
    have hp := h p (by simp)
    rw [List.find?_cons, List.find?_cons]
    have e : (p.name == n && plcZ p == -2) = (p.name == n && p.sec == none) := by
      unfold plcZ
      cases hs : p.sec with
      | none =>
        cases hw : p.wide with
        | false => simp
        | true =>
          rw [hs, hw] at hp
          cases hn : p.name == n with
          | false => simp
          | true => rw [hn] at hp; exact absurd rfl hp
      | some j =>
        have : ((j : Int) == -2) = false := by rw [beq_eq_false_iff_ne]; omega
        simp only [this]
        rfl
    rw [e]
    cases p.name == n && p.sec == none with
    | true => rfl
    | false => exact ih (fun x hx => h x (by simp [hx]))
theorem more_parts (all : List Par) (n : List UInt8) : ∀ (f k : Nat), moreP all n f k = bytesL (secsF (fun z => getA all n z) f k)
  | 0, _ => rfl
  | f + 1, k => by
    rw [moreP, secsF, getA_sec]
    cases h : firstP all n (some k) with
    | none => rfl
    | some y =>
      show (if y.wide = true then pctL y.value else y.value) ++ moreP all n f (k + 1) = bytesL ((y.value, y.wide) :: secsF _ f (k + 1))
      rw [more_parts all n f (k + 1)]
      unfold bytesL
      rw [List.flatMap_cons]
theorem value_parts (rep : List UInt8 → List UInt8) (dec : List UInt8 → List UInt8 → List UInt8) (all : List Par) (n : List UInt8) (PL : List (List UInt8 × Bool)) (hPL : partsL (fun z => getA all n z) = PL) :
    valueP rep dec all n = if PL = [] then none else some (joinedL rep dec PL) := by
  subst hPL
  unfold valueP partsL
  rw [show secsF (fun z => getA all n z) 64 0 = (match getA all n (0 : Nat) with
    | none => []
    | some p => p :: secsF (fun z => getA all n z) 63 1) from rfl, getA_sec]
  cases h0 : firstP all n (some 0) with
  | some x =>
    show some _ = if orL (orL ((x.value, x.wide) :: secsF (fun z => getA all n z) 63 1) _) _ = [] then none else some (joinedL rep dec (orL (orL ((x.value, x.wide) :: secsF (fun z => getA all n z) 63 1) _) _))
    rw [orL_cons, orL_cons, if_neg (List.cons_ne_nil _ _), joinedL_cons, bytesL_cons, more_parts]
    simp only []
    cases hw : x.wide with
    | true => simp only [if_true]
    | false => simp only [Bool.false_eq_true, if_false]
  | none =>
    have e1 := getA_wide all n
    cases h1 : all.find? (fun x => x.name == n && x.sec == none && x.wide) with
    | some x =>
      have hw : x.wide = true := by
        have := List.find?_some h1
        simp only [Bool.and_eq_true] at this
        exact this.2
      rw [h1] at e1
      show some _ = if orL (orL [] (getA all n (-1))) (getA all n (-2)) = [] then none else some (joinedL rep dec (orL (orL [] (getA all n (-1))) (getA all n (-2))))
      rw [e1]
      show some _ = if orL (orL [] (some (x.value, x.wide))) (getA all n (-2)) = [] then none else some (joinedL rep dec (orL (orL [] (some (x.value, x.wide))) (getA all n (-2))))
      rw [orL_nil]
      show some _ = if orL [(x.value, x.wide)] (getA all n (-2)) = [] then none else some (joinedL rep dec (orL [(x.value, x.wide)] (getA all n (-2))))
      rw [orL_cons, if_neg (List.cons_ne_nil _ _), joinedL_cons]
      simp only [hw, if_true]
      unfold bytesL
      rw [List.flatMap_nil, List.append_nil]
    | none =>
      rw [h1] at e1
      have e2 := find_no_wide h1
      show (firstP all n none).map Par.value = if orL (orL [] (getA all n (-1))) (getA all n (-2)) = [] then none else some (joinedL rep dec (orL (orL [] (getA all n (-1))) (getA all n (-2))))
      rw [e1, e2]
      cases h2 : firstP all n none with
      | none => rfl
      | some x =>
        have hx := List.find?_some h2
        have hw : x.wide = false := by
          rw [List.find?_eq_none] at h1
          have := h1 x (List.mem_of_find?_eq_some h2)
          rw [hx, Bool.true_and, Bool.not_eq_true] at this
          exact this
        show some x.value = if orL (orL [] none) (some (x.value, x.wide)) = [] then none else some (joinedL rep dec (orL (orL [] none) (some (x.value, x.wide))))
        rw [orL_nil]
        show some x.value = if orL [] (some (x.value, x.wide)) = [] then none else some (joinedL rep dec (orL [] (some (x.value, x.wide))))
        rw [orL_nil]
        show some x.value = if [(x.value, x.wide)] = [] then none else some (joinedL rep dec [(x.value, x.wide)])
        rw [if_neg (List.cons_ne_nil _ _), joinedL_cons, bytesL_cons]
        simp only [hw, Bool.false_eq_true, if_false]
        unfold bytesL
        rw [List.flatMap_nil, List.append_nil]
/-- The list of parameters by the names. -/
def outL (rep : List UInt8 → List UInt8) (dec : List UInt8 → List UInt8 → List UInt8) (E : List Ent) (ns : List (List UInt8)) : List (List UInt8 × List UInt8) :=
  ns.flatMap (fun n => if partsL (getE E n) = [] then [] else [(n, joinedL rep dec (partsL (getE E n)))])
theorem names_fold (V : List UInt8 → Option (List UInt8)) : ∀ (all : List Par) (ns seen : List (List UInt8)) (F : List UInt8 → List (List UInt8 × List UInt8)) (_ : ∀ n, F n = match V n with
      | some v => [(n, v)]
      | none => []) (_ : ∀ n, n ∈ ns ↔ n ∈ seen) (LG : List (List UInt8) → List Par → List (List UInt8 × List UInt8)) (_ : ∀ s, LG s [] = []) (_ : ∀ s x r, LG s (x :: r) = (if x.name ∈ s then [] else F x.name) ++ LG (x.name :: s) r),
      (all.foldl putN ns).flatMap F = ns.flatMap F ++ LG seen all
  | [], ns, seen, F, _, _, LG, h0, _ => by rw [List.foldl_nil, h0, List.append_nil]
  | p :: all, ns, seen, F, hF, hs, LG, h0, h1 => by
    rw [List.foldl_cons, h1]
    by_cases hm : p.name ∈ ns
    · have e : putN ns p = ns := if_pos hm
      rw [e, if_pos ((hs _).1 hm), List.nil_append]
      refine names_fold V all ns (p.name :: seen) F hF (fun n => ?_) LG h0 h1
      rw [List.mem_cons, ← hs]
      exact ⟨.inr, fun h => h.elim (fun e => e ▸ hm) id⟩
    · have e : putN ns p = ns ++ [p.name] := if_neg hm
      rw [e, if_neg (fun h => hm ((hs _).2 h)), names_fold V all (ns ++ [p.name]) (p.name :: seen) F hF (fun n => by rw [List.mem_append, List.mem_singleton, List.mem_cons, ← hs, or_comm]) LG h0 h1, List.flatMap_append, List.append_assoc]
      simp
theorem list_out (rep : List UInt8 → List UInt8) (dec : List UInt8 → List UInt8 → List UInt8) (all : List Par) : listG rep dec all [] all = outL rep dec (entsL all) (namesL all) := by
  have hv : ∀ n, (if partsL (getE (entsL all) n) = [] then [] else [(n, joinedL rep dec (partsL (getE (entsL all) n)))]) = (match valueP rep dec all n with
      | some v => [(n, v)]
      | none => []) := by
    intro n
    have hg : getE (entsL all) n = fun z => getA all n z := funext fun z => get_ents all n z
    rw [hg, value_parts rep dec all n _ rfl]
    by_cases h : partsL (fun z => getA all n z) = []
    · rw [if_pos h, if_pos h]
    · rw [if_neg h, if_neg h]
  have := names_fold (valueP rep dec all) all [] [] (fun n => if partsL (getE (entsL all) n) = [] then [] else [(n, joinedL rep dec (partsL (getE (entsL all) n)))]) hv (fun n => Iff.rfl) (fun s r => listG rep dec all s r) (fun s => rfl) (fun s x r => by rw [hv]; rfl)
  rw [List.flatMap_nil, List.nil_append] at this
  exact this.symm
end Go.Proofs.YtdinachiiimngaaGreatDoor.CtP
namespace Go.Proofs.YtdinachiiimngaaGreatDoor.Nu
open Go.ChangeShapes Go.WideShapes Go.ChangeAt Go.RowKit

theorem var_below {w w' : World} (hb : Below w.heap.size w w') {name : String} {v : Array Value} (h : w.var? Tryz.prog name = some v) : w'.var? Tryz.prog name = some v := by
  unfold World.var? at *
  cases hg : Tryz.prog.globalNamed name with
  | none => simp [hg] at h
  | some g =>
    simp only [hg, Option.bind_some] at h ⊢
    have hlt : g < w.heap.size := by
      rcases Nat.lt_or_ge g w.heap.size with h' | h'
      · exact h'
      · rw [Array.getElem?_eq_none h'] at h; simp at h
    rw [hb.block g hlt]
    exact h

theorem below_grow (B : Nat) (w : World) (hB : B ≤ w.heap.size) (k : Nat) (os : Array Obj) : Below B w (Sort.grow (w.drewN k) os) :=
  ⟨rfl, rfl, rfl, by simp, fun j hj => (Sort.heap_grow_old (w.drewN k) os (by simpa using Nat.lt_of_lt_of_le hj hB))⟩

/-- What the library reads of its package-level variables. -/
structure Vars (w : World) : Prop where
  tab : Lib.TabIs Tryz.prog w "internal/strconv.uint64pow10" .u64 Lib.pow10Tab
  syn : ∃ tp p, w.var? Tryz.prog "strconv.ErrSyntax" = some #[.iface tp p]
  rng : ∃ tp p, w.var? Tryz.prog "strconv.ErrRange" = some #[.iface tp p]

theorem Vars.below {w w' : World} (h : Vars w) (hb : Below w.heap.size w w') : Vars w' := by
  obtain ⟨t, ⟨a, b, s⟩, ⟨c, d, r⟩⟩ := h
  exact ⟨var_below hb t, ⟨a, b, var_below hb s⟩, ⟨c, d, var_below hb r⟩⟩


theorem text_any (n : Int) (h0 : -9223372036854775808 ≤ n) (h1 : n ≤ 9223372036854775807) (w : World) (hv : Vars w) :
    Calls Tryz.prog 23 #[.int .i64 n] w fun e w' => e = .returned (.string ⟨(Lib.itoa n).toArray⟩) ∧ Below w.heap.size w w' := by
  have ht := hv.tab
  go_enter Tryz.func23, Tryz.ntmps23
  go_wp2_with (go_at_call 51; refine (Tryz.strconv_Itoa n h0 h1 _ ht).mono ?_; rintro e w' ⟨rfl, k, os, rfl⟩)
  go_ret
  exact ⟨rfl, below_grow _ _ (Nat.le_refl _) _ _⟩
end Go.Proofs.YtdinachiiimngaaGreatDoor.Nu
namespace Go.Proofs.YtdinachiiimngaaGreatDoor.Nu
open Go.ChangeShapes Go.WideShapes Go.ChangeAt Go.RowKit

def isDig (c : UInt8) : Bool := decide (48 ≤ c.toNat ∧ c.toNat ≤ 57)
/-- Is l the canonical decimal form of an integer of any size? -/
def canL (l : List UInt8) : Bool :=
  let d := Lib.trimPrefix l [45]
  if d = [] then false else if d.head? = some 48 then decide (l = [48]) else d.all isDig

theorem run_next_any {P : Program} (w : World) (s : ByteArray) (pos : Nat) (ty : TypeId) (h : pos < s.size) :
    (Instr.next (.pointer (some ⟨w.heap.size, 0, none⟩)) true ty).run P (w.iter s pos) =
      .ok (.tuple #[.bool true, .int .i64 pos, .int .i32 ((Utf8.decode s pos).1 : Int)]) (w.iter s (pos + (Utf8.decode s pos).2)) := by
  simp only [Instr.next, getObj, setObj, Sem.run_bind, Sem.run, World.iter_heap, Result.andThen, h, if_true, World.iter_set]
  simp [goInt]

theorem decode_big (s : ByteArray) (pos : Nat) (h : pos < s.size) (ha : ¬ (s[pos]'h).toNat < 128) : 128 ≤ (Utf8.decode s pos).1 := by
  have e : s.get! (pos + 0) = s[pos]'h := by
    show s.get! pos = _
    simp [ByteArray.get!, getElem!_pos, h]
    rfl
  simp only [Utf8.decode, e, ha, if_false]
  (repeat' split) <;> first | (simp only [Utf8.runeError]; omega) | (dsimp only; omega) | (rename_i h1; simp only [Bool.and_eq_true, decide_eq_true_eq] at h1; dsimp only; omega)

/-- Where an iterator stands. -/
def iterPos (w : World) (b : Nat) : Nat := match w.heap[b]? with | some (.stringIter _ p) => p | _ => 0
theorem iterPos_iter (w : World) (s : ByteArray) (p : Nat) : iterPos (w.iter s p) w.heap.size = p := by
  unfold iterPos; rw [World.iter_heap]
theorem below_iter (w : World) (s : ByteArray) (p : Nat) : Below w.heap.size w (w.iter s p) := (Below.refl _ _).alloc (Nat.le_refl _) _
theorem mem_byte (s : ByteArray) (k : Nat) (h : k < s.size) : s[k] ∈ s.data.toList := by
  have := List.getElem_mem (l := s.data.toList) (n := k) (by simpa using h)
  exact this

theorem NH {d : ByteArray} (hpos : 0 < d.size) (hh : d.data.toList.head? = some d[0]) (h : ¬ d[0].toNat = 48) : ¬ d.data.toList.head? = some 48 := by
  rw [hh]; intro e; injection e with e; rw [e] at h; exact h rfl
theorem all_false {d : ByteArray} {p : Nat} (h : p < d.size) (hb : isDig d[p] = false) : d.data.toList.all isDig = false := by
  rw [Bool.eq_false_iff]
  intro hh
  have := List.all_eq_true.1 hh _ (mem_byte d p h)
  rw [hb] at this; cases this
theorem all_true {d : ByteArray} (hb : ∀ k (_ : k < d.size) (h : k < d.size), isDig d[k] = true) : d.data.toList.all isDig = true := by
  rw [List.all_eq_true]
  intro x hx
  obtain ⟨k, hk, rfl⟩ := List.getElem_of_mem hx
  have hk' : k < d.size := by rw [Array.length_toList] at hk; exact hk
  exact hb k hk' hk'

theorem canonical_any (s : ByteArray) (_hs : s.size ≤ 4000000) (w : World) :
    Calls Tryz.prog 149 #[.string s] w fun e w' => e = .returned (.bool (canL s.data.toList)) ∧ Below w.heap.size w w' := by
  obtain ⟨d, hd⟩ : ∃ d : ByteArray, d = ⟨(Lib.trimPrefix s.data.toList [45]).toArray⟩ := ⟨_, rfl⟩
  have hT := Tryz.strings_TrimPrefix s ⟨#[45]⟩ w
  rw [show ((⟨#[45]⟩ : ByteArray).data.toList) = [45] from rfl, ← hd] at hT
  have HT := Lib.hid hT
  have HD := Lib.hid hd
  clear hT hd
  have hcan : canL s.data.toList = if d.data.toList = [] then false else if d.data.toList.head? = some 48 then decide (s.data.toList = [48]) else d.data.toList.all isDig := by
    rw [HD.out]; rfl
  have HC := Lib.hid hcan
  clear hcan
  by_cases h0 : d.size = 0
  · have e0 : d.data.toList = [] := List.eq_nil_of_length_eq_zero (by rw [Array.length_toList]; exact h0)
    have e1 : d.toList.isEmpty = true := by rw [ByteArray.toList_eq, e0]; rfl
    have HE := Lib.hid e0
    clear e0 h0
    go_enter Tryz.func149, Tryz.ntmps149
    go_wp2_with (go_at_call 178; refine HT.out.mono ?_; rintro e w1 ⟨rfl, rfl⟩)
    go_ret
    exact ⟨by rw [HC.out, if_pos HE.out]; rfl, Below.refl _ _⟩
  · have hpos : 0 < d.size := by omega
    have hne : d.data.toList ≠ [] := List.ne_nil_of_length_pos (by rw [Array.length_toList]; exact hpos)
    have e1 : d.toList.isEmpty = false := by rw [ByteArray.toList_eq, List.isEmpty_eq_false_iff]; exact hne
    have hhd : d.data.toList.head? = some d[0] := by
      rw [List.head?_eq_getElem?, List.getElem?_eq_getElem (by rw [Array.length_toList]; exact hpos)]; rfl
    have HN := Lib.hid hne
    have HH := Lib.hid hhd
    clear hne hhd
    by_cases h48 : d[0].toNat = 48
    · have e2 : ((d[0].toNat : Int) == 48) = true := beq_iff_eq.2 (by omega)
      have H48 := Lib.hid h48
      clear h48
      go_enter Tryz.func149, Tryz.ntmps149
      go_wp2_with (go_at_call 178; refine HT.out.mono ?_; rintro e w1 ⟨rfl, rfl⟩)
      go_ret
      refine ⟨?_, Below.refl _ _⟩
      rw [HC.out, if_neg HN.out, if_pos (by rw [HH.out]; congr 1; exact UInt8.toNat_inj.1 H48.out)]
      refine congrArg (fun b => Ending.returned (.bool b)) ?_
      show (s.toList == [48]) = _
      rw [ByteArray.toList_eq, Bool.eq_iff_iff]; simp
    · have e2 : ((d[0].toNat : Int) == 48) = false := beq_eq_false_iff_ne.2 (by omega)
      have H48 := Lib.hid h48
      clear h48
      go_enter Tryz.func149, Tryz.ntmps149
      go_wp2_with (go_at_call 178; refine HT.out.mono ?_; rintro e w1 ⟨rfl, rfl⟩)
      go_loopw [5] (fun c wr => ∃ p : Nat, p ≤ d.size ∧ wr = w1.iter d p ∧ Hid (∀ k (hk : k < p) (h : k < d.size), isDig d[k] = true)) (fun c wr => d.size - iterPos wr w1.heap.size)
      case atStart => exact ⟨0, Nat.zero_le _, rfl, fun k hk => by omega⟩
      case round =>
        obtain ⟨p, hp, rfl, hall⟩ := hrel
        by_cases hlt : p < d.size
        · by_cases h128 : d[p].toNat < 128
          · have hnx := fun ty => run_next_ascii (P := Tryz.prog) w1 d p ty hlt h128
            by_cases hdig : 48 ≤ (d[p].toNat : Int) ∧ (d[p].toNat : Int) ≤ 57
            · obtain ⟨ha, hb⟩ := hdig
              go_wp2_with fail
              refine ⟨⟨p + 1, by omega, rfl, ?_⟩, by rw [iterPos_iter, iterPos_iter]; omega⟩
              intro k hk h
              by_cases he : k = p
              · subst he; simp only [isDig, decide_eq_true_eq]; omega
              · exact hall.out k (by omega) h
            · have hbad : isDig d[p] = false := by simp only [isDig, decide_eq_false_iff_not]; omega
              have HB := Lib.hid (all_false hlt hbad)
              clear hbad
              rcases (show (d[p].toNat : Int) < 48 ∨ (48 ≤ (d[p].toNat : Int) ∧ 57 < (d[p].toNat : Int)) by omega) with hx | ⟨hx, hy⟩
              all_goals
                go_wp2_with fail
                go_ret
                exact ⟨by rw [HC.out, if_neg HN.out, if_neg (NH hpos HH.out H48.out), HB.out]; rfl, below_iter _ _ _⟩
          · have hnx := fun ty => run_next_any (P := Tryz.prog) w1 d p ty hlt
            have h57 : 57 < ((Utf8.decode d p).1 : Int) := by have := decode_big d p hlt h128; omega
            have HB := Lib.hid (all_false hlt (by simp only [isDig, decide_eq_false_iff_not]; omega))
            go_wp2_with fail
            go_ret
            exact ⟨by rw [HC.out, if_neg HN.out, if_neg (NH hpos HH.out H48.out), HB.out]; rfl, below_iter _ _ _⟩
        · have hnx := fun ty => run_next_end (P := Tryz.prog) w1 d p ty hlt
          have HB := Lib.hid (all_true (d := d) (fun k _ h => hall.out k (by omega) h))
          go_wp2_with fail
          go_ret
          exact ⟨by rw [HC.out, if_neg HN.out, if_neg (NH hpos HH.out H48.out), HB.out]; rfl, below_iter _ _ _⟩
end Go.Proofs.YtdinachiiimngaaGreatDoor.Nu
namespace Go.Proofs.YtdinachiiimngaaGreatDoor.Nu
open Go.ChangeShapes Go.WideShapes Go.ChangeAt Go.RowKit

/-- The integer that l spells in canonical form. -/
def parseV (l : List UInt8) : Option Int := if canL l = true then (match Lib.atoiAll l with | .ok v => some v | _ => none) else none
/-- The same, within bounds. -/
def parseIn (l : List UInt8) (lo hi : Int) : Option Int := match parseV l with | some v => if lo ≤ v ∧ v ≤ hi then some v else none | none => none
theorem parseIn_none {l : List UInt8} {lo hi : Int} (h : parseV l = none) : parseIn l lo hi = none := by rw [parseIn, h]
theorem parseIn_some {l : List UInt8} {lo hi v : Int} (h : parseV l = some v) (h1 : lo ≤ v) (h2 : v ≤ hi) : parseIn l lo hi = some v := by
  simp only [parseIn, h]; rw [if_pos ⟨h1, h2⟩]
theorem parseIn_out {l : List UInt8} {lo hi v : Int} (h : parseV l = some v) (h1 : v < lo ∨ hi < v) : parseIn l lo hi = none := by
  simp only [parseIn, h]; rw [if_neg (by omega)]

/-- What a parse answers. -/
def Ans (o : Option Int) (e : Ending) : Prop := e = .returned (.tuple #[.int .i64 (o.getD 0), .bool o.isSome])

theorem parse_no (s : ByteArray) (lo hi : Int) (hs : s.size ≤ 4000000) (w : World) (hc : canL s.data.toList = false) :
    Calls Tryz.prog 105 #[.string s, .int .i64 lo, .int .i64 hi] w fun e w' => Ans (parseIn s.data.toList lo hi) e ∧ Below w.heap.size w w' := by
  have hp : parseIn s.data.toList lo hi = none := parseIn_none (by rw [parseV, hc]; rfl)
  rw [hp]
  have hT := canonical_any s hs w
  rw [hc] at hT
  have HT := Lib.hid hT
  clear hT hp hc
  go_enter Tryz.func105, Tryz.ntmps105
  go_wp2_with (go_at_call 149; refine HT.out.mono ?_; rintro e w1 ⟨rfl, hb⟩)
  go_ret2
  exact ⟨rfl, hb⟩
theorem bytes_below (w w' : World) (e : TypeId) (h : w' = w ∨ ∃ t, w' = Lib.bytesWorld w e t) : Below w.heap.size w w' := by
  rcases h with rfl | ⟨t, rfl⟩
  · exact Below.refl _ _
  · exact Lib.bytesWorld_below _ _ _
theorem parse_ok (s : ByteArray) (lo hi v : Int) (hs : s.size ≤ 4000000) (w : World) (hc : canL s.data.toList = true) (ha : Lib.atoiAll s.data.toList = .ok v) :
    Calls Tryz.prog 105 #[.string s, .int .i64 lo, .int .i64 hi] w fun e w' => Ans (parseIn s.data.toList lo hi) e ∧ Below w.heap.size w w' := by
  have hV : parseV s.data.toList = some v := by simp only [parseV, hc, ha, if_true]
  have hT := canonical_any s hs w
  rw [hc] at hT
  have HT := Lib.hid hT
  have HA := Lib.hid (fun W => Tryz.strconv_Atoi_ok s (by omega) v ha W)
  have HV := Lib.hid hV
  clear hT hc ha hV
  by_cases h1 : v < lo
  · have HP := Lib.hid (parseIn_out (hi := hi) HV.out (.inl h1))
    go_enter Tryz.func105, Tryz.ntmps105
    go_wp2_with (first
      | (go_at_call 149; refine HT.out.mono ?_; rintro e w1 ⟨rfl, hb⟩)
      | (go_at_call 150; refine (HA.out _).mono ?_; rintro e w2 ⟨rfl, hb2⟩))
    go_ret2
    rw [HP.out]
    exact ⟨rfl, hb.trans ((bytes_below _ _ _ hb2).mono hb.size)⟩
  · by_cases h2 : hi < v
    · have HP := Lib.hid (parseIn_out (lo := lo) HV.out (.inr h2))
      go_enter Tryz.func105, Tryz.ntmps105
      go_wp2_with (first
        | (go_at_call 149; refine HT.out.mono ?_; rintro e w1 ⟨rfl, hb⟩)
        | (go_at_call 150; refine (HA.out _).mono ?_; rintro e w2 ⟨rfl, hb2⟩))
      go_ret2
      rw [HP.out]
      exact ⟨rfl, hb.trans ((bytes_below _ _ _ hb2).mono hb.size)⟩
    · have h1' : lo ≤ v := by omega
      have h2' : v ≤ hi := by omega
      have HP := Lib.hid (parseIn_some HV.out h1' h2')
      go_enter Tryz.func105, Tryz.ntmps105
      go_wp2_with (first
        | (go_at_call 149; refine HT.out.mono ?_; rintro e w1 ⟨rfl, hb⟩)
        | (go_at_call 150; refine (HA.out _).mono ?_; rintro e w2 ⟨rfl, hb2⟩))
      go_ret2
      rw [HP.out]
      exact ⟨rfl, hb.trans ((bytes_below _ _ _ hb2).mono hb.size)⟩
theorem parse_wrong (s : ByteArray) (lo hi : Int) (hs : s.size ≤ 4000000) (w : World) (hv : Vars w) (hc : canL s.data.toList = true) (ha : Lib.atoiAll s.data.toList = Lib.atoiAll []) :
    Calls Tryz.prog 105 #[.string s, .int .i64 lo, .int .i64 hi] w fun e w' => Ans (parseIn s.data.toList lo hi) e ∧ Below w.heap.size w w' := by
  have hV : parseV s.data.toList = none := by simp only [parseV, hc, ha, if_true]; rfl
  have HP := Lib.hid (parseIn_none (lo := lo) (hi := hi) hV)
  have hT := canonical_any s hs w
  rw [hc] at hT
  have HT := Lib.hid hT
  obtain ⟨tp, p, hs2⟩ := hv.syn
  have HA := Lib.hid (fun W hW => Tryz.strconv_Atoi_syntax_var s (by omega) ha tp p W hW)
  have HS := Lib.hid hs2
  clear hT hc ha hV hs2 hv
  go_enter Tryz.func105, Tryz.ntmps105
  go_wp2_with (first
    | (go_at_call 149; refine HT.out.mono ?_; rintro e w1 ⟨rfl, hb⟩)
    | (go_at_call 150; refine (HA.out _ (var_below hb HS.out)).mono ?_; rintro e w2 ⟨N, rfl, _, _, hb2⟩))
  go_ret2
  rw [HP.out]
  exact ⟨rfl, hb.trans (hb2.mono hb.size)⟩
theorem parse_range (s : ByteArray) (lo hi : Int) (hs : s.size ≤ 4000000) (w : World) (hv : Vars w) (hc : canL s.data.toList = true) (ha : Lib.atoiAll s.data.toList = .range) :
    Calls Tryz.prog 105 #[.string s, .int .i64 lo, .int .i64 hi] w fun e w' => Ans (parseIn s.data.toList lo hi) e ∧ Below w.heap.size w w' := by
  have hV : parseV s.data.toList = none := by simp only [parseV, hc, ha, if_true]
  have HP := Lib.hid (parseIn_none (lo := lo) (hi := hi) hV)
  have hT := canonical_any s hs w
  rw [hc] at hT
  have HT := Lib.hid hT
  obtain ⟨tp, p, hs2⟩ := hv.rng
  have HA := Lib.hid (fun W hW => Tryz.strconv_Atoi_range_var s (by omega) ha tp p W hW)
  have HS := Lib.hid hs2
  clear hT hc ha hV hs2 hv
  go_enter Tryz.func105, Tryz.ntmps105
  go_wp2_with (first
    | (go_at_call 149; refine HT.out.mono ?_; rintro e w1 ⟨rfl, hb⟩)
    | (go_at_call 150; refine (HA.out _ (var_below hb HS.out)).mono ?_; rintro e w2 ⟨N, rfl, _, _, hb2⟩))
  go_ret2
  rw [HP.out]
  exact ⟨rfl, hb.trans (hb2.mono hb.size)⟩
theorem parse_any (s : ByteArray) (lo hi : Int) (hs : s.size ≤ 4000000) (w : World) (hv : Vars w) :
    Calls Tryz.prog 105 #[.string s, .int .i64 lo, .int .i64 hi] w fun e w' => Ans (parseIn s.data.toList lo hi) e ∧ Below w.heap.size w w' := by
  cases hc : canL s.data.toList with
  | false => exact parse_no s lo hi hs w hc
  | true =>
    cases ha : Lib.atoiAll s.data.toList with
    | ok v => exact parse_ok s lo hi v hs w hc ha
    | range => exact parse_range s lo hi hs w hv hc ha
    | _ => exact parse_wrong s lo hi hs w hv hc ha
end Go.Proofs.YtdinachiiimngaaGreatDoor.Nu
namespace Go.Proofs.YtdinachiiimngaaGreatDoor
open Go.ChangeShapes Go.WideShapes Go.ChangeAt Go.RowKit

/-! ### The builder that a call has made -/
theorem below_own {w w' : World} {base : Nat} {e : TypeId} {size : Nat} {v : Value} {n : Nat} {xs : List Value} (h : w.ownsRow base e size v n xs) (hb : Below w.heap.size w w') : w'.ownsRow base e size v n xs := by
  refine ⟨h.1, ?_⟩
  rcases h.2 with h1 | ⟨g, cap, cur, rfl, hbg, hg, rest⟩
  · exact .inl h1
  · refine .inr ⟨g, cap, cur, rfl, hbg, ?_, rest⟩
    rw [hb.block g (Array.getElem?_eq_some_iff.1 hg).1]
    exact hg
/-- The strings.Builder in block b holds l. -/
def Bd (w : World) (b : Nat) (l : List UInt8) : Prop := Lib.IsBuilder 61 5 b b (Lib.byteCells l) w
theorem Bd.lt {w : World} {b : Nat} {l : List UInt8} (h : Bd w b l) : b < w.heap.size := h.elim (fun x => x.lt) (fun x => x.lt)
theorem built_below {T e : TypeId} {B b : Nat} {p : Value} {bs : List Value} {w w' : World} (h : Lib.BuilderAt T e B b p bs w) (hb : Below w.heap.size w w') : Lib.BuilderAt T e B b p bs w' := by
  have hlt := h.lt
  obtain ⟨hB, v, hk, hown, hne⟩ := h
  exact ⟨hB, v, by rw [hb.block b hlt]; exact hk, below_own hown hb, hne⟩
theorem Bd.below {w w' : World} {b : Nat} {l : List UInt8} (h : Bd w b l) (hb : Below w.heap.size w w') : Bd w' b l := h.elim (fun x => .inl (built_below x hb)) (fun x => .inr (built_below x hb))
theorem Bd.alloc {w : World} {b : Nat} {l : List UInt8} (h : Bd w b l) (o : Obj) : Bd (w.alloc o) b l := h.below ((Below.refl _ _).alloc (Nat.le_refl _) _)
theorem Bd.drew {w : World} {b : Nat} {l : List UInt8} (h : Bd w b l) : Bd w.drew b l := h.below (Below.refl _ _).drew
theorem bd_new {w : World} {b : Nat} (h : w.heap[b]? = some (.cells #[.pointer none, .slice none 0 0] 61 (0, 0))) : Bd w b [] :=
  .inl ⟨Nat.le_refl _, .slice none 0 0, h, ⟨rfl, .inl ⟨rfl, rfl⟩⟩, by simp [Value.ownBlock]⟩
theorem byteCells_str (s : ByteArray) : Lib.strCells s = Lib.byteCells s.data.toList := rfl
theorem bd_str (s : ByteArray) (b : Nat) (l : List UInt8) (w : World) (h : Bd w b l) (hlen : l.length + s.size ≤ 140737488355328) :
    Calls Tryz.prog 42 #[.pointer (some ⟨b, 0, none⟩), .string s] w fun e w' => e = .returned (.tuple #[.int .i64 s.size, .nilIface]) ∧ Bd w' b (l ++ s.data.toList) ∧ Below b w w' := by
  refine (Tryz.Builder_WriteString b b (Lib.byteCells l) s w h (by rw [Lib.byteCells_length]; exact hlen) (Nat.le_of_lt h.lt)).mono fun e w' hh => ⟨hh.1, ?_, hh.2.2⟩
  have := hh.2.1
  rw [byteCells_str, ← Lib.byteCells_append] at this
  exact .inr this
theorem bd_byte (c : UInt8) (b : Nat) (l : List UInt8) (w : World) (h : Bd w b l) (hlen : l.length + 1 ≤ 140737488355328) :
    Calls Tryz.prog 80 #[.pointer (some ⟨b, 0, none⟩), .int .u8 c.toNat] w fun e w' => e = .returned .nilIface ∧ Bd w' b (l ++ [c]) ∧ Below b w w' := by
  refine (Tryz.Builder_WriteByte b b (Lib.byteCells l) c.toNat w h (by rw [Lib.byteCells_length]; exact hlen) (Nat.le_of_lt h.lt)).mono fun e w' hh => ⟨hh.1, ?_, hh.2.2⟩
  have := hh.2.1
  rw [show [Value.int .u8 (c.toNat : Int)] = Lib.byteCells [c] from rfl, ← Lib.byteCells_append] at this
  exact .inr this
theorem bd_out (b : Nat) (l : List UInt8) (w : World) (h : Bd w b l) :
    Calls Tryz.prog 44 #[.pointer (some ⟨b, 0, none⟩)] w fun e w' => e = .returned (.string (strL l)) ∧ Below b w w' :=
  (Tryz.Builder_String_any b b l w h (Nat.le_of_lt h.lt)).mono fun _ _ hh => ⟨hh.1, hh.2⟩
end Go.Proofs.YtdinachiiimngaaGreatDoor
namespace Go.Proofs.YtdinachiiimngaaGreatDoor
open Go.ChangeShapes Go.WideShapes Go.ChangeAt Go.RowKit
open TokP

theorem bd_first (w : World) : Bd (w.alloc (.cells #[.pointer none, .slice none 0 0] 61)) w.heap.size [] := bd_new (World.alloc_heap_new w _)
end Go.Proofs.YtdinachiiimngaaGreatDoor
namespace Go.Proofs.YtdinachiiimngaaGreatDoor
open Go.ChangeShapes Go.WideShapes Go.ChangeAt Go.RowKit

/-- The strings.Builder in block b holds l. -/
def Bk (w : World) (b : Nat) (l : List UInt8) : Prop := Lib.IsBuilderF 61 5 b b (Lib.byteCells l) w
theorem bk_lt {w : World} {b : Nat} {l : List UInt8} (h : Bk w b l) : b < w.heap.size := h.elim (fun x => x.lt) (fun x => x.lt)
theorem bk_new (w : World) : Bk (w.alloc (.cells #[.pointer none, .slice none 0 0] 61)) w.heap.size [] := Lib.IsBuilderF.of (bd_first w)
theorem ownF_below {w w' : World} {base : Nat} {e : TypeId} {size : Nat} {v : Value} {n : Nat} {xs : List Value} (h : w.ownsRowF base e size v n xs) (hb : Below w.heap.size w w') : w'.ownsRowF base e size v n xs := by
  refine ⟨h.1, ?_⟩
  rcases h.2 with h1 | ⟨g, cap, cur, fz, rfl, hbg, hg, rest⟩
  · exact .inl h1
  · refine .inr ⟨g, cap, cur, fz, rfl, hbg, ?_, rest⟩
    rw [hb.block g (Array.getElem?_eq_some_iff.1 hg).1]
    exact hg
theorem builtF_below {T e : TypeId} {B b : Nat} {p : Value} {bs : List Value} {w w' : World} (h : Lib.BuilderAtF T e B b p bs w) (hb : Below w.heap.size w w') : Lib.BuilderAtF T e B b p bs w' := by
  have hlt := h.lt
  obtain ⟨hB, v, hk, hown, hne⟩ := h
  exact ⟨hB, v, by rw [hb.block b hlt]; exact hk, ownF_below hown hb, hne⟩
theorem Bk.below {w w' : World} {b : Nat} {l : List UInt8} (h : Bk w b l) (hb : Below w.heap.size w w') : Bk w' b l := h.elim (fun x => .inl (builtF_below x hb)) (fun x => .inr (builtF_below x hb))
theorem Bk.alloc {w : World} {b : Nat} {l : List UInt8} (h : Bk w b l) (o : Obj) : Bk (w.alloc o) b l := h.below ((Below.refl _ _).alloc (Nat.le_refl _) _)
theorem bk_str (s : ByteArray) (b : Nat) (l : List UInt8) (w : World) (h : Bk w b l) (hlen : l.length + s.size ≤ 140737488355328) :
    Calls Tryz.prog 42 #[.pointer (some ⟨b, 0, none⟩), .string s] w fun e w' => e = .returned (.tuple #[.int .i64 s.size, .nilIface]) ∧ Bk w' b (l ++ s.data.toList) ∧ Below b w w' ∧ Lib.OthersKept 5 (some b) w w' := by
  refine (Tryz.Builder_WriteString_k b b (Lib.byteCells l) s w h (by rw [Lib.byteCells_length]; exact hlen) (Nat.le_of_lt (bk_lt h))).mono fun e w' hh => ⟨hh.1, ?_, hh.2.2⟩
  have := hh.2.1
  rw [show Lib.strCells s = Lib.byteCells s.data.toList from rfl, ← Lib.byteCells_append] at this
  exact .inr this
theorem bk_byte (c : UInt8) (x : Int) (hx : (c.toNat : Int) = x) (b : Nat) (l : List UInt8) (w : World) (h : Bk w b l) (hlen : l.length + 1 ≤ 140737488355328) :
    Calls Tryz.prog 80 #[.pointer (some ⟨b, 0, none⟩), .int .u8 x] w fun e w' => e = .returned .nilIface ∧ Bk w' b (l ++ [c]) ∧ Below b w w' ∧ Lib.OthersKept 5 (some b) w w' := by
  subst hx
  refine (Tryz.Builder_WriteByte_k b b (Lib.byteCells l) c.toNat w h (by rw [Lib.byteCells_length]; exact hlen) (Nat.le_of_lt (bk_lt h))).mono fun e w' hh => ⟨hh.1, ?_, hh.2.2⟩
  have := hh.2.1
  rw [show [Value.int .u8 (c.toNat : Int)] = Lib.byteCells [c] from rfl, ← Lib.byteCells_append] at this
  exact .inr this
theorem bk_out (b : Nat) (l : List UInt8) (w : World) (h : Bk w b l) :
    Calls Tryz.prog 44 #[.pointer (some ⟨b, 0, none⟩)] w fun e w' => e = .returned (.string (strL l)) ∧ Below b w w' :=
  (Tryz.Builder_String_any_k b b l w h (Nat.le_of_lt (bk_lt h))).mono fun _ _ hh => ⟨hh.1, hh.2.2.1⟩
/-- A cell of an object that holds no single bytes and is not the builder's stays. -/
theorem cell_others {w w' : World} {b g o : Nat} {cs : Array Value} {t : TypeId} {fz : Nat × Nat} {v : Value} (hg : w.heap[g]? = some (.cells cs t fz)) (hk : Lib.OthersKept 5 (some b) w w') (hne : g ≠ b) (ht : t ≠ 5) (h : w.cell? ⟨g, o, none⟩ = some v) : w'.cell? ⟨g, o, none⟩ = some v := by
  have := hk g _ hg (by simp; exact hne) (fun c fz' e => by injection e with _ e _; exact ht e)
  rw [World.cell?_of_block (w := w) (this.trans hg.symm)]
  exact h
end Go.Proofs.YtdinachiiimngaaGreatDoor
