/- prefix: how many bytes at the start belong, white space and atom bytes. first: the kind and the length of the first token. Scan: the tokens of a string, one by one. Bare: the tokens that are neither white space nor comments. The reference's Bare. Mail addresses, of no program: what is written is read back; message ids. -/
import Derived.Test.YtdinachiiimngaaGreatDoorK1
import Derived.RangeFuncRecord
namespace Go.Proofs.YtdinachiiimngaaGreatDoor
open Go.ChangeShapes Go.WideShapes Go.ChangeAt Go.RowKit

theorem while_at (p : UInt8 → Bool) (l : List UInt8) (k : Nat) (c : UInt8) (h : l[k]? = some c) : (l.drop k).takeWhile p = if p c = true then c :: (l.drop (k + 1)).takeWhile p else [] := by
  obtain ⟨h1, h2⟩ := List.getElem?_eq_some_iff.1 h
  rw [List.drop_eq_getElem_cons h1, h2, List.takeWhile_cons]
theorem while_more (p : UInt8 → Bool) (l : List UInt8) (k : Nat) (c : UInt8) (h : l[k]? = some c) (hp : p c = true) (he : (l.takeWhile p).length = k + ((l.drop k).takeWhile p).length) :
    (l.takeWhile p).length = k + 1 + ((l.drop (k + 1)).takeWhile p).length := by
  rw [while_at p l k c h, if_pos hp, List.length_cons] at he
  omega
theorem while_stop (p : UInt8 → Bool) (l : List UInt8) (k : Nat) (c : UInt8) (h : l[k]? = some c) (hp : p c = false) (he : (l.takeWhile p).length = k + ((l.drop k).takeWhile p).length) : (l.takeWhile p).length = k := by
  rw [while_at p l k c h, if_neg (by rw [hp]; exact Bool.false_ne_true), List.length_nil] at he
  omega
theorem while_end (p : UInt8 → Bool) (l : List UInt8) (k : Nat) (h : l.length ≤ k) (he : (l.takeWhile p).length = k + ((l.drop k).takeWhile p).length) : (l.takeWhile p).length = k := by
  rw [List.drop_eq_nil_of_le h, List.takeWhile_nil, List.length_nil] at he
  omega
set_option maxHeartbeats 1000000 in
theorem pre_white (s : ByteArray) (hs : s.size ≤ 4000000) (w : World) :
    Calls Tryz.prog 137 #[.string s, .func (.func 136) #[] #[]] w fun e w' => e = .returned (.int .i64 ((s.data.toList.takeWhile TokP.blank).length : Nat)) ∧ w = w' := by
  obtain ⟨n, hn⟩ : ∃ n, s.size = n := ⟨_, rfl⟩
  have HL := Lib.hid (size_list s)
  rw [hn] at hs
  have HN := Lib.hid hn
  clear hn
  go_enter Tryz.func137, Tryz.ntmps137
  have hn : s.size = n := HN.out
  go_wp2_with fail
  clear hn
  go_loopw [8] (fun i wr => ∃ k : Nat, k ≤ n ∧ i = .int .i64 k ∧ wr = w ∧ Hid ((s.data.toList.takeWhile TokP.blank).length = k + ((s.data.toList.drop k).takeWhile TokP.blank).length)) (fun i _ => n - (intOf i).toNat)
  case atStart => exact ⟨0, Nat.zero_le _, rfl, rfl, by show _ = _; rw [List.drop_zero, Nat.zero_add]⟩
  case round =>
    obtain ⟨k, hk, rfl, rfl, HS⟩ := hrel
    have F1 : IntKind.i64.wrap ((k : Int) + 1) = (k : Int) + 1 := by rw [IntKind.wrap_i64]; omega
    by_cases hlt : k < n
    · have hlt' : (k : Int) < (n : Int) := by omega
      obtain ⟨c, x, hc, hx, hx2, S1⟩ := run_byte s k (by rw [HN.out]; exact hlt)
      have cB := isWhite_any c x hx
      by_cases hp : TokP.blank c = true
      · have HS2 := Lib.hid (while_more _ _ k c hc hp HS.out)
        rw [hp] at cB
        clear hp hc hx hx2 HS HL HN
        go_wp2_with (go_at_call 136; refine (cB _).mono ?_; rintro e w' ⟨rfl, rfl⟩)
        go_roundw
        case rel => exact ⟨k + 1, by omega, by go_num, trivial, HS2⟩
        case measure => simp [intOf]; omega
      · have hp' : TokP.blank c = false := by simpa using hp
        have HS2 := Lib.hid (while_stop _ _ k c hc hp' HS.out)
        rw [hp'] at cB
        clear hp hp' hc hx hx2 HS HL HN
        go_wp2_with (go_at_call 136; refine (cB _).mono ?_; rintro e w' ⟨rfl, rfl⟩)
        go_ret
        exact ⟨by rw [HS2.out]; rfl, rfl⟩
    · have HS2 := Lib.hid (while_end _ _ k (by rw [← HL.out, HN.out]; omega) HS.out)
      obtain rfl : k = n := by omega
      have hlt' : ¬ (k : Int) < (k : Int) := by omega
      have hn : s.size = k := HN.out
      clear HS HL HN
      go_wp2_with fail
      go_ret
      exact ⟨by rw [HS2.out]; rfl, rfl⟩
set_option maxHeartbeats 1000000 in
theorem pre_atom (s : ByteArray) (hs : s.size ≤ 4000000) (w : World) :
    Calls Tryz.prog 137 #[.string s, .func (.func 140) #[] #[]] w fun e w' => e = .returned (.int .i64 ((s.data.toList.takeWhile TokP.atomB).length : Nat)) ∧ w = w' := by
  obtain ⟨n, hn⟩ : ∃ n, s.size = n := ⟨_, rfl⟩
  have HL := Lib.hid (size_list s)
  rw [hn] at hs
  have HN := Lib.hid hn
  clear hn
  go_enter Tryz.func137, Tryz.ntmps137
  have hn : s.size = n := HN.out
  go_wp2_with fail
  clear hn
  go_loopw [8] (fun i wr => ∃ k : Nat, k ≤ n ∧ i = .int .i64 k ∧ wr = w ∧ Hid ((s.data.toList.takeWhile TokP.atomB).length = k + ((s.data.toList.drop k).takeWhile TokP.atomB).length)) (fun i _ => n - (intOf i).toNat)
  case atStart => exact ⟨0, Nat.zero_le _, rfl, rfl, by show _ = _; rw [List.drop_zero, Nat.zero_add]⟩
  case round =>
    obtain ⟨k, hk, rfl, rfl, HS⟩ := hrel
    have F1 : IntKind.i64.wrap ((k : Int) + 1) = (k : Int) + 1 := by rw [IntKind.wrap_i64]; omega
    by_cases hlt : k < n
    · have hlt' : (k : Int) < (n : Int) := by omega
      obtain ⟨c, x, hc, hx, hx2, S1⟩ := run_byte s k (by rw [HN.out]; exact hlt)
      have cB := isAtom_any c x hx
      by_cases hp : TokP.atomB c = true
      · have HS2 := Lib.hid (while_more _ _ k c hc hp HS.out)
        rw [hp] at cB
        clear hp hc hx hx2 HS HL HN
        go_wp2_with (go_at_call 140; refine (cB _).mono ?_; rintro e w' ⟨rfl, rfl⟩)
        go_roundw
        case rel => exact ⟨k + 1, by omega, by go_num, trivial, HS2⟩
        case measure => simp [intOf]; omega
      · have hp' : TokP.atomB c = false := by simpa using hp
        have HS2 := Lib.hid (while_stop _ _ k c hc hp' HS.out)
        rw [hp'] at cB
        clear hp hp' hc hx hx2 HS HL HN
        go_wp2_with (go_at_call 140; refine (cB _).mono ?_; rintro e w' ⟨rfl, rfl⟩)
        go_ret
        exact ⟨by rw [HS2.out]; rfl, rfl⟩
    · have HS2 := Lib.hid (while_end _ _ k (by rw [← HL.out, HN.out]; omega) HS.out)
      obtain rfl : k = n := by omega
      have hlt' : ¬ (k : Int) < (k : Int) := by omega
      have hn : s.size = k := HN.out
      clear HS HL HN
      go_wp2_with fail
      go_ret
      exact ⟨by rw [HS2.out]; rfl, rfl⟩
end Go.Proofs.YtdinachiiimngaaGreatDoor
namespace Go.Proofs.YtdinachiiimngaaGreatDoor
open Go.ChangeShapes Go.WideShapes Go.ChangeAt Go.RowKit
open TokP

theorem encl_len (K : Int) (c : UInt8) (t : List UInt8) (n : Nat) (hn : n = (c :: t).length) (hK : (kindO c : Int) = K) (hb : ¬ TokP.blank c = true) (ho : opens c = true) :
    enclV K n (closeS (closer c) (c == 40) false 0 t) = .tuple #[.int .i64 ((frontL (c :: t)).kind : Nat), .int .i64 ((frontL (c :: t)).text.length : Nat)] := by
  rw [frontL, if_neg hb, if_pos ho]
  unfold closeL
  cases h : closeS (closer c) (c == 40) false 0 t with
  | none => rw [hn]; rfl
  | some m =>
    have := (close_le _ _ t _ _ m h).2
    show Value.tuple #[.int .i64 K, .int .i64 ((m : Int) + 1)] = .tuple #[.int .i64 (kindO c : Nat), .int .i64 ((c :: t.take m).length : Nat)]
    rw [hK, List.length_cons, List.length_take, Nat.min_eq_left this]
    rfl
theorem opens_cases (c : UInt8) : opens c = true → c = 40 ∨ c = 34 ∨ c = 91 := by
  unfold opens
  simp only [Bool.or_eq_true, beq_iff_eq]
  rintro ((h | h) | h)
  · exact .inl h
  · exact .inr (.inl h)
  · exact .inr (.inr h)
set_option maxHeartbeats 2000000 in
theorem first_any (s : ByteArray) (hs : s.size ≤ 4000000) (h0 : 0 < s.size) (w : World) :
    Calls Tryz.prog 96 #[.string s] w fun e w' => e = .returned (.tuple #[.int .i64 ((frontL s.data.toList).kind : Nat), .int .i64 ((frontL s.data.toList).text.length : Nat)]) ∧ w = w' := by
  obtain ⟨c, x, t, hl, hx, hx2, S1⟩ := run_byte0 s h0
  have cW := isWhite_any c x hx
  have cS := isSpecial_any c x hx
  have cA := isAtom_any c x hx
  have e40 := byte_is c x hx 40 (by decide)
  have e34 := byte_is c x hx 34 (by decide)
  have e91 := byte_is c x hx 91 (by decide)
  rw [show ((40 : Nat) : Int) = 40 from rfl] at e40
  rw [show ((34 : Nat) : Int) = 34 from rfl] at e34
  rw [show ((91 : Nat) : Int) = 91 from rfl] at e91
  have hsz : s.size = (c :: t).length := by rw [size_list, hl]
  by_cases hw : TokP.blank c = true
  · have cP := pre_white s hs
    rw [hl] at cP
    have HF : Hid (frontL s.data.toList = ⟨6, (c :: t).takeWhile TokP.blank⟩) := by
      show _ = _
      rw [hl, frontL, if_pos hw]
    generalize ((c :: t).takeWhile TokP.blank) = u at cP HF
    rw [hw] at cW
    clear hw hsz hl hx hx2 cS cA e40 e34 e91 hs h0
    go_enter Tryz.func96, Tryz.ntmps96
    go_wp2_with (first
      | (go_at_call 136; refine (cW _).mono ?_; rintro e w1 ⟨rfl, rfl⟩)
      | (go_at_call 137; refine (cP _).mono ?_; rintro e w2 ⟨rfl, rfl⟩))
    go_ret2
    exact ⟨by rw [HF.out]; rfl, rfl⟩
  · have hw' : TokP.blank c = false := by simpa using hw
    rw [hw'] at cW
    by_cases h40 : c = 40
    · rw [show decide (c = UInt8.ofNat 40) = true from decide_eq_true h40] at e40
      have cE := encl_any s hs 3 41 41 true rfl rfl (by decide) (by decide) _ rfl
      rw [hl, show (c :: t).drop 1 = t from rfl] at cE
      have HF := Lib.hid (encl_len 3 c t _ hsz (by rw [h40]; rfl) hw (by rw [h40]; rfl))
      rw [show (c == 40) = true by rw [h40]; rfl, show closer c = 41 by rw [h40]; rfl, ← hl] at HF
      have HE : ∀ w, Calls Tryz.prog 138 #[.string s, .int .i64 3, .int .u8 41] w fun e w' => e = .returned (.tuple #[.int .i64 ((frontL s.data.toList).kind : Nat), .int .i64 ((frontL s.data.toList).text.length : Nat)]) ∧ w = w' := by
        intro w
        rw [← HF.out]
        exact cE w
      clear cE HF hsz hl hx hx2 cS cA h40 e34 e91 hs h0 hw hw'
      generalize frontL s.data.toList = T at HE ⊢
      go_enter Tryz.func96, Tryz.ntmps96
      go_wp2_with (first
        | (go_at_call 136; refine (cW _).mono ?_; rintro e w1 ⟨rfl, rfl⟩)
        | (go_at_call 138; refine (HE _).mono ?_; rintro e w2 ⟨rfl, rfl⟩))
      go_ret2
      exact ⟨rfl, rfl⟩
    · rw [show decide (c = UInt8.ofNat 40) = false from decide_eq_false h40] at e40
      by_cases h34 : c = 34
      · rw [show decide (c = UInt8.ofNat 34) = true from decide_eq_true h34] at e34
        have cE := encl_any s hs 2 34 34 false rfl rfl (by decide) (by decide) _ rfl
        rw [hl, show (c :: t).drop 1 = t from rfl] at cE
        have HF := Lib.hid (encl_len 2 c t _ hsz (by rw [h34]; rfl) hw (by rw [h34]; rfl))
        rw [show (c == 40) = false by rw [h34]; rfl, show closer c = 34 by rw [h34]; rfl, ← hl] at HF
        have HE : ∀ w, Calls Tryz.prog 138 #[.string s, .int .i64 2, .int .u8 34] w fun e w' => e = .returned (.tuple #[.int .i64 ((frontL s.data.toList).kind : Nat), .int .i64 ((frontL s.data.toList).text.length : Nat)]) ∧ w = w' := by
          intro w
          rw [← HF.out]
          exact cE w
        clear cE HF hsz hl hx hx2 cS cA h40 h34 e91 hs h0 hw hw'
        generalize frontL s.data.toList = T at HE ⊢
        go_enter Tryz.func96, Tryz.ntmps96
        go_wp2_with (first
          | (go_at_call 136; refine (cW _).mono ?_; rintro e w1 ⟨rfl, rfl⟩)
          | (go_at_call 138; refine (HE _).mono ?_; rintro e w2 ⟨rfl, rfl⟩))
        go_ret2
        exact ⟨rfl, rfl⟩
      · rw [show decide (c = UInt8.ofNat 34) = false from decide_eq_false h34] at e34
        by_cases h91 : c = 91
        · rw [show decide (c = UInt8.ofNat 91) = true from decide_eq_true h91] at e91
          have cE := encl_any s hs 5 93 93 false rfl rfl (by decide) (by decide) _ rfl
          rw [hl, show (c :: t).drop 1 = t from rfl] at cE
          have HF := Lib.hid (encl_len 5 c t _ hsz (by rw [h91]; rfl) hw (by rw [h91]; rfl))
          rw [show (c == 40) = false by rw [h91]; rfl, show closer c = 93 by rw [h91]; rfl, ← hl] at HF
          have HE : ∀ w, Calls Tryz.prog 138 #[.string s, .int .i64 5, .int .u8 93] w fun e w' => e = .returned (.tuple #[.int .i64 ((frontL s.data.toList).kind : Nat), .int .i64 ((frontL s.data.toList).text.length : Nat)]) ∧ w = w' := by
            intro w
            rw [← HF.out]
            exact cE w
          clear cE HF hsz hl hx hx2 cS cA h40 h34 h91 hs h0 hw hw'
          generalize frontL s.data.toList = T at HE ⊢
          go_enter Tryz.func96, Tryz.ntmps96
          go_wp2_with (first
            | (go_at_call 136; refine (cW _).mono ?_; rintro e w1 ⟨rfl, rfl⟩)
            | (go_at_call 138; refine (HE _).mono ?_; rintro e w2 ⟨rfl, rfl⟩))
          go_ret2
          exact ⟨rfl, rfl⟩
        · rw [show decide (c = UInt8.ofNat 91) = false from decide_eq_false h91] at e91
          have ho : ¬ opens c = true := fun e => by
            rcases opens_cases c e with e | e | e
            · exact h40 e
            · exact h34 e
            · exact h91 e
          by_cases hsp : special c = true
          · have HF : Hid (frontL s.data.toList = ⟨4, [c]⟩) := by
              show _ = _
              rw [hl, frontL, if_neg hw, if_neg ho, if_pos hsp]
            rw [hsp] at cS
            clear hsz hl hx hx2 cA h40 h34 h91 hs h0 hw hw' ho hsp
            go_enter Tryz.func96, Tryz.ntmps96
            go_wp2_with (first
              | (go_at_call 136; refine (cW _).mono ?_; rintro e w1 ⟨rfl, rfl⟩)
              | (go_at_call 139; refine (cS _).mono ?_; rintro e w2 ⟨rfl, rfl⟩))
            go_ret2
            exact ⟨by rw [HF.out]; rfl, rfl⟩
          · have hsp' : special c = false := by simpa using hsp
            rw [hsp'] at cS
            by_cases ha : atomB c = true
            · have cP := pre_atom s hs
              rw [hl] at cP
              have HF : Hid (frontL s.data.toList = ⟨1, (c :: t).takeWhile atomB⟩) := by
                show _ = _
                rw [hl, frontL, if_neg hw, if_neg ho, if_neg hsp, if_pos ha]
              generalize ((c :: t).takeWhile atomB) = u at cP HF
              rw [ha] at cA
              clear hsz hl hx hx2 h40 h34 h91 hs h0 hw hw' ho hsp hsp' ha
              go_enter Tryz.func96, Tryz.ntmps96
              go_wp2_with (first
                | (go_at_call 136; refine (cW _).mono ?_; rintro e w1 ⟨rfl, rfl⟩)
                | (go_at_call 139; refine (cS _).mono ?_; rintro e w2 ⟨rfl, rfl⟩)
                | (go_at_call 140; refine (cA _).mono ?_; rintro e w2 ⟨rfl, rfl⟩)
                | (go_at_call 137; refine (cP _).mono ?_; rintro e w2 ⟨rfl, rfl⟩))
              go_ret2
              exact ⟨by rw [HF.out]; rfl, rfl⟩
            · have ha' : atomB c = false := by simpa using ha
              have HF : Hid (frontL s.data.toList = ⟨7, [c]⟩) := by
                show _ = _
                rw [hl, frontL, if_neg hw, if_neg ho, if_neg hsp, if_neg ha]
              rw [ha'] at cA
              clear hsz hl hx hx2 h40 h34 h91 hs h0 hw hw' ho hsp hsp' ha ha'
              go_enter Tryz.func96, Tryz.ntmps96
              go_wp2_with (first
                | (go_at_call 136; refine (cW _).mono ?_; rintro e w1 ⟨rfl, rfl⟩)
                | (go_at_call 139; refine (cS _).mono ?_; rintro e w2 ⟨rfl, rfl⟩)
                | (go_at_call 140; refine (cA _).mono ?_; rintro e w2 ⟨rfl, rfl⟩))
              go_ret2
              exact ⟨by rw [HF.out]; rfl, rfl⟩
end Go.Proofs.YtdinachiiimngaaGreatDoor
namespace Go.Proofs.YtdinachiiimngaaGreatDoor
open Go.ChangeShapes Go.WideShapes Go.ChangeAt Go.RowKit
open TokP

set_option maxHeartbeats 1000000 in
theorem clone_any (s : ByteArray) (w : World) (hs : s.size ≤ 4000000) : Calls Tryz.prog 41 #[.string s] w fun e w' => e = .returned (.string s) ∧ Below w.heap.size w w' := by
  have cC := Tryz.stringslite_Clone s w (by omega)
  go_enter Tryz.func41, Tryz.ntmps41
  go_wp2_with (go_at_call 76; refine cC.mono ?_; rintro e w' ⟨rfl, hb⟩)
  go_ret
  exact ⟨rfl, hb⟩
theorem front_take (l : List UInt8) : l.take (frontL l).text.length = (frontL l).text := by
  have h := front_pre l
  have h2 : l.take (frontL l).text.length = ((frontL l).text ++ l.drop (frontL l).text.length).take (frontL l).text.length := by rw [h]
  rw [h2, List.take_left' rfl]
/-- What is left of the string, and the tokens that have been read. -/
structure Sc (w0 w : World) (L S : List UInt8) (d : List Tok) (v : Value) (m : Nat) : Prop where
  all : d ++ scanL S = scanL L
  few : d.length + S.length ≤ m
  bel : Below w0.heap.size w0 w
  own : w.ownsRow w0.heap.size 89 2 v d.length (toksV d)
theorem Sc.step {w0 w w' : World} {L S : List UInt8} {d : List Tok} {v : Value} {m : Nat} (h : Sc w0 w L S d v m) (hb : Below w.heap.size w w') : Sc w0 w' L S d v m :=
  ⟨h.all, h.few, h.bel.trans (hb.mono h.bel.size), own_below h.own hb⟩
theorem Sc.next {w0 w w' : World} {L S : List UInt8} {d : List Tok} {v v' : Value} {m : Nat} (h : Sc w0 w L S d v m) (hS : S ≠ []) (o : Obj) (hg : (w.alloc o).grownBy w' v.ownBlock) (ho : w'.ownsRow w0.heap.size 89 2 v' (d ++ [frontL S]).length (toksV (d ++ [frontL S]))) :
    Sc w0 w' L (S.drop (frontL S).text.length) (d ++ [frontL S]) v' m := by
  refine ⟨?_, ?_, ?_, ho⟩
  · rw [List.append_assoc, List.singleton_append, ← scan_cons S hS]; exact h.all
  · have := h.few
    have := List.length_pos_iff.2 (front_pos S hS)
    have := front_le S
    rw [List.length_append, List.length_drop, List.length_singleton]
    omega
  · exact (h.bel.alloc h.bel.size o).grown hg (by have := h.bel.size; rw [World.size_alloc]; omega) (fun k e => (h.own.lt k e).1)
def strSize : Value → Nat
  | .string s => s.size
  | _ => 0
theorem front_parts (A : ByteArray) : (A.extract 0 (frontL A.data.toList).text.length) = strL (frontL A.data.toList).text ∧ (A.extract (frontL A.data.toList).text.length A.size) = strL (A.data.toList.drop (frontL A.data.toList).text.length) := by
  have h := front_le A.data.toList
  rw [← size_list] at h
  refine ⟨bytes_is ?_, bytes_is ?_⟩
  · rw [part_start A _ h, front_take]; rfl
  · rw [part_rest A _ h]; rfl
set_option maxRecDepth 100000 in
set_option maxHeartbeats 2000000 in
theorem scan_any (s : ByteArray) (hs : s.size ≤ 4000000) (w : World) :
    Calls Tryz.prog 63 #[.string s] w fun e w' => ∃ a c, e = .returned (.slice a (scanL s.data.toList).length c) ∧ OwnF w' (.slice a (scanL s.data.toList).length c) (scanL s.data.toList) ∧ Below w.heap.size w w' := by
  have cC := clone_any s w hs
  have HZ := Lib.hid (size_list s)
  go_enter Tryz.func63, Tryz.ntmps63
  go_wp2_with (go_at_call 41; with_reducible refine cC.mono ?_; rintro e w1 ⟨rfl, hb1⟩; clear cC)
  have HST := Lib.hid (show Sc w w1 s.data.toList s.data.toList [] (.slice none 0 0) s.size from ⟨rfl, by rw [← HZ.out]; simp, hb1, ⟨rfl, .inl ⟨rfl, rfl⟩⟩⟩)
  clear hb1
  go_loopw [3, 4] (fun x fs wr => ∃ (d : List Tok) (A : ByteArray) (m : Nat), x = .string A ∧ d.length = m ∧ A.size ≤ s.size ∧ ∃ a c, fs = .slice a m c ∧ Hid (Sc w wr s.data.toList A.data.toList d fs s.size)) (fun x _ _ => strSize x)
  case atStart => exact ⟨[], s, 0, rfl, rfl, Nat.le_refl _, none, 0, rfl, HST⟩
  case round =>
    obtain ⟨d, A, m, rfl, hm, hsz, a, c, rfl, hst⟩ := hrel
    have hA := size_list A
    by_cases h0 : A.data.toList = []
    · have hall := Lib.hid (show d = scanL s.data.toList by rw [← hst.out.all, h0, scan_nil, List.append_nil])
      obtain rfl : A = ⟨#[]⟩ := bytes_is h0
      clear hA h0
      go_wp2_with fail
      go_ret
      have h := hall.out
      rw [← h]
      subst hm
      exact ⟨a, c, rfl, ⟨_, hst.out.own⟩, hst.out.bel⟩
    · have hne : A.toList.isEmpty = false := by
        rw [ByteArray.toList_eq]
        cases hl : A.data.toList with
        | nil => exact absurd hl h0
        | cons _ _ => rfl
      have hpos : 0 < A.size := by rw [hA]; exact List.length_pos_iff.2 h0
      have cF := first_any A (by omega) hpos
      obtain ⟨e1, e2⟩ := front_parts A
      have hle := front_le A.data.toList
      have hfp := List.length_pos_iff.2 (front_pos _ h0)
      rw [← hA] at hle
      have hdm : m ≤ 4000000 := by have := hst.out.few; rw [hm] at this; omega
      have hbz := hst.out.bel.size
      have HN := Lib.hid (fun (v' : Value) (w' : World) => hst.out.next (v' := v') (w' := w') h0)
      generalize hr : A.data.toList.drop (frontL A.data.toList).text.length = r at e2 HN
      have hrl : r.length < A.size := by rw [← hr, List.length_drop, ← hA]; omega
      generalize frontL A.data.toList = f at cF e1 e2 hle HN hr hfp
      generalize hn : f.text.length = n at cF e1 e2 hle hr hfp
      have R1 := run_slice_to A n (n : Int) rfl hle
      have R2 := run_slice_from A n (n : Int) rfl hle
      rw [e1] at R1
      rw [e2] at R2
      have hT : (strL r).size < A.size := by rw [strL_size]; exact hrl
      have HT : Hid ((strL r).data.toList = r) := rfl
      generalize strL r = T at R2 hT HT
      have HM := Lib.hid hm
      clear e1 e2 hr hn hle hA hpos hrl h0 hfp hm
      go_wp2_with (first
        | (go_at_call 96; with_reducible refine (cF _).mono ?_; rintro e w2 ⟨rfl, rfl⟩; clear cF)
        | (at_builtin; refine wpList_appF (by rfl) (.tmp 16) (.tmp 22) rfl rfl w.heap.size f rfl rfl hst.out.own HM.out hbz hdm ?_; intro a2 c2 w5 h2 g2; replace h2 := Lib.hid h2; replace g2 := Lib.hid g2))
      go_roundw
      case rel =>
        have hn := HN.out _ _ _ g2.out h2.out
        rw [← HT.out] at hn
        exact ⟨d ++ [f], T, m + 1, rfl, by rw [List.length_append, HM.out]; rfl, by omega, a2, c2, rfl, Lib.hid hn⟩
      case measure => exact hT
end Go.Proofs.YtdinachiiimngaaGreatDoor
namespace Go.Proofs.YtdinachiiimngaaGreatDoor
open Go.ChangeShapes Go.WideShapes Go.ChangeAt Go.RowKit
open TokP

theorem cell_below {w w' : World} {a : Addr} {v : Value} (h : w.cell? a = some v) (hb : Below w.heap.size w w') : w'.cell? a = some v := by
  rw [World.cell?_of_block (w := w) (hb.block _ (World.block_lt_of_cell? w a h))]; exact h
theorem cell_alloc {w : World} {a : Addr} {v : Value} (h : w.cell? a = some v) (o : Obj) : (w.alloc o).cell? a = some v := cell_below h ((Below.refl _ _).alloc (Nat.le_refl _) o)
theorem cell_grown {w w' : World} {a : Addr} {v : Value} {r : Option Nat} (h : w.cell? a = some v) (hg : w.grownBy w' r) (hr : r ≠ some a.block) : w'.cell? a = some v := by
  rw [World.cell?_of_block (w := w) (hg.block _ (World.block_lt_of_cell? w a h) (fun e => hr e.symm))]; exact h
theorem copy_kind (w : World) (a b : Value) (t : TypeId) : (w.alloc (.cells #[a, b] t)).cell? ⟨w.heap.size, 0, none⟩ = some a := by
  rw [Lib.cell_of_heap (World.alloc_heap_new w _)]; rfl
theorem copy_text (w : World) (a b : Value) (t : TypeId) : (w.alloc (.cells #[a, b] t)).cell? ⟨w.heap.size, 1, none⟩ = some b := by
  rw [Lib.cell_of_heap (World.alloc_heap_new w _)]; rfl
theorem step_append_own {P : Program} {ops : Array Oper} {o : Oper} {a : Act} {w : World} {K : Act → World → Prop} {Q : Exit → Act → World → Prop} {E : Prop}
    (hg : o.guard = none) (s x : Operand) (t : TypeId) (hop : o.op = Op.call { callee := Callee.builtin Builtin.append, args := #[s, x], argTypes := #[t, t] })
    (base : Nat) (e : TypeId) (i : TypeInfo) (z : Value) (size bytes : Nat) (h1 : P.underlying t = some (.slice e)) (h2 : P.info? e = some i) (h3 : i.zero = some z) (h4 : i.size = size) (h5 : i.bytes = bytes) (h6 : z.cells.size = size) (h7 : 0 < size)
    (v : Value) (n : Nat) (xs : List Value) (hs : a.eval s = v) (hown : w.ownsRow base e size v n xs) (ad : Addr) (m c : Nat) (news : List Value) (hx : a.eval x = .slice (some ad) m c) (hn : news.length = m * size)
    (hc : ∀ j u, news[j]? = some u → w.cell? (ad.add j) = some u) (h1c : ∀ u ∈ news, u.oneCell' = true) (b1 : n + m ≤ maxLen) (b2 : (n + m) * bytes ≤ 140737488355328) (hb : base ≤ w.heap.size)
    (hK : ∀ v' w', w'.ownsRow base e size v' (n + m) (xs ++ news) → w.grownBy w' v.ownBlock → K (a.put o.dst v') w') :
    if Region.wanted o (yielded ops a.tmps) = true then Oper.wp P o a w K Q else E := by
  have hw : Region.wanted o (yielded ops a.tmps) = true := by simp [Region.wanted, hg]
  rw [if_pos hw]
  obtain ⟨v', w', hrun, r1, r2, _⟩ := run_append_own (P := P) w base t o.type e i z size bytes h1 h2 h3 h4 h5 h6 h7 v n xs hown ad m c news hn hc h1c b1 b2 hb
  unfold Oper.wp
  simp [execOp, hop, resolve, invoke, builtin, hs, hx, hrun, Result.andThen]
  exact hK v' w' r1 r2
/-- A token is appended in a region that draws its order. -/
theorem step_appF {ops : Array Oper} {o : Oper} {a : Act} {w : World} {K : Act → World → Prop} {Q : Exit → Act → World → Prop} {E : Prop} (hgd : o.guard = none) (d x : Operand)
    (ho : o.op = .call { callee := .builtin .append, args := #[d, x], argTypes := #[55, 55] }) (B : Nat) (out : List Tok) (f : Tok) (m : Nat) {v : Value} (hown : w.ownsRow B 89 2 v out.length (toksV out)) (hm : out.length = m) (hd : a.eval d = v)
    (hx : a.eval x = .slice (some ⟨w.heap.size, 0, none⟩) 1 1) (hlen : m ≤ 4000000) (hB : B ≤ w.heap.size)
    (h : ∀ a' c' w', w'.ownsRow B 89 2 (.slice a' (m + 1) c') (out ++ [f]).length (toksV (out ++ [f])) → (w.alloc (.cells #[.int .i64 (f.kind : Nat), .string (strL f.text)] 89)).grownBy w' v.ownBlock → K (a.put o.dst (.slice a' (m + 1) c')) w') :
    if Region.wanted o (yielded ops a.tmps) = true then Oper.wp Tryz.prog o a (w.alloc (.cells #[.int .i64 (f.kind : Nat), .string (strL f.text)] 89)) K Q else E := by
  obtain ⟨i0, hi, hz0, hz1, hz2⟩ := info_parts info23
  subst hm
  refine step_append_own hgd d x 55 ho B 89 i0 _ 2 24 Tryz.underlying55 hi hz0 hz1 hz2 rfl (by decide) v out.length (toksV out) hd (World.ownsRow.alloc hown _) ⟨w.heap.size, 0, none⟩ 1 1 (tokV f) hx rfl (news_tok w f) (tokV_one f) (by unfold maxLen; omega) (by omega) (by rw [World.size_alloc]; omega) ?_
  intro v' w' h1 h2
  rw [← toksV_one, toksV_app, ← List.length_singleton (a := f), ← List.length_append] at h1
  obtain ⟨a', c', rfl⟩ : ∃ a' c', v' = .slice a' (out.length + 1) c' := by
    rcases h1.2 with ⟨rfl, h0⟩ | ⟨g, cap, cur, rfl, _⟩
    · simp at h0
    · exact ⟨_, _, by rw [List.length_append]; rfl⟩
  exact h a' c' w' h1 h2
def bareL (l : List Tok) : List Tok := l.filter (fun t => t.kind != 6 && t.kind != 3)
theorem bare_step (l : List Tok) (k : Nat) (f : Tok) (h : l[k]? = some f) : bareL (l.take (k + 1)) = bareL (l.take k) ++ (if f.kind = 6 ∨ f.kind = 3 then [] else [f]) := by
  unfold bareL
  rw [List.take_add_one, h, List.filter_append]
  simp only [Option.toList_some, List.filter_cons, List.filter_nil, Bool.and_eq_true, bne_iff_ne]
  by_cases h6 : f.kind = 6
  · simp [h6]
  · by_cases h3 : f.kind = 3
    · simp [h3]
    · simp [h6, h3]
theorem bare_len (l : List Tok) (k : Nat) : (bareL (l.take k)).length ≤ k := by
  have h1 : (bareL (l.take k)).length ≤ (l.take k).length := (List.filter_sublist).length_le
  have h2 := List.length_take_le k l
  omega
set_option maxRecDepth 100000 in
set_option maxHeartbeats 2000000 in
theorem bare_any (v : Value) (l : List Tok) (w : World) (h : HasF w v l) (hn : l.length ≤ 4000000) (ht : ∀ t ∈ l, t.text.length ≤ 4000000) :
    Calls Tryz.prog 62 #[v] w fun e w' => ∃ a c, e = .returned (.slice a (bareL l).length c) ∧ OwnF w' (.slice a (bareL l).length c) (bareL l) ∧ Below w.heap.size w w' := by
  rcases h with ⟨rfl, rfl⟩ | ⟨g, o, c, rfl, h⟩
  · clear ht hn
    go_enter Tryz.func62, Tryz.ntmps62
    go_wp2_with fail
    go_loopw [3, 8] (fun r i wr => i = .int .i64 0 ∧ r = .slice none 0 0 ∧ wr = w) (fun _ _ _ => 0)
    case atStart => exact ⟨rfl, rfl, rfl⟩
    case round =>
      obtain ⟨rfl, rfl, rfl⟩ := hrel
      go_wp2_with fail
      go_ret
      exact ⟨none, 0, rfl, ⟨0, rfl, .inl ⟨rfl, rfl⟩⟩, Below.refl _ _⟩
  · obtain ⟨n, hnn⟩ : ∃ n, l.length = n := ⟨_, rfl⟩
    rw [hnn] at hn ⊢
    have HN := Lib.hid hnn
    have HT := Lib.hid ht
    have H := Lib.hid h
    clear hnn h ht
    go_enter Tryz.func62, Tryz.ntmps62
    go_wp2_with fail
    go_loopw [3, 8] (fun r i wr => ∃ (k m : Nat), k ≤ n ∧ m ≤ k ∧ i = .int .i64 k ∧ (∃ a c, r = .slice a m c) ∧ Hid ((bareL (l.take k)).length = m) ∧ Hid (wr.ownsRow w.heap.size 89 2 r (bareL (l.take k)).length (toksV (bareL (l.take k)))) ∧ Hid (Below w.heap.size w wr)) (fun _ i _ => n - (intOf i).toNat)
    case atStart => exact ⟨0, 0, Nat.zero_le _, Nat.le_refl _, rfl, ⟨none, 0, rfl⟩, rfl, ⟨rfl, .inl ⟨rfl, rfl⟩⟩, Below.refl _ _⟩
    case round =>
      obtain ⟨k, m, hk, hmk, rfl, ⟨a, c2, rfl⟩, hm, ho, hb⟩ := hrel
      have F1 : IntKind.i64.wrap ((k : Int) + 1) = (k : Int) + 1 := by rw [IntKind.wrap_i64]; omega
      by_cases hlt : k < n
      · have hlt' : (k : Int) < (n : Int) := by omega
        obtain ⟨f, hf⟩ : ∃ f, l[k]? = some f := ⟨_, List.getElem?_eq_getElem (by rw [HN.out]; exact hlt)⟩
        obtain ⟨k0, k1⟩ := H.out.step hb.out k f hf
        have hstep := bare_step l k f hf
        by_cases h6 : f.kind = 6
        · rw [if_pos (.inl h6), List.append_nil] at hstep
          have HST := Lib.hid hstep
          rw [h6] at k0
          have HA := Lib.hid (hb.out.alloc hb.out.size (.cells #[.int .i64 (6 : Nat), .string (strL f.text)] 89))
          have HO := Lib.hid (World.ownsRow.alloc ho.out (.cells #[.int .i64 (6 : Nat), .string (strL f.text)] 89))
          clear hstep hf h6
          go_wp2_with fail
          go_roundw
          case rel => exact ⟨k + 1, m, by omega, by omega, by go_num, ⟨a, c2, rfl⟩, by rw [HST.out]; exact hm, by rw [HST.out]; exact HO, HA⟩
          case measure => simp [intOf]; omega
        · by_cases h3 : f.kind = 3
          · rw [if_pos (.inr h3), List.append_nil] at hstep
            have HST := Lib.hid hstep
            rw [h3] at k0
            have HA := Lib.hid (hb.out.alloc hb.out.size (.cells #[.int .i64 (3 : Nat), .string (strL f.text)] 89))
            have HO := Lib.hid (World.ownsRow.alloc ho.out (.cells #[.int .i64 (3 : Nat), .string (strL f.text)] 89))
            clear hstep hf h6 h3
            go_wp2_with fail
            go_roundw
            case rel => exact ⟨k + 1, m, by omega, by omega, by go_num, ⟨a, c2, rfl⟩, by rw [HST.out]; exact hm, by rw [HST.out]; exact HO, HA⟩
            case measure => simp [intOf]; omega
          · rw [if_neg (fun e => e.elim h6 h3)] at hstep
            have HST := Lib.hid hstep
            have g6 : (((f.kind : Nat) : Int) == 6) = false := by rw [beq_eq_false_iff_ne]; omega
            have g3 : (((f.kind : Nat) : Int) == 3) = false := by rw [beq_eq_false_iff_ne]; omega
            have cC := fun W => clone_any (strL f.text) W (by rw [strL_size]; exact HT.out f (List.mem_of_getElem? hf))
            have cA := copy_kind wr (.int .i64 (f.kind : Nat)) (.string (strL f.text)) 89
            have cB := copy_text wr (.int .i64 (f.kind : Nat)) (.string (strL f.text)) 89
            have HA := Lib.hid (hb.out.alloc hb.out.size (.cells #[.int .i64 (f.kind : Nat), .string (strL f.text)] 89))
            have HO := Lib.hid (World.ownsRow.alloc ho.out (.cells #[.int .i64 (f.kind : Nat), .string (strL f.text)] 89))
            have HE : Hid ((Value.slice a m c2).ownBlock ≠ some wr.heap.size) := fun e => by have := (ho.out.lt _ e).2; omega
            have hm1 : m ≤ 4000000 := by omega
            clear hstep hf h6 h3 hlt
            go_wp2_with fail
            obtain ⟨W1, hW1⟩ : ∃ W1, wr.alloc (.cells #[.int .i64 (f.kind : Nat), .string (strL f.text)] 89) = W1 := ⟨_, rfl⟩
            rw [hW1] at cA cB HA HO ⊢
            replace cA : W1.drew.cell? ⟨wr.heap.size, 0, none⟩ = some (.int .i64 (f.kind : Nat)) := cA
            replace cB : W1.drew.cell? ⟨wr.heap.size, 1, none⟩ = some (.string (strL f.text)) := cB
            replace HA := Lib.hid HA.out.drew
            replace HO : Hid (W1.drew.ownsRow w.heap.size 89 2 (.slice a m c2) (bareL (l.take k)).length (toksV (bareL (l.take k)))) := HO
            clear hW1
            go_region_held3 (fun w' => w'.cell? ⟨wr.heap.size, 0, none⟩ = some (.int .i64 (f.kind : Nat)) ∧ w'.cell? ⟨wr.heap.size, 1, none⟩ = some (.string (strL f.text)))
              (first | exact ⟨cA, cB⟩ | exact ⟨cell_below cA hb2, cell_below cB hb2⟩ | exact ⟨cell_alloc (cell_below cA hb2) _, cell_alloc (cell_below cB hb2) _⟩ | exact ⟨cell_grown (cell_alloc (cell_below cA hb2) _) hg2 HE.out, cell_grown (cell_alloc (cell_below cB hb2) _) hg2 HE.out⟩)
              (first
                | (go_at_call 41; (with_reducible refine (cC _).mono ?_); rintro e w2 ⟨rfl, hb2⟩)
                | (refine step_appF rfl (.tmp 18) (.tmp 25) rfl w.heap.size (bareL (l.take k)) f m (own_below HO.out hb2) hm.out rfl rfl hm1 (Nat.le_trans HA.out.size hb2.size) ?_; intro a2 c3 w3 ho3 hg2))
            have HO3 := Lib.hid ho3
            have HB3 := Lib.hid ((HA.out.trans ((hb2.mono HA.out.size).alloc (by have := HA.out.size; have := hb2.size; omega) _)).grown hg2 (by have := HA.out.size; have := hb2.size; rw [World.size_alloc]; omega) (fun k e => (ho.out.lt k e).1))
            clear ho3 hb2 hg2 cA cB
            go_wp2_with fail
            go_roundw
            case rel => exact ⟨k + 1, m + 1, by omega, by omega, by go_num, ⟨a2, c3, rfl⟩, Lib.hid (by rw [HST.out, List.length_append, hm.out]; rfl), Lib.hid (by rw [HST.out]; exact HO3.out), HB3⟩
            case measure => simp [intOf]; omega
      · obtain rfl : k = n := by omega
        have hT : l.take k = l := List.take_of_length_le (by rw [HN.out]; exact Nat.le_refl _)
        rw [hT] at ho hm
        have hlt' : ¬ (k : Int) < (k : Int) := by omega
        clear hT
        go_wp2_with fail
        go_ret
        have e := hm.out
        subst e
        exact ⟨a, c2, rfl, ⟨_, ho.out⟩, hb.out⟩
end Go.Proofs.YtdinachiiimngaaGreatDoor
namespace Go.Proofs.YtdinachiiimngaaGreatDoor
open Go.ChangeShapes Go.WideShapes Go.ChangeAt Go.RowKit
open TokP

set_option maxRecDepth 100000 in
set_option maxHeartbeats 2000000 in
theorem rbare_any (v : Value) (l : List Tok) (w : World) (h : HasF w v l) (hn : l.length ≤ 4000000) :
    Calls Tryz.prog 72 #[v] w fun e w' => ∃ a c, e = .returned (.slice a (bareL l).length c) ∧ OwnF w' (.slice a (bareL l).length c) (bareL l) ∧ Below w.heap.size w w' := by
  rcases h with ⟨rfl, rfl⟩ | ⟨g, o, c, rfl, h⟩
  · clear hn
    go_enter Tryz.func72, Tryz.ntmps72
    go_wp2_with fail
    go_loopw [3, 4] (fun r i wr => i = .int .i64 0 ∧ r = .slice none 0 0 ∧ wr = w) (fun _ _ _ => 0)
    case atStart => exact ⟨rfl, rfl, rfl⟩
    case round =>
      obtain ⟨rfl, rfl, rfl⟩ := hrel
      go_wp2_with fail
      go_ret
      exact ⟨none, 0, rfl, ⟨0, rfl, .inl ⟨rfl, rfl⟩⟩, Below.refl _ _⟩
  · obtain ⟨n, hnn⟩ : ∃ n, l.length = n := ⟨_, rfl⟩
    rw [hnn] at hn ⊢
    have HN := Lib.hid hnn
    have H := Lib.hid h
    clear hnn h
    go_enter Tryz.func72, Tryz.ntmps72
    go_wp2_with fail
    go_loopw [3, 4] (fun r i wr => ∃ (k m : Nat), k ≤ n ∧ m ≤ k ∧ i = .int .i64 k ∧ (∃ a c, r = .slice a m c) ∧ Hid ((bareL (l.take k)).length = m) ∧ Hid (wr.ownsRow w.heap.size 89 2 r (bareL (l.take k)).length (toksV (bareL (l.take k)))) ∧ Hid (Below w.heap.size w wr)) (fun _ i _ => n - (intOf i).toNat)
    case atStart => exact ⟨0, 0, Nat.zero_le _, Nat.le_refl _, rfl, ⟨none, 0, rfl⟩, rfl, ⟨rfl, .inl ⟨rfl, rfl⟩⟩, Below.refl _ _⟩
    case round =>
      obtain ⟨k, m, hk, hmk, rfl, ⟨a, c2, rfl⟩, hm, ho, hb⟩ := hrel
      have F1 : IntKind.i64.wrap ((k : Int) + 1) = (k : Int) + 1 := by rw [IntKind.wrap_i64]; omega
      by_cases hlt : k < n
      · have hlt' : (k : Int) < (n : Int) := by omega
        obtain ⟨f, hf⟩ : ∃ f, l[k]? = some f := ⟨_, List.getElem?_eq_getElem (by rw [HN.out]; exact hlt)⟩
        obtain ⟨k0, k1⟩ := H.out.step hb.out k f hf
        have hstep := bare_step l k f hf
        by_cases h6 : f.kind = 6
        · rw [if_pos (.inl h6), List.append_nil] at hstep
          have HST := Lib.hid hstep
          rw [h6] at k0
          clear hstep hf h6 k1
          go_wp2_with fail
          go_roundw
          case rel => exact ⟨k + 1, m, by omega, by omega, by go_num, ⟨a, c2, rfl⟩, by rw [HST.out]; exact hm, by rw [HST.out]; exact ho, hb⟩
          case measure => simp [intOf]; omega
        · by_cases h3 : f.kind = 3
          · rw [if_pos (.inr h3), List.append_nil] at hstep
            have HST := Lib.hid hstep
            rw [h3] at k0
            clear hstep hf h6 h3 k1
            go_wp2_with fail
            go_roundw
            case rel => exact ⟨k + 1, m, by omega, by omega, by go_num, ⟨a, c2, rfl⟩, by rw [HST.out]; exact hm, by rw [HST.out]; exact ho, hb⟩
            case measure => simp [intOf]; omega
          · rw [if_neg (fun e => e.elim h6 h3)] at hstep
            have HST := Lib.hid hstep
            have g6 : (((f.kind : Nat) : Int) != 6) = true := by rw [bne_iff_ne]; omega
            have g3 : (((f.kind : Nat) : Int) != 3) = true := by rw [bne_iff_ne]; omega
            have n6 : ¬ f.kind = 6 := h6
            have n3 : ¬ f.kind = 3 := h3
            have hm1 : m ≤ 4000000 := by omega
            clear hstep hf hlt h6 h3
            go_wp2_with (at_builtin; refine wpList_appF (by rfl) (.tmp 25) (.tmp 30) rfl rfl w.heap.size f rfl rfl ho.out hm.out hb.out.size hm1 ?_; intro a2 c3 w2 h2 g2; replace h2 := Lib.hid h2; replace g2 := Lib.hid g2)
            go_roundw
            case rel => exact ⟨k + 1, m + 1, by omega, by omega, by go_num, ⟨a2, c3, rfl⟩, Lib.hid (by rw [HST.out, List.length_append, hm.out]; rfl), Lib.hid (by rw [HST.out]; exact h2.out), (hb.out.alloc hb.out.size _).grown g2.out (by have := hb.out.size; rw [World.size_alloc]; omega) (fun k e => (ho.out.lt k e).1)⟩
            case measure => simp [intOf]; omega
      · obtain rfl : k = n := by omega
        have hT : l.take k = l := List.take_of_length_le (by rw [HN.out]; exact Nat.le_refl _)
        rw [hT] at ho hm
        have hlt' : ¬ (k : Int) < (k : Int) := by omega
        clear hT
        go_wp2_with fail
        go_ret
        have e := hm.out
        subst e
        exact ⟨a, c2, rfl, ⟨_, ho.out⟩, hb.out⟩
end Go.Proofs.YtdinachiiimngaaGreatDoor
namespace Go.Proofs.YtdinachiiimngaaGreatDoor.AdrP
open TokP

/-! ### Message ids -/
/-- Message ids; o: what stands behind the last angle bracket, if an id may still come of it. -/
def idsF : Option (List UInt8) → List UInt8 → List (List UInt8)
  | _, [] => []
  | none, c :: t => if c = 60 then idsF (some []) t else idsF none t
  | some x, c :: t =>
    if c = 60 then idsF (some []) t
    else if c = 62 then (if 0 < x.length ∧ x.length ≤ 250 then x :: idsF none t else idsF none t)
    else if c.toNat ≤ 32 ∨ c = 127 then idsF none t
    else idsF (some (x ++ [c])) t
def idsL (s : List UInt8) : List (List UInt8) := idsF none s
def idOk (i : List UInt8) : Prop := 0 < i.length ∧ i.length ≤ 250 ∧ ∀ c ∈ i, 32 < c.toNat ∧ c ≠ 127 ∧ c ≠ 60 ∧ c ≠ 62
def idText : List (List UInt8 × List UInt8) → List UInt8 → List UInt8
  | [], z => z
  | (b, i) :: r, z => b ++ (60 :: (i ++ (62 :: idText r z)))
theorem ids_skip : ∀ (b x : List UInt8), 60 ∉ b → idsF none (b ++ x) = idsF none x
  | [], _, _ => rfl
  | c :: b, x, h => by
    simp only [List.mem_cons, not_or] at h
    rw [List.cons_append, idsF, if_neg (fun e => h.1 e.symm), ids_skip b x h.2]
theorem ids_in : ∀ (i acc x : List UInt8), (∀ c ∈ i, 32 < c.toNat ∧ c ≠ 127 ∧ c ≠ 60 ∧ c ≠ 62) → 0 < (acc ++ i).length → (acc ++ i).length ≤ 250 → idsF (some acc) (i ++ 62 :: x) = (acc ++ i) :: idsF none x
  | [], acc, x, _, h1, h2 => by
    rw [List.append_nil] at h1 h2 ⊢
    rw [List.nil_append, idsF, if_neg (by decide), if_pos rfl, if_pos ⟨h1, h2⟩]
  | c :: i, acc, x, h, h1, h2 => by
    obtain ⟨a1, a2, a3, a4⟩ := h c (by simp)
    rw [List.cons_append, idsF, if_neg a3, if_neg a4, if_neg (by rintro (e | e); omega; exact a2 e)]
    have e : acc ++ c :: i = (acc ++ [c]) ++ i := by simp
    rw [e] at h1 h2 ⊢
    exact ids_in i (acc ++ [c]) x (fun d hd => h d (by simp [hd])) h1 h2
/-- AddrIds. -/
theorem ids_text : ∀ (l : List (List UInt8 × List UInt8)) (z : List UInt8), (∀ x ∈ l, 60 ∉ x.1 ∧ idOk x.2) → 60 ∉ z → idsL (idText l z) = l.map Prod.snd
  | [], z, _, hz => by
    show idsF none z = []
    have := ids_skip z [] hz
    rw [List.append_nil] at this
    exact this
  | (b, i) :: r, z, h, hz => by
    obtain ⟨h1, h2, h3, h4⟩ := h (b, i) (by simp)
    show idsF none (b ++ (60 :: (i ++ (62 :: idText r z)))) = _
    rw [ids_skip _ _ h1, idsF, if_pos rfl, ids_in i [] _ h4 h2 h3]
    exact congrArg (i :: ·) (ids_text r z (fun x hx => h x (by simp [hx])) hz)
/-! ### Dot-atoms, quoted strings, literals -/
/-- Atoms separated by dots; b: a byte of an atom stands before. -/
def dotA : Bool → List UInt8 → Bool
  | b, [] => b
  | b, c :: t => if atomB c = true then dotA true t else if c = 46 ∧ b = true then dotA false t else false
theorem dot_head (s : List UInt8) (h : dotA false s = true) : ∃ c t, s = c :: t ∧ atomB c = true ∧ dotA true t = true := by
  cases s with
  | nil => exact absurd h (by decide)
  | cons c t =>
    rw [dotA] at h
    split at h
    · rename_i ha; exact ⟨c, t, rfl, ha, h⟩
    · split at h
      · rename_i hb; exact absurd hb.2 Bool.false_ne_true
      · exact absurd h Bool.false_ne_true
theorem dot_skip (s : List UInt8) (h : dotA true s = true) : dotA true (s.drop (s.takeWhile atomB).length) = true := by
  induction s with
  | nil => exact h
  | cons c t ih =>
    by_cases hc : atomB c = true
    · rw [dotA, if_pos hc] at h
      rw [List.takeWhile_cons_of_pos hc, List.length_cons, List.drop_succ_cons]
      exact ih h
    · rw [List.takeWhile_cons_of_neg hc]; exact h
/-- Tokens that stand in an addr-spec. -/
def Fine (t : Tok) : Prop := t.kind = 1 ∨ t.kind = 2 ∨ t.kind = 5 ∨ t = ⟨4, [46]⟩ ∨ t = ⟨4, [64]⟩
theorem fine_not {t : Tok} (h : Fine t) {c : UInt8} (h1 : c ≠ 46) (h2 : c ≠ 64) : isS t c = false := by
  rw [← Bool.not_eq_true, isS_iff]
  rintro rfl
  rcases h with h | h | h | h | h
  · exact absurd h (by simp)
  · exact absurd h (by simp)
  · exact absurd h (by simp)
  · injection h with _ e; exact h1 (List.cons.inj e).1
  · injection h with _ e; exact h2 (List.cons.inj e).1
theorem fine_bare {t : Tok} (h : Fine t) : (t.kind != 6 && t.kind != 3) = true := by
  rcases h with h | h | h | rfl | rfl
  · rw [h]; rfl
  · rw [h]; rfl
  · rw [h]; rfl
  · rfl
  · rfl
theorem bare_fine (l : List Tok) (h : ∀ t ∈ l, Fine t) : bareT l = l := List.filter_eq_self.2 fun t ht => fine_bare (h t ht)
theorem fine_ends {t : Tok} (h : Fine t) {b : List UInt8} (hb : HeadNot atomB b) : TokP.Ends t b := by
  refine ⟨fun e => ?_, fun _ => hb, fun e => ?_⟩
  · rcases h with h | h | h | rfl | rfl
    · rw [h] at e; exact absurd e (by decide)
    · rw [h] at e; exact absurd e (by decide)
    · rw [h] at e; exact absurd e (by decide)
    · exact absurd e (by decide)
    · exact absurd e (by decide)
  · have e := e.1
    rcases h with h | h | h | rfl | rfl
    · rw [h] at e; exact absurd e (by decide)
    · rw [h] at e; exact absurd e (by decide)
    · rw [h] at e; exact absurd e (by decide)
    · exact absurd e (by decide)
    · exact absurd e (by decide)
/-- What a string of an addr-spec scans to. -/
def Good (ok : Tok → Bool) (s : List UInt8) : Prop := dotsT ok true (scanL s) = some s ∧ (∀ t ∈ scanL s, Fine t ∧ isS t 64 = false) ∧ s ≠ []
theorem dot_scan (ok : Tok → Bool) (hok : ∀ t : Tok, t.kind = 1 → ok t = true) : ∀ (n : Nat) (s : List UInt8), s.length ≤ n → dotA false s = true → Good ok s := by
  intro n
  induction n with
  | zero =>
    intro s h hp
    obtain rfl : s = [] := List.eq_nil_of_length_eq_zero (by omega)
    exact absurd hp (by decide)
  | succ n ih =>
    intro s h hp
    obtain ⟨c, t, rfl, hc, ht⟩ := dot_head s hp
    have hr := dot_skip t ht
    have hpre := front_pre (c :: t)
    unfold Good
    rw [scan_cons _ (by simp), front_atom c t hc] at *
    have hn : ∀ x, (t.drop (t.takeWhile atomB).length).head? = some x → atomB x = false := fun x hx => head_drop atomB t x hx
    have hl : (t.drop (t.takeWhile atomB).length).length ≤ t.length := by rw [List.length_drop]; omega
    have hd : (c :: t).drop ((c :: t).takeWhile atomB).length = t.drop (t.takeWhile atomB).length := by
      rw [List.takeWhile_cons_of_pos hc, List.length_cons, List.drop_succ_cons]
    dsimp only at hpre ⊢
    rw [hd] at hpre ⊢
    generalize (c :: t).takeWhile atomB = A at hpre ⊢
    generalize t.drop (t.takeWhile atomB).length = r at hr hn hl hpre ⊢
    have hv : valueL ⟨1, A⟩ = A := rfl
    have hfa : Fine (⟨1, A⟩ : Tok) ∧ isS (⟨1, A⟩ : Tok) 64 = false := ⟨.inl rfl, rfl⟩
    cases r with
    | nil =>
      rw [List.append_nil] at hpre
      refine ⟨?_, ?_, by simp⟩
      · rw [scan_nil, dotsT, if_pos (hok _ rfl), dotsT, hv, hpre]; simp
      · intro u hu
        rw [scan_nil] at hu
        obtain rfl := List.mem_singleton.1 hu
        exact hfa
    | cons x r =>
      have hx := hn x rfl
      rw [dotA, if_neg (by rw [hx]; exact Bool.false_ne_true)] at hr
      split at hr
      · rename_i hx2
        obtain rfl := hx2.1
        have hs : scanL (46 :: r) = ⟨4, [46]⟩ :: scanL r := by rw [scan_cons (46 :: r) (by simp)]; rfl
        obtain ⟨i1, i2, _⟩ := ih r (by rw [List.length_cons] at h hl; omega) hr
        rw [hs]
        refine ⟨?_, ?_, by simp⟩
        · rw [dotsT, if_pos (hok _ rfl), dotsT, if_pos (show isS (⟨4, [46]⟩ : Tok) 46 = true from rfl), i1, hv, ← hpre]; simp
        · intro u hu
          rcases List.mem_cons.1 hu with rfl | hu
          · exact hfa
          · rcases List.mem_cons.1 hu with rfl | hu
            · exact ⟨.inr (.inr (.inr (.inl rfl))), rfl⟩
            · exact i2 u hu
      · exact absurd hr Bool.false_ne_true
/-- Between quotes. -/
theorem quoted_one (s : List UInt8) : scanL (34 :: (escL s ++ [34])) = [⟨2, 34 :: (escL s ++ [34])⟩] ∧ valueL ⟨2, 34 :: (escL s ++ [34])⟩ = s := by
  have hc : closeL 34 (escL s ++ [34]) = some ((escL s).length + 1) := close_esc s
  have hf : frontL (34 :: (escL s ++ [34])) = ⟨2, 34 :: (escL s ++ [34])⟩ := by
    rw [frontL, if_neg (by decide), if_pos (by decide), hc]
    show (⟨kindO 34, 34 :: (escL s ++ [34]).take ((escL s).length + 1)⟩ : Tok) = _
    rw [List.take_of_length_le (by simp)]; rfl
  refine ⟨?_, ?_⟩
  · rw [scan_cons _ (by simp), hf, List.drop_length]; rfl
  · unfold valueL
    rw [if_pos ⟨.inl rfl, by simp⟩]
    show unescS false (escL s ++ [34]).dropLast = s
    rw [List.dropLast_concat, unesc_esc]
/-- How a local part is written. -/
def locW (s : List UInt8) : List UInt8 := if dotA false s = true then s else 34 :: (escL s ++ [34])
theorem loc_good (s : List UInt8) : dotsT wordT true (scanL (locW s)) = some s ∧ (∀ t ∈ scanL (locW s), Fine t ∧ isS t 64 = false) ∧ locW s ≠ [] ∧ scanL (locW s) ≠ [] := by
  by_cases h : dotA false s = true
  · obtain ⟨h1, h2, h3⟩ := dot_scan wordT (fun t ht => by unfold wordT; rw [ht]; rfl) s.length s (Nat.le_refl _) h
    unfold locW
    rw [if_pos h]
    exact ⟨h1, h2, h3, by rw [scan_cons s h3]; simp⟩
  · obtain ⟨h1, h2⟩ := quoted_one s
    unfold locW
    rw [if_neg h, h1]
    refine ⟨?_, ?_, by simp, by simp⟩
    · rw [dotsT, if_pos (show wordT (⟨2, 34 :: (escL s ++ [34])⟩ : Tok) = true from rfl), dotsT, h2]; simp
    · intro t ht
      obtain rfl := List.mem_singleton.1 ht
      exact ⟨.inr (.inl rfl), rfl⟩
/-- A literal. -/
def litOk (s : List UInt8) : Prop := ∃ b, s = 91 :: (b ++ [93]) ∧ ∀ c ∈ b, 32 < c.toNat ∧ c ≠ 127 ∧ c ≠ 91 ∧ c ≠ 93 ∧ c ≠ 92
theorem close_lit (b : List UInt8) (h : ∀ c ∈ b, 32 < c.toNat ∧ c ≠ 127 ∧ c ≠ 91 ∧ c ≠ 93 ∧ c ≠ 92) : closeS 93 false false 0 (b ++ [93]) = some (b.length + 1) := by
  induction b with
  | nil => rfl
  | cons c t ih =>
    obtain ⟨_, _, _, h4, h5⟩ := h c (by simp)
    rw [List.cons_append, closeS, if_neg h5, if_neg h4, if_neg (by simp), ih (fun d hd => h d (by simp [hd]))]
    simp
theorem lit_scan (s : List UInt8) (h : litOk s) : scanL s = [⟨5, s⟩] ∧ s.filter (fun c => !TokP.blank c) = s := by
  obtain ⟨b, rfl, hb⟩ := h
  have hc : closeL 91 (b ++ [93]) = some (b.length + 1) := close_lit b hb
  have hf : frontL (91 :: (b ++ [93])) = ⟨5, 91 :: (b ++ [93])⟩ := by
    rw [frontL, if_neg (by decide), if_pos (by decide), hc]
    show (⟨kindO 91, 91 :: (b ++ [93]).take (b.length + 1)⟩ : Tok) = _
    rw [List.take_of_length_le (by simp)]; rfl
  refine ⟨by rw [scan_cons _ (by simp), hf, List.drop_length]; rfl, ?_⟩
  rw [List.filter_eq_self]
  intro c hcm
  rcases List.mem_cons.1 hcm with rfl | hcm
  · decide
  · rcases List.mem_append.1 hcm with hcm | hcm
    · have h32 := (hb c hcm).1
      unfold TokP.blank
      simp only [Bool.not_eq_true', Bool.or_eq_false_iff, beq_eq_false_iff_ne]
      refine ⟨⟨⟨?_, ?_⟩, ?_⟩, ?_⟩
      all_goals
        rintro rfl
        exact absurd h32 (by decide)
    · obtain rfl := List.mem_singleton.1 hcm
      decide
/-- A domain. -/
def domOk (s : List UInt8) : Prop := dotA false s = true ∨ litOk s
theorem dom_good (s : List UInt8) (h : domOk s) : domT (scanL s) = some s ∧ (∀ t ∈ scanL s, Fine t) ∧ s ≠ [] ∧ scanL s ≠ [] := by
  rcases h with h | h
  · obtain ⟨h1, h2, h3⟩ := dot_scan atomT (fun t ht => by unfold atomT; rw [ht]; rfl) s.length s (Nat.le_refl _) h
    refine ⟨?_, fun t ht => (h2 t ht).1, h3, by rw [scan_cons s h3]; simp⟩
    unfold domT
    split
    · rename_i t he
      rw [if_neg ?_]
      · exact h1
      · intro e5
        rw [he, dotsT] at h1
        unfold atomT at h1
        rw [e5] at h1
        simp at h1
    · exact h1
  · obtain ⟨h1, h2⟩ := lit_scan s h
    have hne : s ≠ [] := by obtain ⟨b, rfl, _⟩ := h; simp
    rw [h1]
    refine ⟨?_, ?_, hne, by simp⟩
    · show (if (5 : Nat) = 5 then some (s.filter (fun c => !TokP.blank c)) else dotsT atomT true [⟨5, s⟩]) = some s
      rw [if_pos rfl, h2]
    · intro t ht
      obtain rfl := List.mem_singleton.1 ht
      exact .inr (.inr (.inl rfl))
end Go.Proofs.YtdinachiiimngaaGreatDoor.AdrP
