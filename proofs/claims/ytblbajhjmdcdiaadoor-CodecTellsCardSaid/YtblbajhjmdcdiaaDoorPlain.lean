/- The law CodecPlain: a plain text decodes to itself, and its lines apart from the others. -/
import Derived.Test.YtblbajhjmdcdiaaDoorBack
namespace Go.Proofs.YtblbajhjmdcdiaaDoor
open Go.ChangeShapes Go.WideShapes Go.ChangeAt Go.RowKit

theorem plain_is (c : UInt8) : plainB c = (decide (c.toNat ≠ 61) && decide (c.toNat ≠ 32) && decide (c.toNat ≠ 9)) := by
  unfold plainB
  rw [blank_is, Bool.eq_iff_iff]
  simp only [Bool.and_eq_true, Bool.not_eq_true', beq_eq_false_iff_ne, Bool.or_eq_false_iff, decide_eq_false_iff_not, decide_eq_true_eq, ne_eq, ← UInt8.toNat_inj, and_assoc]
  exact Iff.rfl
theorem lineOut_length (l term : List UInt8) : (lineOut l term).length ≤ l.length + term.length := by
  unfold lineOut
  rw [List.length_append]
  have h1 : (escapes (Lib.trimSuffix (strip l) [61])).length ≤ _ := escapes_length (Lib.trimSuffix (strip l) [61]) 0
  have h2 := trimSuffix_le (strip l) [61]
  have h3 := strip_le l
  split
  · rw [List.length_nil]; omega
  · omega
theorem lineEnd_length (l : List UInt8) : (lineEnd l).length ≤ l.length + 1 := by
  unfold lineEnd
  rcases snoc_cases l with rfl | ⟨m, x, rfl⟩
  · exact Nat.le_refl _
  · rw [suf_snoc]
    by_cases hx : x = 13
    · subst hx
      rw [if_pos (by simp), trim_snoc]
      have := lineOut_length m [13, 10]
      simp only [List.length_append, List.length_cons, List.length_nil] at this ⊢
      omega
    · rw [if_neg (by simpa using fun e => hx e.symm)]
      exact lineOut_length _ _
theorem unqpA_length : ∀ (l acc : List UInt8), (unqpA acc l).length ≤ acc.length + l.length
  | [], acc => by
    show (lineOut acc []).length ≤ _
    exact lineOut_length acc []
  | c :: t, acc => by
    by_cases h : c = 10
    · subst h
      rw [unqpA_lf, List.length_append, List.length_cons]
      have h1 := lineEnd_length acc
      have h2 := unqpA_length t []
      rw [List.length_nil] at h2
      omega
    · rw [unqpA_go h, List.length_cons]
      have := unqpA_length t (acc ++ [c])
      rw [List.length_append, List.length_cons, List.length_nil] at this
      omega
theorem unqpL_length (l : List UInt8) : (unqpL l).length ≤ l.length := by
  have := unqpA_length l []
  rw [List.length_nil, Nat.zero_add] at this
  exact this
def keepL (l : List UInt8) : List UInt8 := l.filter plainB
theorem keepL_all (l : List UInt8) : ∀ c ∈ keepL l, plainB c = true := fun _ hc => (List.mem_filter.1 hc).2
theorem keepL_snoc (s : ByteArray) (k : Nat) (h : k < s.size) : keepL (s.data.toList.take (k + 1)) = keepL (s.data.toList.take k) ++ (if plainB s[k] = true then [s[k]] else []) := by
  rw [take_snoc s k h]
  unfold keepL
  rw [List.filter_append]
  congr 1
  rw [List.filter_cons]
  rfl
theorem own_nil (w : World) (B : Nat) : w.ownsRow B 5 1 (.slice none 0 0) 0 [] := ⟨rfl, .inl ⟨rfl, rfl⟩⟩

set_option maxHeartbeats 4000000 in
set_option maxRecDepth 1000000 in
theorem plain_any (s t : ByteArray) (w : World) (hv : Vars w) :
    Calls Tryd.prog 7 #[.string s, .string t] w fun e w' => e = .returned (.bool true) ∧ Below w.heap.size w w' := by
  have st := Sn.start hv
  have hlow := hv.low
  by_cases hs : s.size ≤ 10000
  · by_cases ht : t.size ≤ 10000
    · obtain ⟨i0, hi, hz0, hz1, hz2⟩ := info_parts info5
      go_enter Tryd.func7, Tryd.ntmps7
      go_wp2_with (first
        | (go_at_call 8; refine (small_is st).mono ?_; rintro e w1 ⟨rfl, st⟩)
        | (go_at_call 9; with_reducible refine (few_yes s hs _).mono ?_; rintro e w' ⟨rfl, rfl⟩)
        | (go_at_call 9; with_reducible refine (few_yes t ht _).mono ?_; rintro e w' ⟨rfl, rfl⟩))
      go_loopw [7, 6] (fun i v wr => ∃ k : Nat, k ≤ s.size ∧ i = .int .i64 k ∧ Hid (wr.ownsRow w.heap.size 5 1 v (keepL (s.data.toList.take k)).length (cellsOf (keepL (s.data.toList.take k)))) ∧ Hid (Sn w wr))
        (fun i _ _ => s.size - (intOf i).toNat)
      case atStart => exact ⟨0, Nat.zero_le _, rfl, Lib.hid (own_nil _ _), Lib.hid (by assumption)⟩
      case round =>
        clear st
        obtain ⟨k, hk, rfl, hown, st⟩ := hrel
        by_cases hlt : k < s.size
        · have HK := Lib.hid (keepL_snoc s k hlt)
          have hpi := plain_is s[k]
          cases hp : plainB s[k] with
          | false =>
            rw [hp] at HK
            have HK2 : Hid (keepL (s.data.toList.take (k + 1)) = keepL (s.data.toList.take k)) := Lib.hid (by rw [HK.out]; simp)
            rw [hp] at hpi
            have hor : s[k].toNat = 61 ∨ (s[k].toNat ≠ 61 ∧ s[k].toNat = 32) ∨ (s[k].toNat ≠ 61 ∧ s[k].toNat ≠ 32 ∧ s[k].toNat = 9) := by
              simp only [Bool.false_eq, Bool.and_eq_false_iff, decide_eq_false_iff_not] at hpi
              omega
            clear hpi hp HK
            rcases hor with h | ⟨h0, h⟩ | ⟨h0, h1, h⟩
            · have e1 : ((s[k].toNat : Int) != 61) = false := by rw [bne_eq_false_iff_eq]; omega
              go_wp2_with fail
              go_roundw
              case rel => exact ⟨k + 1, by omega, by go_num, by rw [HK2.out]; exact hown, st⟩
              case measure => simp [intOf]; omega
            · have e1 : ((s[k].toNat : Int) != 61) = true := by rw [bne_iff_ne]; omega
              have e2 : ((s[k].toNat : Int) != 32) = false := by rw [bne_eq_false_iff_eq]; omega
              go_wp2_with fail
              go_roundw
              case rel => exact ⟨k + 1, by omega, by go_num, by rw [HK2.out]; exact hown, st⟩
              case measure => simp [intOf]; omega
            · have e1 : ((s[k].toNat : Int) != 61) = true := by rw [bne_iff_ne]; omega
              have e2 : ((s[k].toNat : Int) != 32) = true := by rw [bne_iff_ne]; omega
              have e3 : ((s[k].toNat : Int) != 9) = false := by rw [bne_eq_false_iff_eq]; omega
              go_wp2_with fail
              go_roundw
              case rel => exact ⟨k + 1, by omega, by go_num, by rw [HK2.out]; exact hown, st⟩
              case measure => simp [intOf]; omega
          | true =>
            rw [hp] at HK hpi
            have hor : s[k].toNat ≠ 61 ∧ s[k].toNat ≠ 32 ∧ s[k].toNat ≠ 9 := by
              have := hpi.symm
              simp only [Bool.and_eq_true, decide_eq_true_eq] at this
              exact ⟨this.1.1, this.1.2, this.2⟩
            have e1 : ((s[k].toNat : Int) != 61) = true := by rw [bne_iff_ne]; omega
            have e2 : ((s[k].toNat : Int) != 32) = true := by rw [bne_iff_ne]; omega
            have e3 : ((s[k].toNat : Int) != 9) = true := by rw [bne_iff_ne]; omega
            have hkl : (keepL (s.data.toList.take k)).length ≤ 10000 := by
              have h1 := List.length_filter_le plainB (s.data.toList.take k)
              have h2 : (s.data.toList.take k).length ≤ k := by rw [List.length_take]; omega
              unfold keepL; omega
            have hsz : w.heap.size ≤ wr.heap.size := st.out.2.size
            have HK2 : Hid (keepL (s.data.toList.take (k + 1)) = keepL (s.data.toList.take k) ++ [s[k]]) := Lib.hid (by rw [HK.out, if_pos rfl])
            clear hpi hp hor HK
            go_wp2_with (at_builtin; refine wpList_append_own _ rfl _ _ 25 rfl w.heap.size 5 i0 (.int .u8 0) 1 1 Tryd.underlying25 hi hz0 hz1 hz2 rfl (by decide) _ _ _ rfl (World.ownsRow.alloc hown.out _) ⟨wr.heap.size, 0, none⟩ 1 1 (cellsOf [s[k]]) rfl rfl (bytes_new wr [s[k]]) (cellsOf_one _) ?c3 ?c4 ?c5 ?_)
            case c3 => unfold maxLen; omega
            case c4 => omega
            case c5 => first | omega | (rw [World.size_alloc]; omega) | (simp; omega)
            intro v' w2' hown2 hgrow2 _
            have hb2 : Below w.heap.size w w2' := (st.out.2.alloc st.out.2.size _).grown hgrow2 (by rw [World.size_alloc]; omega) (fun j hj => (hown.out.lt j hj).1)
            go_wp2
            go_roundw
            case rel =>
              refine ⟨k + 1, by omega, by go_num, Lib.hid ?_, Lib.hid ⟨hv.at hb2 hlow, hb2⟩⟩
              rw [HK2.out, List.length_append]
              unfold cellsOf at hown2 ⊢
              rw [List.map_append]
              exact hown2
            case measure => simp [intOf]; omega
        · have hk2 : k = s.size := by omega
          subst hk2
          rw [List.take_of_length_le (by rw [← size_list]; exact Nat.le_refl _)] at hown
          have hcv := conv_any rfl hown.out
          have hpl := keepL_all s.data.toList
          have hpn : (keepL s.data.toList).length ≤ 10000 := by
            have := List.length_filter_le plainB s.data.toList
            rw [← size_list] at this
            unfold keepL; omega
          obtain ⟨P, hP⟩ : ∃ P, strL (keepL s.data.toList) = P := ⟨_, rfl⟩
          have hPl : P.data.toList = keepL s.data.toList := by rw [← hP]; rfl
          have hPs : P.size ≤ 10000 := by rw [size_list, hPl]; exact hpn
          rw [show (⟨(keepL s.data.toList).toArray⟩ : ByteArray) = P from hP] at hcv
          rw [← hPl] at hpl
          have st := st.out
          have hX : (⟨#[120, 10]⟩ : ByteArray).data.toList = [120, 10] := rfl
          have c1 : ∀ w', Sn w w' → Calls Tryd.prog 16 #[.string P] w' fun e w'' => e = .returned (.string P) ∧ Sn w w'' := fun w' h => unqp_is P P (by omega) (by rw [plain_all hpl, strL_of]) h
          have s2 : (P ++ ⟨#[120, 10]⟩ ++ t).size ≤ 1000000 := by
            rw [size_list, list_append, list_append, hX, List.length_append, List.length_append, ← size_list, ← size_list]
            simp only [List.length_cons, List.length_nil]; omega
          have c2 : ∀ w', Sn w w' → Calls Tryd.prog 16 #[.string (P ++ ⟨#[120, 10]⟩ ++ t)] w' fun e w'' => e = .returned (.string (P ++ ⟨#[120, 10]⟩ ++ strL (unqpL t.data.toList))) ∧ Sn w w'' := fun w' h =>
            unqp_is _ _ s2 (by
              refine bytes_is ?_
              rw [strL_list, list_append, list_append, list_append, list_append, hX, strL_list, plain_front hpl]) h
          have c3 : ∀ w', Sn w w' → Calls Tryd.prog 16 #[.string t] w' fun e w'' => e = .returned (.string (strL (unqpL t.data.toList))) ∧ Sn w w'' := fun w' h => unqp_is t _ (by omega) rfl h
          have s4 : (t ++ ⟨#[120, 10]⟩ ++ P).size ≤ 1000000 := by
            rw [size_list, list_append, list_append, hX, List.length_append, List.length_append, ← size_list, ← size_list]
            simp only [List.length_cons, List.length_nil]; omega
          have c4 : ∀ w', Sn w w' → Calls Tryd.prog 16 #[.string (t ++ ⟨#[120, 10]⟩ ++ P)] w' fun e w'' => e = .returned (.string (strL (unqpL (t.data.toList ++ [120, 10])) ++ P)) ∧ Sn w w'' := fun w' h =>
            unqp_is _ _ s4 (by
              refine bytes_is ?_
              rw [strL_list, list_append, list_append, list_append, hX, strL_list, plain_behind hpl]) h
          have s5 : (t ++ ⟨#[120, 10]⟩).size ≤ 1000000 := by
            rw [size_list, list_append, hX, List.length_append, ← size_list]
            simp only [List.length_cons, List.length_nil]; omega
          have c5 : ∀ w', Sn w w' → Calls Tryd.prog 16 #[.string (t ++ ⟨#[120, 10]⟩)] w' fun e w'' => e = .returned (.string (strL (unqpL (t.data.toList ++ [120, 10])))) ∧ Sn w w'' := fun w' h =>
            unqp_is _ _ s5 (by rw [list_append, hX]) h
          have hU : (strL (unqpL t.data.toList)).size ≤ 10000 := by
            have := unqpL_length t.data.toList
            rw [← size_list] at this
            rw [strL_size]; omega
          have hV : (strL (unqpL (t.data.toList ++ [120, 10]))).size ≤ 10002 := by
            have := unqpL_length (t.data.toList ++ [120, 10])
            rw [List.length_append, ← size_list] at this
            simp only [List.length_cons, List.length_nil] at this
            rw [strL_size]; omega
          generalize strL (unqpL t.data.toList) = U at c2 c3 hU
          generalize strL (unqpL (t.data.toList ++ [120, 10])) = V at c4 c5 hV
          have C1 := Lib.hid c1
          have C2 := Lib.hid c2
          have C3 := Lib.hid c3
          have C4 := Lib.hid c4
          have C5 := Lib.hid c5
          clear c1 c2 c3 c4 c5 s2 s4 s5 hX hpl hPl hP hpn hown hlt hk
          go_wp2_with (first
            | (go_at_call 16; with_reducible refine (C1.out _ st).mono ?_; rintro e w' ⟨rfl, st⟩)
            | (go_at_call 16; with_reducible refine (C2.out _ st).mono ?_; rintro e w' ⟨rfl, st⟩)
            | (go_at_call 16; with_reducible refine (C3.out _ st).mono ?_; rintro e w' ⟨rfl, st⟩)
            | (go_at_call 16; with_reducible refine (C4.out _ st).mono ?_; rintro e w' ⟨rfl, st⟩)
            | (go_at_call 16; with_reducible refine (C5.out _ st).mono ?_; rintro e w' ⟨rfl, st⟩))
          go_ret
          exact ⟨rfl, st.2⟩
    · go_enter Tryd.func7, Tryd.ntmps7
      go_wp2_with (first
        | (go_at_call 8; refine (small_is st).mono ?_; rintro e w1 ⟨rfl, st⟩)
        | (go_at_call 9; with_reducible refine (few_yes s hs _).mono ?_; rintro e w' ⟨rfl, rfl⟩)
        | (go_at_call 9; with_reducible refine (few_no t ht _).mono ?_; rintro e w' ⟨rfl, rfl⟩))
      go_ret
      exact ⟨rfl, st.2⟩
  · go_enter Tryd.func7, Tryd.ntmps7
    go_wp2_with (first
      | (go_at_call 8; refine (small_is st).mono ?_; rintro e w1 ⟨rfl, st⟩)
      | (go_at_call 9; with_reducible refine (few_no s hs _).mono ?_; rintro e w' ⟨rfl, rfl⟩))
    go_ret
    exact ⟨rfl, st.2⟩
end Go.Proofs.YtblbajhjmdcdiaaDoor
