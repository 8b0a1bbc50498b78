/- SumGoes: equal checksums stay equal, unequal ones unequal, with the same bytes behind. -/
import Derived.Test.YtddcephegpmbbaaDoorSmall
namespace Go.Proofs.YtddcephegpmbbaaDoor
open Go.ChangeShapes Go.WideShapes Go.ChangeAt Go.RowKit

theorem nats_append (a b : ByteArray) : nats (a ++ b).data.toList = nats a.data.toList ++ nats b.data.toList := by
  rw [ByteArray.data_append, Array.toList_append]
  exact List.map_append
theorem crc_val (s : ByteArray) (c : Nat) (hc : crcL (nats s.data.toList) = c) (hs : s.size ≤ 9223372036854775807) (w : World) :
    Calls Tryd.prog 10 #[.string s] w fun e w' => e = .returned (.int .u32 (c : Int)) ∧ w = w' := by
  subst hc
  exact crc_any s hs w
theorem goes_any (a b t : ByteArray) (ma : a.size ≤ 9223372036854775807) (mb : b.size ≤ 9223372036854775807) (mt : t.size ≤ 9223372036854775807) (w : World) (hv : Vars w) :
    Calls Tryd.prog 5 #[.string a, .string b, .string t] w fun e w' => e = .returned (.bool true) ∧ Below w.heap.size w w' := by
  have hV := Lib.hid hv
  clear hv
  have hcore := crc_goes (nats a.data.toList) (nats b.data.toList) (nats t.data.toList) (nats_lt _) (nats_lt _) (nats_lt _)
  rw [← nats_append, ← nats_append] at hcore
  have sa : (a ++ t).size = a.size + t.size := ByteArray.size_append
  have sb : (b ++ t).size = b.size + t.size := ByteArray.size_append
  obtain ⟨c1, h1⟩ : ∃ c, crcL (nats a.data.toList) = c := ⟨_, rfl⟩
  obtain ⟨c2, h2⟩ : ∃ c, crcL (nats b.data.toList) = c := ⟨_, rfl⟩
  obtain ⟨c3, h3⟩ : ∃ c, crcL (nats (a ++ t).data.toList) = c := ⟨_, rfl⟩
  obtain ⟨c4, h4⟩ : ∃ c, crcL (nats (b ++ t).data.toList) = c := ⟨_, rfl⟩
  rw [h1, h2, h3, h4] at hcore
  have H1 := Lib.hid h1
  have H2 := Lib.hid h2
  have H3 := Lib.hid h3
  have H4 := Lib.hid h4
  have HS := Lib.hid (And.intro sa sb)
  clear h1 h2 h3 h4 sa sb
  by_cases ha : a.size ≤ 1000
  · by_cases hb : b.size ≤ 1000
    · by_cases ht : t.size ≤ 1000
      · have K1 := Lib.hid (fun w => crc_val a c1 H1.out (by omega) w)
        have K2 := Lib.hid (fun w => crc_val b c2 H2.out (by omega) w)
        have K3 := Lib.hid (fun w => crc_val (a ++ t) c3 H3.out (by rw [HS.out.1]; omega) w)
        have K4 := Lib.hid (fun w => crc_val (b ++ t) c4 H4.out (by rw [HS.out.2]; omega) w)
        by_cases e : c1 = c2
        · have e2 := hcore.1 e
          subst e
          subst e2
          clear hcore H1 H2 H3 H4 HS
          go_enter Tryd.func5, Tryd.ntmps5
          go_wp2_with fail
          refine (small_any _ hV.out).mono ?_
          rintro e w1 ⟨rfl, hb1⟩
          go_wp2_with (go_at_call 10; first
            | ((with_reducible refine (K1.out _).mono ?_); rintro e w' ⟨rfl, rfl⟩)
            | ((with_reducible refine (K2.out _).mono ?_); rintro e w' ⟨rfl, rfl⟩)
            | ((with_reducible refine (K3.out _).mono ?_); rintro e w' ⟨rfl, rfl⟩)
            | ((with_reducible refine (K4.out _).mono ?_); rintro e w' ⟨rfl, rfl⟩))
          go_ret
          exact ⟨rfl, hb1⟩
        · have e2 : ¬ c3 = c4 := fun h => e (hcore.2 h)
          clear hcore H1 H2 H3 H4 HS
          have e3 : ((c1 : Int) == (c2 : Int)) = false := by rw [beq_eq_false_iff_ne]; omega
          have e4 : ((c3 : Int) == (c4 : Int)) = false := by rw [beq_eq_false_iff_ne]; omega
          go_enter Tryd.func5, Tryd.ntmps5
          go_wp2_with fail
          refine (small_any _ hV.out).mono ?_
          rintro e w1 ⟨rfl, hb1⟩
          go_wp2_with (go_at_call 10; first
            | ((with_reducible refine (K1.out _).mono ?_); rintro e w' ⟨rfl, rfl⟩)
            | ((with_reducible refine (K2.out _).mono ?_); rintro e w' ⟨rfl, rfl⟩)
            | ((with_reducible refine (K3.out _).mono ?_); rintro e w' ⟨rfl, rfl⟩)
            | ((with_reducible refine (K4.out _).mono ?_); rintro e w' ⟨rfl, rfl⟩))
          go_ret
          exact ⟨rfl, hb1⟩
      · clear hcore H1 H2 H3 H4 HS
        go_enter Tryd.func5, Tryd.ntmps5
        go_wp2_with fail
        refine (small_any _ hV.out).mono ?_
        rintro e w1 ⟨rfl, hb1⟩
        go_wp2_with fail
        go_ret
        exact ⟨rfl, hb1⟩
    · clear hcore H1 H2 H3 H4 HS
      go_enter Tryd.func5, Tryd.ntmps5
      go_wp2_with fail
      refine (small_any _ hV.out).mono ?_
      rintro e w1 ⟨rfl, hb1⟩
      go_wp2_with fail
      go_ret
      exact ⟨rfl, hb1⟩
  · clear hcore H1 H2 H3 H4 HS
    go_enter Tryd.func5, Tryd.ntmps5
    go_wp2_with fail
    refine (small_any _ hV.out).mono ?_
    rintro e w1 ⟨rfl, hb1⟩
    go_wp2_with fail
    go_ret
    exact ⟨rfl, hb1⟩
end Go.Proofs.YtddcephegpmbbaaDoor
