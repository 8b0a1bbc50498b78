/- The reference: what a code point is, its encoding, and names in lower case. -/
import Derived.Test.YtbmnoneeialfpaaDoorFew
import Derived.Deep.RegionWith
import Derived.Laws.OwnMore
namespace Go.Proofs.YtbmnoneeialfpaaDoor
open Go.ChangeShapes Go.WideShapes Go.ChangeAt Go.RowKit

theorem info5 : (Tryd.prog.info? 5).map (fun i => (i.zero, i.size, i.bytes)) = some (some (.int .u8 0), 1, 1) := by kernel_rfl
def cellsOf (l : List UInt8) : List Value := l.map fun c => Value.int .u8 c.toNat
theorem cellsOf_one (l : List UInt8) : ∀ u ∈ cellsOf l, u.oneCell' = true := by
  intro u hu
  obtain ⟨c, _, rfl⟩ := List.mem_map.1 hu
  rfl
theorem bytes_new (w : World) (l : List UInt8) : ∀ j u, (cellsOf l)[j]? = some u → (w.alloc (.cells (cellsOf l).toArray 5)).cell? ((⟨w.heap.size, 0, none⟩ : Addr).add j) = some u := by
  intro j u h
  rw [add_none, Nat.zero_add]
  have := Go.heap_alloc_new w (.cells (cellsOf l).toArray 5)
  simp only [World.cell?, this]
  simpa using h
theorem conv_own {w : World} {base b n cap : Nat} {l : List UInt8} (hl : l.length = n) (hown : w.ownsRow base 5 1 (.slice (some ⟨b, 0, none⟩) n cap) n (cellsOf l)) :
    (convert 36 9 (.slice (some ⟨b, 0, none⟩) n cap)).run Tryd.prog w = .ok (.string ⟨l.toArray⟩) w := by
  subst hl
  refine run_convert_bytes_back w 36 9 5 ⟨b, 0, none⟩ cap l Tryd.underlying36 Tryd.underlying5 Tryd.underlying9 fun j hj => ?_
  refine hown.cells (g := b) rfl j _ ?_
  unfold cellsOf
  rw [List.getElem?_map, List.getElem?_eq_getElem hj]; rfl
theorem conv_any {w : World} {base n : Nat} {v : Value} {l : List UInt8} (hl : l.length = n) (hown : w.ownsRow base 5 1 v n (cellsOf l)) :
    (convert 36 9 v).run Tryd.prog w = .ok (.string ⟨l.toArray⟩) w := by
  rcases hown.2 with ⟨rfl, h⟩ | ⟨g, cap, cur, rfl, _⟩
  · obtain rfl : l = [] := List.eq_nil_of_length_eq_zero (by rw [hl, h])
    kernel_rfl
  · exact conv_own hl hown
/-- The conversion of a slice that was just made. -/
theorem conv_new (l : List UInt8) (n : Nat) (hn : l.length = n) (w : World) :
    (convert 36 9 (.slice (some ⟨w.heap.size, 0, none⟩) n n)).run Tryd.prog (w.alloc (.cells (cellsOf l).toArray 5)) = .ok (.string ⟨l.toArray⟩) (w.alloc (.cells (cellsOf l).toArray 5)) := by
  subst hn
  refine run_convert_bytes_back _ 36 9 5 ⟨w.heap.size, 0, none⟩ l.length l Tryd.underlying36 Tryd.underlying5 Tryd.underlying9 fun j hj => ?_
  refine bytes_new w l j _ ?_
  unfold cellsOf
  rw [List.getElem?_map, List.getElem?_eq_getElem hj]; rfl

/-- Is an integer a code point? -/
def sgn (n : Int) : Bool := decide (0 ≤ n) && cpB n.toNat
theorem sgn_nat {n : Nat} (h : cpB n = true) : sgn (n : Int) = true := by
  unfold sgn
  rw [Int.toNat_natCast, h, decide_eq_true (Int.natCast_nonneg n)]; rfl
theorem sgn_iff (n : Int) : sgn n = true ↔ 0 ≤ n ∧ cpB n.toNat = true := by unfold sgn; rw [Bool.and_eq_true, decide_eq_true_eq]
theorem sign_any (n : Int) (b : Bool) (hb : sgn n = b) (w : World) :
    Calls Tryd.prog 29 #[.int .i64 n] w fun e w' => e = .returned (.bool b) ∧ w = w' := by
  by_cases h0 : 0 ≤ n
  · by_cases h1 : n ≤ 1114111
    · by_cases h2 : n < 55296
      · have e : b = true := by rw [← hb]; exact (sgn_iff n).2 ⟨h0, (cp_iff _).2 (by omega)⟩
        subst e
        go_enter Tryd.func29, Tryd.ntmps29
        go_wp2
        go_ret
        exact ⟨rfl, rfl⟩
      · by_cases h3 : n > 57343
        · have e : b = true := by rw [← hb]; exact (sgn_iff n).2 ⟨h0, (cp_iff _).2 (by omega)⟩
          subst e
          go_enter Tryd.func29, Tryd.ntmps29
          go_wp2
          go_ret
          exact ⟨rfl, rfl⟩
        · have e : b = false := by
            rw [← hb, Bool.eq_false_iff]
            intro h
            have := (cp_iff _).1 ((sgn_iff n).1 h).2
            omega
          subst e
          go_enter Tryd.func29, Tryd.ntmps29
          go_wp2
          go_ret
          exact ⟨rfl, rfl⟩
    · have e : b = false := by
        rw [← hb, Bool.eq_false_iff]
        intro h
        have := (cp_iff _).1 ((sgn_iff n).1 h).2
        omega
      subst e
      go_enter Tryd.func29, Tryd.ntmps29
      go_wp2
      go_ret
      exact ⟨rfl, rfl⟩
  · have e : b = false := by
      rw [← hb, Bool.eq_false_iff]
      intro h
      exact h0 ((sgn_iff n).1 h).1
    subst e
    go_enter Tryd.func29, Tryd.ntmps29
    go_wp2
    go_ret
    exact ⟨rfl, rfl⟩
theorem u8_of {n : Nat} (h : n < 256) : (UInt8.ofNat n).toNat = n := nat_byte h
/-- The encoding of a code point lies in a block of its own. -/
theorem laid_any (n : Nat) (hn : cpB n = true) (w : World) :
    Calls Tryd.prog 25 #[.int .i64 n] w fun e w' => e = .returned (.slice (some ⟨w.heap.size, 0, none⟩) (encL n).length (encL n).length) ∧ w' = w.alloc (.cells (cellsOf (encL n)).toArray 5) := by
  have hc := (cp_iff n).1 hn
  by_cases c1 : n < 128
  · have n1 : (n : Int) < 128 := by omega
    have e1 : encL n = [UInt8.ofNat n] := by unfold encL; rw [if_pos c1]
    rw [e1]
    unfold cellsOf
    simp only [List.map_cons, List.map_nil, List.length_cons, List.length_nil]
    rw [u8_of (by omega)]
    go_enter Tryd.func25, Tryd.ntmps25
    go_wp2
    go_ret
    exact ⟨rfl, rfl⟩
  · have n1 : ¬ (n : Int) < 128 := by omega
    by_cases c2 : n < 2048
    · have n2 : (n : Int) < 2048 := by omega
      have e1 : encL n = [UInt8.ofNat (192 + n / 64), UInt8.ofNat (128 + n % 64)] := by unfold encL; rw [if_neg c1, if_pos c2]
      rw [e1]
      unfold cellsOf
      simp only [List.map_cons, List.map_nil, List.length_cons, List.length_nil]
      rw [u8_of (show 192 + n / 64 < 256 by omega), u8_of (show 128 + n % 64 < 256 by omega)]
      go_enter Tryd.func25, Tryd.ntmps25
      go_wp2
      go_ret
      exact ⟨rfl, by simp⟩
    · have n2 : ¬ (n : Int) < 2048 := by omega
      by_cases c3 : n < 65536
      · have n3 : (n : Int) < 65536 := by omega
        have e1 : encL n = [UInt8.ofNat (224 + n / 4096), UInt8.ofNat (128 + n / 64 % 64), UInt8.ofNat (128 + n % 64)] := by unfold encL; rw [if_neg c1, if_neg c2, if_pos c3]
        rw [e1]
        unfold cellsOf
        simp only [List.map_cons, List.map_nil, List.length_cons, List.length_nil]
        rw [u8_of (show 224 + n / 4096 < 256 by omega), u8_of (show 128 + n / 64 % 64 < 256 by omega), u8_of (show 128 + n % 64 < 256 by omega)]
        go_enter Tryd.func25, Tryd.ntmps25
        go_wp2
        go_ret
        exact ⟨rfl, by simp⟩
      · have n3 : ¬ (n : Int) < 65536 := by omega
        have e1 : encL n = [UInt8.ofNat (240 + n / 262144), UInt8.ofNat (128 + n / 4096 % 64), UInt8.ofNat (128 + n / 64 % 64), UInt8.ofNat (128 + n % 64)] := by unfold encL; rw [if_neg c1, if_neg c2, if_neg c3]
        rw [e1]
        unfold cellsOf
        simp only [List.map_cons, List.map_nil, List.length_cons, List.length_nil]
        rw [u8_of (show 240 + n / 262144 < 256 by omega), u8_of (show 128 + n / 4096 % 64 < 256 by omega), u8_of (show 128 + n / 64 % 64 < 256 by omega), u8_of (show 128 + n % 64 < 256 by omega)]
        go_enter Tryd.func25, Tryd.ntmps25
        go_wp2
        go_ret
        exact ⟨rfl, by simp⟩
end Go.Proofs.YtbmnoneeialfpaaDoor
