/- The sanity example that every law evaluates first: it comes out true. -/
import Derived.Test.YtbmnoneeialfpaaDoorDecode
import Derived.Test.YtbmnoneeialfpaaDoorRunes
namespace Go.Proofs.YtbmnoneeialfpaaDoor
open Go.ChangeShapes Go.WideShapes Go.ChangeAt Go.RowKit

/-- The variables stand, and all older memory. -/
def St (w0 w : World) : Prop := Vars w ∧ Below w0.heap.size w0 w
theorem St.next {w0 w w' : World} (h : St w0 w) (hb : Below w.heap.size w w') : St w0 w' := ⟨h.1.below hb, h.2.trans (hb.mono h.2.size)⟩
theorem dec_known (n s r : ByteArray) (b : Bool) (hn : n.size ≤ 1000000) (hs : s.size ≤ 1000000) (hr : (⟨(decL (kindL n.data.toList) s.data.toList).toArray⟩ : ByteArray) = r) (hb : decide (kindL n.data.toList ≠ 0) = b) {w0 w : World} (hv : St w0 w) :
    Calls Tryd.prog 10 #[.string n, .string s] w fun e w' => e = .returned (.tuple #[.string r, .bool b]) ∧ St w0 w' := by
  subst hr hb
  exact (decode_any n s hn hs w hv.1).mono fun e w' h => ⟨h.1, hv.next h.2⟩
theorem known_known (n : ByteArray) (b : Bool) (hn : n.size ≤ 1000000) (hb : decide (kindL n.data.toList ≠ 0) = b) {w0 w : World} (hv : St w0 w) :
    Calls Tryd.prog 20 #[.string n] w fun e w' => e = .returned (.bool b) ∧ St w0 w' := by
  subst hb
  exact (known_any n hn w hv.1).mono fun e w' h => ⟨h.1, hv.next h.2⟩
theorem valid_known (s : ByteArray) (b : Bool) (hs : s.size ≤ 1000000) (hb : validL s.data.toList = b) {w0 w : World} (hv : St w0 w) :
    Calls Tryd.prog 14 #[.string s] w fun e w' => e = .returned (.bool b) ∧ St w0 w' := by
  subst hb
  exact (valid_any s hs w hv.1).mono fun e w' h => ⟨h.1, hv.next h.2⟩
theorem rune_known (n : Int) (r : ByteArray) (hr : (⟨(runeL n).toArray⟩ : ByteArray) = r) (w : World) :
    Calls Tryd.prog 16 #[.int .i64 n] w fun e w' => e = .returned (.string r) ∧ w = w' := by
  subst hr
  exact rune_any n w
theorem runes_known (s : ByteArray) (hs : s.size ≤ 1000000) (xs : List Nat) (hx : runesL s.data.toList = xs) {w0 w : World} (hv : St w0 w) :
    Calls Tryd.prog 12 #[.string s] w fun e w' => ∃ g, e = .returned (.slice (some ⟨g, 0, none⟩) xs.length xs.length) ∧ RowAt w' g xs ∧ St w0 w' := by
  subst hx
  exact (runes_any s hs w).mono fun e w' ⟨g, h1, _, h2, h3⟩ => ⟨g, h1, h2, hv.next h3⟩

theorem ans0 {w0 w : World} (hv : St w0 w) : Calls Tryd.prog 10 #[.string ⟨#[87, 105, 110, 100, 111, 119, 115, 45, 49, 50, 53, 50]⟩, .string ⟨#[97, 128, 129, 228]⟩] w fun e w' => e = .returned (.tuple #[.string ⟨#[97, 226, 130, 172, 194, 129, 195, 164]⟩, .bool true]) ∧ St w0 w' :=
  dec_known ⟨#[87, 105, 110, 100, 111, 119, 115, 45, 49, 50, 53, 50]⟩ ⟨#[97, 128, 129, 228]⟩ ⟨#[97, 226, 130, 172, 194, 129, 195, 164]⟩ true (by decide) (by decide) (by decide +kernel) (by decide +kernel) hv
theorem ans1 {w0 w : World} (hv : St w0 w) : Calls Tryd.prog 10 #[.string ⟨#[120]⟩, .string ⟨#[128]⟩] w fun e w' => e = .returned (.tuple #[.string ⟨#[226, 130, 172]⟩, .bool false]) ∧ St w0 w' :=
  dec_known ⟨#[120]⟩ ⟨#[128]⟩ ⟨#[226, 130, 172]⟩ false (by decide) (by decide) (by decide +kernel) (by decide +kernel) hv
theorem ans2 {w0 w : World} (hv : St w0 w) : Calls Tryd.prog 10 #[.string ⟨#[117, 115, 45, 97, 115, 99, 105, 105]⟩, .string ⟨#[97, 128]⟩] w fun e w' => e = .returned (.tuple #[.string ⟨#[97, 239, 191, 189]⟩, .bool true]) ∧ St w0 w' :=
  dec_known ⟨#[117, 115, 45, 97, 115, 99, 105, 105]⟩ ⟨#[97, 128]⟩ ⟨#[97, 239, 191, 189]⟩ true (by decide) (by decide) (by decide +kernel) (by decide +kernel) hv
theorem ans3 {w0 w : World} (hv : St w0 w) : Calls Tryd.prog 10 #[.string ⟨#[76, 65, 84, 73, 78, 49]⟩, .string ⟨#[128, 228]⟩] w fun e w' => e = .returned (.tuple #[.string ⟨#[194, 128, 195, 164]⟩, .bool true]) ∧ St w0 w' :=
  dec_known ⟨#[76, 65, 84, 73, 78, 49]⟩ ⟨#[128, 228]⟩ ⟨#[194, 128, 195, 164]⟩ true (by decide) (by decide) (by decide +kernel) (by decide +kernel) hv
theorem ans4 {w0 w : World} (hv : St w0 w) : Calls Tryd.prog 10 #[.string ⟨#[117, 116, 102, 45, 56]⟩, .string ⟨#[195, 164, 255]⟩] w fun e w' => e = .returned (.tuple #[.string ⟨#[195, 164, 239, 191, 189]⟩, .bool true]) ∧ St w0 w' :=
  dec_known ⟨#[117, 116, 102, 45, 56]⟩ ⟨#[195, 164, 255]⟩ ⟨#[195, 164, 239, 191, 189]⟩ true (by decide) (by decide) (by decide +kernel) (by decide +kernel) hv
theorem ansR {w0 w : World} (hv : St w0 w) : Calls Tryd.prog 12 #[.string ⟨#[97, 195, 164, 226, 130, 172, 240, 159, 152, 128, 237, 160, 128]⟩] w fun e w' => ∃ g, e = .returned (.slice (some ⟨g, 0, none⟩) 7 7) ∧ w'.cell? ⟨g, 0, none⟩ = some (.int .i64 97) ∧ w'.cell? ⟨g, 1, none⟩ = some (.int .i64 228) ∧ w'.cell? ⟨g, 2, none⟩ = some (.int .i64 8364) ∧ w'.cell? ⟨g, 3, none⟩ = some (.int .i64 128512) ∧ w'.cell? ⟨g, 4, none⟩ = some (.int .i64 65533) ∧ w'.cell? ⟨g, 6, none⟩ = some (.int .i64 65533) ∧ St w0 w' :=
  (runes_known ⟨#[97, 195, 164, 226, 130, 172, 240, 159, 152, 128, 237, 160, 128]⟩ (by decide) [97, 228, 8364, 128512, 65533, 65533, 65533] (by decide +kernel) hv).mono fun e w' ⟨g, h1, h2, h3⟩ => ⟨g, h1, h2.2 0 (by decide), h2.2 1 (by decide), h2.2 2 (by decide), h2.2 3 (by decide), h2.2 4 (by decide), h2.2 6 (by decide), h3⟩
theorem ans5 {w0 w : World} (hv : St w0 w) : Calls Tryd.prog 14 #[.string ⟨#[195, 164]⟩] w fun e w' => e = .returned (.bool true) ∧ St w0 w' :=
  valid_known ⟨#[195, 164]⟩ true (by decide) (by decide +kernel) hv
theorem ans6 {w0 w : World} (hv : St w0 w) : Calls Tryd.prog 14 #[.string ⟨#[192, 128]⟩] w fun e w' => e = .returned (.bool false) ∧ St w0 w' :=
  valid_known ⟨#[192, 128]⟩ false (by decide) (by decide +kernel) hv
theorem ans7 {w0 w : World} (hv : St w0 w) : Calls Tryd.prog 14 #[.string ⟨#[228]⟩] w fun e w' => e = .returned (.bool false) ∧ St w0 w' :=
  valid_known ⟨#[228]⟩ false (by decide) (by decide +kernel) hv
theorem ans8 (w : World) : Calls Tryd.prog 16 #[.int .i64 8364] w fun e w' => e = .returned (.string ⟨#[226, 130, 172]⟩) ∧ w = w' :=
  rune_known 8364 ⟨#[226, 130, 172]⟩ (by decide +kernel) w
theorem ans9 (w : World) : Calls Tryd.prog 16 #[.int .i64 55296] w fun e w' => e = .returned (.string ⟨#[239, 191, 189]⟩) ∧ w = w' :=
  rune_known 55296 ⟨#[239, 191, 189]⟩ (by decide +kernel) w
theorem ans10 (w : World) : Calls Tryd.prog 16 #[.int .i64 (-1)] w fun e w' => e = .returned (.string ⟨#[239, 191, 189]⟩) ∧ w = w' :=
  rune_known (-1) ⟨#[239, 191, 189]⟩ (by decide +kernel) w
theorem ans11 {w0 w : World} (hv : St w0 w) : Calls Tryd.prog 20 #[.string ⟨#[65, 83, 67, 73, 73]⟩] w fun e w' => e = .returned (.bool true) ∧ St w0 w' :=
  known_known ⟨#[65, 83, 67, 73, 73]⟩ true (by decide) (by decide +kernel) hv
theorem ans12 {w0 w : World} (hv : St w0 w) : Calls Tryd.prog 20 #[.string ⟨#[107, 111, 105, 56, 45, 114]⟩] w fun e w' => e = .returned (.bool false) ∧ St w0 w' :=
  known_known ⟨#[107, 111, 105, 56, 45, 114]⟩ false (by decide) (by decide +kernel) hv

set_option maxHeartbeats 4000000 in
set_option maxRecDepth 1000000 in
theorem small_any (w : World) (hv : Vars w) :
    Calls Tryd.prog 8 #[] w fun e w' => e = .returned (.bool true) ∧ Below w.heap.size w w' := by
  have hst : St w w := ⟨hv, Below.refl _ _⟩
  go_enter Tryd.func8, Tryd.ntmps8
  go_wp2_with (first
    | (go_at_call 10; with_reducible refine (ans0 (by assumption)).mono ?_; rintro e w1 ⟨rfl, hs1⟩)
    | (go_at_call 10; with_reducible refine (ans1 (by assumption)).mono ?_; rintro e w1 ⟨rfl, hs1⟩)
    | (go_at_call 10; with_reducible refine (ans2 (by assumption)).mono ?_; rintro e w1 ⟨rfl, hs1⟩)
    | (go_at_call 10; with_reducible refine (ans3 (by assumption)).mono ?_; rintro e w1 ⟨rfl, hs1⟩)
    | (go_at_call 10; with_reducible refine (ans4 (by assumption)).mono ?_; rintro e w1 ⟨rfl, hs1⟩)
    | (go_at_call 12; with_reducible refine (ansR (by assumption)).mono ?_; rintro e w1 ⟨g, rfl, c0, c1, c2, c3, c4, c6, hs1⟩)
    | (go_at_call 14; with_reducible refine (ans5 (by assumption)).mono ?_; rintro e w1 ⟨rfl, hs1⟩)
    | (go_at_call 14; with_reducible refine (ans6 (by assumption)).mono ?_; rintro e w1 ⟨rfl, hs1⟩)
    | (go_at_call 14; with_reducible refine (ans7 (by assumption)).mono ?_; rintro e w1 ⟨rfl, hs1⟩)
    | (go_at_call 16; with_reducible refine (ans8 _).mono ?_; rintro e w1 ⟨rfl, rfl⟩)
    | (go_at_call 16; with_reducible refine (ans9 _).mono ?_; rintro e w1 ⟨rfl, rfl⟩)
    | (go_at_call 16; with_reducible refine (ans10 _).mono ?_; rintro e w1 ⟨rfl, rfl⟩)
    | (go_at_call 20; with_reducible refine (ans11 (by assumption)).mono ?_; rintro e w1 ⟨rfl, hs1⟩)
    | (go_at_call 20; with_reducible refine (ans12 (by assumption)).mono ?_; rintro e w1 ⟨rfl, hs1⟩))
  go_ret
  refine ⟨?_, (show St w _ from by assumption).2⟩
  rfl
end Go.Proofs.YtbmnoneeialfpaaDoor
