/- The form's reach for a byte string. -/
import Derived.Test.YtddcephegpmbbaaDoorLaid
import Derived.SizedLaws
namespace Go.Proofs.YtddcephegpmbbaaDoor
open Go

theorem reach_is : reachBytes = 140737488351232 := by decide
theorem fits_str {H : Type} {ts : List TypeId} {ds : List (DataW H)} (h : (DataW.weightsEach Tryd.prog ts ds).all (· ≤ reachBytes) = true) {j : Nat} {s : ByteArray} (ht : ts[j]? = some 9) (hd : ds[j]? = some (.lit (.string s.data.toList))) : s.size ≤ 140737488351232 := by
  have h2 := List.all_eq_true.1 h s.data.toList.length (DataW.weights_mem_each ht hd _ (by simp [DataW.weights]))
  have h3 : s.data.toList.length ≤ reachBytes := by simpa using h2
  have h4 : s.data.toList.length = s.size := by rw [Array.length_toList]; rfl
  rw [reach_is] at h3
  omega

end Go.Proofs.YtddcephegpmbbaaDoor
