/- BitsPlay's own function has. -/
import Derived.Test.YtmcgeadpoiihkaaDoorLaw1
namespace Go.Proofs.YtmcgeadpoiihkaaDoor
open Go.RowKit

set_option maxHeartbeats 400000 in
theorem has_out (w : World) (nb ib N : Nat) (k : Int) (hn : w.cell? ⟨nb, 0, none⟩ = some (.int .i64 (N : Nat))) (hk : k < 0 ∨ (N : Int) ≤ k) :
    Calls Tryd.prog 10 #[.int .i64 k, .pointer (some ⟨nb, 0, none⟩), .pointer (some ⟨ib, 0, none⟩)] w fun e w' => e = .returned (.bool false) ∧ w' = w := by
  rcases hk with hk | hk
  · go_enter Tryd.func10, Tryd.ntmps10
    go_wp2
    go_ret
    exact ⟨rfl, rfl⟩
  · have h0 : 0 ≤ k := by omega
    have hd : decide (k < (N : Int)) = false := by simp; omega
    go_enter Tryd.func10, Tryd.ntmps10
    go_wp2
    go_ret
    exact ⟨rfl, rfl⟩
set_option maxHeartbeats 400000 in
theorem has_in (w : World) (nb ib ab N k : Nat) (v : Bool) (hn : w.cell? ⟨nb, 0, none⟩ = some (.int .i64 (N : Nat))) (ha : w.cell? ⟨ib, 0, none⟩ = some (.slice (some ⟨ab, 0, none⟩) N N)) (hv : w.cell? ⟨ab, k, none⟩ = some (.bool v)) (hk : k < N) :
    Calls Tryd.prog 10 #[.int .i64 k, .pointer (some ⟨nb, 0, none⟩), .pointer (some ⟨ib, 0, none⟩)] w fun e w' => e = .returned (.bool v) ∧ w' = w := by
  go_enter Tryd.func10, Tryd.ntmps10
  go_wp2
  go_ret
  exact ⟨rfl, rfl⟩
end Go.Proofs.YtmcgeadpoiihkaaDoor
