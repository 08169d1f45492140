/- PiecesParity: the walk. -/
import Derived.Test.YtpebakgdnkjjeaaDoorSomeP
import Derived.Test.YtpebakgdnkjjeaaDoorWf
namespace Go.Proofs.YtpebakgdnkjjeaaDoor
open Go.RowKit

/-- A graph in a variable, its edges beside. -/
structure GVar (w : World) (p : Nat) (n : Int) (v : Value) (es : List E) : Prop where
  a : w.cell? ⟨p, 0, none⟩ = some (.int .i64 n)
  b : w.cell? ⟨p, 1, none⟩ = some v
  e : EdgesAt w v es
theorem GVar.kept {w w' : World} {p : Nat} {n : Int} {v : Value} {es : List E} (h : GVar w p n v es) (k : Kept [] w w') : GVar w' p n v es := ⟨kept_cell h.a k, kept_cell h.b k, h.e.kept k⟩
theorem GVar.new {w : World} {n : Int} {v : Value} {es : List E} (h : EdgesAt w v es) (t : TypeId) : GVar (w.alloc (.cells #[.int .i64 n, v] t)) w.heap.size n v es :=
  ⟨(box2 (Kept.refl [] _) (by simp)).1, (box2 (Kept.refl [] _) (by simp)).2, h.kept ((Kept.refl [] w).alloc _)⟩

set_option maxRecDepth 20000 in
set_option maxHeartbeats 4000000 in
theorem parity_walk {w : World} {v : Value} {xs : List Int} (n : Int) (h : IntsAt w v xs) (x : Int) (hT : Tab w) : Calls Tryd.prog 5 #[.int .i64 n, v, .int .u64 x] w fun e w' => e = .returned (.bool true) ∧ Kept [] w w' := by
  have HS := hide (small_any h n 30 60 (by omega) (by omega) (by omega) (by omega))
  have HTT := hide (fun W (k : Kept [] w W) => hT.kept k (by simp))
  clear h hT
  go_enter Tryd.func5, Tryd.ntmps5
  go_wp2_with fail
  refine (unhide HS).mono ?_
  rintro e w1 ⟨N, r, es, rfl, hr, hright, hNV, hel, _, k1⟩
  obtain ⟨ao, cap, rfl, _⟩ := hr.shape
  obtain ⟨M, rfl⟩ := Int.eq_ofNat_of_zero_le (right_rise hright).1
  have G1 := hide (GVar.new (n := (M : Int)) hr 24)
  have K1 := hide (k1.alloc (.cells #[.int .i64 (M : Int), .slice ao es.length cap] 24))
  have HRT := hide hright
  have ga := (unhide G1).a; have gb := (unhide G1).b
  clear hr hright k1
  go_wp2_with fail
  generalize hW1 : w1.alloc (.cells #[.int .i64 (M : Int), .slice ao es.length cap] 24) = W1 at *
  generalize w1.heap.size = p0 at *
  clear hW1
  refine (some_any W1 M (.slice ao es.length cap) x).mono ?_
  rintro e w2 ⟨r2, ys, rfl, hy, hrise, hyb, hyl, _, k2⟩
  obtain ⟨yo, yc, rfl, _⟩ := hy.shape
  have G2 := hide ((unhide G1).kept k2)
  have K2 := hide ((unhide K1).trans k2)
  have HOD := hide (odd_any (n := (M : Int)) (unhide G2).e hy (unhide HTT _ (unhide K2)))
  have HCNT := hide (fun L (hp : IsPieces es (Alive (M : Int) ys) L) => hp.count hrise hyb)
  clear ga gb hy hrise hyb k2
  have ga := (unhide G2).a; have gb := (unhide G2).b
  go_wp2_with fail
  refine (unhide HOD).mono ?_
  rintro e w3 ⟨L, rfl, hP, k3⟩
  have hc := unhide HCNT L (hP.1 (unhide HRT))
  have ho := odd_flat L
  have G3 := hide ((unhide G2).kept k3)
  have K3 := hide ((unhide K2).trans k3)
  have HAW := hide (pawake_any (unhide HTT _ (unhide K3)))
  generalize oddL L = o at *
  generalize L.flatten.length = f at *
  clear ga gb hP k3
  have ga := (unhide G3).a; have gb := (unhide G3).b
  have hle : (o : Int) ≤ (M : Int) - (ys.length : Int) := by omega
  have hge : (0 : Int) ≤ (o : Int) := by omega
  have hmod : ((M : Int) - (ys.length : Int) - (o : Int)).tmod 2 = 0 := by
    rw [Int.tmod_eq_emod_of_nonneg (by omega)]; omega
  have hmod2 : ((M : Int) - (ys.length : Int) - (o : Int)) % 2 = 0 := by omega
  go_wp2_with fail
  refine (unhide HAW).mono ?_
  rintro e w4 ⟨rfl, k4⟩
  go_wp2
  go_ret
  exact ⟨rfl, (unhide K3).trans k4⟩
theorem parity_law (w : World) (n : Int) (_ : InI n) (v : Value) (xs : List Int) (h : IntsAt w v xs) (x : Int) (hT : Tab w) : Calls Tryd.prog 5 #[.int .i64 n, v, .int .u64 x] w fun e w' => e = .returned (.bool true) ∧ Kept [] w w' := parity_walk n h x hT
end Go.Proofs.YtpebakgdnkjjeaaDoor
