/- isRoot, above. -/
import Derived.Test.YtfilhbkenedchabSingleGrows12
import Derived.BigRegion
import Derived.Deep.RegionHeld3
namespace Go.Proofs.Ytfilhbkenedchab
open Go.RowKit

section
variable {w0 w : World} {p g jp jg base N : Nat} {nv mv ve : Value} {F : FS} {m : List Int}
theorem fisRoot_any (h : FAt w0 w p g jp jg base N nv mv ve F) (hm : IntsAt w0 mv m) (hml : m.length = N) {v : Nat} (hv : v < N) : Calls Try.prog 34 #[.pointer (some ⟨p, 0, none⟩), .int .i64 (v : Int)] w fun e w' => e = .returned (.bool (decide (m.getD v 0 = -1))) ∧ w' = w := by
  subst hml
  obtain ⟨mg, mo, cap, rfl, hc⟩ := mate_cell hm h.k (by omega)
  have a0 := hc v hv
  have c1 := h.c1
  have t0 : (0 : Int) ≤ (v : Int) := by omega
  have t1 : (v : Int) < (m.length : Int) := by omega
  generalize m.getD v 0 = x at *
  clear hc h hm
  go_enter Try.func34, Try.ntmps34
  go_wp2
  go_ret
  refine ⟨ret_bool ?_, rfl⟩
  by_cases h : x = -1 <;> simp [h]
set_option maxRecDepth 20000 in
set_option maxHeartbeats 4000000 in
theorem fabove_any (h : FAt w0 w p g jp jg base N nv mv ve F) (hm : IntsAt w0 mv m) (hml : m.length = N) {b y x : Nat} (hb : b < N) (hy : m.getD b 0 = (y : Int)) (hyN : y < N) (hx : F.up y = (x : Int)) (hxN : x < N) (hk : 0 ≤ F.k ∧ F.k ≤ 1000000000) :
    Calls Try.prog 67 #[.pointer (some ⟨p, 0, none⟩), .int .i64 (b : Int)] w fun e w' => e = .returned (.int .i64 (F.B x : Int)) ∧ FAt w0 w' p g jp jg base N nv mv ve { F with k := F.k + 2 } ∧ Kept [p] w w' := by
  subst hml
  have c6 := h.c6
  have f6 := h.fr 6
  have H1 := h.setK (F.k + 2)
  obtain ⟨mg, mo, cap, rfl, hc⟩ := mate_cell hm H1.k (by omega)
  have a0 := hc b hb
  rw [hy] at a0
  have u0 := H1.nodes.up y hyN
  rw [show ({ F with k := F.k + 2 } : FS).up y = (x : Int) from hx] at u0
  have c1 := H1.c1
  have c2 := H1.c2
  have c5 := H1.c5
  have HL := hide (fun n => (H1.jb.kept ((Kept.refl [] _).drewN n) (by simp) (by simp)).label hxN)
  have HF := hide (fun n => And.intro (H1.keptE ((Kept.refl [] _).drewN n)) ((kept_set w p 6 (.int .i64 (F.k + 2))).drewN n))
  have t0 : (0 : Int) ≤ (b : Int) := by omega
  have t1 : (b : Int) < (m.length : Int) := by omega
  have y0 : (0 : Int) ≤ (y : Int) := by omega
  have y1 : (y : Int) < (m.length : Int) := by omega
  have k0 := hk.1
  have k1 := hk.2
  clear hc h hm H1 hy hx hb hyN hk
  generalize F.B x = bx at *
  generalize F.k = kk at *
  generalize m.length = N at *
  go_enter Try.func67, Try.ntmps67
  go_wp2_with fail
  clear c6 f6
  generalize w.setCell ⟨p, 6, none⟩ (.int .i64 (kk + 2)) = W1 at *
  go_quiet ((go_at_call_of 33 x; exact Calls.quiet_of_same (unhide HL _)))
  go_wp2
  go_ret
  exact ⟨rfl, unhide HF _⟩
end
end Go.Proofs.Ytfilhbkenedchab
