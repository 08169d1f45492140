/- Make, whole. -/
import Derived.Test.YtpebakgdnkjjeaaMake2
namespace Go.Proofs.Ytpebakgdnkjjeaa
open Go.RowKit Go.Maps

set_option maxRecDepth 20000 in
set_option maxHeartbeats 2000000 in
theorem sort_zero (w : World) (ao : Option Addr) (cap : Nat) (f : Value) : Calls Try.prog 27 #[.slice ao 0 cap, f] w fun e w' => e = .returned (.tuple #[]) ∧ w' = w := by
  go_enter Try.func27, Try.ntmps27
  go_wp2
  refine wp_loop_rounds 1 ?_
  rw [rounds_succ]
  go_wp2
  refine wp_loop_rounds 1 ?_
  rw [rounds_succ]
  go_wp2
  go_end0
  go_wp2
  refine bodyPost_ret (v := .tuple #[]) (by simp [results, Try.results40, go_sem]) rfl ?_
  go_wp2
  go_end0
  exact ⟨rfl, rfl⟩

/-- What is wrong first with a graph to be made. -/
def makeC (n : Int) (es : List E) : Int := if (decide (0 ≤ n) && decide (n ≤ 4096)) = true then makeErr n [] es else 8
def makeN (n : Int) (es : List E) : Int := if makeC n es = 0 then n else 0
def makeE (n : Int) (es : List E) : List E := if makeC n es = 0 then srt es else []
/-- Make. -/
theorem make_any {w : World} {n : Int} {v : Value} {es : List E} (h : EdgesAt w v es) (hw : ∀ e ∈ es, WfE e) (hl : es.length ≤ 65536) :
    Calls Try.prog 13 #[.int .i64 n, v] w fun e w' => Answers w w' e (makeN n es) (makeE n es) (makeC n es) := by
  unfold makeN makeE makeC
  cases hn : (decide (0 ≤ n) && decide (n ≤ 4096))
  · exact make_size w n v hn
  · exact make_core h hw hl hn sort_zero

set_option maxRecDepth 20000 in
set_option maxHeartbeats 2000000 in
theorem awake_any (w : World) : Calls Try.prog 9 #[] w fun e w' => e = .returned (.bool true) ∧ Kept [] w w' := by
  have HM := hide (make_any (n := 3) (edge_new w 2 0 36 1 w.heap.size (Nat.le_refl _) rfl) (by simp [WfE, InI]) (by simp))
  rw [show makeN 3 [(2, 0)] = 3 by decide +kernel, show makeE 3 [(2, 0)] = [(0, 2)] by decide +kernel, show makeC 3 [(2, 0)] = 0 by decide +kernel] at HM
  go_enter Try.func9, Try.ntmps9
  go_wp2_with fail
  refine (unhide HM).mono ?_
  rintro e w1 ⟨r, rfl, hr, _, k1⟩
  have HHas := hide (fun W (k : Kept [] w1 W) => has_any (n := 3) (hr.kept k) 0 2)
  rw [show decide (0 ≤ indexI 3 [(0, 2)] 0 2) = true by decide +kernel] at HHas
  obtain ⟨ao, cap, rfl, _, _, hh⟩ := hr.shape
  obtain ⟨g, o, rfl, hin⟩ := hh (by simp)
  have c0 := hin.a 0 (by simp)
  have c1 := hin.b 0 (by simp)
  simp [eA, eB] at c0 c1
  have HK := hide (((Kept.refl [] w).alloc (.cells #[.int .i64 2, .int .i64 0] 36)).trans k1)
  clear hr hh hin k1
  have c0' := alloc_cell c0
  have c1' := alloc_cell c1
  go_wp2_with fail
  refine (unhide HHas _ ((Kept.refl [] _).alloc _)).mono ?_
  rintro e w2 ⟨rfl, k2⟩
  go_wp2
  go_ret
  exact ⟨rfl, ((unhide HK).alloc _).trans k2⟩
end Go.Proofs.Ytpebakgdnkjjeaa
