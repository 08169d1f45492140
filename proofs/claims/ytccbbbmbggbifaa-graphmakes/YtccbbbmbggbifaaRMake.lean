/- Make of the reference. -/
import Derived.Test.YtccbbbmbggbifaaOwn3
import Derived.Test.YtccbbbmbggbifaaRAdd
namespace Go.Proofs.Ytccbbbmbggbifaa
open Go.RowKit

/-- The first k edges, each put in its place. -/
def fold (es : List E) (k : Nat) : List E := (accE es k).foldl insE []
theorem fold_step {es : List E} {k : Nat} (h : k < es.length) : fold es (k + 1) = insE (fold es k) (trn (eA es k) (eB es k)) := by
  unfold fold; rw [accE_step h, List.foldl_append]; rfl
/-- What a round of Make goes on, of plain things. -/
structure Fo (n : Int) (es : List E) (k : Nat) : Prop where
  rise : Rise (fold es k)
  ok : ∀ e ∈ fold es k, okE n e = true
  perm : (fold es k).Perm (accE es k)
  err : makeErr n [] es = makeErr n (accE es k) (es.drop k)
theorem Fo.zero (n : Int) (es : List E) : Fo n es 0 := ⟨.nil, by simp [fold, accE], .refl _, rfl⟩
theorem Fo.add {n : Int} {es : List E} {k : Nat} (h : Fo n es k) (hk : k < es.length) (hl : es.length ≤ 65536) (h0 : 0 ≤ n) (h1 : n ≤ 4096) :
    addErr n (fold es k) (eA es k) (eB es k) = refuseI n (min (eA es k) (eB es k)) (max (eA es k) (eB es k)) (decide (trn (eA es k) (eB es k) ∈ accE es k)) (k : Nat) := by
  have hlen : (fold es k).length = k := by rw [h.perm.length_eq, accE_len (by omega)]
  have hr : rightB n (fold es k) = true := rise_right h0 h1 (by omega) h.rise h.ok
  rw [← add_refuse hr, hlen]
  congr 1
  have := h.perm.mem_iff (a := trn (eA es k) (eB es k))
  simp [this]
theorem Fo.next {n : Int} {es : List E} {k : Nat} (h : Fo n es k) (hk : k < es.length) (hc : refuseI n (min (eA es k) (eB es k)) (max (eA es k) (eB es k)) (decide (trn (eA es k) (eB es k) ∈ accE es k)) (k : Nat) = 0) : Fo n es (k + 1) := by
  obtain ⟨q1, q2, _⟩ := refuse_zero hc
  have hm : trn (eA es k) (eB es k) ∉ accE es k := by simpa using q2
  have hm2 : trn (eA es k) (eB es k) ∉ fold es k := fun h' => hm (h.perm.mem_iff.1 h')
  refine ⟨?_, ?_, ?_, ?_⟩
  · rw [fold_step hk]; exact insE_rise h.rise hm2
  · rw [fold_step hk]
    intro e he
    rcases insE_mem.1 he with rfl | he
    · exact okE_fault q1
    · exact h.ok e he
  · rw [fold_step hk, accE_step hk]
    exact insE_perm.trans ((List.Perm.cons _ h.perm).trans (List.perm_append_singleton _ _).symm)
  · rw [h.err, makeErr_step hk, if_neg (by rw [hc]; simp)]
theorem Fo.bad {n : Int} {es : List E} {k : Nat} {c : Int} (h : Fo n es k) (hk : k < es.length) (hc : refuseI n (min (eA es k) (eB es k)) (max (eA es k) (eB es k)) (decide (trn (eA es k) (eB es k) ∈ accE es k)) (k : Nat) = c) (h0 : c ≠ 0) : makeErr n [] es = c := by
  rw [h.err, makeErr_step hk, hc, if_pos h0]

set_option maxHeartbeats 1000000 in
theorem rmake_size (w : World) (n : Int) (v : Value) (hn : n < 0 ∨ 4096 < n) : Calls Try.prog 23 #[.int .i64 n, v] w fun e w' => Answers w w' e 0 [] 8 := by
  have RS := hide (Rs.start w 24)
  rcases hn with hn | hn
  all_goals
    go_enter Try.func23, Try.ntmps23
    go_wp2
    exact bodyPost_ret (v := .tuple #[gv 0 (.slice none 0 0), .int .i64 8]) (by simp [results, Try.results23, go_sem]) rfl ⟨_, rfl, EdgesAt.nil _ _ _, fresh_nil, (unhide RS).kept⟩
end Go.Proofs.Ytccbbbmbggbifaa
