/- copy of entries into a row of the call's own; Sorted. Put of the reference: an entry among some. -/
import Derived.Test.YtlbiaakmdfcfjaaQueueTurns11
import Derived.Laws.CopyRow
import Derived.Test.YtlbiaakmdfcfjaaQueueTurns7
import Derived.Test.YtlbiaakmdfcfjaaQueueTurns4
namespace Go.Proofs.Ytlbiaakmdfcfjaa
open Go.RowKit

theorem run_copy_two {P : Program} (w : World) (dT sT ty elem : TypeId) (g dLen dCap : Nat) (a : Addr) (sLen sCap : Nat) (cur : Array Value) (t : TypeId) (cs : List Value) (n : Nat)
    (hu : P.underlying dT = some (.slice elem)) (hs : (P.info? elem).map (·.size) = some 2)
    (hg : w.heap[g]? = some (.cells cur t (0, 0))) (hn : n = Nat.min sLen dLen) (hc : cs.length = n * 2)
    (hsrc : ∀ j v, cs[j]? = some v → w.cell? (a.add j) = some v) (hfit : cs.length ≤ cur.size) (h1 : ∀ v ∈ cs, v.oneCell' = true) :
    (Builtin.copy_ #[dT, sT] ty #[.slice (some ⟨g, 0, none⟩) dLen dCap, .slice (some a) sLen sCap]).run P w =
      .ok (goInt n) (w.setRow g (cs ++ cur.toList.drop cs.length).toArray) := by
  have hl := run_loadCells_list (P := P) w a cs hsrc
  have hst := run_storeCells_at P g 0 t cs 0 cur w hg (by simpa using hfit) h1
  rw [hc] at hl
  cases hq : P.info? elem with
  | none => simp [hq] at hs
  | some i =>
    have hi : i.size = 2 := by simpa [hq] using hs
    simp [Builtin.copy_, run_underlying hu, Builtin.lenOf, Builtin.firstCells, sizeOf, typeInfo, hq, hi, ← hn, hl, hst]
theorem run_copy_edges {w : World} {g n dCap : Nat} {v : Value} {es : List E} (ty : TypeId) (h : EdgesAt w v es) (hn : es.length = n) (cur : Array Value) (hg : w.heap[g]? = some (.cells cur 26 (0, 0))) (hcur : cur.size = n * 2) :
    ∃ w', (Builtin.copy_ #[22, 22] ty #[.slice (some ⟨g, 0, none⟩) n dCap, v]).run Try.prog w = .ok (goInt n) w' ∧ w'.heap[g]? = some (.cells (flatE es).toArray 26 (0, 0)) ∧ Kept [g] w w' := by
  subst hn
  obtain ⟨ao, c, rfl, hl, h1, hz, hc⟩ := h.src
  have hs2 : (Try.prog.info? 26).map (·.size) = some 2 := by kernel_rfl
  cases ao with
  | some a =>
    refine ⟨_, run_copy_two (P := Try.prog) w 22 22 ty 26 g es.length dCap a es.length c cur 26 (flatE es) es.length Try.underlying22 hs2 hg (by simp) hl (hc a rfl) (by rw [hl, hcur]; exact Nat.le_refl _) h1, ?_, ⟨rfl, rfl, rfl, by simp [World.setRow], fun k _ hk => setRow_other w g k _ (by intro e; exact hk (by simp [e]))⟩⟩
    rw [setRow_heap w g cur _ 26 _ hg, List.drop_of_length_le (by simp [hl, hcur]), List.append_nil]
  | none =>
    have h0 := hz rfl
    have e0 : es = [] := List.eq_nil_of_length_eq_zero h0
    subst e0
    have ec : cur = #[] := Array.eq_empty_of_size_eq_zero (by simpa using hcur)
    subst ec
    refine ⟨w, ?_, hg, Kept.refl _ _⟩
    cases hq : Try.prog.info? 26 with
    | none => simp [hq] at hs2
    | some i => simp [Builtin.copy_, run_underlying Try.underlying22, Builtin.lenOf, Builtin.firstCells, sizeOf, typeInfo, hq, storeCells]
theorem wpList_copy_edges {w : World} {ops : Array Oper} {rest : List Oper} {o : Oper} {a : Act} {Q : Exit → Act → World → Prop} (hgd : o.guard = none) (d s : Operand)
    (ho : o.op = .call { callee := .builtin .copy, args := #[d, s], argTypes := #[22, 22] }) {g n dCap : Nat} {v : Value} {es : List E} (hd : a.eval d = .slice (some ⟨g, 0, none⟩) n dCap) (hs : a.eval s = v) (h : EdgesAt w v es) (hn : es.length = n) (cur : Array Value) (hg : w.heap[g]? = some (.cells cur 26 (0, 0))) (hcur : cur.size = n * 2)
    (hk : ∀ w', w'.heap[g]? = some (.cells (flatE es).toArray 26 (0, 0)) → Kept [g] w w' → wpList Try.prog ops Q rest (a.put o.dst (goInt n)) w') : wpList Try.prog ops Q (o :: rest) a w :=
  wpList_plain hgd fun _ hK => by
    obtain ⟨w', hr, h2, h3⟩ := run_copy_edges (dCap := dCap) o.type h hn cur hg hcur
    unfold Oper.wp execOp
    simp only [ho, resolve, invoke, builtin, Sem.run_bind, Sem.run_pure, Result.andThen_ok, List.map_toArray, List.map_cons, List.map_nil, hd, hs, hr]
    exact hK _ _ (hk w' h2 h3)
theorem make_edges (N : Nat) (hN : N ≤ 100000) (W : World) : (Instr.makeSlice 22 (.int .i64 (N : Int)) (.int .i64 (N : Int))).run Try.prog W = .ok (.slice (some ⟨W.heap.size, 0, none⟩) N N) (W.alloc (.cells (madeCells #[.int .i64 0, .int .i64 0] (N * 2)) 26)) := by
  obtain ⟨i, hi, hz0, hz1, hz2⟩ := info_parts infoEdge
  have := run_make (P := Try.prog) W 22 26 i (ev 0 0) Try.underlying22 hi hz0 .i64 .i64 (N : Int) (N : Int) (by omega) (by omega) (by rw [hz2]; omega) (by omega)
  rw [this, hz1]
  simp [Value.cells]
theorem flat_in {w : World} {g : Nat} {es : List E} (h : w.heap[g]? = some (.cells (flatE es).toArray 26 (0, 0))) : EdgesIn w g 0 es ∧ ∀ j, w.frozen? ⟨g, 0 + j, none⟩ = false := by
  refine ⟨⟨?_, fun i hi => ?_, fun i hi => ?_⟩, fun j => by simp only [World.frozen?, h]; rfl⟩
  · by_cases hl : g < w.heap.size
    · exact hl
    · rw [Array.getElem?_eq_none (by omega)] at h; simp at h
  · rw [cell_of_block h]; simp only [Nat.zero_add, List.getElem?_toArray]; exact (flatE_at es i hi).1
  · rw [cell_of_block h]; simp only [Nat.zero_add, List.getElem?_toArray]; exact (flatE_at es i hi).2
set_option maxRecDepth 20000 in
set_option maxHeartbeats 4000000 in
theorem qsorted_any {w : World} {v : Value} {es : List E} (h : EdgesAt w v es) (hl : es.length ≤ 1000) : Calls Try.prog 9 #[v] w fun e w' => ∃ r es', e = .returned r ∧ EdgesAt w' r es' ∧ es'.Perm es ∧ es'.Pairwise (fun x y => eLt y x = false) ∧ Kept [] w w' := by
  obtain ⟨ao, cap, rfl, _⟩ := h.shape
  have hmk := make_edges es.length (by omega)
  have hlI : (es.length : Int) ≤ 9223372036854775807 := by omega
  have HK := hide ((Kept.refl [] w).alloc (.cells (madeCells #[.int .i64 0, .int .i64 0] (es.length * 2)) 26))
  have HE := hide (h.kept (unhide HK))
  have HG := hide (new_block w (.cells (madeCells #[.int .i64 0, .int .i64 0] (es.length * 2)) 26))
  have HS := hide (show (madeCells #[.int .i64 0, .int .i64 0] (es.length * 2)).size = es.length * 2 by simp [madeCells])
  clear h
  go_enter Try.func9, Try.ntmps9
  go_wp2_with (refine wpList_copy_edges rfl (.tmp 7) (.tmp 8) rfl rfl rfl (unhide HE) rfl _ (unhide HG) (unhide HS) ?_; intro w2 hg2 k2)
  obtain ⟨h1, h2⟩ := flat_in hg2
  have HSO := hide (sort_any (cap := es.length) h1 h2 (by omega))
  have HK2 := hide ((unhide HK).trans' k2 (fun q hq => by simp at hq; subst hq; exact Or.inr (Nat.le_refl _)))
  clear h1 h2 hg2 k2 HG HS HE HK hmk
  go_wp2_with fail
  refine (unhide HSO).mono ?_
  rintro e w3 ⟨rfl, es', hp, hs, hin, k3⟩
  have HP := hide hp
  have HS := hide hs
  have HL := hide hp.length_eq
  have HIN := hide hin
  have HK3 := hide ((unhide HK2).trans' k3 (fun q hq => by simp at hq; subst hq; exact Or.inr (Nat.le_refl _)))
  clear hp hs hin k3
  go_wp2
  go_ret
  refine ⟨.slice (some ⟨w.heap.size, 0, none⟩) es.length es.length, es', rfl, ⟨some ⟨w.heap.size, 0, none⟩, es.length, by rw [unhide HL], by rw [unhide HL]; exact Nat.le_refl _, by rw [unhide HL]; unfold maxLen; omega, fun _ => ⟨_, 0, rfl, unhide HIN⟩⟩, unhide HP, unhide HS, unhide HK3⟩
end Go.Proofs.Ytlbiaakmdfcfjaa

namespace Go.Proofs.Ytlbiaakmdfcfjaa
open Go.RowKit

/-- Where an entry comes to stand. -/
structure PutAt (es : List E) (e : E) (k : Nat) : Prop where
  le : k ≤ es.length
  hi : ∀ j, k ≤ j → j < es.length → eLt e (at_ es j) = true
  lo : ∀ j, j + 1 = k → eLt e (at_ es j) = false
/-- What Put leaves. -/
def QPutPost (w : World) (es : List E) (x : E) (e : Ending) (w' : World) : Prop := ∃ r k, e = .returned r ∧ EdgesAt w' r (es.take k ++ x :: es.drop k) ∧ PutAt es x k ∧ FreshAt w.heap.size r ∧ Kept [] w w'
set_option maxRecDepth 20000 in
set_option maxHeartbeats 4000000 in
theorem qput_any {w : World} {v : Value} {es : List E} (h : EdgesAt w v es) (x y : Int) (hl : es.length ≤ 65536) : Calls Try.prog 15 #[v, ev x y] w fun e w' => QPutPost w es (x, y) e w' := by
  obtain ⟨i, hi, hz0, hz1, hz2⟩ := info_parts infoEdge
  obtain ⟨ao, cap, rfl, hm, hc, hes⟩ := h.shape
  have HA := hide ahead_any
  have HES := hide hes
  have HV := hide h
  have HVK := hide (fun W (k : Kept [] w W) => h.kept k)
  clear hm hes h
  go_enter Try.func15, Try.ntmps15
  go_wp2
  go_loopw [5] (fun kk wr => ∃ k : Nat, k ≤ es.length ∧ kk = .int .i64 k ∧ wr.cell? ⟨w.heap.size, 0, none⟩ = some (.int .i64 x) ∧ wr.cell? ⟨w.heap.size, 1, none⟩ = some (.int .i64 y) ∧ Hid (Kept [] w wr ∧ ∀ j, k ≤ j → j < es.length → eLt (x, y) (at_ es j) = true)) (fun kk _ => (intOf kk).toNat)
  case atStart => exact ⟨es.length, Nat.le_refl _, rfl, by go_simp, by go_simp, (Kept.refl [] w).alloc _, fun j h1 h2 => by omega⟩
  case round =>
    obtain ⟨k, hk, rfl, c0, c1, hh⟩ := hrel
    by_cases hk0 : k = 0
    · have hd : decide ((0 : Int) < (k : Int)) = false := by simp; omega
      have hd2 : decide (0 < k) = false := by simp; omega
      have HK0 := hide hk0
      clear hk0
      go_wp2_with fail
      go_quiet (fail)
      have HKr := hide (unhide hh).1
      have HCUT := hide (PutAt.mk hk (unhide hh).2 (fun j hj => by have := unhide HK0; omega))
      have k0 : (0 : Int) ≤ (k : Int) := by omega
      have k1 : (k : Int) ≤ (es.length : Int) := by omega
      have k2 : (k : Int) ≤ (cap : Int) := by omega
      have k3 : (es.length : Int) ≤ (cap : Int) := by omega
      have hsz : w.heap.size ≤ wr.heap.size := (unhide HKr).size
      have ht := (show (es.take k).length = k by rw [List.length_take]; omega)
      have htd := (show (es.drop k).length = es.length - k by rw [List.length_drop])
      have HT1 := hide ht
      have HT2 := hide htd
      clear ht htd
      go_wp2_with fail
      go_region_held3 (fun W => W.cell? ⟨w.heap.size, 0, none⟩ = some (.int .i64 x) ∧ W.cell? ⟨w.heap.size, 1, none⟩ = some (.int .i64 y)) (first | go_keep | exact ⟨kept_cell c0 K2, kept_cell c1 K2⟩ | exact ⟨kept_cell c0 (K2.alloc _), kept_cell c1 (K2.alloc _)⟩ | exact ⟨kept_cell c0 K3, kept_cell c1 K3⟩ | exact ⟨kept_cell c0 K4, kept_cell c1 K4⟩)
        (first
        | (refine step_append_src (by rfl) (.const (.slice none 0 0)) (.tmp 23) 22 (by rfl) wr.heap.size 26 i (ev 0 0) 2 16 Try.underlying22 hi hz0 hz1 hz2 (by rfl) (by decide) (.slice none 0 0) 0 [] (by rfl) (OwnE.nil _ _) _ _ _ (by rfl) (EdgesAt.src ((unhide HVK _ (by repeat' first | exact unhide HKr | apply Kept.drewN | apply Kept.alloc)).take (k := k) (by omega) cap (by omega))) (by rw [unhide HT1]; unfold maxLen; omega) (by rw [unhide HT1]; omega) (by simp [World.drewN]) ?_; intro v2 w2 own2 g2; have K2 : Kept [] wr w2 := Kept.grown (by repeat' first | exact Kept.refl _ _ | apply Kept.drewN | apply Kept.alloc) g2 (by simp [Value.ownBlock]); have KB := Kept.grown (Kept.refl [] _) g2 (by simp [Value.ownBlock]))
        | (refine step_append_src (by rfl) (.tmp 24) (.tmp 26) 22 (by rfl) wr.heap.size 26 i (ev 0 0) 2 16 Try.underlying22 hi hz0 hz1 hz2 (by rfl) (by decide) v2 _ _ (by rfl) (own2.alloc _) _ _ _ (by rfl) (EdgesAt.src (es := [(x, y)]) (edge_new w2 x y 26 1 w2.heap.size (Nat.le_refl _) rfl)) (by rw [unhide HT1]; unfold maxLen; simp; omega) (by rw [unhide HT1]; simp; omega) (by simp; have := K2.size; omega) ?_; intro v3 w3 own3 g3; have K3 : Kept [] wr w3 := Kept.grown (K2.alloc _) g3 (fun j hj => Or.inr (own_block own2 j hj)))
        | (refine step_append_src (by rfl) (.tmp 24) (.tmp 26) 22 (by rfl) wr.heap.size 26 i (ev 0 0) 2 16 Try.underlying22 hi hz0 hz1 hz2 (by rfl) (by decide) v2 _ _ (by rfl) own2 _ _ _ (by rfl) (EdgesAt.src (es := [(x, y)]) (EdgesAt.kept (edge_new wr x y 26 1 wr.heap.size (Nat.le_refl _) rfl) ((Kept.drewN _ (Kept.refl [] _)).trans KB))) (by rw [unhide HT1]; unfold maxLen; simp; omega) (by rw [unhide HT1]; simp; omega) K2.size ?_; intro v3 w3 own3 g3; have K3 : Kept [] wr w3 := Kept.grown K2 g3 (fun j hj => Or.inr (own_block own2 j hj)))
        | (refine step_append_src (by rfl) (.tmp 27) (.tmp 30) 22 (by rfl) wr.heap.size 26 i (ev 0 0) 2 16 Try.underlying22 hi hz0 hz1 hz2 (by rfl) (by decide) v3 _ _ (by rfl) own3 _ _ _ (by rfl) (EdgesAt.src ((unhide HVK _ ((unhide HKr).trans K3)).drop' (k := k) (by omega))) (by rw [unhide HT1, unhide HT2]; unfold maxLen; simp; omega) (by rw [unhide HT1, unhide HT2]; simp; omega) K3.size ?_; intro v4 w4 own4 g4; have K4 : Kept [] wr w4 := K3.grown g4 (fun j hj => Or.inr (own_block own3 j hj))))
      all_goals go_wp2
      all_goals go_ret
      all_goals
        have own5 : OwnE w4 wr.heap.size v4 (es.take k ++ [(x, y)] ++ es.drop k) := by
          unfold OwnE
          rw [flatE_app, flatE_app, List.length_append, List.length_append]
          simpa using own4
        rw [List.append_assoc, List.singleton_append] at own5
        exact ⟨v4, _, rfl, own5.at'.1, unhide HCUT, fun a n c h => by have := own5.at'.2 a n c h; omega, (unhide HKr).trans K4⟩
    · obtain ⟨j, rfl⟩ : ∃ j, k = j + 1 := ⟨k - 1, by omega⟩
      obtain ⟨g, o, rfl, hin⟩ := unhide HES (by omega)
      have hg := hin.keptAt (unhide hh).1 (by simp)
      have d0 := hg.a j (by omega)
      have d1 := hg.b j (by omega)
      clear hg hin
      have hwr : IntKind.i64.wrap ((j : Int) + 1 - 1) = (j : Int) := by rw [IntWalk.i64_left, IntWalk.wrap64_in _ (by omega)]; omega
      have hwr2 : IntKind.i64.wrap (j : Int) = (j : Int) := by rw [IntWalk.i64_left, IntWalk.wrap64_in _ (by omega)]
      have hj0 : (0 : Int) ≤ (j : Int) := by omega
      have hj1 : (j : Int) < (es.length : Int) := by omega
      have HKr := hide (unhide hh).1
      have HAT := hide (show at_ es j = (eA es j, eB es j) from rfl)
      generalize hA : eA es j = a at *
      generalize hB : eB es j = b at *
      clear hA hB
      cases hE : eLt (x, y) (a, b)
      · have HE := hide hE
        have HC := hide (fun W => (hE ▸ unhide HA W x y a b))
        clear hE
        have HCUT := hide (PutAt.mk hk (unhide hh).2 (fun t ht => by rw [show t = j by omega, unhide HAT]; exact unhide HE))
        go_wp2_with fail
        go_region_held3 (fun W => W.cell? ⟨w.heap.size, 0, none⟩ = some (.int .i64 x) ∧ W.cell? ⟨w.heap.size, 1, none⟩ = some (.int .i64 y) ∧ W.cell? ⟨g, o + j * 2, none⟩ = some (.int .i64 a) ∧ W.cell? ⟨g, o + j * 2 + 1, none⟩ = some (.int .i64 b)) (first | go_keep | exact ⟨kept_cell c0 q1', kept_cell c1 q1', kept_cell d0 q1', kept_cell d1 q1'⟩)
          (first | (go_at_call 24; refine (unhide HC _).mono ?_; rintro e w1 ⟨rfl, q1⟩; have q1' : Kept [] wr w1 := (Kept.refl [] _).drew.trans q1))
        have c0' := kept_cell c0 q1'
        have c1' := kept_cell c1 q1'
        have HKw := hide ((unhide HKr).trans q1')
        clear q1 q1' c0 c1 d0 d1 hwr hwr2
        have k0 : (0 : Int) ≤ ((j : Int) + 1) := by omega
        have k1 : ((j : Int) + 1) ≤ (es.length : Int) := by omega
        have k2 : ((j : Int) + 1) ≤ (cap : Int) := by omega
        have k3 : (es.length : Int) ≤ (cap : Int) := by omega
        have hsz : w.heap.size ≤ w1.heap.size := (unhide HKw).size
        have ht := (show (es.take (j + 1)).length = j + 1 by rw [List.length_take]; omega)
        have htd := (show (es.drop (j + 1)).length = es.length - (j + 1) by rw [List.length_drop])
        have HT1 := hide ht
        have HT2 := hide htd
        clear ht htd
        go_wp2_with fail
        go_region_held3 (fun W => W.cell? ⟨w.heap.size, 0, none⟩ = some (.int .i64 x) ∧ W.cell? ⟨w.heap.size, 1, none⟩ = some (.int .i64 y)) (first | go_keep | exact ⟨kept_cell c0' K2, kept_cell c1' K2⟩ | exact ⟨kept_cell c0' (K2.alloc _), kept_cell c1' (K2.alloc _)⟩ | exact ⟨kept_cell c0' K3, kept_cell c1' K3⟩ | exact ⟨kept_cell c0' K4, kept_cell c1' K4⟩)
          (first
          | (refine step_append_src (by rfl) (.const (.slice none 0 0)) (.tmp 23) 22 (by rfl) w1.heap.size 26 i (ev 0 0) 2 16 Try.underlying22 hi hz0 hz1 hz2 (by rfl) (by decide) (.slice none 0 0) 0 [] (by rfl) (OwnE.nil _ _) _ _ _ (by rfl) (EdgesAt.src ((unhide HVK _ (by repeat' first | exact unhide HKw | apply Kept.drewN | apply Kept.alloc)).take (k := j + 1) (by omega) cap (by omega))) (by rw [unhide HT1]; unfold maxLen; omega) (by rw [unhide HT1]; omega) (by simp) ?_; intro v2 w2 own2 g2; have K2 : Kept [] w1 w2 := Kept.grown (by repeat' first | exact Kept.refl _ _ | apply Kept.drewN | apply Kept.alloc) g2 (by simp [Value.ownBlock]); have KB := Kept.grown (Kept.refl [] _) g2 (by simp [Value.ownBlock]))
          | (refine step_append_src (by rfl) (.tmp 24) (.tmp 26) 22 (by rfl) w1.heap.size 26 i (ev 0 0) 2 16 Try.underlying22 hi hz0 hz1 hz2 (by rfl) (by decide) v2 _ _ (by rfl) (own2.alloc _) _ _ _ (by rfl) (EdgesAt.src (es := [(x, y)]) (edge_new w2 x y 26 1 w2.heap.size (Nat.le_refl _) rfl)) (by rw [unhide HT1]; unfold maxLen; simp; omega) (by rw [unhide HT1]; simp; omega) (by simp; have := K2.size; omega) ?_; intro v3 w3 own3 g3; have K3 : Kept [] w1 w3 := Kept.grown (K2.alloc _) g3 (fun j hj => Or.inr (own_block own2 j hj)))
          | (refine step_append_src (by rfl) (.tmp 24) (.tmp 26) 22 (by rfl) w1.heap.size 26 i (ev 0 0) 2 16 Try.underlying22 hi hz0 hz1 hz2 (by rfl) (by decide) v2 _ _ (by rfl) own2 _ _ _ (by rfl) (EdgesAt.src (es := [(x, y)]) (EdgesAt.kept (edge_new w1 x y 26 1 w1.heap.size (Nat.le_refl _) rfl) ((Kept.drewN _ (Kept.refl [] _)).trans KB))) (by rw [unhide HT1]; unfold maxLen; simp; omega) (by rw [unhide HT1]; simp; omega) K2.size ?_; intro v3 w3 own3 g3; have K3 : Kept [] w1 w3 := Kept.grown K2 g3 (fun j hj => Or.inr (own_block own2 j hj)))
          | (refine step_append_src (by rfl) (.tmp 27) (.tmp 30) 22 (by rfl) w1.heap.size 26 i (ev 0 0) 2 16 Try.underlying22 hi hz0 hz1 hz2 (by rfl) (by decide) v3 _ _ (by rfl) own3 _ _ _ (by rfl) (EdgesAt.src ((unhide HVK _ ((unhide HKw).trans K3)).drop' (k := j + 1) (by omega))) (by rw [unhide HT1, unhide HT2]; unfold maxLen; simp; omega) (by rw [unhide HT1, unhide HT2]; simp; omega) K3.size ?_; intro v4 w4 own4 g4; have K4 : Kept [] w1 w4 := K3.grown g4 (fun j hj => Or.inr (own_block own3 j hj))))
        all_goals go_wp2
        all_goals go_ret
        all_goals
          have own5 : OwnE w4 w1.heap.size v4 (es.take (j + 1) ++ [(x, y)] ++ es.drop (j + 1)) := by
            unfold OwnE
            rw [flatE_app, flatE_app, List.length_append, List.length_append]
            simpa using own4
          rw [List.append_assoc, List.singleton_append] at own5
          exact ⟨v4, _, rfl, own5.at'.1, unhide HCUT, fun a n c h => by have := own5.at'.2 a n c h; omega, (unhide HKw).trans K4⟩
      · have HE := hide hE
        have HC := hide (fun W => (hE ▸ unhide HA W x y a b))
        clear hE
        go_wp2_with fail
        go_region_held3 (fun W => W.cell? ⟨w.heap.size, 0, none⟩ = some (.int .i64 x) ∧ W.cell? ⟨w.heap.size, 1, none⟩ = some (.int .i64 y) ∧ W.cell? ⟨g, o + j * 2, none⟩ = some (.int .i64 a) ∧ W.cell? ⟨g, o + j * 2 + 1, none⟩ = some (.int .i64 b)) (first | go_keep | exact ⟨kept_cell c0 q1', kept_cell c1 q1', kept_cell d0 q1', kept_cell d1 q1'⟩)
          (first | (go_at_call 24; refine (unhide HC _).mono ?_; rintro e w1 ⟨rfl, q1⟩; have q1' : Kept [] wr w1 := (Kept.refl [] _).drew.trans q1))
        go_wp2
        go_roundw
        case rel => exact ⟨j, by omega, by go_num, kept_cell c0 q1', kept_cell c1 q1', (unhide HKr).trans q1', fun t h1 h2 => by
          by_cases e : t = j
          · rw [e, unhide HAT]; exact unhide HE
          · exact (unhide hh).2 t (by omega) h2⟩
        case measure => simp [intOf]
end Go.Proofs.Ytlbiaakmdfcfjaa
