/- append to a row whose capacity is known. The reference of stage 8: Edges, Size. Which vertices of a list are asked for: isFree, isLower; chosen. mates.Free, Size, Edges. What an edge more comes to. garlandplay.Small: a graph that is right, of whatever numbers. -/
import Derived.Test.YtdaielejbcjdnaaMatesEdges6
import Derived.Test.YtdaielejbcjdnaaMatesEdges7
import Derived.Laws.CopyRow
namespace Go.Proofs.Ytdaielejbcjdnaa
open Go.RowKit

theorem run_append_fit {P : Program} (w : World) (t ty e : TypeId) (i : TypeInfo) (size : Nat) (ht : P.underlying t = some (.slice e)) (hi : P.info? e = some i) (hsize : i.size = size) (g cap : Nat) (cur : Array Value) (hg : w.heap[g]? = some (.cells cur e (0, 0))) (hcur : cur.size = cap * size)
    (x : Value) (m : Nat) (news : List Value) (hx : SrcV w size x m news) (hfit : m ≤ cap) :
    ∃ w' cur', (Builtin.append_ #[t, t] ty #[.slice (some ⟨g, 0, none⟩) 0 cap, x]).run P w = .ok (.slice (some ⟨g, 0, none⟩) m cap) w' ∧ w'.heap[g]? = some (.cells cur' e (0, 0)) ∧ cur'.size = cap * size ∧ cur'.toList.take news.length = news ∧ Kept [g] w w' := by
  subst hsize
  obtain ⟨ao, c, rfl, hl, h1, hn, hc⟩ := hx
  cases ao with
  | some a =>
    have hfit2 : news.length ≤ cur.size := by rw [hl, hcur]; exact Nat.mul_le_mul_right _ hfit
    have hr := run_append_room (P := P) w t ty e i ht hi g 0 cap cur hg a m c news hl (hc a rfl) h1 (by omega) (by omega)
    rw [Nat.zero_add] at hr
    refine ⟨_, _, hr, setRow_heap w g cur _ e _ hg, ?_, ?_, ⟨rfl, rfl, rfl, by simp [World.setRow], fun k _ hk => setRow_other w g k _ (by intro e; exact hk (by simp [e]))⟩⟩
    · simp; omega
    · simp
  | none =>
    have hm := hn rfl
    subst hm
    have e0 : news = [] := List.eq_nil_of_length_eq_zero (by simpa using hl)
    subst e0
    refine ⟨w, cur, ?_, hg, hcur, by simp, Kept.refl _ _⟩
    simp [Builtin.append_, run_underlying ht, sizeOf, typeInfo, hi, Builtin.lenOf, Builtin.firstCells, storeCells]

theorem wpList_append_fit {P : Program} {w : World} {ops : Array Oper} {rest : List Oper} {o : Oper} {a : Act} {Q : Exit → Act → World → Prop} (hgd : o.guard = none) (s y : Operand) (t : TypeId)
    (ho : o.op = .call { callee := .builtin .append, args := #[s, y], argTypes := #[t, t] })
    (e : TypeId) (i : TypeInfo) (size : Nat) (ht : P.underlying t = some (.slice e)) (hi : P.info? e = some i) (hsize : i.size = size) (g cap : Nat) (cur : Array Value) (hg : w.heap[g]? = some (.cells cur e (0, 0))) (hcur : cur.size = cap * size)
    (hs : a.eval s = .slice (some ⟨g, 0, none⟩) 0 cap) (x : Value) (m : Nat) (news : List Value) (hy : a.eval y = x) (hx : SrcV w size x m news) (hfit : m ≤ cap)
    (h : ∀ w' cur', w'.heap[g]? = some (.cells cur' e (0, 0)) → cur'.size = cap * size → cur'.toList.take news.length = news → Kept [g] w w' → wpList P ops Q rest (a.put o.dst (.slice (some ⟨g, 0, none⟩) m cap)) w') : wpList P ops Q (o :: rest) a w :=
  wpList_plain hgd fun _ hK => by
    obtain ⟨w', cur', hr, h2, h3, h4, h5⟩ := run_append_fit (P := P) w t o.type e i size ht hi hsize g cap cur hg hcur x m news hx hfit
    unfold Oper.wp execOp
    simp only [ho, resolve, invoke, builtin, Sem.run_bind, Sem.run_pure, Result.andThen_ok, List.map_toArray, List.map_cons, List.map_nil, hs, hy, hr]
    exact hK _ _ (h w' cur' h2 h3 h4 h5)

end Go.Proofs.Ytdaielejbcjdnaa

namespace Go.Proofs.Ytdaielejbcjdnaa
open Go.RowKit

theorem own_formM {w : World} {base e size n : Nat} {v : Value} {xs : List Value} (h : w.ownsRow base e size v n xs) : ∃ ao cap, v = .slice ao n cap := by
  rcases h.2 with ⟨rfl, rfl⟩ | ⟨g, cap, cur, rfl, _⟩
  · exact ⟨none, 0, rfl⟩
  · exact ⟨_, cap, rfl⟩

set_option maxRecDepth 20000 in
set_option maxHeartbeats 8000000 in
theorem mrEdges_any {w : World} {v : Value} {xs : List Int} (h : IntsAt w v xs) (hl : xs.length ≤ 4096) : Calls Try.prog 21 #[v] w fun e w' => ∃ r, e = .returned r ∧ EdgesAt w' r (edgesM xs xs.length) ∧ FreshAt w.heap.size r ∧ Kept [] w w' := by
  obtain ⟨i, hi, hz0, hz1, hz2⟩ := info_parts infoEdge
  obtain ⟨ao, cap, rfl, _, _⟩ := h.shape
  have HX := hide h
  have hm' : (xs.length : Int) ≤ 9223372036854775807 := by omega
  clear h
  go_enter Try.func21, Try.ntmps21
  go_wp2
  go_loopw [3, 4] (fun lv vv wr => ∃ (k : Nat) (l : List E) (lo : Option Addr) (lc : Nat), k ≤ xs.length ∧ vv = .int .i64 k ∧ lv = .slice lo l.length lc ∧ wr.ownsRow w.heap.size 30 2 lv l.length (flatE l) ∧ l.length ≤ k ∧ Hid (l = edgesM xs k ∧ Kept [] w wr)) (fun _ vv _ => xs.length - (intOf vv).toNat)
  case atStart => exact ⟨0, [], none, 0, Nat.zero_le _, rfl, rfl, ⟨rfl, Or.inl ⟨rfl, rfl⟩⟩, Nat.zero_le _, rfl, Kept.refl _ _⟩
  case round =>
    obtain ⟨k, l, lo, lc, hk, rfl, rfl, hown, hlk, hh⟩ := hrel
    by_cases hlt : k < xs.length
    · obtain ⟨ao2, cap2, hv2, _, hin2⟩ := ((unhide HX).kept (unhide hh).2).shape
      obtain ⟨g1, o1, he2, hin⟩ := hin2 (by omega)
      have hao : ao = some ⟨g1, o1, none⟩ := by simp at hv2; rw [hv2.1, he2]
      subst hao
      have a0 := hin k hlt
      have hws := (unhide hh).2.size
      have t0 : (0 : Int) ≤ (k : Int) := by omega
      have t1 : (k : Int) < (xs.length : Int) := by omega
      obtain ⟨x, hx⟩ : ∃ x, xs.getD k 0 = x := ⟨_, rfl⟩
      obtain ⟨y, hy⟩ : ∃ y, xs.getD x.toNat 0 = y := ⟨_, rfl⟩
      have HST := hide (edgesM_step hx hy)
      rw [hx] at a0
      have HNO := hide (fun (h : ¬ ((k : Int) < x ∧ x < (xs.length : Int) ∧ y = (k : Int))) => show l = edgesM xs (k + 1) from by rw [unhide HST, if_neg h, List.append_nil, (unhide hh).1])
      have HYES := hide (fun (h : (k : Int) < x ∧ x < (xs.length : Int) ∧ y = (k : Int)) => show l ++ [((k : Int), x)] = edgesM xs (k + 1) from by rw [unhide HST, if_pos h, (unhide hh).1])
      have HKR := hide (unhide hh).2
      by_cases c1 : (k : Int) < x
      · by_cases c2 : x < (xs.length : Int)
        · obtain ⟨j, rfl⟩ : ∃ j : Nat, x = (j : Int) := ⟨x.toNat, by omega⟩
          rw [Int.toNat_natCast] at hy
          have b0 := hin j (by omega)
          rw [hy] at b0
          have u0 : (0 : Int) ≤ (j : Int) := by omega
          clear hin hin2 hv2 he2 hh hx hy
          by_cases c3 : y = (k : Int)
          · subst c3
            go_wp2_with (first | (at_builtin; refine wpList_append_src rfl (.tmp 33) (.tmp 37) 22 rfl w.heap.size 30 i (ev 0 0) 2 16 Try.underlying22 hi hz0 hz1 hz2 rfl (by decide) (.slice lo l.length lc) _ _ rfl (hown.alloc _) _ 1 [.int .i64 (k : Int), .int .i64 (j : Int)] rfl (EdgesAt.src (edge_new _ (k : Int) (j : Int) 30 1 _ (Nat.le_refl _) rfl)) (by unfold maxLen; omega) (by omega) (by simp; omega) ?_; intro v5 w5 own5 g5; have K5 : Kept [] w w5 := Kept.grown ((unhide HKR).alloc _) g5 (fun j hj => Or.inr (own_block hown j hj)); have own6 : w5.ownsRow w.heap.size 30 2 v5 (l ++ [((k : Int), (j : Int))]).length (flatE (l ++ [((k : Int), (j : Int))])) := (by rw [List.length_append, flatE_app]; exact own5)))
            obtain ⟨lo5, lc5, hv5⟩ := own_formM own6
            have HV5 := hide hv5
            have HK5 := hide K5
            clear own5 g5 hown hv5 K5
            go_roundw
            case rel => exact ⟨k + 1, l ++ [((k : Int), (j : Int))], lo5, lc5, by omega, by go_num, unhide HV5, own6, by simp; omega, unhide HYES ⟨c1, c2, rfl⟩, unhide HK5⟩
            case measure => simp [intOf]; omega
          · go_wp2
            go_roundw
            case rel => exact ⟨k + 1, l, lo, lc, by omega, by go_num, rfl, hown, by omega, unhide HNO (fun h => c3 h.2.2), unhide HKR⟩
            case measure => simp [intOf]; omega
        · clear hin hin2 hv2 he2 hh hx hy
          go_wp2
          go_roundw
          case rel => exact ⟨k + 1, l, lo, lc, by omega, by go_num, rfl, hown, by omega, unhide HNO (fun h => c2 h.2.1), unhide HKR⟩
          case measure => simp [intOf]; omega
      · clear hin hin2 hv2 he2 hh hx hy
        go_wp2
        go_roundw
        case rel => exact ⟨k + 1, l, lo, lc, by omega, by go_num, rfl, hown, by omega, unhide HNO (fun h => c1 h.1), unhide HKR⟩
        case measure => simp [intOf]; omega
    · have e : k = xs.length := by omega
      have HF := hide (OwnE.at' hown)
      have HE := hide (unhide hh).1
      have HK := hide (unhide hh).2
      clear hh
      subst e
      go_wp2
      go_ret
      exact ⟨_, rfl, by rw [← unhide HE]; exact (unhide HF).1, (unhide HF).2, unhide HK⟩

set_option maxRecDepth 20000 in
theorem mrSize_any {w : World} {v : Value} {xs : List Int} (h : IntsAt w v xs) (hl : xs.length ≤ 4096) : Calls Try.prog 15 #[v] w fun e w' => e = .returned (.int .i64 ((edgesM xs xs.length).length : Nat)) ∧ Kept [] w w' := by
  have HE := hide (mrEdges_any h hl)
  have hle := edgesM_len xs xs.length
  obtain ⟨m, hm⟩ : ∃ m, (edgesM xs xs.length).length = m := ⟨_, rfl⟩
  rw [hm] at hle ⊢
  have HM := hide hm
  clear h hm
  go_enter Try.func15, Try.ntmps15
  go_wp2_with fail
  refine (unhide HE).mono ?_
  rintro e w1 ⟨r, rfl, hr, _, hk⟩
  obtain ⟨ro, rc, rfl, _⟩ := hr.shape
  rw [unhide HM]
  have HK := hide hk
  have u : (m : Int) ≤ 9223372036854775807 := by omega
  clear hr hk HE HM
  go_wp2
  go_ret
  exact ⟨rfl, unhide HK⟩

end Go.Proofs.Ytdaielejbcjdnaa

namespace Go.Proofs.Ytdaielejbcjdnaa
open Go.RowKit

/-- Those ahead of k of which it holds. -/
def selM (p : Nat → Bool) : Nat → List Int
  | 0 => []
  | k + 1 => selM p k ++ (if p k = true then [(k : Int)] else [])
theorem selM_yes {p : Nat → Bool} {k : Nat} (h : p k = true) : selM p (k + 1) = selM p k ++ [(k : Int)] := by rw [selM, if_pos h]
theorem selM_no {p : Nat → Bool} {k : Nat} (h : p k = false) : selM p (k + 1) = selM p k := by
  rw [selM, if_neg (by rw [h]; exact Bool.false_ne_true), List.append_nil]
theorem selM_len (p : Nat → Bool) : ∀ k, (selM p k).length ≤ k
  | 0 => Nat.le_refl _
  | k + 1 => by
    have := selM_len p k
    unfold selM
    split <;> simp <;> omega
theorem selM_free (xs : List Int) : ∀ k, selM (fun v => decide (xs.getD v 0 = -1)) k = freesM xs k
  | 0 => rfl
  | k + 1 => by
    rw [selM, freesM, selM_free xs k]
    by_cases h : xs.getD k 0 = -1 <;> simp
theorem selM_edges (xs : List Int) : ∀ k, (selM (pairAt xs) k).map (fun v => (v, xs.getD v.toNat 0)) = edgesM xs k
  | 0 => rfl
  | k + 1 => by
    rw [selM, edgesM, List.map_append, selM_edges xs k]
    by_cases h : pairAt xs k = true <;> simp [h]
theorem selM_pair_len (xs : List Int) (k : Nat) : (selM (pairAt xs) k).length = (edgesM xs k).length := by
  rw [← selM_edges, List.length_map]
theorem selM_at {p : Nat → Bool} : ∀ {k j : Nat}, j < (selM p k).length → ∃ v : Nat, (selM p k).getD j 0 = (v : Int) ∧ v < k ∧ p v = true
  | 0, j, h => by simp [selM] at h
  | k + 1, j, h => by
    by_cases hj : j < (selM p k).length
    · obtain ⟨v, h1, h2, h3⟩ := selM_at hj
      exact ⟨v, by rw [selM]; simp only [List.getD, List.getElem?_append_left hj]; exact h1, by omega, h3⟩
    · cases hp : p k
      · rw [selM_no hp] at h; omega
      · rw [selM_yes hp] at h ⊢
        have e : j = (selM p k).length := by simp at h; omega
        exact ⟨k, by subst e; simp [List.getD], by omega, hp⟩

set_option maxRecDepth 20000 in
set_option maxHeartbeats 4000000 in
theorem isFree_any {w : World} {v : Value} {xs : List Int} (h : IntsAt w v xs) {k : Nat} (hk : k < xs.length) : Calls Try.prog 32 #[v, .int .i64 k] w fun e w' => e = .returned (.bool (decide (xs.getD k 0 = -1))) ∧ w' = w := by
  obtain ⟨ao, cap, rfl, _, hin⟩ := h.shape
  obtain ⟨g, o, rfl, hc⟩ := hin (by omega)
  have a0 := hc k hk
  have t0 : (0 : Int) ≤ (k : Int) := by omega
  have t1 : (k : Int) < (xs.length : Int) := by omega
  generalize xs.getD k 0 = x at *
  clear hc hin h
  go_enter Try.func32, Try.ntmps32
  go_wp2
  go_ret
  refine ⟨ret_bool ?_, rfl⟩
  by_cases h : x = -1 <;> simp [h]

set_option maxRecDepth 20000 in
set_option maxHeartbeats 4000000 in
theorem isLower_any {w : World} {v : Value} {xs : List Int} (h : IntsAt w v xs) (hl : xs.length ≤ 4096) {k : Nat} (hk : k < xs.length) : Calls Try.prog 36 #[v, .int .i64 k] w fun e w' => e = .returned (.bool (pairAt xs k)) ∧ w' = w := by
  obtain ⟨ao, cap, rfl, _, hin⟩ := h.shape
  obtain ⟨g, o, rfl, hc⟩ := hin (by omega)
  have a0 := hc k hk
  have t0 : (0 : Int) ≤ (k : Int) := by omega
  have t1 : (k : Int) < (xs.length : Int) := by omega
  have hm' : (xs.length : Int) ≤ 9223372036854775807 := by omega
  obtain ⟨x, hx⟩ : ∃ x, xs.getD k 0 = x := ⟨_, rfl⟩
  have HP := hide (show pairAt xs k = (decide ((k : Int) < x) && (decide (x < (xs.length : Int)) && decide (xs.getD x.toNat 0 = (k : Int)))) by rw [pairAt, hx])
  rw [hx] at a0
  clear hx
  by_cases c1 : (k : Int) < x
  · by_cases c2 : x < (xs.length : Int)
    · obtain ⟨j, rfl⟩ : ∃ j : Nat, x = (j : Int) := ⟨x.toNat, by omega⟩
      have b0 := hc j (by omega)
      rw [Int.toNat_natCast] at HP
      have u0 : (0 : Int) ≤ (j : Int) := by omega
      generalize xs.getD j 0 = y at *
      have HF := hide (show decide (y = (k : Int)) = pairAt xs k by rw [unhide HP]; simp [c1, c2])
      generalize pairAt xs k = B at *
      clear hc hin h HP
      have hbq : (y == (k : Int)) = B := by rw [← unhide HF]; by_cases h : y = (k : Int) <;> simp [h]
      go_enter Try.func36, Try.ntmps36
      go_wp2
      go_ret
      exact ⟨rfl, rfl⟩
    · have HF := hide (show pairAt xs k = false by rw [unhide HP]; simp [c2])
      generalize pairAt xs k = B at *
      clear hc hin h HP
      go_enter Try.func36, Try.ntmps36
      go_wp2
      go_ret
      exact ⟨ret_bool (unhide HF).symm, rfl⟩
  · have HF := hide (show pairAt xs k = false by rw [unhide HP]; simp [c1])
    generalize pairAt xs k = B at *
    clear hc hin h HP
    go_enter Try.func36, Try.ntmps36
    go_wp2
    go_ret
    exact ⟨ret_bool (unhide HF).symm, rfl⟩

set_option maxRecDepth 20000 in
set_option maxHeartbeats 4000000 in
theorem chosenF_any {w : World} {v : Value} {xs : List Int} (h : IntsAt w v xs) (hl : xs.length ≤ 4096) (p : Nat → Bool) (HP : ∀ W k, Kept [] w W → k < xs.length → Calls Try.prog 32 #[v, .int .i64 k] W fun e w' => e = .returned (.bool (p k)) ∧ w' = W) :
    Calls Try.prog 35 #[v, .func (.func 32) #[] #[]] w fun e w' => ∃ r, e = .returned r ∧ IntsAt w' r (selM p xs.length) ∧ FreshAt w.heap.size r ∧ Kept [] w w' := by
  obtain ⟨i, hi, hz0, hz1, hz2⟩ := info_parts infoInt
  obtain ⟨ao, cap, rfl, _, _⟩ := h.shape
  have HQ := hide HP
  have hm' : (xs.length : Int) ≤ 9223372036854775807 := by omega
  clear h HP
  go_enter Try.func35, Try.ntmps35
  go_wp2
  go_loopw [5, 9] (fun lv vv wr => ∃ (k : Nat) (ys : List Int), k ≤ xs.length ∧ vv = .int .i64 k ∧ wr.ownsRow w.heap.size 3 1 lv ys.length (ys.map (Value.int .i64)) ∧ ys.length ≤ k ∧ Hid (ys = selM p k ∧ Kept [] w wr)) (fun _ vv _ => xs.length - (intOf vv).toNat)
  case atStart => exact ⟨0, [], Nat.zero_le _, rfl, ⟨rfl, Or.inl ⟨rfl, rfl⟩⟩, Nat.zero_le _, rfl, Kept.refl _ _⟩
  case round =>
    obtain ⟨k, ys, hk, rfl, hown, hyl, hh⟩ := hrel
    by_cases hlt : k < xs.length
    · have HC := unhide HQ wr k (unhide hh).2 hlt
      have hws := (unhide hh).2.size
      have t0 : (0 : Int) ≤ (k : Int) := by omega
      have t1 : (k : Int) < (xs.length : Int) := by omega
      cases hp : p k
      · rw [hp] at HC
        replace HC := hide HC
        have HNO := hide (show ys = selM p (k + 1) from by rw [selM_no hp, (unhide hh).1])
        clear hp
        go_wp2_with fail
        refine (unhide HC).mono ?_
        rintro e w2 ⟨rfl, rfl⟩
        go_wp2
        go_roundw
        case rel => exact ⟨k + 1, ys, by omega, by go_num, hown, by omega, unhide HNO, (unhide hh).2⟩
        case measure => simp [intOf]; omega
      · rw [hp] at HC
        replace HC := hide HC
        have HYES := hide (show ys ++ [(k : Int)] = selM p (k + 1) from by rw [selM_yes hp, (unhide hh).1])
        clear hp
        go_wp2_with fail
        refine (unhide HC).mono ?_
        rintro e w2 ⟨rfl, rfl⟩
        go_wp2_with (first | (at_builtin; refine wpList_append_own _ rfl (.tmp 16) (.tmp 18) 25 rfl w.heap.size 3 i (.int .i64 0) 1 8 Try.underlying25 hi hz0 hz1 hz2 rfl (by decide) _ _ _ rfl (hown.alloc _) _ 1 _ [.int .i64 (k : Int)] rfl rfl (one_cell' _ _ _ (by simp)) (by simp [Value.oneCell']) (by unfold maxLen; omega) (by omega) (by simp; omega) ?_; intro v' w4 own4 g4 _))
        have HK4 := hide (((unhide hh).2.alloc _).grown g4 (fun j hj => Or.inr (own_block hown j hj)))
        go_roundw
        case rel => exact ⟨k + 1, ys ++ [(k : Int)], by omega, by go_num, by rw [List.length_append, List.map_append]; exact own4, by simp; omega, unhide HYES, unhide HK4⟩
        case measure => simp [intOf]; omega
    · have e : k = xs.length := by omega
      have HF := hide (ints_of_owns hown)
      have HE := hide (unhide hh).1
      have HK := hide (unhide hh).2
      clear hh
      subst e
      go_wp2
      go_ret
      exact ⟨_, rfl, by rw [← unhide HE]; exact (unhide HF).1, (unhide HF).2, unhide HK⟩

set_option maxRecDepth 20000 in
set_option maxHeartbeats 4000000 in
theorem chosenL_any {w : World} {v : Value} {xs : List Int} (h : IntsAt w v xs) (hl : xs.length ≤ 4096) (p : Nat → Bool) (HP : ∀ W k, Kept [] w W → k < xs.length → Calls Try.prog 36 #[v, .int .i64 k] W fun e w' => e = .returned (.bool (p k)) ∧ w' = W) :
    Calls Try.prog 35 #[v, .func (.func 36) #[] #[]] w fun e w' => ∃ r, e = .returned r ∧ IntsAt w' r (selM p xs.length) ∧ FreshAt w.heap.size r ∧ Kept [] w w' := by
  obtain ⟨i, hi, hz0, hz1, hz2⟩ := info_parts infoInt
  obtain ⟨ao, cap, rfl, _, _⟩ := h.shape
  have HQ := hide HP
  have hm' : (xs.length : Int) ≤ 9223372036854775807 := by omega
  clear h HP
  go_enter Try.func35, Try.ntmps35
  go_wp2
  go_loopw [5, 9] (fun lv vv wr => ∃ (k : Nat) (ys : List Int), k ≤ xs.length ∧ vv = .int .i64 k ∧ wr.ownsRow w.heap.size 3 1 lv ys.length (ys.map (Value.int .i64)) ∧ ys.length ≤ k ∧ Hid (ys = selM p k ∧ Kept [] w wr)) (fun _ vv _ => xs.length - (intOf vv).toNat)
  case atStart => exact ⟨0, [], Nat.zero_le _, rfl, ⟨rfl, Or.inl ⟨rfl, rfl⟩⟩, Nat.zero_le _, rfl, Kept.refl _ _⟩
  case round =>
    obtain ⟨k, ys, hk, rfl, hown, hyl, hh⟩ := hrel
    by_cases hlt : k < xs.length
    · have HC := unhide HQ wr k (unhide hh).2 hlt
      have hws := (unhide hh).2.size
      have t0 : (0 : Int) ≤ (k : Int) := by omega
      have t1 : (k : Int) < (xs.length : Int) := by omega
      cases hp : p k
      · rw [hp] at HC
        replace HC := hide HC
        have HNO := hide (show ys = selM p (k + 1) from by rw [selM_no hp, (unhide hh).1])
        clear hp
        go_wp2_with fail
        refine (unhide HC).mono ?_
        rintro e w2 ⟨rfl, rfl⟩
        go_wp2
        go_roundw
        case rel => exact ⟨k + 1, ys, by omega, by go_num, hown, by omega, unhide HNO, (unhide hh).2⟩
        case measure => simp [intOf]; omega
      · rw [hp] at HC
        replace HC := hide HC
        have HYES := hide (show ys ++ [(k : Int)] = selM p (k + 1) from by rw [selM_yes hp, (unhide hh).1])
        clear hp
        go_wp2_with fail
        refine (unhide HC).mono ?_
        rintro e w2 ⟨rfl, rfl⟩
        go_wp2_with (first | (at_builtin; refine wpList_append_own _ rfl (.tmp 16) (.tmp 18) 25 rfl w.heap.size 3 i (.int .i64 0) 1 8 Try.underlying25 hi hz0 hz1 hz2 rfl (by decide) _ _ _ rfl (hown.alloc _) _ 1 _ [.int .i64 (k : Int)] rfl rfl (one_cell' _ _ _ (by simp)) (by simp [Value.oneCell']) (by unfold maxLen; omega) (by omega) (by simp; omega) ?_; intro v' w4 own4 g4 _))
        have HK4 := hide (((unhide hh).2.alloc _).grown g4 (fun j hj => Or.inr (own_block hown j hj)))
        go_roundw
        case rel => exact ⟨k + 1, ys ++ [(k : Int)], by omega, by go_num, by rw [List.length_append, List.map_append]; exact own4, by simp; omega, unhide HYES, unhide HK4⟩
        case measure => simp [intOf]; omega
    · have e : k = xs.length := by omega
      have HF := hide (ints_of_owns hown)
      have HE := hide (unhide hh).1
      have HK := hide (unhide hh).2
      clear hh
      subst e
      go_wp2
      go_ret
      exact ⟨_, rfl, by rw [← unhide HE]; exact (unhide HF).1, (unhide HF).2, unhide HK⟩

end Go.Proofs.Ytdaielejbcjdnaa

namespace Go.Proofs.Ytdaielejbcjdnaa
open Go.RowKit

set_option maxRecDepth 20000 in
set_option maxHeartbeats 4000000 in
theorem mtFree_any {w : World} {v : Value} {xs : List Int} (h : IntsAt w v xs) (hl : xs.length ≤ 4096) : Calls Try.prog 17 #[v] w fun e w' => ∃ r, e = .returned r ∧ IntsAt w' r (freesM xs xs.length) ∧ FreshAt w.heap.size r ∧ Kept [] w w' := by
  have HC := hide (chosenF_any h hl (fun v => decide (xs.getD v 0 = -1)) (fun W k hk hlt => isFree_any (h.kept hk) hlt))
  rw [selM_free] at HC
  obtain ⟨ao, cap, rfl, _, _⟩ := h.shape
  generalize freesM xs xs.length = L at *
  clear h
  go_enter Try.func17, Try.ntmps17
  go_wp2_with fail
  refine (unhide HC).mono ?_
  rintro e w1 ⟨r, rfl, h1, h2, h3⟩
  obtain ⟨ro, rc, rfl, _⟩ := h1.shape
  have HF := hide (And.intro h1 (And.intro h2 h3))
  clear h1 h2 h3 HC
  go_wp2
  go_ret
  exact ⟨_, rfl, unhide HF⟩

set_option maxRecDepth 20000 in
set_option maxHeartbeats 4000000 in
theorem mtSize_any {w : World} {v : Value} {xs : List Int} (h : IntsAt w v xs) (hl : xs.length ≤ 4096) : Calls Try.prog 14 #[v] w fun e w' => e = .returned (.int .i64 ((edgesM xs xs.length).length : Nat)) ∧ Kept [] w w' := by
  have HC := hide (chosenL_any h hl (pairAt xs) (fun W k hk hlt => isLower_any (h.kept hk) hl hlt))
  have hlen := selM_pair_len xs xs.length
  have hle := edgesM_len xs xs.length
  generalize selM (pairAt xs) xs.length = L at *
  rw [← hlen] at hle ⊢
  obtain ⟨ao, cap, rfl, _, _⟩ := h.shape
  have hL : (L.length : Int) ≤ 9223372036854775807 := by omega
  clear h hlen hle
  go_enter Try.func14, Try.ntmps14
  go_wp2_with fail
  refine (unhide HC).mono ?_
  rintro e w1 ⟨r, rfl, h1, h2, h3⟩
  obtain ⟨ro, rc, rfl, _⟩ := h1.shape
  have HK := hide h3
  clear h1 h2 h3 HC
  go_wp2
  go_ret
  exact ⟨rfl, unhide HK⟩

theorem map_take_snoc {L : List Int} {f : Int → E} {k : Nat} {x : Int} (hk : k < L.length) (hx : L.getD k 0 = x) : (L.take k).map f ++ [f x] = (L.take (k + 1)).map f := by
  rw [List.take_succ_eq_append_getElem hk, List.map_append, ← getD_elem hk, hx]; rfl

set_option maxRecDepth 20000 in
set_option maxHeartbeats 8000000 in
theorem mtEdges_any {w : World} {v : Value} {xs : List Int} (h : IntsAt w v xs) (hl : xs.length ≤ 4096) : Calls Try.prog 20 #[v] w fun e w' => ∃ r, e = .returned r ∧ EdgesAt w' r (edgesM xs xs.length) ∧ FreshAt w.heap.size r ∧ Kept [] w w' := by
  obtain ⟨i, hi, hz0, hz1, hz2⟩ := info_parts infoEdge
  have HC := hide (chosenL_any h hl (pairAt xs) (fun W k hk hlt => isLower_any (h.kept hk) hl hlt))
  have hle := edgesM_len xs xs.length
  rw [← selM_pair_len] at hle
  have HAT := hide (fun j (hj : j < (selM (pairAt xs) xs.length).length) => selM_at hj)
  rw [← selM_edges]
  generalize selM (pairAt xs) xs.length = L at *
  obtain ⟨ao, cap, rfl, _, _⟩ := h.shape
  have HX := hide h
  have hL : (L.length : Int) ≤ 9223372036854775807 := by omega
  clear h
  go_enter Try.func20, Try.ntmps20
  go_wp2_with fail
  refine (unhide HC).mono ?_
  rintro e w1 ⟨r, rfl, h1, h2, h3⟩
  obtain ⟨ro, rc, rfl, _⟩ := h1.shape
  have HR := hide h1
  have HK1 := hide h3
  have hsz := h3.size
  clear h1 h2 h3 HC
  go_wp2
  go_loopw [3, 9] (fun lv vv wr => ∃ (k : Nat) (l : List E) (lo : Option Addr) (lc : Nat), k ≤ L.length ∧ vv = .int .i64 k ∧ lv = .slice lo l.length lc ∧ wr.ownsRow w1.heap.size 30 2 lv l.length (flatE l) ∧ l.length ≤ k ∧ Hid (l = (L.take k).map (fun v => (v, xs.getD v.toNat 0)) ∧ Kept [] w1 wr)) (fun _ vv _ => L.length - (intOf vv).toNat)
  case atStart => exact ⟨0, [], none, 0, Nat.zero_le _, rfl, rfl, ⟨rfl, Or.inl ⟨rfl, rfl⟩⟩, Nat.zero_le _, rfl, Kept.refl _ _⟩
  case round =>
    obtain ⟨k, l, lo, lc, hk, rfl, rfl, hown, hlk, hh⟩ := hrel
    have HKR := hide ((unhide HK1).trans (unhide hh).2)
    by_cases hlt : k < L.length
    · obtain ⟨ao2, cap2, hv2, _, hin2⟩ := ((unhide HR).kept (unhide hh).2).shape
      obtain ⟨g1, o1, he2, hin⟩ := hin2 (by omega)
      have hao : ro = some ⟨g1, o1, none⟩ := by simp at hv2; rw [hv2.1, he2]
      subst hao
      have a0 := hin k hlt
      obtain ⟨j, hj, hjl, _⟩ := unhide HAT k hlt
      have HST := hide (map_take_snoc (f := fun v : Int => (v, xs.getD v.toNat 0)) hlt hj)
      rw [hj] at a0
      clear hin hin2 hv2 he2 hj
      obtain ⟨ao3, cap3, hv3, _, hin3⟩ := ((unhide HX).kept (unhide HKR)).shape
      obtain ⟨g3, o3, he3, hin⟩ := hin3 (by omega)
      have hao : ao = some ⟨g3, o3, none⟩ := by simp at hv3; rw [hv3.1, he3]
      subst hao
      have b0 := hin j hjl
      have hws := (unhide hh).2.size
      have t0 : (0 : Int) ≤ (k : Int) := by omega
      have t1 : (k : Int) < (L.length : Int) := by omega
      have u0 : (0 : Int) ≤ (j : Int) := by omega
      have u1 : (j : Int) < (xs.length : Int) := by omega
      rw [Int.toNat_natCast] at HST
      have HYES := hide (show l ++ [((j : Int), xs.getD j 0)] = (L.take (k + 1)).map (fun v => (v, xs.getD v.toNat 0)) from by rw [← unhide HST, (unhide hh).1])
      generalize xs.getD j 0 = y at *
      have HKW := hide (unhide hh).2
      clear hin hin3 hv3 he3 hh HST HX HR
      go_wp2_with (first | (at_builtin; refine wpList_append_src rfl (.tmp 13) (.tmp 20) 22 rfl w1.heap.size 30 i (ev 0 0) 2 16 Try.underlying22 hi hz0 hz1 hz2 rfl (by decide) (.slice lo l.length lc) _ _ rfl (hown.alloc _) _ 1 [.int .i64 (j : Int), .int .i64 y] rfl (EdgesAt.src (edge_new _ (j : Int) y 30 1 _ (Nat.le_refl _) rfl)) (by unfold maxLen; omega) (by omega) (by simp; omega) ?_; intro v5 w5 own5 g5; have K5 : Kept [] w1 w5 := Kept.grown ((unhide HKW).alloc _) g5 (fun q hq => Or.inr (own_block hown q hq)); have own6 : w5.ownsRow w1.heap.size 30 2 v5 (l ++ [((j : Int), y)]).length (flatE (l ++ [((j : Int), y)])) := (by rw [List.length_append, flatE_app]; exact own5)))
      obtain ⟨lo5, lc5, hv5⟩ := own_formM own6
      have HV5 := hide hv5
      have HK5 := hide K5
      clear own5 g5 hown hv5 K5
      go_roundw
      case rel => exact ⟨k + 1, l ++ [((j : Int), y)], lo5, lc5, by omega, by go_num, unhide HV5, own6, by simp; omega, unhide HYES, unhide HK5⟩
      case measure => simp [intOf]; omega
    · have e : k = L.length := by omega
      have HE := hide (show l = L.map (fun v => (v, xs.getD v.toNat 0)) by rw [(unhide hh).1, e, List.take_length])
      have HF := hide (OwnE.at' hown)
      clear hh
      subst e
      go_wp2
      go_ret
      exact ⟨_, rfl, by rw [← unhide HE]; exact (unhide HF).1, fun a n c e => Nat.le_trans hsz ((unhide HF).2 a n c e), unhide HKR⟩

end Go.Proofs.Ytdaielejbcjdnaa

namespace Go.Proofs.Ytdaielejbcjdnaa
open Go.RowKit

theorem okE_iff {n : Int} {e : E} : okE n e = true ↔ 0 ≤ e.1 ∧ e.1 < e.2 ∧ e.2 < n := by unfold okE; simp; omega
theorem trn_swap (a b : Int) : trn b a = trn a b := by unfold trn; rw [Int.min_comm, Int.max_comm]
/-- What an edge more comes to. -/
theorem add_back {n : Int} {es : List E} {a b : Int} (h : addErr n es a b = 0) : rightB n es = true ∧ (0 ≤ a ∧ a < n) ∧ (0 ≤ b ∧ b < n) ∧ a ≠ b ∧ trn a b ∉ es ∧ es.length < 65536 := by
  unfold addErr at h
  cases hr : rightB n es
  · rw [hr] at h; simp at h
  · rw [hr, if_neg (by simp)] at h
    by_cases h1 : ¬ (0 ≤ a ∧ a < n) ∨ ¬ (0 ≤ b ∧ b < n)
    · rw [if_pos h1] at h; simp at h
    · rw [if_neg h1] at h
      by_cases h2 : a = b
      · rw [if_pos h2] at h; simp at h
      · rw [if_neg h2] at h
        by_cases h3 : trn a b ∈ es
        · rw [if_pos h3] at h; simp at h
        · rw [if_neg h3] at h
          by_cases h4 : 65536 ≤ es.length
          · rw [if_pos h4] at h; simp at h
          · exact ⟨rfl, by omega, by omega, h2, h3, by omega⟩
theorem okE_trn {n a b : Int} (ha : 0 ≤ a ∧ a < n) (hb : 0 ≤ b ∧ b < n) (hne : a ≠ b) : okE n (trn a b) = true := by
  rw [okE_iff]; unfold trn; simp only; omega
theorem ins_right {n : Int} {es : List E} {a b : Int} (h : addErr n es a b = 0) : rightB n (insE es (trn a b)) = true := by
  obtain ⟨hr, ha, hb, hne, hno, hl⟩ := add_back h
  obtain ⟨h0, h1, _, hrise, hok⟩ := right_rise hr
  refine rise_right h0 h1 (by rw [insE_len]; omega) (insE_rise hrise hno) (fun e he => ?_)
  rcases insE_mem.1 he with rfl | he
  · exact okE_trn ha hb hne
  · exact hok e he
end Go.Proofs.Ytdaielejbcjdnaa

namespace Go.Proofs.Ytdaielejbcjdnaa
open Go.RowKit

theorem Rs.told {w W : World} {m : Int} {r : Value} {es : List E} (h : Rs w W) (hr : EdgesAt W r es) (hf : FreshAt (w.heap.size + 1) r) :
    EdgesAt ((W.setCell ⟨w.heap.size, 0, none⟩ (.int .i64 m)).setCell ⟨w.heap.size, 1, none⟩ r) r es ∧ FreshAt w.heap.size r ∧ Kept [] w ((W.setCell ⟨w.heap.size, 0, none⟩ (.int .i64 m)).setCell ⟨w.heap.size, 1, none⟩ r) := by
  refine ⟨?_, fun a x y e => by have := hf a x y e; omega, ((h.kept.setCell (Or.inr (Nat.le_refl _)) _).setCell (Or.inr (Nat.le_refl _)) _)⟩
  refine hr.keptAt (bs := [w.heap.size]) (((Kept.refl _ _).setCell (Or.inl (by simp)) _).setCell (Or.inl (by simp)) _) ?_
  intro a x y e
  have := hf a x y e
  simp; omega
theorem u64_nonneg (n : Int) : 0 ≤ IntKind.u64.wrap n := by
  show 0 ≤ n % 18446744073709551616
  omega
theorem mod_small (n V : Int) (h0 : 0 ≤ V) (h1 : V ≤ 4096) : 0 ≤ wrap64 ((IntKind.u64.wrap n).tmod (V + 1)) ∧ wrap64 ((IntKind.u64.wrap n).tmod (V + 1)) ≤ V := by
  have h2 := u64_nonneg n
  have h3 : 0 ≤ (IntKind.u64.wrap n).tmod (V + 1) := Int.tmod_nonneg _ h2
  have h4 : (IntKind.u64.wrap n).tmod (V + 1) < V + 1 := Int.tmod_lt_of_pos _ (by omega)
  rw [IntWalk.wrap64_in _ (by omega)]
  omega

set_option maxRecDepth 20000 in
set_option maxHeartbeats 8000000 in
theorem small_any {w : World} {v : Value} {xs : List Int} (h : IntsAt w v xs) (n V Ed : Int) (hV0 : 0 ≤ V) (hV : V ≤ 4096) (hE0 : 0 ≤ Ed) (_ : Ed ≤ 60000) : Calls Try.prog 26 #[.int .i64 n, v, .int .i64 V, .int .i64 Ed] w fun e w' => ∃ N r es, e = .returned (gv N r) ∧ EdgesAt w' r es ∧ rightB N es = true ∧ N ≤ V ∧ (es.length : Int) ≤ Ed ∧ FreshAt w.heap.size r ∧ Kept [] w w' := by
  obtain ⟨ao, cap, rfl, hm, hxs⟩ := h.shape
  have HXS := hide hxs
  clear h hxs
  have hm' : (xs.length : Int) ≤ 9223372036854775807 := by unfold maxLen at hm; omega
  clear hm
  go_enter Try.func26, Try.ntmps26
  go_wp2
  obtain ⟨hN0, hN1⟩ := mod_small n V hV0 hV
  generalize wrap64 ((IntKind.u64.wrap n).tmod (V + 1)) = N at *
  have MS := hide (Mr.start w N 24 24)
  have HR0 := hide (show rightB N [] = true by unfold rightB; simp [chk]; omega)
  have HNV := hide hN1
  have hN2 : N ≤ 4096 := by omega
  clear hN1
  go_loopw [10] (fun ii wr => ∃ (i : Nat) (r : Value) (es : List E), i ≤ 402 ∧ ii = .int .i64 i ∧ (es.length : Int) ≤ Ed ∧ Hid (Mr w N r es wr ∧ rightB N es = true)) (fun ii _ => 500 - (intOf ii).toNat)
  case atStart => exact ⟨0, _, [], by omega, rfl, by simpa using hE0, unhide MS, unhide HR0⟩
  case round =>
    obtain ⟨i, r, es, hi, rfl, hle, hh⟩ := hrel
    obtain ⟨ro, rc, rfl, _⟩ := (unhide hh).1.at'.shape
    have c0 := (unhide hh).1.g0; have c1 := (unhide hh).1.g1
    by_cases hc : (i : Int) + 1 < (xs.length : Int) ∧ (es.length : Int) < Ed ∧ 0 < N ∧ (i : Int) < 400
    · obtain ⟨hc1, hc2, hc3, hc4⟩ := hc
      obtain ⟨g, o, rfl, hin⟩ := unhide HXS (by omega)
      have d0 := kept_cell (hin i (by omega)) (unhide hh).1.rs.kept
      have d1 := kept_cell (hin (i + 1) (by omega)) (unhide hh).1.rs.kept
      clear hin
      generalize xs.getD i 0 = a at *
      generalize xs.getD (i + 1) 0 = b at *
      have HA := hide (show ∀ W, Kept [] wr W → ∀ a b, Calls Try.prog 41 #[gv N (.slice ro es.length rc), .int .i64 a, .int .i64 b] W fun e w' => ∃ c nn ee, Answers W w' e nn ee c ∧ Hid (c = 0 → ee.length = es.length + 1 ∧ rightB N ee = true ∧ nn = N) from fun W k' a b => (radd_any (n := N) ((unhide hh).1.at'.kept k') a b).mono fun e w' h => ⟨_, _, _, h, fun hz => by
        unfold addE addN; rw [if_pos hz, if_pos hz]; exact ⟨insE_len, ins_right hz, rfl⟩⟩)
      have hc0 := lt_of_cell c0
      have hd0 := lt_of_cell d0
      have hwN : IntKind.u64.wrap N = N := by show N % 18446744073709551616 = N; omega
      have hwi : IntKind.i64.wrap ((i : Int) + 1) = (i : Int) + 1 := by rw [IntWalk.i64_left, IntWalk.wrap64_in _ (by omega)]
      have hnz : (N == 0) = false := by simp; omega
      have i0 : (0 : Int) ≤ (i : Int) := by omega
      have i2 : (0 : Int) ≤ (i : Int) + 1 := by omega
      have hnz2 : ¬ N = 0 := by omega
      have hti : ((i : Int) + 1).toNat = i + 1 := by omega
      have i1 : (i : Int) < (xs.length : Int) := by omega
      go_wp2_with fail
      go_region_held3 (fun W => W.cell? ⟨w.heap.size + 1, 0, none⟩ = some (.int .i64 N) ∧ W.cell? ⟨w.heap.size + 1, 1, none⟩ = some (.slice ro es.length rc) ∧ W.cell? ⟨g, o + i, none⟩ = some (.int .i64 a) ∧ W.cell? ⟨g, o + (i + 1), none⟩ = some (.int .i64 b)) (first | exact ⟨kept_cell c0 K2, kept_cell c1 K2, kept_cell d0 K2, kept_cell d1 K2⟩ | exact ⟨(cell_set2 (by omega)).trans (kept_cell c0 K2), (cell_set2 (by omega)).trans (kept_cell c1 K2), (cell_set2 (by omega)).trans (kept_cell d0 K2), (cell_set2 (by omega)).trans (kept_cell d1 K2)⟩ | exact ⟨alloc_cell (kept_cell c0 K2) _, alloc_cell (kept_cell c1 K2) _, alloc_cell (kept_cell d0 K2) _, alloc_cell (kept_cell d1 K2) _⟩ | go_keep)
        (first | (go_at_call 41; refine (unhide HA _ (by repeat' first | exact Kept.refl _ _ | apply Kept.drew | apply Kept.alloc) _ _).mono ?_; rintro e w2 ⟨c, nn, ee, ⟨r2, rfl, hr2, hf2, k2⟩, HST⟩; obtain ⟨so, sm, sc, rfl⟩ := hr2.form; have kz := (Kept.refl [] (wr.alloc (.cells #[.int .i64 0, .slice none 0 0] 24))).drew.trans k2; obtain ⟨z0, z1⟩ := box2 kz (by simp); obtain ⟨y0, y1⟩ := box2f kz; have K2 : Kept [] wr w2 := ((Kept.refl [] wr).alloc _).trans kz) | (go_at_call 41; refine (unhide HA _ (by repeat' first | exact Kept.refl _ _ | apply Kept.drew | apply Kept.alloc) _ _).mono ?_; rintro e w2 ⟨c, nn, ee, ⟨r2, rfl, hr2, hf2, k2⟩, HST⟩; obtain ⟨so, sm, sc, rfl⟩ := hr2.form; have K2 : Kept [] wr w2 := (Kept.refl [] wr).drew.trans k2))
      · have M3 := (unhide hh).1.go (K2.alloc (.cells #[.int .i64 nn, .slice so sm sc] 24))
        obtain ⟨v0, v1⟩ := box2 (Kept.refl [] (w2.alloc (.cells #[.int .i64 nn, .slice so sm sc] 24))) (by simp)
        have hr3 := hr2.kept ((Kept.refl [] w2).alloc (.cells #[.int .i64 nn, .slice so sm sc] 24))
        have hf3 : FreshAt (w.heap.size + 2) (.slice so sm sc) := fun a x y e => Nat.le_trans hc0 (hf2 a x y e)
        have nP : w2.heap.size ≠ w.heap.size + 1 := by have := K2.size; omega
        clear k2 K2 hr2 hf2 c0 c1 d0 d1
        generalize w2.alloc (.cells #[.int .i64 nn, .slice so sm sc] 24) = w3 at *
        generalize w2.heap.size = pp at *
        have HM3 := hide M3
        have HR3 := hide hr3
        have HF3 := hide hf3
        have s0 := M3.g0; have s1 := M3.g1; have t0 := M3.f0; have t1 := M3.f1
        clear M3 hr3 hf3 hc0 hd0
        by_cases hcz : c = 0
        · have hq : (c == 0) = true := by simpa using hcz
          obtain ⟨hl2, hr2', hnn⟩ := unhide HST hcz
          subst hnn
          have HL2 := hide hl2
          have HRR := hide hr2'
          clear hcz hl2 hr2'
          go_wp2
          go_roundw
          case rel =>
            refine ⟨i + 2, .slice so sm sc, ee, by omega, by go_num, by rw [unhide HL2]; omega, ?_, unhide HRR⟩
            exact (unhide HM3).put (unhide HR3) (unhide HF3)
          case measure => simp [intOf]; omega
        · have hq : (c == 0) = false := by simpa using hcz
          clear hcz
          go_wp2
          go_roundw
          case rel => exact ⟨i + 2, _, es, by omega, by go_num, hle, unhide HM3, (unhide hh).2⟩
          case measure => simp [intOf]; omega
      · have kS : Kept [wr.heap.size] w2 ((w2.setCell ⟨wr.heap.size, 0, none⟩ (.int .i64 nn)).setCell ⟨wr.heap.size, 1, none⟩ (.slice so sm sc)) := ((Kept.refl _ _).setCell (Or.inl (by simp)) _).setCell (Or.inl (by simp)) _
        have kA : Kept [] wr ((w2.setCell ⟨wr.heap.size, 0, none⟩ (.int .i64 nn)).setCell ⟨wr.heap.size, 1, none⟩ (.slice so sm sc)) := K2.trans' kS (by simp)
        have M3 := (unhide hh).1.go kA
        have v0 : ((w2.setCell ⟨wr.heap.size, 0, none⟩ (.int .i64 nn)).setCell ⟨wr.heap.size, 1, none⟩ (.slice so sm sc)).cell? ⟨wr.heap.size, 0, none⟩ = some (.int .i64 nn) := by go_simp
        have v1 : ((w2.setCell ⟨wr.heap.size, 0, none⟩ (.int .i64 nn)).setCell ⟨wr.heap.size, 1, none⟩ (.slice so sm sc)).cell? ⟨wr.heap.size, 1, none⟩ = some (.slice so sm sc) := by go_simp
        have hr3 := hr2.keptAt kS (fun a x y e => by have h2 := hf2 a x y e; have h3 : (wr.alloc (.cells #[.int .i64 0, .slice none 0 0] 24)).heap.size ≤ a.block := h2; simp at h3 ⊢; omega)
        have hf3 : FreshAt (w.heap.size + 2) (.slice so sm sc) := fun a x y e => by have h2 := hf2 a x y e; have h3 : (wr.alloc (.cells #[.int .i64 0, .slice none 0 0] 24)).heap.size ≤ a.block := h2; simp at h3; omega
        have nP : wr.heap.size ≠ w.heap.size + 1 := by omega
        clear k2 kz K2 hr2 hf2 c0 c1 d0 d1 z0 z1 y0 y1 kS kA
        generalize (w2.setCell ⟨wr.heap.size, 0, none⟩ (.int .i64 nn)).setCell ⟨wr.heap.size, 1, none⟩ (.slice so sm sc) = w3 at *
        have HM3 := hide M3
        have HR3 := hide hr3
        have HF3 := hide hf3
        have s0 := M3.g0; have s1 := M3.g1; have t0 := M3.f0; have t1 := M3.f1
        clear M3 hr3 hf3 hc0 hd0
        by_cases hcz : c = 0
        · have hq : (c == 0) = true := by simpa using hcz
          obtain ⟨hl2, hr2', hnn⟩ := unhide HST hcz
          subst hnn
          have HL2 := hide hl2
          have HRR := hide hr2'
          clear hcz hl2 hr2'
          go_wp2
          go_roundw
          case rel =>
            refine ⟨i + 2, .slice so sm sc, ee, by omega, by go_num, by rw [unhide HL2]; omega, ?_, unhide HRR⟩
            exact (unhide HM3).put (unhide HR3) (unhide HF3)
          case measure => simp [intOf]; omega
        · have hq : (c == 0) = false := by simpa using hcz
          clear hcz
          go_wp2
          go_roundw
          case rel => exact ⟨i + 2, _, es, by omega, by go_num, hle, unhide HM3, (unhide hh).2⟩
          case measure => simp [intOf]; omega
    · have r0 := (unhide hh).1.rs.r0; have r1 := (unhide hh).1.rs.r1; have f0 := (unhide hh).1.rs.f0; have f1 := (unhide hh).1.rs.f1
      have HT := hide ((unhide hh).1.rs.told (m := N) (unhide hh).1.at' (fun a x y e => by have := (unhide hh).1.fresh a x y e; omega))
      have HC := hide hc
      clear hc
      go_wp2
      all_goals (first | (exfalso; have hc := unhide HC; omega) | exact bodyPost_ret (v := gv N (.slice ro es.length rc)) (by simp [results, Try.results26, go_sem, r0, r1]) rfl ⟨N, .slice ro es.length rc, rfl, es, (unhide HT).1, (unhide hh).2, unhide HNV, hle, (unhide HT).2⟩ | exact bodyPost_ret (v := gv N (.slice ro es.length rc)) (by simp [results, Try.results26, go_sem, r0, r1]) rfl ⟨N, .slice ro es.length rc, es, rfl, (unhide HT).1, (unhide hh).2, unhide HNV, hle, (unhide HT).2⟩)
end Go.Proofs.Ytdaielejbcjdnaa
