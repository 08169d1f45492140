/- walk.stepsOf, takesTurns, areDistinct. walk.isPath, alternates, augments, Alternates, Augments. walk.alternates, augments, Alternates, Augments. -/
import Derived.Test.YtfilhbkenedchabSingleGrows29
import Derived.Test.YtfilhbkenedchabSingleGrows32
import Derived.Test.YtfilhbkenedchabSingleGrows9
import Derived.BigRegion
import Derived.Deep.RegionHeld3
import Derived.Deep.RegionHeldLaw
import Derived.Test.YtfilhbkenedchabSingleGrows24
namespace Go.Proofs.Ytfilhbkenedchab
open Go.RowKit

theorem step_minI {P : Program} {ops : Array Oper} {o : Oper} {a : Act} {w : World} {K : Act → World → Prop} {Q : Exit → Act → World → Prop} {F : Prop}
    (hw : Region.wanted o (yielded ops a.tmps) = true) (s y : Operand) (t : TypeId) (ho : o.op = .call { callee := .builtin .min, args := #[s, y], argTypes := #[t, t] }) (x0 y0 z : Int) (hs : a.eval s = .int .i64 x0) (hy : a.eval y = .int .i64 y0) (hz : min x0 y0 = z)
    (h : K (a.put o.dst (.int .i64 z)) w) : if Region.wanted o (yielded ops a.tmps) = true then Oper.wp P o a w K Q else F := by
  rw [if_pos hw]
  have hr : (Builtin.min_ #[t, t] o.type #[.int .i64 x0, .int .i64 y0]).run P w = .ok (.int .i64 z) w := by
    rw [← hz, run_min_int2 (P := P) (w := w) #[t, t] o.type .i64 .i64 x0 y0]
    congr 2
    simp only [Int.min_def]
    split <;> split <;> omega
  unfold Oper.wp execOp
  simp only [ho, resolve, invoke, builtin, Sem.run_bind, Sem.run_pure, Result.andThen_ok, List.map_toArray, List.map_cons, List.map_nil, hs, hy, hr]
  exact h
theorem step_maxI {P : Program} {ops : Array Oper} {o : Oper} {a : Act} {w : World} {K : Act → World → Prop} {Q : Exit → Act → World → Prop} {F : Prop}
    (hw : Region.wanted o (yielded ops a.tmps) = true) (s y : Operand) (t : TypeId) (ho : o.op = .call { callee := .builtin .max, args := #[s, y], argTypes := #[t, t] }) (x0 y0 z : Int) (hs : a.eval s = .int .i64 x0) (hy : a.eval y = .int .i64 y0) (hz : max x0 y0 = z)
    (h : K (a.put o.dst (.int .i64 z)) w) : if Region.wanted o (yielded ops a.tmps) = true then Oper.wp P o a w K Q else F := by
  rw [if_pos hw]
  have hr : (Builtin.max_ #[t, t] o.type #[.int .i64 x0, .int .i64 y0]).run P w = .ok (.int .i64 z) w := by
    rw [← hz, run_max_int2 (P := P) (w := w) #[t, t] o.type .i64 .i64 x0 y0]
    congr 2
    simp only [Int.max_def]
    split <;> split <;> omega
  unfold Oper.wp execOp
  simp only [ho, resolve, invoke, builtin, Sem.run_bind, Sem.run_pure, Result.andThen_ok, List.map_toArray, List.map_cons, List.map_nil, hs, hy, hr]
  exact h

set_option maxRecDepth 20000 in
set_option maxHeartbeats 8000000 in
theorem wsteps_any {w : World} {v : Value} {p : List Int} (h : IntsAt w v p) (hl : p.length ≤ 4096) : Calls Try.prog 65 #[v] w fun e w' => ∃ r, e = .returned r ∧ EdgesAt w' r (stepsL p) ∧ FreshAt w.heap.size r ∧ Kept [] w w' := by
  obtain ⟨i, hi, hz0, hz1, hz2⟩ := info_parts infoEdge
  obtain ⟨ao, cap, rfl, _, _⟩ := h.shape
  have HX := hide h
  have hm' : (p.length : Int) ≤ 9223372036854775807 := by omega
  have HL := hide hl
  clear h
  go_enter Try.func65, Try.ntmps65
  go_wp2
  go_loopw [3, 4] (fun lv vv wr => ∃ (k j : Nat) (lo : Option Addr) (lc : Nat), Hid (j = k + 1 ∧ k ≤ p.length - 1) ∧ vv = .int .i64 (j : Nat) ∧ lv = .slice lo k lc ∧ wr.ownsRow w.heap.size 44 2 lv k (flatE (stepsK p k)) ∧ Hid (Kept [] w wr)) (fun _ vv _ => p.length - (intOf vv).toNat)
  case atStart => exact ⟨0, 1, none, 0, ⟨rfl, Nat.zero_le _⟩, rfl, rfl, ⟨rfl, Or.inl ⟨rfl, rfl⟩⟩, Kept.refl _ _⟩
  case round =>
    obtain ⟨k, j, lo, lc, hjk, rfl, rfl, hown, hh⟩ := hrel
    by_cases hlt : j < p.length
    · obtain ⟨ao2, cap2, hv2, _, hin2⟩ := (unhide HX).shape
      obtain ⟨g1, o1, he2, hin⟩ := hin2 (by omega)
      have hao : ao = some ⟨g1, o1, none⟩ := by simp at hv2; rw [hv2.1, he2]
      subst hao
      have hj : j = k + 1 := (unhide hjk).1
      have hwk := hin k (by omega)
      have hwj := hin j (by omega)
      have a0 := kept_cell hwk (unhide hh)
      have a1 := kept_cell hwj (unhide hh)
      have hws := (unhide hh).size
      have HSN := hide (stepsK_snoc p k)
      rw [← hj] at HSN
      generalize p.getD k 0 = x at *
      generalize p.getD j 0 = y at *
      obtain ⟨mn, hmn⟩ : ∃ z, min x y = z := ⟨_, rfl⟩
      obtain ⟨mx, hmx⟩ : ∃ z, max x y = z := ⟨_, rfl⟩
      rw [show trn x y = (mn, mx) by unfold trn; rw [hmn, hmx]] at HSN
      have HMN := hide hmn
      have HMX := hide hmx
      have hwr : IntKind.i64.wrap ((j : Int) - 1) = (k : Int) := by rw [show (j : Int) - 1 = (k : Int) by omega]; exact IntWalk.i64_in _ (by omega)
      have t0 : (0 : Int) ≤ (k : Int) := by omega
      have t1 : (k : Int) < (p.length : Int) := by omega
      have t2 : (0 : Int) ≤ (j : Int) := by omega
      have t3 : (j : Int) < (p.length : Int) := by omega
      have HKW := hide (unhide hh)
      have HCW := hide (And.intro hwk hwj)
      have HJ := hide hj
      have hk96 : k ≤ 4096 := by omega
      have HLT := hide hlt
      clear hin hin2 hv2 he2 hh HX hwk hwj hmn hmx hjk hj hlt hl
      go_wp2_with fail
      go_region_held3 (fun W => W.cell? ⟨g1, o1 + k, none⟩ = some (.int .i64 x) ∧ W.cell? ⟨g1, o1 + j, none⟩ = some (.int .i64 y)) (first | go_keep | exact ⟨kept_cell (unhide HCW).1 K5, kept_cell (unhide HCW).2 K5⟩)
       (first
        | (refine step_minI (by rfl) (.tmp 16) (.tmp 20) 3 (by rfl) x y mn (by rfl) (by rfl) (unhide HMN) ?_)
        | (refine step_maxI (by rfl) (.tmp 26) (.tmp 30) 3 (by rfl) x y mx (by rfl) (by rfl) (unhide HMX) ?_)
        | (refine step_append_src (by rfl) (.tmp 11) (.tmp 33) 23 (by rfl) w.heap.size 44 i (ev 0 0) 2 16 Try.underlying23 hi hz0 hz1 hz2 (by rfl) (by decide) (.slice lo k lc) _ _ (by rfl) (own_keep hown (kept_grown (by repeat' first | exact Kept.refl [] wr | apply Kept.alloc | apply Kept.drew)) (by simp)) _ 1 [.int .i64 mn, .int .i64 mx] (by rfl) (EdgesAt.src (edge_new _ mn mx 44 1 _ (Nat.le_refl _) rfl)) (by unfold maxLen; omega) (by omega) (by simp; omega) ?_; intro v5 w5 own5 g5; have K5 : Kept [] w w5 := Kept.grown (by repeat' first | exact unhide HKW | apply Kept.alloc | apply Kept.drew) g5 (fun j hj => Or.inr (own_block hown j hj))))
      all_goals
        have own6 : w5.ownsRow w.heap.size 44 2 v5 (k + 1) (flatE (stepsK p (k + 1))) := by
          rw [show flatE (stepsK p (k + 1)) = flatE (stepsK p k) ++ flatE [(mn, mx)] by rw [← unhide HJ, unhide HSN, flatE_app]]; exact own5
        obtain ⟨lo5, lc5, hv5⟩ := own_formM own6
        have HV5 := hide hv5
        have HK5 := hide K5
        clear own5 g5 hown hv5 K5
        go_simp
        go_wp2
        go_roundw
        case rel => exact ⟨k + 1, j + 1, lo5, lc5, ⟨by have := unhide HJ; omega, by have := unhide HJ; have := unhide HLT; omega⟩, by go_num, unhide HV5, own6, unhide HK5⟩
        case measure => simp [intOf]; omega
    · have e : k = p.length - 1 := by have := unhide hjk; omega
      subst e
      have own6 : wr.ownsRow w.heap.size 44 2 (.slice lo (p.length - 1) lc) (stepsL p).length (flatE (stepsL p)) := by unfold stepsL; rw [stepsK_len]; exact hown
      have HF := hide (OwnE.at' (es := stepsL p) own6)
      have HK := hide (unhide hh)
      clear hh own6 hown
      go_wp2
      go_ret
      exact ⟨_, rfl, (unhide HF).1, (unhide HF).2, unhide HK⟩

set_option maxRecDepth 20000 in
set_option maxHeartbeats 8000000 in
theorem wturns_any {w : World} {u v : Value} {m : List Int} {l : List E} (hm : IntsAt w u m) (hl : EdgesAt w v l) (hll : l.length ≤ 4096) (hok : ∀ i, i < l.length → 0 ≤ eA l i ∧ eA l i < (m.length : Int)) : Calls Try.prog 64 #[v, .func (.func 66) #[u] #[]] w fun e w' => e = .returned (.bool (turnsB m l)) ∧ Kept [] w w' := by
  obtain ⟨ao, cap, rfl, _, _, _⟩ := hl.shape
  have HX := hide hl
  have HH := hide (fun W (k : Kept [] w W) i (hi : i < l.length) => whas_any (hm.kept k) (y := eB l i) (hok i hi).1 (hok i hi).2)
  have hm' : (l.length : Int) ≤ 9223372036854775807 := by omega
  clear hm hl hok
  go_enter Try.func64, Try.ntmps64
  go_wp2
  go_loopw [5] (fun vv wr => ∃ k j : Nat, Hid (j = k + 1 ∧ k ≤ l.length - 1) ∧ vv = .int .i64 (j : Nat) ∧ Hid ((∀ i, i < k → (hasB m (l.getD i (0, 0)) == hasB m (l.getD (i + 1) (0, 0))) = false) ∧ Kept [] w wr)) (fun vv _ => l.length - (intOf vv).toNat)
  case atStart => exact ⟨0, 1, ⟨rfl, Nat.zero_le _⟩, rfl, fun i hi => by omega, Kept.refl _ _⟩
  case round =>
    obtain ⟨k, j, hjk, rfl, hh⟩ := hrel
    by_cases hlt : j < l.length
    · obtain ⟨ao2, cap2, hv2, _, _, hin2⟩ := ((unhide HX).kept (unhide hh).2).shape
      obtain ⟨g1, o1, he2, hin⟩ := hin2 (by omega)
      have hao : ao = some ⟨g1, o1, none⟩ := by simp at hv2; rw [hv2.1, he2]
      subst hao
      have hj : j = k + 1 := (unhide hjk).1
      have a0 := hin.a k (by omega)
      have a1 := hin.b k (by omega)
      have b0 := hin.a j (by omega)
      have b1 := hin.b j (by omega)
      have HC1 := hide (fun W (kk : Kept [] wr W) => unhide HH W ((unhide hh).2.trans kk) k (by omega))
      have HC2 := hide (fun W (kk : Kept [] wr W) => unhide HH W ((unhide hh).2.trans kk) j hlt)
      have hA : hasB m (eA l k, eB l k) = hasB m (l.getD k (0, 0)) := rfl
      have hB : hasB m (eA l j, eB l j) = hasB m (l.getD j (0, 0)) := rfl
      rw [hA] at HC1
      rw [hB] at HC2
      obtain ⟨A, hA2⟩ : ∃ A, hasB m (l.getD k (0, 0)) = A := ⟨_, rfl⟩
      obtain ⟨B, hB2⟩ : ∃ B, hasB m (l.getD j (0, 0)) = B := ⟨_, rfl⟩
      rw [hA2] at HC1
      rw [hB2] at HC2
      have HNO := hide (show (A == B) = true → turnsB m l = false from fun hab => by
        unfold turnsB
        rw [Bool.eq_false_iff]
        intro hc
        rw [List.all_eq_true] at hc
        have := hc k (List.mem_range.2 (by omega))
        rw [← hj, hA2, hB2, hab] at this
        cases this)
      have HYES := hide (show (A == B) = false → ∀ i, i < k + 1 → (hasB m (l.getD i (0, 0)) == hasB m (l.getD (i + 1) (0, 0))) = false from fun hab i hi => by
        by_cases e : i = k
        · subst e; rw [← hj, hA2, hB2]; exact hab
        · exact (unhide hh).1 i (by omega))
      clear hA hB hA2 hB2
      generalize eA l k = xa at *
      generalize eB l k = xb at *
      generalize eA l j = ya at *
      generalize eB l j = yb at *
      have hwr : IntKind.i64.wrap ((j : Int) - 1) = (k : Int) := by rw [show (j : Int) - 1 = (k : Int) by omega]; exact IntWalk.i64_in _ (by omega)
      have t0 : (0 : Int) ≤ (k : Int) := by omega
      have t1 : (k : Int) < (l.length : Int) := by omega
      have t2 : (0 : Int) ≤ (j : Int) := by omega
      have t3 : (j : Int) < (l.length : Int) := by omega
      have HKW := hide (unhide hh).2
      have HJ := hide hj
      have HLT := hide hlt
      clear hin hin2 hv2 he2 hh HX hjk hj hlt
      go_wp2_with fail
      go_region_held3 (fun W => W.cell? ⟨g1, o1 + k * 2, none⟩ = some (.int .i64 xa) ∧ W.cell? ⟨g1, o1 + k * 2 + 1, none⟩ = some (.int .i64 xb) ∧ W.cell? ⟨g1, o1 + j * 2, none⟩ = some (.int .i64 ya) ∧ W.cell? ⟨g1, o1 + j * 2 + 1, none⟩ = some (.int .i64 yb)) (first | go_keep | exact ⟨kept_cell a0 K1, kept_cell a1 K1, kept_cell b0 K1, kept_cell b1 K1⟩ | exact ⟨kept_cell a0 K2, kept_cell a1 K2, kept_cell b0 K2, kept_cell b1 K2⟩)
        (first
        | (go_at_call 66; have D1' := D1; refine (unhide HC2 _ K1d).mono ?_; rintro e y2 ⟨rfl, k2⟩; have K2 : Kept [] wr y2 := K1d.trans k2)
        | (go_at_call 66; refine (unhide HC1 _ (Kept.refl [] wr).drew).mono ?_; rintro e y1 ⟨rfl, k1⟩; have D1 := True.intro; have K1 : Kept [] wr y1 := (Kept.refl [] wr).drew.trans k1; have K1d := K1))
      have HK2 := hide ((unhide HKW).trans K2)
      clear K1 K1d K2 k1 k2 D1 D1' a0 a1 b0 b1 HC1 HC2 hwr
      cases hab : (A == B)
      · have HY := hide (unhide HYES hab)
        clear HNO HYES
        go_wp2
        go_roundw
        case rel => exact ⟨k + 1, j + 1, ⟨by have := unhide HJ; omega, by have := unhide HJ; have := unhide HLT; omega⟩, by go_num, unhide HY, unhide HK2⟩
        case measure => simp [intOf]; omega
      · have HN := hide (unhide HNO hab)
        clear HNO HYES
        go_wp2
        go_ret
        exact ⟨ret_bool (unhide HN).symm, unhide HK2⟩
    · have HF := hide (show turnsB m l = true from by
        unfold turnsB
        rw [List.all_eq_true]
        intro i hi
        have := List.mem_range.1 hi
        have e := unhide hjk
        rw [(unhide hh).1 i (by omega)]; rfl)
      have HK := hide (unhide hh).2
      clear hh hjk
      go_wp2
      go_ret
      exact ⟨ret_bool (unhide HF).symm, unhide HK⟩

theorem distB_step {n : Int} {p : List Int} {k : Nat} : ((List.range (k + 1)).all fun i => (decide (0 ≤ p.getD i 0) && decide (p.getD i 0 < n)) && !decide (p.getD i 0 ∈ p.take i)) = (((List.range k).all fun i => (decide (0 ≤ p.getD i 0) && decide (p.getD i 0 < n)) && !decide (p.getD i 0 ∈ p.take i)) && ((decide (0 ≤ p.getD k 0) && decide (p.getD k 0 < n)) && !decide (p.getD k 0 ∈ p.take k))) := by
  rw [List.range_succ, List.all_append]; simp
theorem putAns_eq {ws : Nat → Nat} {l : List Int} (h : Marks ws l) (N : Nat) (x : Int) : putAns N ws x = ((decide (0 ≤ x) && decide (x < (N : Int))) && !decide (x ∈ l)) := by
  by_cases h0 : 0 ≤ x
  · by_cases h1 : x < (N : Int)
    · rw [h.ans h0 h1]; simp [h0, h1]
    · unfold putAns; simp [h1]
  · unfold putAns; simp [h0]

set_option maxRecDepth 20000 in
set_option maxHeartbeats 8000000 in
theorem wdist_any {w : World} {v : Value} {N : Nat} {p : List Int} (h : IntsAt w v p) (hpl : p.length ≤ 4096) (hN : N ≤ 70000) (h0 : 0 < w.heap.size) : Calls Try.prog 72 #[.int .i64 N, v] w fun e w' => e = .returned (.bool (distB N p)) ∧ Kept [] w w' := by
  obtain ⟨ao, cap, rfl, _, _⟩ := h.shape
  have HX := hide h
  have hm' : (p.length : Int) ≤ 9223372036854775807 := by omega
  have HNW := new_at w (N : Int) h0
  rw [show newRoom (N : Int) = N by unfold newRoom; omega] at HNW
  replace HNW := hide HNW
  clear h h0
  go_enter Try.func72, Try.ntmps72
  go_wp2_with fail
  refine (unhide HNW).mono ?_
  rintro e w1 ⟨s, b, rfl, hset, k1, hs, hb⟩
  have HST := hide hset
  have HK1 := hide k1
  have HSB := hide (And.intro hs hb)
  clear hset k1 hs hb HNW hN hpl
  generalize (N + 63) / 64 = m at *
  go_wp2
  go_loopw [12] (fun kk wr => ∃ k : Nat, k ≤ p.length ∧ kk = .int .i64 k ∧ Hid (∃ ws, SetAt wr s b N m m ws ∧ Marks ws (p.take k) ∧ (∀ x ∈ p.take k, 0 ≤ x ∧ x < (N : Int)) ∧ ((List.range k).all fun i => (decide (0 ≤ p.getD i 0) && decide (p.getD i 0 < (N : Int))) && !decide (p.getD i 0 ∈ p.take i)) = true ∧ Kept [b] w1 wr)) (fun kk _ => p.length - (intOf kk).toNat)
  case atStart => exact ⟨0, Nat.zero_le _, rfl, _, unhide HST, Marks.nil, by simp, rfl, Kept.refl _ _⟩
  case round =>
    obtain ⟨k, hk, rfl, hh⟩ := hrel
    by_cases hlt : k < p.length
    · obtain ⟨ws, hset, hmk, hall, hd, kr⟩ := unhide hh
      obtain ⟨ao2, cap2, hv2, _, hin2⟩ := ((unhide HX).kept (unhide HK1)).shape
      obtain ⟨g1, o1, he2, hin⟩ := hin2 (by omega)
      have hao : ao = some ⟨g1, o1, none⟩ := by simp at hv2; rw [hv2.1, he2]
      subst hao
      have hgb : g1 ≠ b := by
        obtain ⟨ao9, cap9, hv9, _, _, hd9⟩ := unhide HX
        obtain ⟨g9, o9, e9, l9, _⟩ := hd9 (by omega)
        subst e9
        simp at hv9
        have := (unhide HSB).2
        omega
      have a0 := kept_cell' (hin k hlt) kr (by simpa using hgb)
      have HP := bput_any hset (p.getD k 0)
      rw [putAns_eq hmk] at HP
      have HTK := take_snoc hlt
      obtain ⟨C, hC⟩ : ∃ C, ((decide (0 ≤ p.getD k 0) && decide (p.getD k 0 < (N : Int))) && !decide (p.getD k 0 ∈ p.take k)) = C := ⟨_, rfl⟩
      rw [hC] at HP
      have HNO := hide (show C = false → distB N p = false from fun hc => by
        unfold distB
        rw [Bool.eq_false_iff]
        intro h
        rw [List.all_eq_true] at h
        have := h k (List.mem_range.2 hlt)
        rw [hC, hc] at this
        cases this)
      have HYES := hide (show C = true → Marks (putS N ws (p.getD k 0)) (p.take (k + 1)) ∧ (∀ x ∈ p.take (k + 1), 0 ≤ x ∧ x < (N : Int)) ∧ ((List.range (k + 1)).all fun i => (decide (0 ≤ p.getD i 0) && decide (p.getD i 0 < (N : Int))) && !decide (p.getD i 0 ∈ p.take i)) = true from fun hc => by
        have hc2 := hC.trans hc
        simp only [Bool.and_eq_true, decide_eq_true_eq] at hc2
        refine ⟨by rw [HTK]; exact hmk.put hc2.1.2, fun x hx => ?_, by rw [distB_step, hd, hC, hc]; rfl⟩
        rw [HTK] at hx
        rcases List.mem_append.1 hx with hx | hx
        · exact hall x hx
        · simp at hx; subst hx; exact hc2.1)
      generalize putS N ws (p.getD k 0) = ws2 at *
      generalize p.getD k 0 = x at *
      replace HP := hide HP
      have HKR := hide kr
      have t0 : (0 : Int) ≤ (k : Int) := by omega
      have t1 : (k : Int) < (p.length : Int) := by omega
      clear hset hmk hall hd kr hh hin hin2 hv2 he2 HTK hC
      cases C
      · have HF := hide (unhide HNO rfl)
        go_wp2_with fail
        refine (unhide HP).mono ?_
        rintro e w3 ⟨rfl, _, k3⟩
        have HK3 := hide ((unhide HK1).trans' ((unhide HKR).trans k3) (by simp; exact (unhide HSB).2))
        go_wp2
        go_ret
        exact ⟨ret_bool (unhide HF).symm, unhide HK3⟩
      · have HY := hide (unhide HYES rfl)
        go_wp2_with fail
        refine (unhide HP).mono ?_
        rintro e w3 ⟨rfl, hs3, k3⟩
        have HS3 := hide hs3
        have HK3 := hide ((unhide HKR).trans k3)
        clear hs3 k3
        go_wp2
        go_roundw
        case rel => exact ⟨k + 1, by omega, by go_num, ws2, unhide HS3, (unhide HY).1, (unhide HY).2.1, (unhide HY).2.2, unhide HK3⟩
        case measure => simp [intOf]; omega
    · have e : k = p.length := by omega
      subst e
      obtain ⟨_, _, _, _, hd, kr⟩ := unhide hh
      have HF := hide (show distB N p = true from hd)
      have HK := hide ((unhide HK1).trans' kr (by simp; exact (unhide HSB).2))
      clear hd kr hh
      go_wp2
      go_ret
      exact ⟨ret_bool (unhide HF).symm, unhide HK⟩
end Go.Proofs.Ytfilhbkenedchab

namespace Go.Proofs.Ytfilhbkenedchab
open Go.RowKit

set_option maxRecDepth 20000 in
set_option maxHeartbeats 4000000 in
theorem wcontains_any {w : World} {v u : Value} {l es : List E} (h : EdgesAt w v l) (hl : l.length ≤ 65536) (hu : EdgesAt w u es) (hel : es.length ≤ 65536) (hr : Rise es) :
    Calls Try.prog 73 #[v, .func (.func 74) #[u] #[]] w fun e w' => e = .returned (.bool (!l.all (inB es))) ∧ Kept [] w w' := by
  have HI := hide (indexL_any h hl (fun e => !inB es e) (fun W i k _ => wlack_any (hu.kept k) hel hr (eA l i) (eB l i)))
  obtain ⟨ao, cap, rfl, _, _, _⟩ := h.shape
  clear h hl hu hel hr
  go_enter Try.func73, Try.ntmps73
  go_wp2_with fail
  refine (unhide HI).mono ?_
  rintro e w1 ⟨r, rfl, hi, k1⟩
  have HF := hide (show decide (0 ≤ r) = !l.all (inB es) from by
    rcases hi with ⟨rfl, hn⟩ | ⟨k, rfl, hk, hq, _⟩
    · have : l.all (inB es) = true := by
        rw [List.all_eq_true]
        intro x hx
        obtain ⟨i, hi, rfl⟩ := List.getElem_of_mem hx
        have := hn i hi
        unfold at_ at this
        rw [← e_elem hi] at this
        simpa using this
      rw [this]; rfl
    · have : l.all (inB es) = false := by
        rw [Bool.eq_false_iff]
        intro h
        rw [List.all_eq_true] at h
        have h2 := h _ (List.getElem_mem hk)
        rw [e_elem hk] at h2
        have hq2 : (!inB es (eA l k, eB l k)) = true := hq
        rw [h2] at hq2
        cases hq2
      rw [this]; simp)
  have HK := hide k1
  clear hi k1 HI
  go_wp2
  go_ret
  exact ⟨ret_bool (unhide HF), unhide HK⟩

set_option maxRecDepth 20000 in
set_option maxHeartbeats 4000000 in
theorem wisPath_any {w : World} {n : Int} {v t : Value} {es : List E} {p : List Int} (h : EdgesAt w v es) (hp : IntsAt w t p) (hr : rightB n es = true) (hpl : p.length ≤ 4096) : Calls Try.prog 63 #[gv n v, t] w fun e w' => e = .returned (.bool (pathB n es p)) ∧ Kept [] w w' := by
  obtain ⟨h0, h1, hel, hrise, _⟩ := right_rise hr
  obtain ⟨N, rfl⟩ : ∃ N : Nat, n = (N : Int) := ⟨n.toNat, by omega⟩
  obtain ⟨ao, cap, rfl, _, _, _⟩ := h.shape
  obtain ⟨bo, bc, rfl, _, _⟩ := hp.shape
  have KB := (Kept.refl [] w).alloc (.cells #[.int .i64 (N : Int), .slice ao es.length cap] 25)
  obtain ⟨b0, b1⟩ := box2 (Kept.refl [] (w.alloc (.cells #[.int .i64 (N : Int), .slice ao es.length cap] 25))) (by simp)
  have hm' : (p.length : Int) ≤ 9223372036854775807 := by omega
  by_cases hp0 : p.length = 0
  · have HF := hide (show pathB (N : Int) es p = false from by unfold pathB; rw [decide_eq_false (by omega)]; rfl)
    rw [hp0] at *
    have HK := hide KB
    clear h hp hr h0 h1 hel hrise KB hpl
    go_enter Try.func63, Try.ntmps63
    go_wp2
    go_ret
    exact ⟨ret_bool (unhide HF).symm, unhide HK⟩
  · have hb : (((p.length : Nat) : Int) == 0) = false := beq_eq_false_iff_ne.2 (by omega)
    have HD := wdist_any (hp.kept KB) hpl (N := N) (by omega) (by simp)
    have HS := hide (fun W (k : Kept [] w W) => wsteps_any (hp.kept k) hpl)
    have HC := hide (fun W x l (k : Kept [] w W) (hx : EdgesAt W x l) (hl : l.length ≤ 65536) => wcontains_any hx hl (h.kept k) hel hrise)
    have HKB := hide KB
    have HSL := hide (show (stepsL p).length ≤ 65536 from by unfold stepsL; rw [stepsK_len]; omega)
    have HPB := hide (show pathB (N : Int) es p = (distB (N : Int) p && (stepsL p).all (inB es)) from by unfold pathB; rw [decide_eq_true (by omega)]; rfl)
    clear h hp hr h0 h1 hel hrise KB hpl
    cases hd : distB (N : Int) p
    · rw [hd] at HD HPB
      have HD := hide HD
      have HF := hide (show pathB (N : Int) es p = false from by rw [unhide HPB]; rfl)
      clear hd HPB
      go_enter Try.func63, Try.ntmps63
      go_wp2_with fail
      refine (unhide HD).mono ?_
      rintro e w1 ⟨rfl, k1⟩
      have HK1 := hide ((unhide HKB).trans k1)
      clear k1
      go_wp2
      go_ret
      exact ⟨ret_bool (unhide HF).symm, unhide HK1⟩
    · rw [hd] at HD HPB
      have HD := hide HD
      have HF := hide (show pathB (N : Int) es p = (stepsL p).all (inB es) from by rw [unhide HPB]; rfl)
      clear hd HPB
      go_enter Try.func63, Try.ntmps63
      go_wp2_with fail
      refine (unhide HD).mono ?_
      rintro e w1 ⟨rfl, k1⟩
      have HK1 := hide ((unhide HKB).trans k1)
      have c1 := kept_cell b1 k1
      have HSW := hide (fun W (k : Kept [] w1 W) => unhide HS W ((unhide HK1).trans k))
      have HCW := hide (fun W x (k : Kept [] w1 W) (hx : EdgesAt W x (stepsL p)) => unhide HC W x _ ((unhide HK1).trans k) hx (unhide HSL))
      clear k1 HD HS HC b0 b1
      generalize stepsL p = l at *
      go_wp2_with fail
      go_region_held3 (fun W => W.cell? ⟨w.heap.size, 1, none⟩ = some (.slice ao es.length cap)) (first | go_keep | exact kept_cell c1 K2 | exact kept_cell c1 K1)
        (first
        | (go_at_call 73; refine (unhide HCW _ _ (by first | exact K1 | exact K1.drew | exact K1.drewN _) (by first | exact hs1 | exact hs1.kept ((Kept.refl [] _).drew) | exact hs1.kept ((Kept.refl [] _).drewN _))).mono ?_; rintro e y2 ⟨rfl, k2⟩; have K2 : Kept [] w1 y2 := (by refine Kept.trans ?_ k2; first | exact K1 | exact K1.drew | exact K1.drewN _))
        | (go_at_call 65; refine (unhide HSW _ (by first | exact Kept.refl [] w1 | exact (Kept.refl [] w1).drew | exact (Kept.refl [] w1).drewN _)).mono ?_; rintro e y1 ⟨r, rfl, hs1, _, k1⟩; obtain ⟨so, sc, rfl, _⟩ := hs1.shape; have K1 : Kept [] w1 y1 := (by refine Kept.trans ?_ k1; first | exact Kept.refl [] w1 | exact (Kept.refl [] w1).drew | exact (Kept.refl [] w1).drewN _)))
      all_goals
        have HK2 := hide ((unhide HK1).trans K2)
        have HF2 := hide (show (!!l.all (inB es)) = pathB (N : Int) es p from by rw [unhide HF]; simp)
        clear K1 K2 k2 c1 hs1 k1
        go_wp2
        go_ret
        exact ⟨ret_bool (by first | exact (unhide HF2) | simpa using unhide HF2), unhide HK2⟩
end Go.Proofs.Ytfilhbkenedchab

namespace Go.Proofs.Ytfilhbkenedchab
open Go.RowKit

set_option maxRecDepth 20000 in
set_option maxHeartbeats 4000000 in
theorem walt0_any {w : World} {n : Int} {v u t : Value} {es : List E} {m p : List Int} (h : EdgesAt w v es) (hm : IntsAt w u m) (hp : IntsAt w t p) (hpl : p.length ≤ 4096) (hmb : mateB n es m = true) : Calls Try.prog 54 #[gv n v, u, t] w fun e w' => e = .returned (.bool (altB n es m p)) ∧ Kept [] w w' := by
  obtain ⟨hr, hml, _⟩ := mateB_iff.1 hmb
  obtain ⟨ao, cap, rfl, _, _, _⟩ := h.shape
  obtain ⟨bo, bc, rfl, _, _⟩ := hp.shape
  obtain ⟨co, cc, rfl, _, _⟩ := hm.shape
  have KB := (Kept.refl [] w).alloc (.cells #[.int .i64 n, .slice ao es.length cap] 25)
  obtain ⟨b0, b1⟩ := box2 (Kept.refl [] (w.alloc (.cells #[.int .i64 n, .slice ao es.length cap] 25))) (by simp)
  have HI := wisPath_any (n := n) (h.kept KB) (hp.kept KB) hr hpl
  have HS := hide (fun W (k : Kept [] w W) => wsteps_any (hp.kept k) hpl)
  have HAP := alt_path (p := p) hmb
  have HKB := hide KB
  cases hpb : pathB n es p
  · rw [hpb] at HI HAP
    replace HI := hide HI
    have HF := hide (show altB n es m p = false from by rw [HAP]; rfl)
    clear h hm hp hr hml KB hpl hmb HAP hpb HS
    go_enter Try.func54, Try.ntmps54
    go_wp2_with fail
    refine (unhide HI).mono ?_
    rintro e w1 ⟨rfl, k1⟩
    have HK1 := hide ((unhide HKB).trans k1)
    clear k1
    go_wp2
    go_ret
    exact ⟨ret_bool (unhide HF).symm, unhide HK1⟩
  · rw [hpb] at HI HAP
    replace HI := hide HI
    have HF := hide (show turnsB m (stepsL p) = altB n es m p from by rw [HAP]; simp)
    have HT := hide (fun W x (k : Kept [] w W) (hx : EdgesAt W x (stepsL p)) => wturns_any (hm.kept k) hx (by unfold stepsL; rw [stepsK_len]; omega) (fun i hi => by have := path_ends hpb hi; omega))
    clear h hm hp hr hml KB hpl hmb HAP hpb
    go_enter Try.func54, Try.ntmps54
    go_wp2_with fail
    refine (unhide HI).mono ?_
    rintro e w1 ⟨rfl, k1⟩
    have HK1 := hide ((unhide HKB).trans k1)
    have HS1 := hide (unhide HS _ (unhide HK1))
    clear k1 HS
    go_wp2_with fail
    refine (unhide HS1).mono ?_
    rintro e w2 ⟨r, rfl, hs, _, k2⟩
    obtain ⟨so, sc, rfl, _⟩ := hs.shape
    have HK2 := hide ((unhide HK1).trans k2)
    have HT2 := hide (unhide HT _ _ (unhide HK2) hs)
    clear k2 hs HT HS1
    generalize stepsL p = l at *
    go_wp2_with fail
    refine (unhide HT2).mono ?_
    rintro e w3 ⟨rfl, k3⟩
    have HK3 := hide ((unhide HK2).trans k3)
    clear k3
    go_wp2
    go_ret
    exact ⟨ret_bool (unhide HF), unhide HK3⟩

set_option maxRecDepth 20000 in
set_option maxHeartbeats 4000000 in
theorem waug0_any {w : World} {n : Int} {v u t : Value} {es : List E} {m p : List Int} (h : EdgesAt w v es) (hm : IntsAt w u m) (hp : IntsAt w t p) (hpl : p.length ≤ 4096) (hmb : mateB n es m = true) : Calls Try.prog 39 #[gv n v, u, t] w fun e w' => e = .returned (.bool (augB n es m p)) ∧ Kept [] w w' := by
  obtain ⟨hr, hml, _⟩ := mateB_iff.1 hmb
  obtain ⟨ao, cap, rfl, _, _, _⟩ := h.shape
  obtain ⟨bo, bc, rfl, _, _⟩ := hp.shape
  obtain ⟨co, cc, rfl, _, _⟩ := hm.shape
  have KB := (Kept.refl [] w).alloc (.cells #[.int .i64 n, .slice ao es.length cap] 25)
  obtain ⟨b0, b1⟩ := box2 (Kept.refl [] (w.alloc (.cells #[.int .i64 n, .slice ao es.length cap] 25))) (by simp)
  have HI := walt0_any (n := n) (h.kept KB) (hm.kept KB) (hp.kept KB) hpl hmb
  have HKB := hide KB
  have hm' : (p.length : Int) ≤ 9223372036854775807 := by omega
  by_cases hp2 : 2 ≤ p.length
  · have g1 : (1 : Int) < (p.length : Int) := by omega
    cases hal : altB n es m p
    · rw [hal] at HI
      replace HI := hide HI
      have HF := hide (show augB n es m p = false from by unfold augB; rw [hal]; simp)
      clear h hm hp hr hml KB hpl hmb hal hp2
      go_enter Try.func39, Try.ntmps39
      go_wp2_with fail
      refine (unhide HI).mono ?_
      rintro e w1 ⟨rfl, k1⟩
      have HK1 := hide ((unhide HKB).trans k1)
      clear k1
      go_wp2
      go_ret
      exact ⟨ret_bool (unhide HF).symm, unhide HK1⟩
    · rw [hal] at HI
      replace HI := hide HI
      have hA := alt_iff.1 hal
      obtain ⟨g, o, rfl, hin⟩ : ∃ g o, bo = some ⟨g, o, none⟩ ∧ ∀ i, i < p.length → w.cell? ⟨g, o + i, none⟩ = some (.int .i64 (p.getD i 0)) := by
        obtain ⟨_, _, hv, _, hd⟩ := hp.shape
        obtain ⟨g, o, e, hc⟩ := hd (by omega)
        simp at hv
        exact ⟨g, o, by rw [hv.1, e], hc⟩
      have r0 := hA.at' 0 (by omega)
      have r1 := hA.at' (p.length - 1) (by omega)
      have HF0 := hide (fun W (k : Kept [] w W) => wfree_any (hm.kept k) r0.1 (show p.getD 0 0 < (m.length : Int) by omega))
      have HF1 := hide (fun W (k : Kept [] w W) => wfree_any (hm.kept k) r1.1 (show p.getD (p.length - 1) 0 < (m.length : Int) by omega))
      have HC0 := hide (show ∀ W, Kept [] w W → W.cell? ⟨g, o, none⟩ = some (.int .i64 (p.getD 0 0)) from fun W k => kept_cell (by have := hin 0 (by omega); rwa [Nat.add_zero] at this) k)
      have HC1 := hide (show ∀ W, Kept [] w W → W.cell? ⟨g, o + (p.length - 1), none⟩ = some (.int .i64 (p.getD (p.length - 1) 0)) from fun W k => kept_cell (hin _ (by omega)) k)
      have HF := hide (show augB n es m p = (decide (m.getD (p.getD 0 0).toNat 0 = -1) && decide (m.getD (p.getD (p.length - 1) 0).toNat 0 = -1)) from by unfold augB; rw [hal, decide_eq_true hp2]; simp)
      obtain ⟨q, hq⟩ : ∃ q, p.length - 1 = q := ⟨_, rfl⟩
      rw [hq] at HF1 HC1 HF
      generalize p.getD 0 0 = x0 at *
      generalize p.getD q 0 = x1 at *
      have hwr : IntKind.i64.wrap ((p.length : Int) - 1) = (q : Int) := by rw [show (p.length : Int) - 1 = (q : Int) by omega]; exact IntWalk.i64_in _ (by omega)
      have q0 : (0 : Int) ≤ (q : Int) := by omega
      have q1 : (q : Int) < (p.length : Int) := by omega
      have q2 : (0 : Int) < (p.length : Int) := by omega
      cases ha : decide (m.getD x0.toNat 0 = -1)
      · rw [ha] at HF0 HF
        have HFF := hide (show augB n es m p = false from by rw [unhide HF]; rfl)
        clear h hm hp hr hml KB hpl hmb hal hp2 hA hin r0 r1 hq ha HF HF1 HC1
        go_enter Try.func39, Try.ntmps39
        go_wp2_with fail
        refine (unhide HI).mono ?_
        rintro e w1 ⟨rfl, k1⟩
        have HK1 := hide ((unhide HKB).trans k1)
        have d0 := unhide HC0 _ (unhide HK1)
        have HF2 := hide (unhide HF0 _ (unhide HK1))
        clear k1 HC0 HF0
        go_wp2_with fail
        refine (unhide HF2).mono ?_
        rintro e w2 ⟨rfl, rfl⟩
        go_wp2
        go_ret
        exact ⟨ret_bool (unhide HFF).symm, unhide HK1⟩
      · rw [ha] at HF0 HF
        have HFF := hide (show decide (m.getD x1.toNat 0 = -1) = augB n es m p from by rw [unhide HF]; rfl)
        generalize decide (m.getD x1.toNat 0 = -1) = C at *
        clear h hm hp hr hml KB hpl hmb hal hp2 hA hin r0 r1 hq ha HF
        go_enter Try.func39, Try.ntmps39
        go_wp2_with fail
        refine (unhide HI).mono ?_
        rintro e w1 ⟨rfl, k1⟩
        have HK1 := hide ((unhide HKB).trans k1)
        have d0 := unhide HC0 _ (unhide HK1)
        have d1 := unhide HC1 _ (unhide HK1)
        have HF2 := hide (unhide HF0 _ (unhide HK1))
        have HF3 := hide (unhide HF1 _ (unhide HK1))
        clear k1 HC0 HF0 HC1 HF1
        go_wp2_with fail
        refine (unhide HF2).mono ?_
        rintro e w2 ⟨rfl, rfl⟩
        go_wp2_with fail
        refine (unhide HF3).mono ?_
        rintro e w3 ⟨rfl, rfl⟩
        go_wp2
        go_ret
        exact ⟨ret_bool (unhide HFF), unhide HK1⟩
  · have g1 : (p.length : Int) ≤ 1 := by omega
    have HF := hide (show augB n es m p = false from by unfold augB; rw [decide_eq_false hp2]; rfl)
    clear h hm hp hr hml KB hpl hmb hp2
    go_enter Try.func39, Try.ntmps39
    go_wp2
    go_ret
    exact ⟨ret_bool (unhide HF).symm, unhide HKB⟩

end Go.Proofs.Ytfilhbkenedchab
