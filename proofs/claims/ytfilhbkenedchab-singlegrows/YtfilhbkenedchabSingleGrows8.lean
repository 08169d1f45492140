/- append to a row whose capacity is known. The reference of stage 8: Edges, Size. What an edge more comes to. The reference of stage 8: None, Right. -/
import Derived.Test.YtfilhbkenedchabSingleGrows6
import Derived.Test.YtfilhbkenedchabSingleGrows7
import Derived.Laws.CopyRow
import Derived.Test.YtfilhbkenedchabSingleGrows5
namespace Go.Proofs.Ytfilhbkenedchab
open Go.RowKit

theorem run_append_fit {P : Program} (w : World) (t ty e : TypeId) (i : TypeInfo) (size : Nat) (ht : P.underlying t = some (.slice e)) (hi : P.info? e = some i) (hsize : i.size = size) (g cap : Nat) (cur : Array Value) (hg : w.heap[g]? = some (.cells cur e (0, 0))) (hcur : cur.size = cap * size)
    (x : Value) (m : Nat) (news : List Value) (hx : SrcV w size x m news) (hfit : m ≤ cap) :
    ∃ w' cur', (Builtin.append_ #[t, t] ty #[.slice (some ⟨g, 0, none⟩) 0 cap, x]).run P w = .ok (.slice (some ⟨g, 0, none⟩) m cap) w' ∧ w'.heap[g]? = some (.cells cur' e (0, 0)) ∧ cur'.size = cap * size ∧ cur'.toList.take news.length = news ∧ Kept [g] w w' := by
  subst hsize
  obtain ⟨ao, c, rfl, hl, h1, hn, hc⟩ := hx
  cases ao with
  | some a =>
    have hfit2 : news.length ≤ cur.size := by rw [hl, hcur]; exact Nat.mul_le_mul_right _ hfit
    have hr := run_append_room (P := P) w t ty e i ht hi g 0 cap cur hg a m c news hl (hc a rfl) h1 (by omega) (by omega)
    rw [Nat.zero_add] at hr
    refine ⟨_, _, hr, setRow_heap w g cur _ e _ hg, ?_, ?_, ⟨rfl, rfl, rfl, by simp [World.setRow], fun k _ hk => setRow_other w g k _ (by intro e; exact hk (by simp [e]))⟩⟩
    · simp; omega
    · simp
  | none =>
    have hm := hn rfl
    subst hm
    have e0 : news = [] := List.eq_nil_of_length_eq_zero (by simpa using hl)
    subst e0
    refine ⟨w, cur, ?_, hg, hcur, by simp, Kept.refl _ _⟩
    simp [Builtin.append_, run_underlying ht, sizeOf, typeInfo, hi, Builtin.lenOf, Builtin.firstCells, storeCells]

theorem wpList_append_fit {P : Program} {w : World} {ops : Array Oper} {rest : List Oper} {o : Oper} {a : Act} {Q : Exit → Act → World → Prop} (hgd : o.guard = none) (s y : Operand) (t : TypeId)
    (ho : o.op = .call { callee := .builtin .append, args := #[s, y], argTypes := #[t, t] })
    (e : TypeId) (i : TypeInfo) (size : Nat) (ht : P.underlying t = some (.slice e)) (hi : P.info? e = some i) (hsize : i.size = size) (g cap : Nat) (cur : Array Value) (hg : w.heap[g]? = some (.cells cur e (0, 0))) (hcur : cur.size = cap * size)
    (hs : a.eval s = .slice (some ⟨g, 0, none⟩) 0 cap) (x : Value) (m : Nat) (news : List Value) (hy : a.eval y = x) (hx : SrcV w size x m news) (hfit : m ≤ cap)
    (h : ∀ w' cur', w'.heap[g]? = some (.cells cur' e (0, 0)) → cur'.size = cap * size → cur'.toList.take news.length = news → Kept [g] w w' → wpList P ops Q rest (a.put o.dst (.slice (some ⟨g, 0, none⟩) m cap)) w') : wpList P ops Q (o :: rest) a w :=
  wpList_plain hgd fun _ hK => by
    obtain ⟨w', cur', hr, h2, h3, h4, h5⟩ := run_append_fit (P := P) w t o.type e i size ht hi hsize g cap cur hg hcur x m news hx hfit
    unfold Oper.wp execOp
    simp only [ho, resolve, invoke, builtin, Sem.run_bind, Sem.run_pure, Result.andThen_ok, List.map_toArray, List.map_cons, List.map_nil, hs, hy, hr]
    exact hK _ _ (h w' cur' h2 h3 h4 h5)

end Go.Proofs.Ytfilhbkenedchab

namespace Go.Proofs.Ytfilhbkenedchab
open Go.RowKit

theorem own_formM {w : World} {base e size n : Nat} {v : Value} {xs : List Value} (h : w.ownsRow base e size v n xs) : ∃ ao cap, v = .slice ao n cap := by
  rcases h.2 with ⟨rfl, rfl⟩ | ⟨g, cap, cur, rfl, _⟩
  · exact ⟨none, 0, rfl⟩
  · exact ⟨_, cap, rfl⟩

set_option maxRecDepth 20000 in
set_option maxHeartbeats 8000000 in
theorem mrEdges_any {w : World} {v : Value} {xs : List Int} (h : IntsAt w v xs) (hl : xs.length ≤ 4096) : Calls Try.prog 20 #[v] w fun e w' => ∃ r, e = .returned r ∧ EdgesAt w' r (edgesM xs xs.length) ∧ FreshAt w.heap.size r ∧ Kept [] w w' := by
  obtain ⟨i, hi, hz0, hz1, hz2⟩ := info_parts infoEdge
  obtain ⟨ao, cap, rfl, _, _⟩ := h.shape
  have HX := hide h
  have hm' : (xs.length : Int) ≤ 9223372036854775807 := by omega
  clear h
  go_enter Try.func20, Try.ntmps20
  go_wp2
  go_loopw [3, 4] (fun lv vv wr => ∃ (k : Nat) (l : List E) (lo : Option Addr) (lc : Nat), k ≤ xs.length ∧ vv = .int .i64 k ∧ lv = .slice lo l.length lc ∧ wr.ownsRow w.heap.size 44 2 lv l.length (flatE l) ∧ l.length ≤ k ∧ Hid (l = edgesM xs k ∧ Kept [] w wr)) (fun _ vv _ => xs.length - (intOf vv).toNat)
  case atStart => exact ⟨0, [], none, 0, Nat.zero_le _, rfl, rfl, ⟨rfl, Or.inl ⟨rfl, rfl⟩⟩, Nat.zero_le _, rfl, Kept.refl _ _⟩
  case round =>
    obtain ⟨k, l, lo, lc, hk, rfl, rfl, hown, hlk, hh⟩ := hrel
    by_cases hlt : k < xs.length
    · obtain ⟨ao2, cap2, hv2, _, hin2⟩ := ((unhide HX).kept (unhide hh).2).shape
      obtain ⟨g1, o1, he2, hin⟩ := hin2 (by omega)
      have hao : ao = some ⟨g1, o1, none⟩ := by simp at hv2; rw [hv2.1, he2]
      subst hao
      have a0 := hin k hlt
      have hws := (unhide hh).2.size
      have t0 : (0 : Int) ≤ (k : Int) := by omega
      have t1 : (k : Int) < (xs.length : Int) := by omega
      obtain ⟨x, hx⟩ : ∃ x, xs.getD k 0 = x := ⟨_, rfl⟩
      obtain ⟨y, hy⟩ : ∃ y, xs.getD x.toNat 0 = y := ⟨_, rfl⟩
      have HST := hide (edgesM_step hx hy)
      rw [hx] at a0
      have HNO := hide (fun (h : ¬ ((k : Int) < x ∧ x < (xs.length : Int) ∧ y = (k : Int))) => show l = edgesM xs (k + 1) from by rw [unhide HST, if_neg h, List.append_nil, (unhide hh).1])
      have HYES := hide (fun (h : (k : Int) < x ∧ x < (xs.length : Int) ∧ y = (k : Int)) => show l ++ [((k : Int), x)] = edgesM xs (k + 1) from by rw [unhide HST, if_pos h, (unhide hh).1])
      have HKR := hide (unhide hh).2
      by_cases c1 : (k : Int) < x
      · by_cases c2 : x < (xs.length : Int)
        · obtain ⟨j, rfl⟩ : ∃ j : Nat, x = (j : Int) := ⟨x.toNat, by omega⟩
          rw [Int.toNat_natCast] at hy
          have b0 := hin j (by omega)
          rw [hy] at b0
          have u0 : (0 : Int) ≤ (j : Int) := by omega
          clear hin hin2 hv2 he2 hh hx hy
          by_cases c3 : y = (k : Int)
          · subst c3
            go_wp2_with (first | (at_builtin; refine wpList_append_src rfl (.tmp 33) (.tmp 37) 23 rfl w.heap.size 44 i (ev 0 0) 2 16 Try.underlying23 hi hz0 hz1 hz2 rfl (by decide) (.slice lo l.length lc) _ _ rfl (hown.alloc _) _ 1 [.int .i64 (k : Int), .int .i64 (j : Int)] rfl (EdgesAt.src (edge_new _ (k : Int) (j : Int) 44 1 _ (Nat.le_refl _) rfl)) (by unfold maxLen; omega) (by omega) (by simp; omega) ?_; intro v5 w5 own5 g5; have K5 : Kept [] w w5 := Kept.grown ((unhide HKR).alloc _) g5 (fun j hj => Or.inr (own_block hown j hj)); have own6 : w5.ownsRow w.heap.size 44 2 v5 (l ++ [((k : Int), (j : Int))]).length (flatE (l ++ [((k : Int), (j : Int))])) := (by rw [List.length_append, flatE_app]; exact own5)))
            obtain ⟨lo5, lc5, hv5⟩ := own_formM own6
            have HV5 := hide hv5
            have HK5 := hide K5
            clear own5 g5 hown hv5 K5
            go_roundw
            case rel => exact ⟨k + 1, l ++ [((k : Int), (j : Int))], lo5, lc5, by omega, by go_num, unhide HV5, own6, by simp; omega, unhide HYES ⟨c1, c2, rfl⟩, unhide HK5⟩
            case measure => simp [intOf]; omega
          · go_wp2
            go_roundw
            case rel => exact ⟨k + 1, l, lo, lc, by omega, by go_num, rfl, hown, by omega, unhide HNO (fun h => c3 h.2.2), unhide HKR⟩
            case measure => simp [intOf]; omega
        · clear hin hin2 hv2 he2 hh hx hy
          go_wp2
          go_roundw
          case rel => exact ⟨k + 1, l, lo, lc, by omega, by go_num, rfl, hown, by omega, unhide HNO (fun h => c2 h.2.1), unhide HKR⟩
          case measure => simp [intOf]; omega
      · clear hin hin2 hv2 he2 hh hx hy
        go_wp2
        go_roundw
        case rel => exact ⟨k + 1, l, lo, lc, by omega, by go_num, rfl, hown, by omega, unhide HNO (fun h => c1 h.1), unhide HKR⟩
        case measure => simp [intOf]; omega
    · have e : k = xs.length := by omega
      have HF := hide (OwnE.at' hown)
      have HE := hide (unhide hh).1
      have HK := hide (unhide hh).2
      clear hh
      subst e
      go_wp2
      go_ret
      exact ⟨_, rfl, by rw [← unhide HE]; exact (unhide HF).1, (unhide HF).2, unhide HK⟩

set_option maxRecDepth 20000 in
theorem mrSize_any {w : World} {v : Value} {xs : List Int} (h : IntsAt w v xs) (hl : xs.length ≤ 4096) : Calls Try.prog 9 #[v] w fun e w' => e = .returned (.int .i64 ((edgesM xs xs.length).length : Nat)) ∧ Kept [] w w' := by
  have HE := hide (mrEdges_any h hl)
  have hle := edgesM_len xs xs.length
  obtain ⟨m, hm⟩ : ∃ m, (edgesM xs xs.length).length = m := ⟨_, rfl⟩
  rw [hm] at hle ⊢
  have HM := hide hm
  clear h hm
  go_enter Try.func9, Try.ntmps9
  go_wp2_with fail
  refine (unhide HE).mono ?_
  rintro e w1 ⟨r, rfl, hr, _, hk⟩
  obtain ⟨ro, rc, rfl, _⟩ := hr.shape
  rw [unhide HM]
  have HK := hide hk
  have u : (m : Int) ≤ 9223372036854775807 := by omega
  clear hr hk HE HM
  go_wp2
  go_ret
  exact ⟨rfl, unhide HK⟩

end Go.Proofs.Ytfilhbkenedchab

namespace Go.Proofs.Ytfilhbkenedchab
open Go.RowKit

theorem okE_iff {n : Int} {e : E} : okE n e = true ↔ 0 ≤ e.1 ∧ e.1 < e.2 ∧ e.2 < n := by unfold okE; simp; omega
theorem trn_swap (a b : Int) : trn b a = trn a b := by unfold trn; rw [Int.min_comm, Int.max_comm]
/-- What an edge more comes to. -/
theorem add_back {n : Int} {es : List E} {a b : Int} (h : addErr n es a b = 0) : rightB n es = true ∧ (0 ≤ a ∧ a < n) ∧ (0 ≤ b ∧ b < n) ∧ a ≠ b ∧ trn a b ∉ es ∧ es.length < 65536 := by
  unfold addErr at h
  cases hr : rightB n es
  · rw [hr] at h; simp at h
  · rw [hr, if_neg (by simp)] at h
    by_cases h1 : ¬ (0 ≤ a ∧ a < n) ∨ ¬ (0 ≤ b ∧ b < n)
    · rw [if_pos h1] at h; simp at h
    · rw [if_neg h1] at h
      by_cases h2 : a = b
      · rw [if_pos h2] at h; simp at h
      · rw [if_neg h2] at h
        by_cases h3 : trn a b ∈ es
        · rw [if_pos h3] at h; simp at h
        · rw [if_neg h3] at h
          by_cases h4 : 65536 ≤ es.length
          · rw [if_pos h4] at h; simp at h
          · exact ⟨rfl, by omega, by omega, h2, h3, by omega⟩
theorem okE_trn {n a b : Int} (ha : 0 ≤ a ∧ a < n) (hb : 0 ≤ b ∧ b < n) (hne : a ≠ b) : okE n (trn a b) = true := by
  rw [okE_iff]; unfold trn; simp only; omega
theorem ins_right {n : Int} {es : List E} {a b : Int} (h : addErr n es a b = 0) : rightB n (insE es (trn a b)) = true := by
  obtain ⟨hr, ha, hb, hne, hno, hl⟩ := add_back h
  obtain ⟨h0, h1, _, hrise, hok⟩ := right_rise hr
  refine rise_right h0 h1 (by rw [insE_len]; omega) (insE_rise hrise hno) (fun e he => ?_)
  rcases insE_mem.1 he with rfl | he
  · exact okE_trn ha hb hne
  · exact hok e he
end Go.Proofs.Ytfilhbkenedchab

namespace Go.Proofs.Ytfilhbkenedchab
open Go.RowKit

theorem hasR {n : Int} {es : List E} (hr : rightB n es = true) (a b : Int) : decide (0 ≤ indexI n es a b) = decide (trn a b ∈ es) := by
  unfold indexI; rw [if_pos hr]; exact idxE_pos

theorem own_lower {w : World} {b b' e size n : Nat} {v : Value} {xs : List Value} (h : w.ownsRow b e size v n xs) (hb : b' ≤ b) : w.ownsRow b' e size v n xs :=
  ⟨h.1, h.2.imp_right (fun ⟨g, cap, cur, q, h3, r⟩ => ⟨g, cap, cur, q, Nat.le_trans hb h3, r⟩)⟩

set_option maxRecDepth 20000 in
set_option maxHeartbeats 8000000 in
theorem mrRight_any {w : World} {n : Int} {v u : Value} {es : List E} {xs : List Int} (h : EdgesAt w v es) (hx : IntsAt w u xs) (hl : xs.length ≤ 4096) : Calls Try.prog 22 #[gv n v, u] w fun e w' => e = .returned (.bool (mateB n es xs)) ∧ Kept [] w w' := by
  obtain ⟨ao, cap, rfl, _, _, _⟩ := h.shape
  obtain ⟨bo, cap2, rfl, _, _⟩ := hx.shape
  have HX := hide hx
  have hm' : (xs.length : Int) ≤ 9223372036854775807 := by omega
  have HR := rright_any (n := n) (h.kept ((Kept.refl [] w).alloc (.cells #[.int .i64 n, .slice ao es.length cap] 25)))
  obtain ⟨b0, b1⟩ := box2 (Kept.refl [] (w.alloc (.cells #[.int .i64 n, .slice ao es.length cap] 25))) (by simp)
  have HH := fun W (k : Kept [] w W) a b => rhas_any (n := n) (h.kept k) a b
  clear h hx
  cases hr : rightB n es
  · rw [hr] at HR
    replace HR := hide HR
    rw [show mateB n es xs = false by unfold mateB; rw [hr]; rfl]
    clear HH HX
    go_enter Try.func22, Try.ntmps22
    go_wp2_with fail
    refine (unhide HR).mono ?_
    rintro e w1 ⟨rfl, hk⟩
    have HK := hide (((Kept.refl [] w).alloc (.cells #[.int .i64 n, .slice ao es.length cap] 25)).trans hk)
    clear hk HR
    go_wp2
    go_ret
    exact ⟨rfl, unhide HK⟩
  · rw [hr] at HR
    replace HR := hide HR
    simp only [hasR hr] at HH
    replace HH := hide HH
    by_cases hn : (xs.length : Int) = n
    · subst hn
      have HMB := hide (show mateB (xs.length : Int) es xs = (List.range xs.length).all (wellAt es xs) by unfold mateB; rw [hr]; simp)
      have HOK := hide (right_rise hr).2.2.2.2
      rw [unhide HMB]
      clear hr
      go_enter Try.func22, Try.ntmps22
      go_wp2_with fail
      refine (unhide HR).mono ?_
      rintro e w1 ⟨rfl, hk⟩
      have HK := hide (((Kept.refl [] w).alloc (.cells #[.int .i64 xs.length, .slice ao es.length cap] 25)).trans hk)
      replace b0 := kept_cell b0 hk
      replace b1 := kept_cell b1 hk
      clear hk HR HMB
      go_wp2
      go_loopw [5] (fun vv wr => ∃ (k : Nat), k ≤ xs.length ∧ vv = .int .i64 k ∧ Hid ((List.range k).all (wellAt es xs) = true ∧ Kept [] w1 wr)) (fun vv _ => xs.length - (intOf vv).toNat)
      case atStart => exact ⟨0, Nat.zero_le _, rfl, rfl, Kept.refl _ _⟩
      case round =>
        obtain ⟨k, hk, rfl, hh⟩ := hrel
        have c0 := kept_cell b0 (unhide hh).2
        have c1 := kept_cell b1 (unhide hh).2
        by_cases hlt : k < xs.length
        · obtain ⟨ao2, cap3, hv2, _, hin2⟩ := ((unhide HX).kept ((unhide HK).trans (unhide hh).2)).shape
          obtain ⟨g1, o1, he2, hin⟩ := hin2 (by omega)
          have hao : bo = some ⟨g1, o1, none⟩ := by simp at hv2; rw [hv2.1, he2]
          subst hao
          have a0 := hin k hlt
          have t0 : (0 : Int) ≤ (k : Int) := by omega
          have t1 : (k : Int) < (xs.length : Int) := by omega
          obtain ⟨x, hx⟩ : ∃ x, xs.getD k 0 = x := ⟨_, rfl⟩
          rw [hx] at a0
          have HXX := hide hx
          have HBAD := hide (fun (h : wellAt es xs k = false) => all_range_false hlt h)
          have HGOOD := hide (fun (h : wellAt es xs k = true) => show (List.range (k + 1)).all (wellAt es xs) = true from by rw [all_range_succ, (unhide hh).1, h]; rfl)
          have HKR := hide (unhide hh).2
          have HHW := hide (unhide HH _ ((unhide HK).trans (unhide hh).2) k x)
          clear hh hx
          by_cases hx1 : x = -1
          · subst hx1
            clear hin hin2 hv2 he2 HHW
            go_wp2
            go_roundw
            case rel => exact ⟨k + 1, by omega, by go_num, unhide HGOOD (by unfold wellAt; rw [unhide HXX]; rfl), unhide HKR⟩
            case measure => simp [intOf]; omega
          · have hb1 : (x != -1) = true := by simpa using hx1
            by_cases hm : trn (k : Int) x ∈ es
            · have hok := okE_iff.1 (unhide HOK _ hm)
              unfold trn at hok
              simp only at hok
              obtain ⟨j, rfl⟩ : ∃ j : Nat, x = (j : Int) := ⟨x.toNat, by omega⟩
              have a1 := hin j (by omega)
              obtain ⟨y, hy⟩ : ∃ y, xs.getD j 0 = y := ⟨_, rfl⟩
              rw [hy] at a1
              have HYY := hide hy
              have u0 : (0 : Int) ≤ (j : Int) := by omega
              have u1 : (j : Int) < (xs.length : Int) := by omega
              have hd : decide (trn (k : Int) (j : Int) ∈ es) = true := by simpa using hm
              rw [hd] at HHW
              have HD := hide hd
              clear hin hin2 hv2 he2 hok hm hd hy
              go_wp2_with fail
              refine (unhide HHW).mono ?_
              rintro e w2 ⟨rfl, k2⟩
              have K2 := hide ((unhide HKR).trans k2)
              replace a1 := kept_cell a1 k2
              clear k2 HHW
              by_cases hy1 : y = (k : Int)
              · subst hy1
                go_wp2
                go_roundw
                case rel => exact ⟨k + 1, by omega, by go_num, unhide HGOOD (by unfold wellAt; rw [unhide HXX, unhide HD, Int.toNat_natCast, unhide HYY]; simp), unhide K2⟩
                case measure => simp [intOf]; omega
              · have HW := hide (unhide HBAD (by unfold wellAt; rw [unhide HXX, Int.toNat_natCast, unhide HYY]; simp [hx1, hy1]))
                have hb2 : (y != (k : Int)) = true := by simpa using hy1
                have KF := hide ((unhide HK).trans (unhide K2))
                go_wp2
                go_ret
                exact ⟨ret_bool (unhide HW).symm, unhide KF⟩
            · have hd : decide (trn (k : Int) x ∈ es) = false := by simpa using hm
              rw [hd] at HHW
              have HW := hide (unhide HBAD (by unfold wellAt; rw [unhide HXX, hd]; simp [hx1]))
              clear hin hin2 hv2 he2 hm hd
              go_wp2_with fail
              refine (unhide HHW).mono ?_
              rintro e w2 ⟨rfl, k2⟩
              have KF := hide (((unhide HK).trans (unhide HKR)).trans k2)
              clear k2 HHW
              go_wp2
              go_ret
              exact ⟨ret_bool (unhide HW).symm, unhide KF⟩
        · have e : k = xs.length := by omega
          subst e
          have HKF := hide ((unhide HK).trans (unhide hh).2)
          have HA := hide (unhide hh).1
          go_wp2
          go_ret
          exact ⟨ret_bool (unhide HA).symm, unhide HKF⟩
    · rw [show mateB n es xs = false by unfold mateB; simp [hn]]
      have hb : ((xs.length : Int) != n) = true := by simpa using hn
      clear HH HX
      go_enter Try.func22, Try.ntmps22
      go_wp2_with fail
      refine (unhide HR).mono ?_
      rintro e w1 ⟨rfl, hk⟩
      have HK := hide (((Kept.refl [] w).alloc (.cells #[.int .i64 n, .slice ao es.length cap] 25)).trans hk)
      replace b0 := kept_cell b0 hk
      clear hk HR
      go_wp2
      go_ret
      exact ⟨rfl, unhide HK⟩

end Go.Proofs.Ytfilhbkenedchab
