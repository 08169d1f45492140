/- Near, Degree. -/
import Derived.Test.YtpebakgdnkjjeaaGIndex
namespace Go.Proofs.Ytpebakgdnkjjeaa
open Go.RowKit

theorem infoInt : (Try.prog.info? 3).map (fun i => (i.zero, i.size, i.bytes)) = some (some (.int .i64 0), 1, 8) := by kernel_rfl
theorem infoEdge : (Try.prog.info? 36).map (fun i => (i.zero, i.size, i.bytes)) = some (some (ev 0 0), 2, 16) := by kernel_rfl

theorem ints_of_owns {w : World} {base n : Nat} {v : Value} {xs : List Int} (h : w.ownsRow base 3 1 v n (xs.map (Value.int .i64))) : IntsAt w v xs ∧ FreshAt base v := by
  obtain ⟨h1, h2⟩ := h
  have hn : n = xs.length := by simpa using h1.symm
  subst hn
  rcases h2 with ⟨rfl, h2⟩ | ⟨g, cap, cur, rfl, h3, h4, h5, h6, h7, h8⟩
  · have e : xs = [] := List.eq_nil_of_length_eq_zero h2
    subst e
    exact ⟨⟨none, 0, rfl, Nat.le_refl _, Nat.zero_le _, fun h => by simp at h⟩, by intro a n c h; cases h⟩
  · refine ⟨⟨some ⟨g, 0, none⟩, cap, rfl, h5, by omega, fun _ => ⟨g, 0, rfl, ?_, ?_⟩⟩, by intro a n c h; cases h; exact h3⟩
    · by_cases hb : g < w.heap.size
      · exact hb
      · rw [Array.getElem?_eq_none (by omega)] at h4; simp at h4
    · intro i hi
      rw [cell_of_block h4]
      have : cur[0 + i]? = (cur.toList.take (xs.length * 1))[i]? := by
        rw [List.getElem?_take, if_pos (by omega)]; simp
      rw [this, h8]
      simp [List.getD, hi]
theorem own_block {w : World} {base e size n : Nat} {v : Value} {xs : List Value} (h : w.ownsRow base e size v n xs) : ∀ k, v.ownBlock = some k → base ≤ k := by
  intro k hk
  rcases h.2 with ⟨rfl, _⟩ | ⟨g, cap, cur, rfl, h3, _⟩
  · simp [Value.ownBlock] at hk
  · simp [Value.ownBlock] at hk; omega
theorem one_cell {w : World} (v : Value) (t : TypeId) : ∀ j u, [v][j]? = some u → (w.alloc (.cells #[v] t)).cell? ((⟨w.heap.size, 0, none⟩ : Addr).add j) = some u := by
  intro j u hu
  have hj : j = 0 := by
    have := (List.getElem?_eq_some_iff.1 hu).1
    simp at this; exact this
  subst hj
  simp at hu
  subst hu
  rw [Addr.add_lit, cell_of_block (new_block w _)]
  simp

theorem one_cell' {w : World} (v : Value) (t : TypeId) (p : Nat) (hp : p = w.heap.size) : ∀ j u, [v][j]? = some u → (w.alloc (.cells #[v] t)).cell? ((⟨p, 0, none⟩ : Addr).add j) = some u := by
  subst hp; exact one_cell v t
theorem fresh_nil {b k c : Nat} : FreshAt b (.slice none k c) := by intro a n c h; cases h
/-- Who is near, by one edge. -/
def nearE (v : Int) (e : E) : List Int := if v = e.1 then [e.2] else if v = e.2 then [e.1] else []
/-- Who is near. -/
def nearL (v : Int) (es : List E) : List Int := es.flatMap (nearE v)
theorem nearL_step {v : Int} {es : List E} {k : Nat} {a b : Int} (h : k < es.length) (hA : eA es k = a) (hB : eB es k = b) : nearL v (es.take (k + 1)) = nearL v (es.take k) ++ nearE v (a, b) := by
  unfold nearL
  rw [List.take_succ_eq_append_getElem h, List.flatMap_append, e_elem h, hA, hB]
  simp
theorem nearE_len (v : Int) (e : E) : (nearE v e).length ≤ 1 := by unfold nearE; split; simp; split <;> simp
theorem nearL_len (v : Int) : ∀ es : List E, (nearL v es).length ≤ es.length
  | [] => by simp [nearL]
  | e :: r => by
    have := nearL_len v r
    have h2 := nearE_len v e
    unfold nearL at *
    simp only [List.flatMap_cons, List.length_append, List.length_cons]
    omega
/-- Near's answer. -/
def nearOf (n : Int) (es : List E) (v : Int) : List Int := if rightB n es = true then nearL v es else []

set_option maxHeartbeats 2000000 in
theorem near_any {w : World} {n : Int} {v : Value} {es : List E} (h : EdgesAt w v es) (x : Int) : Calls Try.prog 15 #[gv n v, .int .i64 x] w fun e w' => ∃ r, e = .returned r ∧ IntsAt w' r (nearOf n es x) ∧ FreshAt w.heap.size r ∧ Kept [] w w' := by
  obtain ⟨i, hi, hz0, hz1, hz2⟩ := info_parts infoInt
  obtain ⟨ao, cap, rfl, hm, hc, hes⟩ := h.shape
  have HR := hide (fun W (k : Kept [] w W) => right_any (n := n) (h.kept k))
  have HES := hide hes
  clear hm hes h hc
  cases hr : rightB n es
  · have hn := hide (show nearOf n es x = [] by unfold nearOf; rw [hr]; rfl)
    rw [hr] at HR
    go_enter Try.func15, Try.ntmps15
    go_wp2_with fail
    refine (unhide HR _ ((Kept.refl [] w).alloc _)).mono ?_
    rintro e w1 ⟨rfl, k1⟩
    go_wp2
    go_ret
    refine ⟨_, rfl, ?_, fresh_nil, ((Kept.refl [] w).alloc _).trans k1⟩
    rw [unhide hn]
    exact ⟨none, 0, rfl, Nat.le_refl _, Nat.zero_le _, fun h => by simp at h⟩
  · have hn := hide (show nearOf n es x = nearL x es by unfold nearOf; rw [hr]; rfl)
    have hl := (right_rise hr).2.2.1
    rw [hr] at HR
    go_enter Try.func15, Try.ntmps15
    go_wp2_with fail
    refine (unhide HR _ ((Kept.refl [] w).alloc _)).mono ?_
    rintro e w1 ⟨rfl, k1⟩
    obtain ⟨b0, b1⟩ := box2 k1 (by simp)
    have HK := hide (((Kept.refl [] w).alloc _).trans k1)
    clear k1
    go_wp2
    go_loopw [5, 14] (fun r kk wr => ∃ k : Nat, k ≤ es.length ∧ kk = .int .i64 k ∧ wr.cell? ⟨w.heap.size, 1, none⟩ = some (.slice ao es.length cap) ∧ wr.ownsRow w1.heap.size 3 1 r (nearL x (es.take k)).length ((nearL x (es.take k)).map (Value.int .i64)) ∧ Hid (Kept [] w1 wr)) (fun _ kk _ => es.length - (intOf kk).toNat)
    case atStart => exact ⟨0, Nat.zero_le _, rfl, b1, ⟨rfl, Or.inl ⟨rfl, rfl⟩⟩, Kept.refl _ _⟩
    case round =>
      obtain ⟨k, hk, rfl, c1, hown, hkk⟩ := hrel
      have hlen := nearL_len x (es.take k)
      rw [List.length_take] at hlen
      by_cases hlt : k < es.length
      · obtain ⟨g, o, rfl, hin⟩ := unhide HES (by omega)
        have hg := hin.keptAt ((unhide HK).trans (unhide hkk)) (by simp)
        have d0 := hg.a k hlt
        have d1 := hg.b k hlt
        clear hg hin
        have HS := hide (nearL_step (v := x) hlt rfl rfl)
        generalize hA : eA es k = a at *
        generalize hB : eB es k = b at *
        clear hA hB
        by_cases e1 : x = a
        · have hq : (x == a) = true := by simpa using e1
          have HE := hide (show nearE x (a, b) = [b] by unfold nearE; rw [if_pos e1])
          clear e1
          go_wp2_with (first | (at_builtin; refine wpList_append_own _ rfl (.tmp 23) (.tmp 26) 22 rfl w1.heap.size 3 i (.int .i64 0) 1 8 Try.underlying22 hi hz0 hz1 hz2 rfl (by decide) _ _ _ rfl ((hown.alloc _).alloc _) _ 1 _ [.int .i64 b] rfl rfl (one_cell' _ _ _ (by simp)) (by simp [Value.oneCell']) (by unfold maxLen; omega) (by omega) (by simp; have := (unhide hkk).size; omega) ?_; intro v' w2 hown2 hg2 _))
          have HK2 := hide ((((unhide hkk).alloc _).alloc _).grown hg2 (fun j hj => Or.inr (own_block hown j hj)))
          have c1' := kept_cell b1 (unhide HK2)
          clear hg2
          go_wp2
          go_roundw
          case rel =>
            refine ⟨k + 1, by omega, by go_num, c1', ?_, unhide HK2⟩
            rw [unhide HS, unhide HE, List.length_append, List.map_append]
            exact hown2
          case measure => simp [intOf]; omega
        · have hq : (x == a) = false := by simpa using e1
          by_cases e2 : x = b
          · have hq2 : (x == b) = true := by simpa using e2
            have HE := hide (show nearE x (a, b) = [a] by unfold nearE; rw [if_neg e1, if_pos e2])
            clear e1 e2
            go_wp2_with (first | (at_builtin; refine wpList_append_own _ rfl (.tmp 32) (.tmp 35) 22 rfl w1.heap.size 3 i (.int .i64 0) 1 8 Try.underlying22 hi hz0 hz1 hz2 rfl (by decide) _ _ _ rfl ((hown.alloc _).alloc _) _ 1 _ [.int .i64 a] rfl rfl (one_cell' _ _ _ (by simp)) (by simp [Value.oneCell']) (by unfold maxLen; omega) (by omega) (by simp; have := (unhide hkk).size; omega) ?_; intro v' w2 hown2 hg2 _))
            have HK2 := hide ((((unhide hkk).alloc _).alloc _).grown hg2 (fun j hj => Or.inr (own_block hown j hj)))
            have c1' := kept_cell b1 (unhide HK2)
            clear hg2
            go_wp2
            go_roundw
            case rel =>
              refine ⟨k + 1, by omega, by go_num, c1', ?_, unhide HK2⟩
              rw [unhide HS, unhide HE, List.length_append, List.map_append]
              exact hown2
            case measure => simp [intOf]; omega
          · have hq2 : (x == b) = false := by simpa using e2
            have HE := hide (show nearE x (a, b) = [] by unfold nearE; rw [if_neg e1, if_neg e2])
            clear e1 e2
            have HK2 := hide ((unhide hkk).alloc (.cells #[.int .i64 a, .int .i64 b] 36))
            go_wp2
            go_roundw
            case rel =>
              refine ⟨k + 1, by omega, by go_num, alloc_cell c1 _, ?_, unhide HK2⟩
              rw [unhide HS, unhide HE, List.append_nil]
              exact hown.alloc _
            case measure => simp [intOf]; omega
      · have htk := hide (show es.take k = es from List.take_of_length_le (by omega))
        go_wp2
        go_ret
        rw [unhide htk] at hown
        obtain ⟨h1, h2⟩ := ints_of_owns hown
        refine ⟨_, rfl, by rw [unhide hn]; exact h1, ?_, (unhide HK).trans (unhide hkk)⟩
        intro a n c h
        have := h2 a n c h
        have := (unhide HK).size
        omega

set_option maxHeartbeats 400000 in
theorem degree_any {w : World} {n : Int} {v : Value} {es : List E} (h : EdgesAt w v es) (x : Int) : Calls Try.prog 12 #[gv n v, .int .i64 x] w fun e w' => e = .returned (.int .i64 ((nearOf n es x).length : Nat)) ∧ Kept [] w w' := by
  obtain ⟨ao, cap, rfl, hm, hc, hes⟩ := h.shape
  have HI := hide (near_any (n := n) (h.kept ((Kept.refl [] w).alloc (.cells #[.int .i64 n, .slice ao es.length cap] 25))) x)
  clear hm hes h hc
  go_enter Try.func12, Try.ntmps12
  go_wp2_with fail
  refine (unhide HI).mono ?_
  rintro e w1 ⟨r, rfl, hr, _, k1⟩
  obtain ⟨ao', cap', rfl, _, _⟩ := hr.shape
  clear hr
  go_wp2
  go_ret
  exact ⟨rfl, ((Kept.refl [] w).alloc _).trans k1⟩
end Go.Proofs.Ytpebakgdnkjjeaa
