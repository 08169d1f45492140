/- climb. -/
import Derived.Test.YtfilhbkenedchabSingleGrows13
import Derived.Test.YtfilhbkenedchabSingleGrows15
import Derived.Maps.AppendAt
import Derived.Deep.LoopGhost
namespace Go.Proofs.Ytfilhbkenedchab
open Go.RowKit

section
variable {w0 Ws : World} {p g jp jg base N : Nat} {nv mv ve : Value} {F : FS} {m : List Int}
theorem two_cells (w : World) (x y : Value) (t : TypeId) (q : Nat) (hq : q = w.heap.size) : ∀ j u, [x, y][j]? = some u → (w.alloc (.cells #[x, y] t)).cell? ((⟨q, 0, none⟩ : Addr).add j) = some u := by
  intro j u hu
  subst hq
  rw [Addr.add_lit, Nat.zero_add, cell_of_block (new_block w _)]
  match j with
  | 0 => simpa using hu
  | 1 => simpa using hu
  | j + 2 => simp at hu
set_option maxRecDepth 20000 in
set_option maxHeartbeats 8000000 in
theorem fclimb_any (h : FAt w0 Ws p g jp jg base N nv mv ve F) (hm : IntsAt w0 mv m) (hml : m.length = N) : ∀ (L : Nat) (w : World) (wv : Value) (way : List Int) (v t : Nat) (topv : Int) (l : List Int), l.length < L → way.length + l.length ≤ 1000000 → v < N → t < N → (topv = (t : Int) ∨ (topv = -1 ∧ m.getD t 0 = -1)) → Clm N m F v t l → Kept [] Ws w → w.ownsRow Ws.heap.size 3 1 wv way.length (way.map (Value.int .i64)) →
    Calls Try.prog 68 #[.pointer (some ⟨p, 0, none⟩), wv, .int .i64 (v : Int), .int .i64 topv] w fun e w' => ∃ rv, e = .returned rv ∧ w'.ownsRow Ws.heap.size 3 1 rv (way ++ l ++ [(t : Int)]).length ((way ++ l ++ [(t : Int)]).map (Value.int .i64)) ∧ Kept [] Ws w'
  | 0, _, _, _, _, _, _, _, hL, _, _, _, _, _, _, _ => by omega
  | L + 1, w, wv, way, v, t, topv, l, hL, hlen, hv, ht, htop, hc, hk, hown => by
    obtain ⟨i, hi, hz0, hz1, hz2⟩ := info_parts infoInt
    have IH := hide (fclimb_any h hm hml L)
    have HW := hide h
    have HM := hide hm
    have HML := hide hml
    have HC := hide (And.intro hL (And.intro hlen (And.intro hv (And.intro ht (And.intro htop hc)))))
    have HOWN := hide (And.intro hk hown)
    clear h hm hml hL hlen hv ht htop hc hk hown
    go_enter Try.func68, Try.ntmps68
    go_wp2
    go_loopg [1, 2] l.length (fun j rv vv wr => ∃ (v' : Nat) (way' l' : List Int), vv = .int .i64 (v' : Int) ∧ Hid (j = l'.length ∧ l'.length ≤ l.length ∧ v' < N ∧ way' ++ l' = way ++ l ∧ Clm N m F v' t l' ∧ Kept [] Ws wr ∧ wr.ownsRow Ws.heap.size 3 1 rv way'.length (way'.map (Value.int .i64))))
    case atStart => exact ⟨v, way, l, rfl, rfl, Nat.le_refl _, (unhide HC).2.2.1, rfl, (unhide HC).2.2.2.2.2, (unhide HOWN).1, (unhide HOWN).2⟩
    case round =>
      clear HOWN
      obtain ⟨v', way', l', rfl, hh⟩ := hrel
      rename_i rv
      obtain ⟨hj, hll, hv', hwl, hcl, hkr, hown⟩ := unhide hh
      have hF := (unhide HW).keptE hkr
      have hsz := hkr.size
      have HR := fisRoot_any hF (unhide HM) (unhide HML) hv'
      have hwlen : way'.length + l'.length ≤ 1000000 := by
        have := congrArg List.length hwl
        simp only [List.length_append] at this
        have := (unhide HC).2.1
        omega
      cases hcl with
      | here =>
        have HK := hide hkr
        have HE := hide hwl
        have hw' : way'.length ≤ 1000000 := by omega
        have HB := fun j hj => own_block hown j hj
        rcases (unhide HC).2.2.2.2.1 with htop | ⟨htop, hroot⟩
        · have hne : ((t : Int) != topv) = false := by rw [htop]; simp
          clear HR hF hh hkr hwl htop
          go_wp2_with (first | (at_builtin; refine wpList_append_own_at _ rfl (.tmp 81) (.tmp 83) 22 rfl Ws.heap.size 3 i (.int .i64 0) 1 8 Try.underlying22 hi hz0 hz1 hz2 rfl (by decide) _ _ _ rfl (hown.alloc _) _ 1 _ [.int .i64 (t : Int)] rfl rfl (one_cell' _ _ _ (by simp)) (by simp [Value.oneCell']) (by unfold maxLen; omega) (by omega) (by simp; omega) ?_; intro v5 w5 own5 g5 _ _))
          have HFIN := hide (show w5.ownsRow Ws.heap.size 3 1 v5 (way ++ l ++ [(t : Int)]).length ((way ++ l ++ [(t : Int)]).map (Value.int .i64)) ∧ Kept [] Ws w5 from by
            rw [← unhide HE, List.append_nil]
            refine ⟨by rw [List.length_append, List.map_append]; exact own5, ((unhide HK).alloc _).grown g5 (fun j hj => Or.inr (HB j hj))⟩)
          clear own5 g5 hown
          go_wp2
          go_ret
          exact ⟨_, rfl, (unhide HFIN).1, (unhide HFIN).2⟩
        · have hne : ((t : Int) != topv) = true := by rw [htop]; simp
          rw [decide_eq_true hroot] at HR
          replace HR := hide HR
          clear hF hh hkr hwl htop hroot
          go_wp2_with fail
          refine (unhide HR).mono ?_
          rintro e w1 ⟨rfl, rfl⟩
          clear HR
          go_wp2_with (first | (at_builtin; refine wpList_append_own_at _ rfl (.tmp 81) (.tmp 83) 22 rfl Ws.heap.size 3 i (.int .i64 0) 1 8 Try.underlying22 hi hz0 hz1 hz2 rfl (by decide) _ _ _ rfl (hown.alloc _) _ 1 _ [.int .i64 (t : Int)] rfl rfl (one_cell' _ _ _ (by simp)) (by simp [Value.oneCell']) (by unfold maxLen; omega) (by omega) (by simp; omega) ?_; intro v5 w5 own5 g5 _ _))
          have HFIN := hide (show w5.ownsRow Ws.heap.size 3 1 v5 (way ++ l ++ [(t : Int)]).length ((way ++ l ++ [(t : Int)]).map (Value.int .i64)) ∧ Kept [] Ws w5 from by
            rw [← unhide HE, List.append_nil]
            refine ⟨by rw [List.length_append, List.map_append]; exact own5, ((unhide HK).alloc _).grown g5 (fun j hj => Or.inr (HB j hj))⟩)
          clear own5 g5 hown
          go_wp2
          go_ret
          exact ⟨_, rfl, (unhide HFIN).1, (unhide HFIN).2⟩
      | @born _ _ z x l2 hvt _ hm1 hzN hup hux hxN hcl2 =>
        have hne : ((v' : Int) != topv) = true := by
          rcases (unhide HC).2.2.2.2.1 with htop | ⟨htop, _⟩
          · rw [htop]; simp; omega
          · rw [htop]; simp
        rw [decide_eq_false (show ¬ m.getD v' 0 = -1 by omega)] at HR
        replace HR := hide HR
        obtain ⟨mg, mo, cap, hmv, hc⟩ := mate_cell (unhide HM) hF.k (by rw [unhide HML]; omega)
        rw [unhide HML] at hmv hc
        subst hmv
        have a0 := hc v' hv'
        rw [hm1] at a0
        have c1 := hF.c1
        have c2 := hF.c2
        have u0 := hF.nodes.up v' hv'
        rw [hup] at u0
        have t0 : (0 : Int) ≤ (v' : Int) := by omega
        have t1 : (v' : Int) < (N : Int) := by omega
        have z0 : (0 : Int) ≤ (z : Int) := by omega
        have z1 : (z : Int) < (N : Int) := by omega
        have HKW := hide (fun (w5 : World) (k5 : Kept [] Ws w5) => (show w5.cell? ⟨p, 2, none⟩ = some (.slice (some ⟨g, 0, none⟩) N N) ∧ w5.cell? ⟨g, z * 5 + 2, none⟩ = some (.int .i64 (x : Int)) from by
          have h5 := (unhide HW).keptE k5
          have e := h5.nodes.up z hzN
          rw [hux] at e
          exact ⟨h5.c2, e⟩))
        have HB := fun j hj => own_block hown j hj
        have hw' : way'.length + 2 ≤ 1000000 := by simp only [List.length_cons] at hwlen; omega
        have HX := hide (And.intro hj (And.intro hll (And.intro hxN (And.intro hwl (And.intro hcl2 hkr)))))
        clear hF hh hc hm1 hup hux hxN hzN hcl2 hkr hwl hvt hwlen hv' hj hll
        go_wp2_with fail
        refine (unhide HR).mono ?_
        rintro e w1 ⟨rfl, rfl⟩
        clear HR
        go_wp2_with (first | (at_builtin; refine wpList_append_own_at _ rfl (.tmp 36) (.tmp 39) 22 rfl Ws.heap.size 3 i (.int .i64 0) 1 8 Try.underlying22 hi hz0 hz1 hz2 rfl (by decide) _ _ _ rfl (hown.alloc _) _ 2 _ [.int .i64 (v' : Int), .int .i64 (z : Int)] rfl rfl (two_cells _ _ _ _ _ (by simp)) (by simp [Value.oneCell']) (by unfold maxLen; omega) (by omega) (by simp; omega) ?_; intro v5 w5 own5 g5 _ _; have K5 := hide (((unhide HX).2.2.2.2.2.alloc (.cells #[.int .i64 (v' : Int), .int .i64 (z : Int)] 3)).grown g5 (fun j hj => Or.inr (HB j hj))); obtain ⟨e2, eu⟩ := unhide HKW w5 (unhide K5); obtain ⟨ao5, cap5, rfl⟩ := own_formM own5))
        have HROW := hide (show w5.ownsRow Ws.heap.size 3 1 (.slice ao5 (way'.length + 2) cap5) (way' ++ [(v' : Int), (z : Int)]).length ((way' ++ [(v' : Int), (z : Int)]).map (Value.int .i64)) from by
          rw [List.length_append, List.map_append]; exact own5)
        clear own5 g5 hown a0 c1 c2 u0 e2 eu HKW HB
        go_wp2
        go_roundg l2.length
        case rel =>
          obtain ⟨k1, k2, k3, k4, k5, k6⟩ := unhide HX
          refine ⟨x, way' ++ [(v' : Int), (z : Int)], l2, rfl, rfl, ?_, k3, ?_, k5, unhide K5, unhide HROW⟩
          · simp only [List.length_cons] at k2; omega
          · rw [← k4]; simp
        case measure =>
          have := (unhide HX).1
          simp only [List.length_cons] at this
          omega
      | @back _ _ z x y s l2 hvt _ hm1 hzN hup hbf hxN hbt hyN hs hcl2 =>
        have hne : ((v' : Int) != topv) = true := by
          rcases (unhide HC).2.2.2.2.1 with htop | ⟨htop, _⟩
          · rw [htop]; simp; omega
          · rw [htop]; simp
        rw [decide_eq_false (show ¬ m.getD v' 0 = -1 by omega)] at HR
        replace HR := hide HR
        obtain ⟨mg, mo, cap, hmv, hc⟩ := mate_cell (unhide HM) hF.k (by rw [unhide HML]; omega)
        rw [unhide HML] at hmv hc
        subst hmv
        have a0 := hc v' hv'
        rw [hm1] at a0
        have c1 := hF.c1
        have c2 := hF.c2
        have u0 := hF.nodes.up v' hv'
        have hun : (F.up v' == -1) = false := by simpa using hup
        generalize F.up v' = uv at *
        have t0 : (0 : Int) ≤ (v' : Int) := by omega
        have t1 : (v' : Int) < (N : Int) := by omega
        have HKW := hide (fun (w5 : World) (k5 : Kept [] Ws w5) => (show w5.cell? ⟨p, 2, none⟩ = some (.slice (some ⟨g, 0, none⟩) N N) ∧ w5.cell? ⟨g, v' * 5 + 3, none⟩ = some (.int .i64 (x : Int)) ∧ w5.cell? ⟨g, v' * 5 + 4, none⟩ = some (.int .i64 (y : Int)) from by
          have h5 := (unhide HW).keptE k5
          have e := h5.nodes.bf v' hv'
          have e' := h5.nodes.bt v' hv'
          rw [hbf] at e
          rw [hbt] at e'
          exact ⟨h5.c2, e, e'⟩))
        have HB := fun j hj => own_block hown j hj
        have hlens : l2.length + s.length + 2 ≤ l.length ∧ way'.length + 1 + s.length ≤ 1000000 := by
          simp only [List.length_cons, List.length_append, List.length_reverse, List.length_nil] at hwlen hll
          omega
        have hw' : way'.length + 1 ≤ 1000000 := by omega
        have HX := hide (And.intro hj (And.intro hlens (And.intro hxN (And.intro hwl (And.intro hcl2 (And.intro hkr (And.intro hyN (And.intro hzN hs))))))))
        clear hF hh hc hm1 hup hbf hbt hxN hyN hzN hcl2 hs hkr hwl hvt hwlen hv' hj hll hlens
        go_wp2_with fail
        refine (unhide HR).mono ?_
        rintro e w1 ⟨rfl, rfl⟩
        clear HR
        go_wp2_with (first | (at_builtin; refine wpList_append_own_at _ rfl (.tmp 49) (.tmp 51) 22 rfl Ws.heap.size 3 i (.int .i64 0) 1 8 Try.underlying22 hi hz0 hz1 hz2 rfl (by decide) _ _ _ rfl (hown.alloc _) _ 1 _ [.int .i64 (v' : Int)] rfl rfl (one_cell' _ _ _ (by simp)) (by simp [Value.oneCell']) (by unfold maxLen; omega) (by omega) (by simp; omega) ?_; intro v5 w5 own5 g5 _ _; have K5 := hide (((unhide HX).2.2.2.2.2.1.alloc (.cells #[.int .i64 (v' : Int)] 3)).grown g5 (fun j hj => Or.inr (HB j hj))); obtain ⟨e2, ef, et⟩ := unhide HKW w5 (unhide K5); obtain ⟨ao5, cap5, rfl⟩ := own_formM own5))
        have HIH := hide (unhide IH w5 (.slice ao5 (way'.length + 1) cap5) (way' ++ [(v' : Int)]) x z (z : Int) s (by
          have := (unhide HX).2.1.1; have := (unhide HC).1; omega) (by
          have := (unhide HX).2.1.2; rw [List.length_append, List.length_singleton]; omega) (unhide HX).2.2.1 (unhide HX).2.2.2.2.2.2.2.1 (Or.inl rfl) (unhide HX).2.2.2.2.2.2.2.2 (unhide K5) (by rw [List.length_append, List.map_append]; exact own5))
        clear own5 g5 hown a0 c1 c2 u0 e2 ef et HB K5
        refine (unhide HIH).mono ?_
        rintro e w6 ⟨rv6, rfl, own6, k6⟩
        obtain ⟨g6, cap6, hrv, hcap6⟩ : ∃ g6 cap6, rv6 = .slice (some ⟨g6, 0, none⟩) (way' ++ [(v' : Int)] ++ s ++ [(z : Int)]).length cap6 ∧ (way' ++ [(v' : Int)] ++ s ++ [(z : Int)]).length ≤ cap6 := by
          rcases own6.2 with ⟨_, h2⟩ | ⟨g', cap', cur, hv, _, _, h5, _⟩
          · simp at h2
          · exact ⟨g', cap', hv, h5⟩
        subst hrv
        have HRV := hide (fun k hk => revTail_any (k := k) own6 hk)
        have HKB := fun j (hj : (Value.slice (some ⟨g6, 0, none⟩) (way' ++ [(v' : Int)] ++ s ++ [(z : Int)]).length cap6).ownBlock = some j) => own_block own6 j hj
        have HG6 := hide (HKB g6 rfl)
        have K6 := hide k6
        have hn6 : way'.length + 2 ≤ (way' ++ [(v' : Int)] ++ s ++ [(z : Int)]).length := by simp only [List.length_append, List.length_cons, List.length_nil]; omega
        have HREV := hide (show (way' ++ [(v' : Int)] ++ s ++ [(z : Int)]).take (way'.length + 1) ++ ((way' ++ [(v' : Int)] ++ s ++ [(z : Int)]).drop (way'.length + 1)).reverse = way' ++ ((v' : Int) :: (s ++ [(z : Int)]).reverse) from by
          have e1 : way' ++ [(v' : Int)] ++ s ++ [(z : Int)] = (way' ++ [(v' : Int)]) ++ (s ++ [(z : Int)]) := by simp
          have e2 : way'.length + 1 = (way' ++ [(v' : Int)]).length := by simp
          rw [e1, e2, List.take_left', List.drop_left'] <;> simp)
        clear own6 k6 HIH HKB
        generalize way' ++ [(v' : Int)] ++ s ++ [(z : Int)] = way6 at *
        have HL6 := hide (rfl : way6.length = way6.length)
        generalize hn : way6.length = n6 at *
        have HN6 := hide hn
        clear hn HL6
        have s0 : (0 : Int) ≤ (way'.length : Int) + 1 := by omega
        have s1 : (way'.length : Int) + 1 ≤ (n6 : Int) := by omega
        have s2 : (n6 : Int) ≤ (cap6 : Int) := by omega
        have s3 : (way'.length : Int) + 1 ≤ (cap6 : Int) := by omega
        have s4 : ((way'.length : Int) + 1).toNat = way'.length + 1 := by omega
        have s5 : ¬ cap6 = way'.length + 1 := by omega
        have HRV2 := hide (unhide HRV (way'.length + 1) (by have := unhide HN6; omega))
        clear HRV
        go_wp2_with fail
        refine (unhide HRV2).mono ?_
        rintro e w7 ⟨rfl, own7, k7⟩
        rw [unhide HREV] at own7
        have K7 := hide ((unhide K6).trans' k7 (fun i hi => by simp at hi; subst hi; exact Or.inr (unhide HG6)))
        obtain ⟨e2, ef, et⟩ := unhide HKW w7 (unhide K7)
        have HROW := hide (show w7.ownsRow Ws.heap.size 3 1 (.slice (some ⟨g6, 0, none⟩) n6 cap6) (way' ++ ((v' : Int) :: (s ++ [(z : Int)]).reverse)).length ((way' ++ ((v' : Int) :: (s ++ [(z : Int)]).reverse)).map (Value.int .i64)) from by
          have e := own7.1
          rw [List.length_map, Nat.mul_one] at e
          rw [e]; exact own7)
        clear own7 k7 HRV2 s0 s1 s2 s3 s4 s5 HREV HKW
        go_wp2
        go_roundg l2.length
        case rel =>
          obtain ⟨k1, k2, k3, k4, k5, k6, k7, k8, k9⟩ := unhide HX
          refine ⟨y, way' ++ ((v' : Int) :: (s ++ [(z : Int)]).reverse), l2, rfl, rfl, by omega, k7, ?_, k5, unhide K7, unhide HROW⟩
          rw [← k4]; simp
        case measure =>
          have := (unhide HX).1
          simp only [List.length_cons, List.length_append] at this
          omega
end
end Go.Proofs.Ytfilhbkenedchab
