/- MatesEdges: the walk. -/
import Derived.Test.YtdaielejbcjdnaaMatesEdges12
import Derived.Test.YtdaielejbcjdnaaMatesEdges13
import Derived.Test.YtdaielejbcjdnaaMatesEdges2
import Derived.Deep.RegionHeldLaw
namespace Go.Proofs.Ytdaielejbcjdnaa
open Go.RowKit

set_option maxRecDepth 100000 in
set_option maxHeartbeats 16000000 in
theorem edgesM_walk (w : World) (n : Int) (_ : InI n) (v : Value) (xs : List Int) (hx : IntsAt w v xs) (u : Value) (ps : List Int) (hp : IntsAt w u ps) (at0 : Int) (_ : InI at0) : Calls Try.prog 6 #[.int .i64 n, v, u, .int .i64 at0] w fun e w' => e = .returned (.bool true) ∧ Kept [] w w' := by
  obtain ⟨i, hi, hz0, hz1, hz2⟩ := info_parts infoEdge
  have HS := hide (small_any hx n 16 40 (by omega) (by omega) (by omega) (by omega))
  have HPS := hide (fun W (k : Kept [] w W) => hp.kept k)
  clear hx hp
  go_enter Try.func6, Try.ntmps6
  go_wp2_with fail
  refine (unhide HS).mono ?_
  rintro e w1 ⟨N0, r1, es, rfl, hr1, hright, hNV, hEl, _, k1⟩
  obtain ⟨ro1, rc1, rfl, _⟩ := hr1.shape
  obtain ⟨h0, _, _, _, hok⟩ := right_rise hright
  have HOK := hide hok
  obtain ⟨N, rfl⟩ : ∃ N : Nat, N0 = (N : Int) := ⟨N0.toNat, by omega⟩
  have HG1 := hide (GVar.new (n := (N : Int)) hr1 24)
  have HK1 := hide (k1.alloc (.cells #[.int .i64 N, .slice ro1 es.length rc1] 24))
  have ga := (unhide HG1).a; have gb := (unhide HG1).b
  have HM := hide (pMates_any (unhide HG1).e (unhide HPS _ (unhide HK1)) hright (by omega))
  clear hr1 k1 HS hright hok
  go_wp2_with fail
  generalize w1.alloc (.cells #[.int .i64 N, .slice ro1 es.length rc1] 24) = x1 at *
  generalize w1.heap.size = p1 at *
  refine (unhide HM).mono ?_
  rintro e w2 ⟨r2, m, rfl, hm2, hml, hmate, k2⟩
  subst hml
  have HMO := hide (fun (i j : Nat) he => mate_more hmate (i := i) (j := j) he)
  have hsum := (mate_back hmate).2
  have HI := hide (fun W (k : Kept [] w2 W) => hm2.ints.kept k)
  have HG2 := hide (fun W (k : Kept [] w2 W) => (unhide HG1).kept (k2.trans k))
  have HK2 := hide ((unhide HK1).trans k2)
  have HE := hide (mtEdges_any hm2.ints (by omega))
  obtain ⟨ro2, rc2, rfl, _⟩ := hm2.ints.shape
  have HA := hide mtAwake_any
  have hm64 : (m.length : Int) ≤ 9223372036854775807 := by omega
  have hle : (edgesM m m.length).length ≤ 8 := by omega
  clear hm2 k2 HM HG1 HK1 HPS hmate ga gb hsum
  go_wp2_with fail
  refine (unhide HE).mono ?_
  rintro e w3 ⟨r3, rfl, hr3, _, k3⟩
  obtain ⟨ro3, rc3, rfl, _⟩ := hr3.shape
  have HL3 := hide (fun W (k : Kept [] w3 W) => hr3.kept k)
  have HK3 := hide ((unhide HK2).trans k3)
  have HS3 := hide k3
  clear hr3 k3 HE
  generalize edgesM m m.length = L at *
  have hL64 : (L.length : Int) ≤ 8 := by omega
  go_wp2_with fail
  refine (unhide HA _).mono ?_
  rintro e w4 ⟨rfl, k4⟩
  have HL4 := hide (fun W (k : Kept [] w4 W) => unhide HL3 W (k4.trans k))
  have HK4 := hide ((unhide HK3).trans k4)
  have HS4 := hide ((unhide HS3).trans k4)
  have HG4 := hide (fun W (k : Kept [] w4 W) => unhide HG2 W ((unhide HS4).trans k))
  have HI4 := hide (fun W (k : Kept [] w4 W) => unhide HI W ((unhide HS4).trans k))
  obtain ⟨ga, gb⟩ := (show w4.cell? ⟨p1, 0, none⟩ = some (.int .i64 m.length) ∧ w4.cell? ⟨p1, 1, none⟩ = some (.slice ro1 es.length rc1) from ⟨((unhide HG4) w4 (Kept.refl [] w4)).a, ((unhide HG4) w4 (Kept.refl [] w4)).b⟩)
  clear k4 HL3 HG2 HI HS3 HS4 HK3 HK2
  by_cases hz : es.length = 0
  · have hzI : ((es.length : Int) == 0) = true := by simp [hz]
    clear hz
    go_wp2_with fail
    refine (unhide HA _).mono ?_
    rintro e w5 ⟨rfl, k5⟩
    have HK5 := hide ((unhide HK4).trans k5)
    clear k5
    go_wp2
    go_ret
    exact ⟨rfl, unhide HK5⟩
  · obtain ⟨k, hk, hkl⟩ : ∃ k : Nat, wrap64 ((IntKind.u64.wrap at0).tmod (es.length : Int)) = (k : Int) ∧ k < es.length := by
      have h2 := mod_small at0 ((es.length : Int) - 1) (by omega) (by omega)
      rw [show (es.length : Int) - 1 + 1 = es.length by omega] at h2
      exact ⟨(wrap64 ((IntKind.u64.wrap at0).tmod (es.length : Int))).toNat, by omega, by omega⟩
    have hwL : IntKind.u64.wrap (es.length : Int) = (es.length : Int) := by show (es.length : Int) % 18446744073709551616 = (es.length : Int); omega
    have hzI : ((es.length : Int) == 0) = false := by rw [beq_eq_false_iff_ne]; omega
    have hzI2 : (es.length : Int) ≠ 0 := by omega
    obtain ⟨ao3, cap4, hv3, _, _, hin3⟩ := (unhide HG4 w4 (Kept.refl [] w4)).e.shape
    obtain ⟨g3, o3, he3, hes⟩ := hin3 (by omega)
    have hao : ro1 = some ⟨g3, o3, none⟩ := by simp at hv3; rw [hv3.1, he3]
    subst hao
    have a1 := hes.a k hkl
    have a2 := hes.b k hkl
    have hmem : (eA es k, eB es k) ∈ es := by rw [← e_elem hkl]; exact List.getElem_mem hkl
    generalize eA es k = a at *
    generalize eB es k = b at *
    have hkE := okE_iff.1 (unhide HOK _ hmem)
    simp only at hkE
    obtain ⟨p, rfl⟩ : ∃ p : Nat, a = (p : Int) := ⟨a.toNat, by omega⟩
    obtain ⟨q, rfl⟩ : ∃ q : Nat, b = (q : Int) := ⟨b.toNat, by omega⟩
    obtain ⟨hpl, hql, h9, hyes⟩ := unhide HMO p q (by unfold trn; rw [Int.min_eq_left (by omega), Int.max_eq_right (by omega)]; exact hmem)
    obtain ⟨ao2, cap3, hv2, _, hin2⟩ := (unhide HI4 w4 (Kept.refl [] w4)).shape
    obtain ⟨g2, o2, he2, hms⟩ := hin2 (by omega)
    have hao : ro2 = some ⟨g2, o2, none⟩ := by simp at hv2; rw [hv2.1, he2]
    subst hao
    have d0 := hms p hpl
    have d1 := hms q hql
    obtain ⟨y, hy⟩ : ∃ y, m.getD p 0 = y := ⟨_, rfl⟩
    obtain ⟨z, hz⟩ : ∃ z, m.getD q 0 = z := ⟨_, rfl⟩
    rw [hy] at d0 h9 hyes
    rw [hz] at d1 h9 hyes
    obtain ⟨X, hX⟩ : ∃ X, ofAll (m.length : Int) es (L ++ [((p : Int), (q : Int))]) = X := ⟨_, rfl⟩
    rw [hX] at h9 hyes
    have H9 := hide h9
    have HYES := hide hyes
    have HX := hide (fun (W : World) (v : Value) (h1 : EdgesAt W (.slice (some ⟨g3, o3, none⟩) es.length rc1) es) (h2 : EdgesAt W v (L ++ [((p : Int), (q : Int))])) => by
      have := mtOf_any (n := (m.length : Int)) h1 h2 (by simp; omega)
      rw [hX] at this
      exact this)
    clear hX
    have t0 : (0 : Int) ≤ (k : Int) := by omega
    have t1 : (k : Int) < (es.length : Int) := by omega
    have u0 : (0 : Int) ≤ (p : Int) := by omega
    have u1 : (p : Int) < (m.length : Int) := by omega
    have u2 : (0 : Int) ≤ (q : Int) := by omega
    have u3 : (q : Int) < (m.length : Int) := by omega
    have l0 := lt_of_cell ga
    have l1 := lt_of_cell a1
    have l2 := lt_of_cell d0
    clear hkE hmem hin3 hv3 he3 hes hin2 hv2 he2 hms hy hz h9 hyes HMO HOK
    go_wp2_with fail
    go_region
    have K5 : Kept [] w4 ((w4.alloc (.cells #[.int .i64 (p : Int), .int .i64 (q : Int)] 30)).drew) := ((Kept.refl [] w4).alloc _).drew
    have e0 : ((w4.alloc (.cells #[.int .i64 (p : Int), .int .i64 (q : Int)] 30)).drew).cell? ⟨w4.heap.size, 0, none⟩ = some (.int .i64 (p : Int)) := by
      show (w4.alloc (.cells #[.int .i64 (p : Int), .int .i64 (q : Int)] 30)).cell? ⟨w4.heap.size, 0, none⟩ = some (.int .i64 (p : Int))
      rw [cell_of_block (new_block w4 _)]; rfl
    have e1 : ((w4.alloc (.cells #[.int .i64 (p : Int), .int .i64 (q : Int)] 30)).drew).cell? ⟨w4.heap.size, 1, none⟩ = some (.int .i64 (q : Int)) := by
      show (w4.alloc (.cells #[.int .i64 (p : Int), .int .i64 (q : Int)] 30)).cell? ⟨w4.heap.size, 1, none⟩ = some (.int .i64 (q : Int))
      rw [cell_of_block (new_block w4 _)]; rfl
    replace ga := kept_cell ga K5
    replace gb := kept_cell gb K5
    replace d0 := kept_cell d0 K5
    replace d1 := kept_cell d1 K5
    have HL5 := hide (fun W (k : Kept [] ((w4.alloc (.cells #[.int .i64 (p : Int), .int .i64 (q : Int)] 30)).drew) W) => unhide HL4 W (K5.trans k))
    have HG5 := hide (fun W (k : Kept [] ((w4.alloc (.cells #[.int .i64 (p : Int), .int .i64 (q : Int)] 30)).drew) W) => unhide HG4 W (K5.trans k))
    have HK5 := hide ((unhide HK4).trans K5)
    clear l0 l1 l2 a1 a2 K5 HL4 HG4 HI4 HK4
    generalize (w4.alloc (.cells #[.int .i64 (p : Int), .int .i64 (q : Int)] 30)).drew = w5 at *
    generalize w4.heap.size = p4 at *
    have HC := hide (show ∀ W, Kept [] w5 W → W.cell? ⟨p1, 0, none⟩ = some (.int .i64 m.length) ∧ W.cell? ⟨p1, 1, none⟩ = some (.slice (some ⟨g3, o3, none⟩) es.length rc1) ∧ W.cell? ⟨p4, 0, none⟩ = some (.int .i64 p) ∧ W.cell? ⟨p4, 1, none⟩ = some (.int .i64 q) from fun W k => ⟨kept_cell ga k, kept_cell gb k, kept_cell e0 k, kept_cell e1 k⟩)
    go_wp2_with fail
    go_region_held_law (fun W => W.cell? ⟨p1, 0, none⟩ = some (.int .i64 m.length) ∧ W.cell? ⟨p1, 1, none⟩ = some (.slice (some ⟨g3, o3, none⟩) es.length rc1) ∧ W.cell? ⟨p4, 0, none⟩ = some (.int .i64 p) ∧ W.cell? ⟨p4, 1, none⟩ = some (.int .i64 q))
      (first | exact unhide HC _ (by repeat' first | assumption | exact Kept.refl [] w5 | apply Kept.alloc | apply Kept.drew) | go_keep)
      (first
      | (refine step_append_src (by rfl) (.const (.slice none 0 0)) (.tmp 46) 22 (by rfl) w5.heap.size 30 i (ev 0 0) 2 16 Try.underlying22 hi hz0 hz1 hz2 (by rfl) (by decide) (.slice none 0 0) _ [] (by rfl) ⟨rfl, Or.inl ⟨rfl, rfl⟩⟩ _ _ _ (by rfl) (unhide HL5 _ (by repeat' first | assumption | exact Kept.refl [] w5 | apply Kept.alloc | apply Kept.drew)).src (by unfold maxLen; omega) (by omega) (by simp) ?_; intro v6 w6 own6 g6; have K6b := (Kept.refl [] _).grown g6 (fun j hj => by cases hj); have K6 : Kept [] w5 w6 := Kept.grown (by repeat' first | exact Kept.refl [] w5 | apply Kept.alloc | apply Kept.drew) g6 (fun j hj => by cases hj); have own6' : w6.ownsRow w5.heap.size 30 2 v6 L.length (flatE L) := (by simpa using own6); clear own6 g6)
      | (refine step_append_src (by rfl) (.tmp 47) (.tmp 49) 22 (by rfl) w5.heap.size 30 i (ev 0 0) 2 16 Try.underlying22 hi hz0 hz1 hz2 (by rfl) (by decide) v6 _ _ (by rfl) (own_keep own6' (kept_grown (by repeat' first | exact Kept.refl [] w6 | apply Kept.alloc | apply Kept.drew)) (by simp)) _ 1 [.int .i64 (p : Int), .int .i64 (q : Int)] (by rfl) (EdgesAt.src (edge_new _ (p : Int) (q : Int) 30 1 _ (Nat.le_refl _) rfl)) (by unfold maxLen; omega) (by omega) (by have := K6.size; simp; omega) ?_; intro v7 w7 own7 g7; have K7 : Kept [] w5 w7 := Kept.grown (by repeat' first | exact K6 | apply Kept.alloc | apply Kept.drew) g7 (fun j hj => Or.inr (own_block own6' j hj)); have own7' : OwnE w7 w5.heap.size v7 (L ++ [((p : Int), (q : Int))]) := OwnE.app own7; clear own7 g7)
      | (refine step_append_src (by rfl) (.tmp 47) (.tmp 49) 22 (by rfl) w5.heap.size 30 i (ev 0 0) 2 16 Try.underlying22 hi hz0 hz1 hz2 (by rfl) (by decide) v6 _ _ (by rfl) (own_keep own6' (kept_grown (by repeat' first | exact Kept.refl [] w6 | apply Kept.alloc | apply Kept.drew)) (by simp)) _ 1 [.int .i64 (p : Int), .int .i64 (q : Int)] (by rfl) (EdgesAt.kept (w := w5.drew.alloc (.cells #[.int .i64 (p : Int), .int .i64 (q : Int)] 30)) (edge_new w5.drew (p : Int) (q : Int) 30 1 w5.heap.size (Nat.le_refl _) rfl) K6b).src (by unfold maxLen; omega) (by omega) (by have := K6.size; simp; omega) ?_; intro v7 w7 own7 g7; have K7 : Kept [] w5 w7 := Kept.grown (by repeat' first | exact K6 | apply Kept.alloc | apply Kept.drew) g7 (fun j hj => Or.inr (own_block own6' j hj)); have own7' : OwnE w7 w5.heap.size v7 (L ++ [((p : Int), (q : Int))]) := OwnE.app own7; clear own7 g7)
      | (go_at_call 10; refine (unhide HX _ _ (unhide HG5 _ K7).e own7'.at'.1).mono ?_; rintro e w8 ⟨r8, rfl, hm8, k8⟩; obtain ⟨ro8, rc8, rfl, _⟩ := hm8.ints.shape; have K8 := K7.trans k8))
    all_goals
      have HK8 := hide ((unhide HK5).trans K8)
      have HI8 := hide (fun W (k : Kept [] w8 W) => hm8.ints.kept k)
      have HG8 := hide (fun W (k : Kept [] w8 W) => unhide HG5 W (K8.trans k))
      have c0 := (unhide HC _ K8).1
      have c1 := (unhide HC _ K8).2.1
      have b0 := (unhide HC _ K8).2.2.1
      have b1 := (unhide HC _ K8).2.2.2
      replace d0 := kept_cell d0 K8
      replace d1 := kept_cell d1 K8
      clear K6 K6b K7 K8 k8 hm8 own6' own7' HX HC ga gb e0 e1 HL5
      by_cases hy0 : 0 ≤ y
      · have hXe := unhide H9 (Or.inl hy0)
        subst hXe
        rw [show errX (.error 9) = 9 from rfl, show (listX (.error 9)).length = 0 from rfl]
        go_wp2
        go_ret
        exact ⟨rfl, unhide HK8⟩
      · by_cases hz0 : 0 ≤ z
        · have hXe := unhide H9 (Or.inr hz0)
          subst hXe
          rw [show errX (.error 9) = 9 from rfl, show (listX (.error 9)).length = 0 from rfl]
          go_wp2
          go_ret
          exact ⟨rfl, unhide HK8⟩
        · obtain ⟨hXe, hmt, hln⟩ := unhide HYES (fun h => h.elim hy0 hz0)
          subst hXe
          have el : (listX (.ok (putM m (p : Int) (q : Int)))) = putM m (p : Int) (q : Int) := rfl
          rw [el] at HI8
          rw [show errX (.ok (putM m (p : Int) (q : Int))) = 0 from rfl, el]
          have hpm := putM_len m (p : Int) (q : Int)
          have HR := hide (fun W (k : Kept [] w8 W) => by
            have := mrRight_any (n := (m.length : Int)) (unhide HG8 W k).e (unhide HI8 W k) (by omega)
            rw [hmt] at this
            exact this)
          have HZ := hide (fun W (k : Kept [] w8 W) => by
            have := mtSize_any (unhide HI8 W k) (by omega)
            rw [hln] at this
            exact this)
          have hw1 : IntKind.i64.wrap ((L.length : Int) + 1) = ((L.length + 1 : Nat) : Int) := by rw [IntWalk.i64_left, IntWalk.wrap64_in _ (by omega)]; omega
          have e1 : (((L.length + 1 : Nat) : Int) == ((L.length + 1 : Nat) : Int)) = true := by simp
          rw [hpm]
          rw [hpm] at HR HZ
          clear el hmt hln hpm
          go_wp2_with fail
          refine (unhide HR _ (Kept.refl [] _)).mono ?_
          rintro e w9 ⟨rfl, k9⟩
          have HZ9 := hide (unhide HZ _ k9)
          have HK9 := hide ((unhide HK8).trans k9)
          clear k9
          go_wp2_with fail
          refine (unhide HZ9).mono ?_
          rintro e w10 ⟨rfl, k10⟩
          have HK10 := hide ((unhide HK9).trans k10)
          clear k10
          go_wp2
          go_ret
          exact ⟨rfl, unhide HK10⟩
end Go.Proofs.Ytdaielejbcjdnaa
