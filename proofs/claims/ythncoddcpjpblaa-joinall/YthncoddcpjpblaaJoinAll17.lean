/- JoinAll: its walk. -/
import Derived.Test.YthncoddcpjpblaaJoinAll16
import Derived.BigRegion
namespace Go.Proofs.Ythncoddcpjpblaa
open Go.RowKit

set_option maxRecDepth 20000 in
set_option maxHeartbeats 16000000 in
theorem joinAll_walk (w : World) (n0 : Int) (_ : InI n0) (v : Value) (ts : List Int) (ht : IntsAt w v ts) (s0 : Int) (_ : InI s0) :
    Calls Try.prog 4 #[.int .i64 n0, v, .int .i64 s0] w fun e w' => e = .returned (.bool true) ∧ Kept [] w w' := by
  obtain ⟨i, hi, hz0, hz1, hz2⟩ := info_parts infoInt
  obtain ⟨to, tc, rfl, htm, htc⟩ := ht.shape
  have HT := hide htc
  have htI : (ts.length : Int) ≤ 9223372036854775807 := by unfold maxLen at htm; omega
  clear ht htc htm
  obtain ⟨N, hN, hNe⟩ := mod_at n0 40 (by decide) (by decide)
  have hN0 : (0 : Int) ≤ (N : Int) := by omega
  have hw1 : IntKind.u64.wrap (2 + (N : Int) - 1) = 2 + (N : Int) - 1 := by show (2 + (N : Int) - 1) % 18446744073709551616 = _; omega
  have hnz : (2 + (N : Int) - 1 == 0) = false := by rw [beq_eq_false_iff_ne]; omega
  have hnz2 : ¬ (2 + (N : Int) - 1) = 0 := by omega
  go_enter Try.func4, Try.ntmps4
  go_wp2
  obtain ⟨s, hs, hse⟩ := mod_at s0 (2 + (N : Int) - 1) (by omega) (by omega)
  rw [hse]
  obtain ⟨n, hn⟩ : ∃ n : Nat, 2 + (N : Int) = (n : Int) := ⟨N + 2, by omega⟩
  rw [hn] at hs ⊢
  have hn2 : 2 ≤ n := by omega
  have hn60 : n ≤ 60 := by omega
  have hsn : s + 1 < n := by omega
  clear hw1 hnz hnz2 hNe hse hn hs hN hN0
  go_loopw [7, 8] (fun l c wr => ∃ (k : Nat) (lo : Option Addr) (lc : Nat), k ≤ n - 1 ∧ c = .int .i64 k ∧ l = .slice lo k lc ∧ wr.ownsRow w.heap.size 3 1 l k ((uptoI k).map (Value.int .i64)) ∧ Hid (Kept [] w wr)) (fun _ c _ => n - (intOf c).toNat)
  case atStart => exact ⟨0, none, 0, Nat.zero_le _, rfl, rfl, ⟨rfl, Or.inl ⟨rfl, rfl⟩⟩, Kept.refl _ _⟩
  case round =>
    obtain ⟨k, lo, lc, hk, rfl, rfl, hown, hkk⟩ := hrel
    by_cases hlt : k < n - 1
    · have k0 : (0 : Int) ≤ (k : Int) := by omega
      have k1 : (k : Int) < (n : Int) - 1 := by omega
      have hsz := (unhide hkk).size
      go_wp2_with (first | (at_builtin; refine wpList_append_own _ rfl (.tmp 31) (.tmp 33) 39 rfl w.heap.size 3 i (.int .i64 0) 1 8 Try.underlying39 hi hz0 hz1 hz2 rfl (by decide) _ _ _ rfl (hown.alloc _) _ 1 _ [.int .i64 k] rfl rfl (one_cell' _ _ _ (by simp)) (by simp [Value.oneCell']) (by unfold maxLen; omega) (by omega) (by simp; omega) ?_; intro v' w4 own4 g4 _))
      have hob := own_block hown
      have HK4 := hide ((unhide hkk).trans' (cs := (Value.slice lo k lc).ownBlock.toList) ((((Kept.refl [] wr).alloc _).mono (by simp)).trans (grown_kept g4)) (fun q hq => Or.inr (hob q (by simpa using hq))))
      have own5 : w4.ownsRow w.heap.size 3 1 v' (k + 1) ((uptoI (k + 1)).map (Value.int .i64)) := by
        rw [uptoI_succ, List.map_append]; exact own4
      obtain ⟨lo5, lc5, hv5⟩ := own_slice own5
      have HV5 := hide hv5
      clear own4 g4 hob hv5 hown
      go_wp2
      go_roundw
      case rel => exact ⟨k + 1, lo5, lc5, by omega, by go_num, unhide HV5, own5, unhide HK4⟩
      case measure => simp [intOf]; omega
    · have hkn : k = n - 1 := by omega
      have hknI : (k : Int) = (n : Int) - 1 := by omega
      obtain ⟨ao, ca, he, hof⟩ := own_ofAt hown
      obtain ⟨g, hao, hgb, hofg⟩ := hof (by omega)
      have hgB := (own_lt' hown hgb).1
      simp at he
      obtain ⟨rfl, rfl⟩ := he
      subst hao
      obtain ⟨M, hM⟩ : ∃ M, M = k := ⟨k, rfl⟩
      subst hM
      have hMn : M + 1 = n := by omega
      have HO1 := hide (show OfAt wr g M (fun u => (((fun i => i) u : Nat) : Int)) from hofg)
      have HK1 := hide (unhide hkk)
      have HG := hide hgB
      clear hown hof hgb hofg hgB hkk hk hkn hknI hlt
      obtain ⟨W1, hW1⟩ : ∃ W1, W1 = wr := ⟨wr, rfl⟩
      subst hW1
      have hMI : (n : Int) - 1 = (M : Int) := by omega
      go_wp2
      go_loopw [9] (fun c wr => ∃ (t : Nat) (f : Nat → Nat), t ≤ 60 ∧ c = .int .i64 t ∧ PermF M f ∧ Hid (OfAt wr g M (fun u => (f u : Int)) ∧ Kept [] w wr)) (fun c _ => 60 - (intOf c).toNat)
      case atStart => exact ⟨0, _, by omega, rfl, perm_id M, unhide HO1, unhide HK1⟩
      case round =>
        obtain ⟨t, f, ht6, rfl, hpf, hh⟩ := hrel
        clear HO1 HK1
        by_cases hc : (t : Int) < (ts.length : Int) ∧ (t : Int) < 60
        · obtain ⟨hc1, hc2⟩ := hc
          obtain ⟨tg, tof, rfl, htin⟩ := unhide HT (by omega)
          have d0 := kept_cell (htin t (by omega)) (unhide hh).2
          clear htin
          generalize ts.getD t 0 = x at *
          have t0 : (0 : Int) ≤ (t : Int) := by omega
          have hwL : IntKind.u64.wrap (M : Int) = (M : Int) := by show (M : Int) % 18446744073709551616 = (M : Int); omega
          have hnz : ((M : Int) == 0) = false := by rw [beq_eq_false_iff_ne]; omega
          have hnz2 : ¬ (M : Int) = 0 := by omega
          obtain ⟨kk, hkl, hke⟩ := mod_at x (M : Int) (by omega) (by omega)
          obtain ⟨q, hq, hql⟩ : ∃ q : Nat, (t : Int).tmod (M : Int) = (q : Int) ∧ q < M := ⟨t % M, by simp; exact Int.tmod_eq_emod_of_nonneg t0, Nat.mod_lt _ (by omega)⟩
          have hwq : IntKind.i64.wrap (q : Int) = (q : Int) := by rw [IntWalk.i64_left, IntWalk.wrap64_in _ (by omega)]
          have q0 : (0 : Int) ≤ (q : Int) := by omega
          have q1 : (q : Int) < (M : Int) := by omega
          have k0 : (0 : Int) ≤ (kk : Int) := by omega
          have k1 : (kk : Int) < (M : Int) := by omega
          have aq := (unhide hh).1.cell q hql
          have ak := (unhide hh).1.cell kk (by omega)
          have fq := (unhide hh).1.free q
          have fk := (unhide hh).1.free kk
          have HO2 := hide (((((unhide hh).1.set hql (f kk : Int)).set (v := kk) (by omega) (f q : Int)).kept ((Kept.refl [] _).drew)).congr (f' := fun u => (swapF f q kk u : Int)) (fun u _ => by
            unfold swapF
            by_cases e1 : u = kk
            · simp [e1]
            · simp only [e1, if_false]
              by_cases e2 : u = q
              · simp [e2]
              · simp [e2]))
          have HK2 := hide (((((unhide hh).2.setCell (p := ⟨g, q, none⟩) (Or.inr (unhide HG)) (.int .i64 (f kk : Int))).setCell (p := ⟨g, kk, none⟩) (Or.inr (unhide HG)) (.int .i64 (f q : Int)))).drew)
          have HPF := hide (hpf.swap hql (show kk < M by omega))
          go_wp2_with fail
          rw [hke]
          clear hke hwL hh hpf d0
          by_cases hqk : q = kk
          · subst hqk
            go_region
            go_wp2
            go_roundw
            case rel => exact ⟨t + 1, _, by omega, by go_num, unhide HPF, unhide HO2, unhide HK2⟩
            case measure => simp [intOf]; omega
          · have hqk2 : kk ≠ q := fun h => hqk h.symm
            go_region
            go_wp2
            go_roundw
            case rel => exact ⟨t + 1, _, by omega, by go_num, unhide HPF, unhide HO2, unhide HK2⟩
            case measure => simp [intOf]; omega
        · have HPF := hide hpf
          obtain ⟨W2, hW2⟩ : ∃ W2, W2 = wr := ⟨wr, rfl⟩
          subst hW2
          have HO := hide (unhide hh).1
          have HK := hide (unhide hh).2
          have H1 := hide (fun W => jnew_any W (n : Int))
          have HN := hide (show newN (n : Int) = n by unfold newN; omega)
          have HAW := hide (fun W => jawake_any W)
          clear hh hpf
          by_cases h1 : (t : Int) < (ts.length : Int)
          all_goals
            go_wp2_with fail
            refine (unhide H1 _).mono ?_
            rintro e w3 ⟨p, gj, rfl, hj, hp, hg, k3⟩
            rw [unhide HN] at hj
            have hgl := (unhide HO).lt
            have HGP := hide (show g ∉ [p, gj] by simp; omega)
            have HPW := hide (show w.heap.size ≤ p ∧ w.heap.size ≤ gj by have := (unhide HK).size; omega)
            have HB3 := hide (show JAt w3 p gj n (fun k => k) (fun k => k) ∧ LineOf n (DoneTo f s 0) (fun k => k) ∧ OfAt w3 g M (fun u => (f u : Int)) ∧ Kept [] w w3 from ⟨hj, line_start n _ (doneTo_zero f s), (unhide HO).kept k3, (unhide HK).trans k3⟩)
            clear hj hp hg k3 hgl HO HK H1
            go_wp2
            go_loopw [12] (fun c wr => ∃ (t : Nat) (L B : Nat → Nat), t ≤ M ∧ c = .int .i64 t ∧ Hid (JAt wr p gj n L B ∧ LineOf n (DoneTo f s t) L ∧ OfAt wr g M (fun u => (f u : Int)) ∧ Kept [] w wr)) (fun c _ => M - (intOf c).toNat)
            case atStart => exact ⟨0, _, _, by omega, rfl, unhide HB3⟩
            case round =>
              obtain ⟨t2, L, B, ht2, rfl, hh⟩ := hrel
              clear HB3
              by_cases hlt2 : t2 < M
              · have e0 := (unhide hh).2.2.1.cell t2 hlt2
                have t0 : (0 : Int) ≤ (t2 : Int) := by omega
                have t1 : (t2 : Int) < (M : Int) := by omega
                by_cases hfs : f t2 = s
                · have hq : ((f t2 : Int) != (s : Int)) = false := by simp [hfs]
                  have HB4 := hide (show JAt wr p gj n L B ∧ LineOf n (DoneTo f s (t2 + 1)) L ∧ OfAt wr g M (fun u => (f u : Int)) ∧ Kept [] w wr from ⟨(unhide hh).1, (unhide hh).2.1.congr (doneTo_skip hfs), (unhide hh).2.2⟩)
                  clear hh hfs
                  generalize (f t2 : Int) = ft at *
                  go_wp2_with fail
                  go_quiet (fail)
                  have HB5 := hide (show JAt (wr.drewN nq) p gj n L B ∧ LineOf n (DoneTo f s (t2 + 1)) L ∧ OfAt (wr.drewN nq) g M (fun u => (f u : Int)) ∧ Kept [] w (wr.drewN nq) from ⟨(unhide HB4).1.kept (bs := []) ((Kept.refl [] wr).drewN nq) (by simp) (by simp), (unhide HB4).2.1, (unhide HB4).2.2.1.kept ((Kept.refl [] wr).drewN nq), (unhide HB4).2.2.2.drewN nq⟩)
                  clear HB4
                  generalize wr.drewN nq = W5 at *
                  go_wp2
                  go_roundw
                  case rel => exact ⟨t2 + 1, _, _, by omega, by go_num, unhide HB5⟩
                  case measure => simp [intOf]; omega
                · have hq : ((f t2 : Int) != (s : Int)) = true := by simp; omega
                  have hfl := (unhide HPF).lt t2 hlt2
                  have hnd := (unhide HPF).notDone (s := s) hlt2
                  obtain ⟨u1, u2⟩ := (unhide hh).2.1.uni (x := f t2) (by omega) hnd
                  have hok : uniOK n L ((f t2 : Int) + 1) (f t2 : Int) (f t2 : Int) = true := by
                    unfold uniOK
                    rw [show ((f t2 : Int) + 1) = ((f t2 + 1 : Nat) : Int) by omega, hasN_nat (show f t2 + 1 < n by omega), hasN_nat (show f t2 < n by omega)]
                    simpa using u1
                  have HU := fun W (kk : Kept [] wr W) => unite_any ((unhide hh).1.kept (bs := []) kk (by simp) (by simp)) ((f t2 : Int) + 1) (f t2 : Int) (f t2 : Int)
                  rw [hok] at HU
                  have es : stepL n L ((f t2 : Int) + 1) (f t2 : Int) (f t2 : Int) = uniL L (L (f t2 + 1)) (L (f t2)) := by
                    unfold stepL
                    rw [hok, show ((f t2 : Int) + 1).toNat = f t2 + 1 by omega]
                    simp
                  have HL2 := hide (show LineOf n (DoneTo f s (t2 + 1)) (stepL n L ((f t2 : Int) + 1) (f t2 : Int) (f t2 : Int)) by rw [es]; exact u2.congr (doneTo_step hfs))
                  replace HU := hide HU
                  have HB4 := hide (And.intro (unhide hh).2.2.1 (unhide hh).2.2.2)
                  have b0 : (0 : Int) ≤ (f t2 : Int) := by omega
                  have b1 : (f t2 : Int) ≤ 100 := by omega
                  clear hh hfs u1 u2 hok es hnd hfl
                  generalize stepL n L ((f t2 : Int) + 1) (f t2 : Int) (f t2 : Int) = L2 at *
                  generalize stepB n L B ((f t2 : Int) + 1) (f t2 : Int) (f t2 : Int) = B2 at *
                  generalize (f t2 : Int) = ft at *
                  have hwr : IntKind.i64.wrap (ft + 1) = ft + 1 := by rw [IntWalk.i64_left, IntWalk.wrap64_in _ (by omega)]
                  go_wp2_with fail
                  refine wp_region_held_drew (S := (fun W => W.cell? ⟨g, t2, none⟩ = some (.int .i64 ft))) (by kernel_rfl) e0 (fun hHeld => ?_)
                  refine take_on 0 83 (v := ?_) rfl rfl (by kernel_rfl) (by kernel_rfl) (by kernel_rfl) (fun _ _ _ h => h) (by kernel_rfl) (by intro w hSw; (try dsimp only at hSw); go_simp; first | done | with_reducible rfl) (by assumption) ?_
                  simp only [Act.put, List.setIfInBounds_toArray, List.set_cons_zero, List.set_cons_succ]
                  refine take_on 1 84 (v := ?_) rfl rfl (by kernel_rfl) (by kernel_rfl) (by kernel_rfl) (fun _ _ _ h => h) (by kernel_rfl) (by intro w hSw; (try dsimp only at hSw); go_simp; first | done | with_reducible rfl) (by assumption) ?_
                  simp only [Act.put, List.setIfInBounds_toArray, List.set_cons_zero, List.set_cons_succ]
                  refine take_on 2 85 (v := ?_) rfl rfl (by kernel_rfl) (by kernel_rfl) (by kernel_rfl) (fun _ _ _ h => h) (by kernel_rfl) (by intro w hSw; (try dsimp only at hSw); go_simp; first | done | with_reducible rfl) (by assumption) ?_
                  simp only [Act.put, List.setIfInBounds_toArray, List.set_cons_zero, List.set_cons_succ]
                  refine take_on 3 86 (v := ?_) rfl rfl (by kernel_rfl) (by kernel_rfl) (by kernel_rfl) (fun _ _ _ h => h) (by kernel_rfl) (by intro w hSw; (try dsimp only at hSw); go_simp; first | done | with_reducible rfl) (by assumption) ?_
                  simp only [Act.put, List.setIfInBounds_toArray, List.set_cons_zero, List.set_cons_succ]
                  refine take_on 4 87 (v := ?_) rfl rfl (by kernel_rfl) (by kernel_rfl) (by kernel_rfl) (fun _ _ _ h => h) (by kernel_rfl) (by intro w hSw; (try dsimp only at hSw); go_simp; first | done | with_reducible rfl) (by assumption) ?_
                  simp only [Act.put, List.setIfInBounds_toArray, List.set_cons_zero, List.set_cons_succ]
                  refine take_on 5 88 (v := ?_) rfl rfl (by kernel_rfl) (by kernel_rfl) (by kernel_rfl) (fun _ _ _ h => h) (by kernel_rfl) (by intro w hSw; (try dsimp only at hSw); go_simp; first | done | with_reducible rfl) (by assumption) ?_
                  simp only [Act.put, List.setIfInBounds_toArray, List.set_cons_zero, List.set_cons_succ]
                  refine take_on 6 89 (v := ?_) rfl rfl (by kernel_rfl) (by kernel_rfl) (by kernel_rfl) (fun _ _ _ h => h) (by kernel_rfl) (by intro w hSw; (try dsimp only at hSw); go_simp; first | done | with_reducible rfl) (by assumption) ?_
                  simp only [Act.put, List.setIfInBounds_toArray, List.set_cons_zero, List.set_cons_succ]
                  refine take_on 7 90 (v := ?_) rfl rfl (by kernel_rfl) (by kernel_rfl) (by kernel_rfl) (fun _ _ _ h => h) (by kernel_rfl) (by intro w hSw; (try dsimp only at hSw); go_simp; first | done | with_reducible rfl) (by assumption) ?_
                  simp only [Act.put, List.setIfInBounds_toArray, List.set_cons_zero, List.set_cons_succ]
                  refine take_on 8 91 (v := ?_) rfl rfl (by kernel_rfl) (by kernel_rfl) (by kernel_rfl) (fun _ _ _ h => h) (by kernel_rfl) (by intro w hSw; (try dsimp only at hSw); go_simp; first | done | with_reducible rfl) (by assumption) ?_
                  simp only [Act.put, List.setIfInBounds_toArray, List.set_cons_zero, List.set_cons_succ]
                  refine take_on 9 92 (v := ?_) rfl rfl (by kernel_rfl) (by kernel_rfl) (by kernel_rfl) (fun _ _ _ h => h) (by kernel_rfl) (by intro w hSw; (try dsimp only at hSw); go_simp; first | done | with_reducible rfl) (by assumption) ?_
                  simp only [Act.put, List.setIfInBounds_toArray, List.set_cons_zero, List.set_cons_succ]
                  refine take_on 10 93 (v := ?_) rfl rfl (by kernel_rfl) (by kernel_rfl) (by kernel_rfl) (fun _ _ _ h => h) (by kernel_rfl) (by intro w hSw; (try dsimp only at hSw); go_simp; first | done | with_reducible rfl) (by assumption) ?_
                  simp only [Act.put, List.setIfInBounds_toArray, List.set_cons_zero, List.set_cons_succ]
                  refine take_on 11 94 (v := ?_) rfl rfl (by kernel_rfl) (by kernel_rfl) (by kernel_rfl) (fun _ _ _ h => h) (by kernel_rfl) (by intro w hSw; (try dsimp only at hSw); go_simp; first | done | with_reducible rfl) (by assumption) ?_
                  simp only [Act.put, List.setIfInBounds_toArray, List.set_cons_zero, List.set_cons_succ]
                  refine take_on 12 95 (v := ?_) rfl rfl (by kernel_rfl) (by kernel_rfl) (by kernel_rfl) (fun _ _ _ h => h) (by kernel_rfl) (by intro w hSw; (try dsimp only at hSw); go_simp; first | done | with_reducible rfl) (by assumption) ?_
                  simp only [Act.put, List.setIfInBounds_toArray, List.set_cons_zero, List.set_cons_succ]
                  refine take_on 13 96 (v := ?_) rfl rfl (by kernel_rfl) (by kernel_rfl) (by kernel_rfl) (fun _ _ _ h => h) (by kernel_rfl) (by intro w hSw; (try dsimp only at hSw); go_simp; first | done | with_reducible rfl) (by assumption) ?_
                  simp only [Act.put, List.setIfInBounds_toArray, List.set_cons_zero, List.set_cons_succ]
                  refine take_on 14 97 (v := ?_) rfl rfl (by kernel_rfl) (by kernel_rfl) (by kernel_rfl) (fun _ _ _ h => h) (by kernel_rfl) (by intro w hSw; (try dsimp only at hSw); go_simp; first | done | with_reducible rfl) (by assumption) ?_
                  simp only [Act.put, List.setIfInBounds_toArray, List.set_cons_zero, List.set_cons_succ]
                  refine take_on 15 98 (v := ?_) rfl rfl (by kernel_rfl) (by kernel_rfl) (by kernel_rfl) (fun _ _ _ h => h) (by kernel_rfl) (by intro w hSw; (try dsimp only at hSw); go_simp; first | done | with_reducible rfl) (by assumption) ?_
                  simp only [Act.put, List.setIfInBounds_toArray, List.set_cons_zero, List.set_cons_succ]
                  refine take_on 16 99 (v := ?_) rfl rfl (by kernel_rfl) (by kernel_rfl) (by kernel_rfl) (fun _ _ _ h => h) (by kernel_rfl) (by intro w hSw; (try dsimp only at hSw); go_simp; first | done | with_reducible rfl) (by assumption) ?_
                  simp only [Act.put, List.setIfInBounds_toArray, List.set_cons_zero, List.set_cons_succ]
                  refine take_on 17 100 (v := ?_) rfl rfl (by kernel_rfl) (by kernel_rfl) (by kernel_rfl) (fun _ _ _ h => h) (by kernel_rfl) (by intro w hSw; (try dsimp only at hSw); go_simp; first | done | with_reducible rfl) (by assumption) ?_
                  simp only [Act.put, List.setIfInBounds_toArray, List.set_cons_zero, List.set_cons_succ]
                  refine take_on 18 101 (v := ?_) rfl rfl (by kernel_rfl) (by kernel_rfl) (by kernel_rfl) (fun _ _ _ h => h) (by kernel_rfl) (by intro w hSw; (try dsimp only at hSw); go_simp; first | done | with_reducible rfl) (by assumption) ?_
                  simp only [Act.put, List.setIfInBounds_toArray, List.set_cons_zero, List.set_cons_succ]
                  refine take_on 19 102 (v := ?_) rfl rfl (by kernel_rfl) (by kernel_rfl) (by kernel_rfl) (fun _ _ _ h => h) (by kernel_rfl) (by intro w hSw; (try dsimp only at hSw); go_simp; first | done | with_reducible rfl) (by assumption) ?_
                  simp only [Act.put, List.setIfInBounds_toArray, List.set_cons_zero, List.set_cons_succ]
                  refine take_on 20 103 (v := ?_) rfl rfl (by kernel_rfl) (by kernel_rfl) (by kernel_rfl) (fun _ _ _ h => h) (by kernel_rfl) (by intro w hSw; (try dsimp only at hSw); go_simp; first | done | with_reducible rfl) (by assumption) ?_
                  simp only [Act.put, List.setIfInBounds_toArray, List.set_cons_zero, List.set_cons_succ]
                  refine wpAnyH_ready (rs := [21]) (by kernel_rfl) (by simp) ?_
                  refine AllReadyH.cons rfl (fun K hK => ?_) AllReadyH.nil
                  rw [if_pos (by kernel_rfl)]
                  go_simp
                  refine (unhide HU _ ((Kept.refl _ _).drew)).mono ?_
                  rintro e w4 ⟨rfl, hj4, k4⟩
                  have K2 := Kept.trans ((Kept.refl [p, gj] wr).drew) k4
                  go_wp2_with fail
                  refine hK.out _ _ (kept_cell' e0 K2 (unhide HGP)) (fun hHeld => ?_)
                  clear hK K
                  try simp only [Act.put, List.setIfInBounds_toArray, List.set_cons_zero, List.set_cons_succ]
                  refine take_on 22 105 (v := ?_) rfl rfl (by kernel_rfl) (by kernel_rfl) (by kernel_rfl) (fun _ _ _ h => h) (by kernel_rfl) (by intro w hSw; (try dsimp only at hSw); go_simp; first | done | with_reducible rfl) (by assumption) ?_
                  simp only [Act.put, List.setIfInBounds_toArray, List.set_cons_zero, List.set_cons_succ]
                  refine take_on 23 106 (v := ?_) rfl rfl (by kernel_rfl) (by kernel_rfl) (by kernel_rfl) (fun _ _ _ h => h) (by kernel_rfl) (by intro w hSw; (try dsimp only at hSw); go_simp; first | done | with_reducible rfl) (by assumption) ?_
                  simp only [Act.put, List.setIfInBounds_toArray, List.set_cons_zero, List.set_cons_succ]
                  refine wpAnyH_done (by kernel_rfl) ?_ _
                  have HB5 := hide (show JAt w4 p gj n L2 B2 ∧ LineOf n (DoneTo f s (t2 + 1)) L2 ∧ OfAt w4 g M (fun u => (f u : Int)) ∧ Kept [] w w4 from ⟨hj4, unhide HL2, (unhide HB4).1.keptAt K2 (unhide HGP), (unhide HB4).2.trans' K2 (fun i hi => by
                    simp at hi
                    rcases hi with rfl | rfl
                    · exact Or.inr (unhide HPW).1
                    · exact Or.inr (unhide HPW).2)⟩)
                  clear hj4 k4 K2 HB4 HL2 HU
                  go_wp2
                  go_roundw
                  case rel => exact ⟨t2 + 1, L2, B2, by omega, by go_num, unhide HB5⟩
                  case measure => simp [intOf]; omega
              · have e : t2 = M := by omega
                subst e
                have HK4 := hide (unhide hh).2.2.2
                have hLall : ∀ k, k < n → L k = if k ≤ s then 0 else s + 1 := fun k hk => (unhide hh).2.1.all (fun x hx => (unhide HPF).doneAll (by omega)) hk
                obtain ⟨r1, r2, r3, r4, r5, r6, r7, r8⟩ := all_fin (B := B) hMn hsn hLall
                have HJ := hide (unhide hh).1
                have HLEN := hide (fun W (kk : Kept [] wr W) => r1 ▸ jlen_any ((unhide HJ).kept (bs := []) kk (by simp) (by simp)).v)
                have HSAME := hide (fun W (kk : Kept [] wr W) => r2 ▸ jsame_any ((unhide HJ).kept (bs := []) kk (by simp) (by simp)).v (s : Int) ((s : Int) + 1))
                have HF1 := hide (fun W (kk : Kept [] wr W) => r3 ▸ find_any ((unhide HJ).kept (bs := []) kk (by simp) (by simp)).v (t2 : Int))
                have HF2 := hide (fun W (kk : Kept [] wr W) => r4 ▸ find_any ((unhide HJ).kept (bs := []) kk (by simp) (by simp)).v 0)
                have HU := hide (fun W (kk : Kept [] wr W) => r5 ▸ unite_any ((unhide HJ).kept (bs := []) kk (by simp) (by simp)) 0 (t2 : Int) (t2 : Int))
                have R6 := hide r6
                have R7 := hide r7
                have R8 := hide r8
                have s0' : (0 : Int) ≤ (s : Int) := by omega
                have s1' : (s : Int) ≤ 100 := by omega
                clear hh hLall r1 r2 r3 r4 r5 r6 r7 r8
                generalize stepL n L 0 (t2 : Int) (t2 : Int) = L2 at *
                generalize stepB n L B 0 (t2 : Int) (t2 : Int) = B2 at *
                go_wp2_with fail
                refine (unhide HAW _).mono ?_
                rintro e w5 ⟨rfl, k5⟩
                have K5 := hide k5
                clear k5
                go_wp2_with fail
                refine (unhide HLEN _ (unhide K5)).mono ?_
                rintro e w' ⟨rfl, rfl⟩
                go_wp2_with fail
                refine (unhide HSAME _ (unhide K5)).mono ?_
                rintro e w' ⟨rfl, rfl⟩
                go_wp2_with fail
                refine (unhide HF1 _ (unhide K5)).mono ?_
                rintro e w' ⟨rfl, rfl⟩
                go_wp2_with fail
                refine (unhide HF2 _ (unhide K5)).mono ?_
                rintro e w6 ⟨rfl, rfl⟩
                go_wp2_with fail
                refine (unhide HU _ (unhide K5)).mono ?_
                rintro e w7 ⟨rfl, hj7, k7⟩
                have HL7 := hide ((unhide R6) ▸ jlen_any hj7.v)
                have HB7 := hide ((unhide R7) ▸ label_any hj7.v 0)
                have HU7 := hide ((unhide R8) ▸ unite_any hj7 0 (t2 : Int) 0)
                have K7 := hide (((unhide HK4).trans (unhide K5)).trans' k7 (fun i hi => by
                  simp at hi
                  rcases hi with rfl | rfl
                  · exact Or.inr (unhide HPW).1
                  · exact Or.inr (unhide HPW).2))
                clear hj7 k7
                go_wp2_with fail
                refine (unhide HL7).mono ?_
                rintro e w' ⟨rfl, rfl⟩
                go_wp2_with fail
                refine (unhide HB7).mono ?_
                rintro e w8 ⟨rfl, rfl⟩
                go_wp2_with fail
                refine (unhide HU7).mono ?_
                rintro e w9 ⟨rfl, hj9, k9⟩
                have hc : cntL n (stepL n L2 0 (t2 : Int) 0) = 1 := by
                  rw [show stepL n L2 0 (t2 : Int) 0 = L2 by unfold stepL; rw [unhide R8]; simp]
                  exact unhide R6
                have hS := jcount_any hj9
                rw [hc] at hS
                have HS := hide hS
                have K9 := hide ((unhide K7).trans' k9 (fun i hi => by
                  simp at hi
                  rcases hi with rfl | rfl
                  · exact Or.inr (unhide HPW).1
                  · exact Or.inr (unhide HPW).2))
                clear hj9 k9 hS hc
                go_wp2_with fail
                refine (unhide HS).mono ?_
                rintro e w10 ⟨so, sc, rfl, k10⟩
                go_wp2
                go_ret
                exact ⟨rfl, (unhide K9).trans k10⟩
end Go.Proofs.Ythncoddcpjpblaa
