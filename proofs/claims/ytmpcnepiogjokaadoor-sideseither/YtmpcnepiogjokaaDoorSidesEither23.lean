/- IsCycle of the reference. areDistinct, IsCycle. A ring of vertices: plain mathematics. awake of the statements about sides. garlandplay.Beside, Shift, Put. garlandplay.Shift, Put. SidesBeside: the walk. -/
import Derived.Test.YtmpcnepiogjokaaDoorSidesEither20
import Derived.Test.YtmpcnepiogjokaaDoorSidesEither9
import Derived.Test.YtmpcnepiogjokaaDoorSidesEither15
import Derived.Deep.RegionHeld3
import Derived.Test.YtmpcnepiogjokaaDoorSidesEither22
import Derived.Test.YtmpcnepiogjokaaDoorSidesEither19
namespace Go.Proofs.YtmpcnepiogjokaaDoor
open Go.RowKit

theorem has_adj {n : Int} {es : List E} (hr : rightB n es = true) (a b : Int) : decide (0 ≤ indexI n es a b) = true ↔ Adj es a b := by
  have hok := (right_rise hr).2.2.2.2
  unfold indexI
  rw [if_pos hr, idxE_pos]
  simp only [decide_eq_true_eq]
  unfold Adj trn
  constructor
  · intro h
    by_cases c : a ≤ b
    · left; rwa [show min a b = a by omega, show max a b = b by omega] at h
    · right; rwa [show min a b = b by omega, show max a b = a by omega] at h
  · rintro (h | h)
    · have := okE_iff.1 (hok _ h)
      simp only at this
      rwa [show min a b = a by omega, show max a b = b by omega]
    · have := okE_iff.1 (hok _ h)
      simp only at this
      rwa [show min a b = b by omega, show max a b = a by omega]
theorem IntsAt.take {w : World} {ao : Option Addr} {cap : Nat} {l : List Int} (h : IntsAt w (.slice ao l.length cap) l) {k : Nat} (hk : k ≤ l.length) : IntsAt w (.slice ao k cap) (l.take k) := by
  obtain ⟨ao', cap', hv, h1, h2, h3⟩ := h
  simp at hv
  obtain ⟨rfl, rfl⟩ := hv
  have hl : (l.take k).length = k := by rw [List.length_take]; omega
  refine ⟨ao, cap, by rw [hl], by rw [hl]; omega, by rw [hl]; omega, fun h0 => ?_⟩
  rw [hl] at h0
  obtain ⟨g, o, e, hg, hcell⟩ := h3 (by omega)
  refine ⟨g, o, e, hg, fun i hi => ?_⟩
  rw [hl] at hi
  rw [hcell i (by omega)]
  simp [List.getD, hi]
/-- Up to the k-th it may be a cycle. -/
def CycTo (es : List E) (l : List Int) (k : Nat) : Prop := ∀ j, j < k → l.getD j 0 ∉ l.take j ∧ Adj es (l.getD j 0) (l.getD ((j + 1) % l.length) 0)
theorem CycTo.done {es : List E} {l : List Int} (h : CycTo es l l.length) (h3 : 3 ≤ l.length) : IsCyc es l := by
  refine ⟨h3, ?_, fun i hi => ?_, ?_⟩
  · unfold List.Nodup
    rw [List.pairwise_iff_getElem]
    intro i j hi hj hij e
    refine (h j hj).1 ?_
    rw [getD_elem hj, ← e, List.mem_iff_getElem]
    exact ⟨i, by simp; omega, by simp⟩
  · have := (h i (by omega)).2
    rwa [Nat.mod_eq_of_lt hi] at this
  · have := (h (l.length - 1) (by omega)).2
    rwa [show l.length - 1 + 1 = l.length by omega, Nat.mod_self] at this
theorem IsCyc.to {es : List E} {l : List Int} (h : IsCyc es l) : CycTo es l l.length := by
  intro j hj
  constructor
  · intro hm
    obtain ⟨i, hi, e⟩ := List.getElem_of_mem hm
    simp at hi
    rw [List.getElem_take, getD_elem hj] at e
    have := (List.getElem_inj h.nodup).1 e
    omega
  · by_cases e : j + 1 < l.length
    · rw [Nat.mod_eq_of_lt e]; exact h.next j e
    · have e2 : j + 1 = l.length := by omega
      rw [e2, Nat.mod_self]
      have := h.last
      rwa [show l.length - 1 = j by omega] at this
theorem CycTo.succ {es : List E} {l : List Int} {k : Nat} (h : CycTo es l k) (h1 : l.getD k 0 ∉ l.take k) (h2 : Adj es (l.getD k 0) (l.getD ((k + 1) % l.length) 0)) : CycTo es l (k + 1) := fun j hj => by
  by_cases e : j = k
  · subst e; exact ⟨h1, h2⟩
  · exact h j (by omega)

set_option maxRecDepth 20000 in
set_option maxHeartbeats 8000000 in
theorem ris_any {w : World} {n : Int} {v u : Value} {es : List E} {l : List Int} (h : EdgesAt w v es) (hx : IntsAt w u l) (hll : l.length ≤ 1000000) :
    Calls Tryd.prog 29 #[gv n v, u] w fun e w' => ∃ c, e = .returned (.bool c) ∧ (c = true ↔ rightB n es = true ∧ IsCyc es l) ∧ Kept [] w w' := by
  obtain ⟨ao, cap, rfl, _⟩ := h.shape
  obtain ⟨xo, xc, rfl, hxm, hxs⟩ := hx.shape
  have KB := (Kept.refl [] w).alloc (.cells #[.int .i64 n, .slice ao es.length cap] 24)
  have HR := rright_any (n := n) (h.kept KB)
  cases hr : rightB n es
  · rw [hr] at HR
    have HR2 := hide HR
    clear HR h hx hxs
    go_enter Tryd.func29, Tryd.ntmps29
    go_wp2_with fail
    refine (unhide HR2).mono ?_
    rintro e w1 ⟨rfl, k1⟩
    go_wp2
    go_ret
    exact ⟨false, rfl, by simp, KB.trans k1⟩
  · rw [hr] at HR
    have HR2 := hide HR
    have HRT := hide hr
    by_cases h3 : l.length < 3
    · have HN := hide (show ¬ IsCyc es l from fun hc => by have := hc.three; omega)
      have h3I : ((l.length : Int) < 3) := by omega
      clear HR h hx hxs h3
      go_enter Tryd.func29, Tryd.ntmps29
      go_wp2_with fail
      refine (unhide HR2).mono ?_
      rintro e w1 ⟨rfl, k1⟩
      go_wp2
      go_ret
      exact ⟨false, rfl, by simp; exact unhide HN, KB.trans k1⟩
    · have h3I : ¬ ((l.length : Int) < 3) := by omega
      obtain ⟨B0, B1⟩ := box2 (Kept.refl [] (w.alloc (.cells #[.int .i64 n, .slice ao es.length cap] 24))) (by simp)
      have HL := hide (show ∀ W, Kept [] (w.alloc (.cells #[.int .i64 n, .slice ao es.length cap] 24)) W → W.cell? ⟨w.heap.size, 0, none⟩ = some (.int .i64 n) ∧ W.cell? ⟨w.heap.size, 1, none⟩ = some (.slice ao es.length cap) from fun W k => ⟨kept_cell B0 k, kept_cell B1 k⟩)
      have HKB := hide KB
      have HV := hide (fun W (k : Kept [] w W) => h.kept k)
      have HX := hide (fun W (k : Kept [] w W) => hx.kept k)
      have hxc : l.length ≤ xc := by obtain ⟨_, _, e, hc, _⟩ := hx; simp at e; rw [e.2]; exact hc
      clear HR h hx KB hr B0 B1
      obtain ⟨xg, xf, rfl, _⟩ := hxs (by omega)
      clear hxs
      go_enter Tryd.func29, Tryd.ntmps29
      go_wp2_with fail
      refine (unhide HR2).mono ?_
      rintro e w1 ⟨rfl, k1⟩
      have HK1 := hide k1
      clear k1
      go_wp2
      go_loopw [5] (fun ii wr => ∃ k : Nat, k ≤ l.length ∧ ii = .int .i64 k ∧ Hid (Kept [] (w.alloc (.cells #[.int .i64 n, .slice ao es.length cap] 24)) wr ∧ CycTo es l k)) (fun ii _ => l.length - (intOf ii).toNat)
      case atStart => exact ⟨0, Nat.zero_le _, rfl, unhide HK1, fun j hj => by omega⟩
      case round =>
        obtain ⟨k, hk, rfl, hh⟩ := hrel
        by_cases hlt : k < l.length
        · have hX := unhide HX _ ((unhide HKB).trans (unhide hh).1)
          obtain ⟨xo2, xc2, hv2, _, hin2⟩ := hX.shape
          obtain ⟨xg2, xf2, he2, hcell⟩ := hin2 (by omega)
          obtain ⟨rfl, rfl⟩ : xg2 = xg ∧ xf2 = xf := by simp at hv2; rw [he2] at hv2; simp at hv2; exact ⟨hv2.1.1.symm, hv2.1.2.symm⟩
          obtain ⟨p, hp⟩ : ∃ p, p = (k + 1) % l.length := ⟨_, rfl⟩
          have hpl : p < l.length := by rw [hp]; exact Nat.mod_lt _ (by omega)
          have d0 := hcell k hlt
          have d1 := hcell p hpl
          obtain ⟨ga, gb⟩ := unhide HL _ (unhide hh).1
          have HSUC := hide (fun h1 h2 => (unhide hh).2.succ (k := k) h1 (by rw [← hp]; exact h2))
          have HNO := hide (show ∀ c : IsCyc es l, l.getD k 0 ∉ l.take k ∧ Adj es (l.getD k 0) (l.getD p 0) from fun c => by rw [hp]; exact c.to k hlt)
          have HI := hide (fun W (k' : Kept [] wr W) => in_any ((hX.kept k').take (k := k) (by omega)) (l.getD k 0))
          have HH := hide (fun W (k' : Kept [] wr W) => rhas_any (n := n) (unhide HV _ (((unhide HKB).trans (unhide hh).1).trans k')) (l.getD k 0) (l.getD p 0))
          have HAD := hide (has_adj (unhide HRT) (l.getD k 0) (l.getD p 0))
          have t0 : (0 : Int) ≤ (k : Int) := by omega
          have t1 : (k : Int) < (l.length : Int) := by omega
          have t2 : (k : Int) ≤ (l.length : Int) := by omega
          have t2' : (k : Int) ≤ (xc : Int) := by omega
          have t3 : (0 : Int) ≤ (p : Int) := by omega
          have t4 : (p : Int) < (l.length : Int) := by omega
          have hwk : IntKind.i64.wrap ((k : Int) + 1) = (k : Int) + 1 := by rw [IntWalk.i64_left, IntWalk.wrap64_in _ (by omega)]
          have hmod : ((k : Int) + 1).tmod (l.length : Int) = (p : Int) := by rw [hp, Int.tmod_eq_emod_of_nonneg (by omega), Int.natCast_emod, Int.natCast_add]; rfl
          have hwp : IntKind.i64.wrap (p : Int) = (p : Int) := by rw [IntWalk.i64_left, IntWalk.wrap64_in _ (by omega)]
          have hnz : ((l.length : Int) == 0) = false := by rw [beq_eq_false_iff_ne]; omega
          have hnz2 : ¬ (l.length : Int) = 0 := by omega
          have hnz3 : ¬ l.length = 0 := by omega
          clear hv2 he2 hin2 hcell hX hp
          cases hm : decide (l.getD k 0 ∈ l.take k)
          · have hnm : l.getD k 0 ∉ l.take k := by simpa using hm
            have HI2 := hide (fun W k' => hm ▸ unhide HI W k')
            cases ha : decide (0 ≤ indexI n es (l.getD k 0) (l.getD p 0))
            · have HH2 := hide (fun W k' => ha ▸ unhide HH W k')
              have HFIN := hide (show ¬ IsCyc es l from fun c => by
                have := (unhide HAD).2 (unhide HNO c).2
                rw [ha] at this; cases this)
              clear HI HH hm hnm ha
              generalize l.getD k 0 = x at *
              generalize l.getD p 0 = y at *
              go_wp2_with fail
              go_region_held3 (fun W => W.cell? ⟨w.heap.size, 0, none⟩ = some (.int .i64 n) ∧ W.cell? ⟨w.heap.size, 1, none⟩ = some (.slice ao es.length cap) ∧ W.cell? ⟨xg2, xf2 + k, none⟩ = some (.int .i64 x) ∧ W.cell? ⟨xg2, xf2 + p, none⟩ = some (.int .i64 y)) (first | exact ⟨kept_cell ga K2, kept_cell gb K2, kept_cell d0 K2, kept_cell d1 K2⟩ | go_keep)
                (first
                | (go_at_call 32; refine (unhide HI2 _ (by first | exact (Kept.refl [] _).drew | exact Kept.refl [] _)).mono ?_; rintro e y1 ⟨rfl, rfl⟩)
                | (go_at_call 48; refine (unhide HH2 _ (by first | exact (Kept.refl [] _).drew | exact Kept.refl [] _)).mono ?_; rintro e y2 ⟨rfl, k2⟩; have K2 : Kept [] wr y2 := (by refine Kept.trans ?_ k2; first | exact (Kept.refl [] _).drew | exact Kept.refl [] _)))
              all_goals have HKF := hide ((unhide HKB).trans ((unhide hh).1.trans K2))
              all_goals go_wp2
              all_goals go_ret
              all_goals exact ⟨false, rfl, by simp; exact unhide HFIN, unhide HKF⟩
            · have HH2 := hide (fun W k' => ha ▸ unhide HH W k')
              have HNX := hide (unhide HSUC hnm ((unhide HAD).1 ha))
              clear HI HH hm hnm ha
              generalize l.getD k 0 = x at *
              generalize l.getD p 0 = y at *
              go_wp2_with fail
              go_region_held3 (fun W => W.cell? ⟨w.heap.size, 0, none⟩ = some (.int .i64 n) ∧ W.cell? ⟨w.heap.size, 1, none⟩ = some (.slice ao es.length cap) ∧ W.cell? ⟨xg2, xf2 + k, none⟩ = some (.int .i64 x) ∧ W.cell? ⟨xg2, xf2 + p, none⟩ = some (.int .i64 y)) (first | exact ⟨kept_cell ga K2, kept_cell gb K2, kept_cell d0 K2, kept_cell d1 K2⟩ | go_keep)
                (first
                | (go_at_call 32; refine (unhide HI2 _ (by first | exact (Kept.refl [] _).drew | exact Kept.refl [] _)).mono ?_; rintro e y1 ⟨rfl, rfl⟩)
                | (go_at_call 48; refine (unhide HH2 _ (by first | exact (Kept.refl [] _).drew | exact Kept.refl [] _)).mono ?_; rintro e y2 ⟨rfl, k2⟩; have K2 : Kept [] wr y2 := (by refine Kept.trans ?_ k2; first | exact (Kept.refl [] _).drew | exact Kept.refl [] _)))
              all_goals have HKF := hide ((unhide hh).1.trans K2)
              all_goals go_wp2
              all_goals go_roundw
              case rel => exact ⟨k + 1, by omega, by go_num, unhide HKF, unhide HNX⟩
              case measure => simp [intOf]; omega
          · have HI2 := hide (fun W k' => hm ▸ unhide HI W k')
            have HFIN := hide (show ¬ IsCyc es l from fun c => (unhide HNO c).1 (by simpa using hm))
            clear HI HH hm
            generalize l.getD k 0 = x at *
            generalize l.getD p 0 = y at *
            go_wp2_with fail
            go_quiet ((go_at_call 32; exact Calls.quiet_of ((unhide HI2 _ (by first | exact (Kept.refl [] _).drewN _ | exact (Kept.refl [] _).drew | exact Kept.refl [] _)).mono fun e w' h => ⟨h.1, 0, h.2⟩)))
            have HKF := hide ((unhide HKB).trans ((unhide hh).1.drewN nq))
            go_wp2
            go_ret
            exact ⟨false, rfl, by simp; exact unhide HFIN, unhide HKF⟩
        · have e : k = l.length := by omega
          have HC := hide (show IsCyc es l from (by have := (unhide hh).2; rw [e] at this; exact this.done (by omega)))
          have HKF := hide ((unhide HKB).trans (unhide hh).1)
          clear e
          go_wp2
          go_ret
          exact ⟨true, rfl, by simp; exact unhide HC, unhide HKF⟩
end Go.Proofs.YtmpcnepiogjokaaDoor

namespace Go.Proofs.YtmpcnepiogjokaaDoor
open Go.RowKit

set_option maxRecDepth 20000 in
set_option maxHeartbeats 4000000 in
theorem distinct_any {w : World} {N : Nat} {u : Value} {l : List Int} (hN : N ≤ 4096) (hx : IntsAt w u l) (hll : l.length ≤ 1000000) (hT : Tab w) :
    Calls Tryd.prog 45 #[.int .i64 N, u] w fun e w' => ∃ c, e = .returned (.bool c) ∧ (c = true ↔ (∀ x ∈ l, 0 ≤ x ∧ x < (N : Int)) ∧ l.Nodup) ∧ Kept [] w w' := by
  obtain ⟨xo, xc, rfl, _⟩ := hx.shape
  have HNW := new_any w (N : Int) hT
  rw [show newRoom (N : Int) = N by unfold newRoom; omega] at HNW
  have HN2 := hide HNW
  have HX := hide (fun W (k : Kept [] w W) => hx.kept k)
  clear hx HNW hT
  go_enter Tryd.func45, Tryd.ntmps45
  go_wp2_with fail
  refine (unhide HN2).mono ?_
  rintro e w1 ⟨s, b, rfl, hs, k1, _, hb⟩
  have HS := hide hs
  have HK1 := hide k1
  clear hs k1
  go_wp2
  go_loopw [12] (fun kk wr => ∃ (k : Nat) (ws : Nat → Nat), k ≤ l.length ∧ kk = .int .i64 k ∧ Hid (SetAt wr s b N ((N + 63) / 64) ((N + 63) / 64) ws ∧ Kept [] w wr ∧ (∀ x, Has ws x ↔ x ∈ l.take k) ∧ (l.take k).Nodup)) (fun kk _ => l.length - (intOf kk).toNat)
  case atStart => exact ⟨0, _, Nat.zero_le _, rfl, unhide HS, unhide HK1, fun x => by unfold Has hasI; rw [mem_zero]; simp, by simp⟩
  case round =>
    obtain ⟨k, ws, hk, rfl, hh⟩ := hrel
    by_cases hlt : k < l.length
    · obtain ⟨xo2, xc2, hv2, _, hin2⟩ := (unhide HX _ (unhide hh).2.1).shape
      obtain ⟨xg, xf, he2, hcell⟩ := hin2 (by omega)
      have hao : xo = some ⟨xg, xf, none⟩ := by simp at hv2; rw [hv2.1, he2]
      subst hao
      have d0 := hcell k hlt
      have HTK := hide (show l.take (k + 1) = l.take k ++ [l.getD k 0] by rw [List.take_succ_eq_append_getElem hlt, getD_elem hlt])
      have HMM := hide (getD_mem hlt)
      have HPT := bput_any (unhide hh).1 (l.getD k 0)
      have HND := hide (show l.getD k 0 ∈ l.take k → ¬ l.Nodup from fun hm hn => by
        have := not_in_take hn hlt
        exact this hm)
      have t0 : (0 : Int) ≤ (k : Int) := by omega
      have t1 : (k : Int) < (l.length : Int) := by omega
      clear hv2 he2 hin2 hcell
      generalize l.getD k 0 = x at *
      cases hp : putAns N ws x
      · rw [hp] at HPT
        have HPT2 := hide HPT
        have HFIN := hide (show ¬ ((∀ x ∈ l, 0 ≤ x ∧ x < (N : Int)) ∧ l.Nodup) from fun hc => by
          have hb2 := hc.1 x (unhide HMM)
          unfold putAns at hp
          simp [hb2.1, hb2.2] at hp
          have : Has ws x := by unfold Has hasI; simp [hb2.1, hp]
          exact unhide HND (((unhide hh).2.2.1 x).1 this) hc.2)
        clear HPT hp
        go_wp2_with fail
        refine (unhide HPT2).mono ?_
        rintro e w2 ⟨rfl, _, k2⟩
        have HKF := hide ((unhide hh).2.1.trans' k2 (fun y hy => by simp at hy; subst hy; exact Or.inr hb))
        go_wp2
        go_ret
        exact ⟨false, rfl, by simp; exact fun h1 h2 => unhide HFIN ⟨h1, h2⟩, unhide HKF⟩
      · rw [hp] at HPT
        have HPT2 := hide HPT
        have hp2 : 0 ≤ x ∧ x < (N : Int) ∧ Bm.mem ws x.toNat = false := by unfold putAns at hp; simp at hp; exact ⟨hp.1.1, hp.1.2, hp.2⟩
        have HHS := hide (show ∀ y, Has (putS N ws x) y ↔ y ∈ l.take (k + 1) from fun y => by
          rw [has_put, (unhide hh).2.2.1 y, unhide HTK]
          simp
          constructor
          · rintro (h | h)
            · exact Or.inl h
            · exact Or.inr h.1
          · rintro (h | h)
            · exact Or.inl h
            · exact Or.inr ⟨h, by omega, by omega⟩)
        have HNU := hide (show (l.take (k + 1)).Nodup by
          rw [unhide HTK, List.nodup_append]
          refine ⟨(unhide hh).2.2.2, by simp, fun a hm c hc => ?_⟩
          simp at hc
          subst hc
          intro e
          subst e
          have := ((unhide hh).2.2.1 a).2 hm
          unfold Has hasI at this
          rw [hp2.2.2] at this
          simp at this)
        clear HPT hp hp2
        go_wp2_with fail
        refine (unhide HPT2).mono ?_
        rintro e w2 ⟨rfl, hs2, k2⟩
        have HKF := hide (And.intro hs2 ((unhide hh).2.1.trans' k2 (fun y hy => by simp at hy; subst hy; exact Or.inr hb)))
        clear hs2 k2 d0
        go_wp2
        go_roundw
        case rel => exact ⟨k + 1, _, by omega, by go_num, (unhide HKF).1, (unhide HKF).2, unhide HHS, unhide HNU⟩
        case measure => simp [intOf]; omega
    · have HFIN := hide (show (∀ x ∈ l, 0 ≤ x ∧ x < (N : Int)) ∧ l.Nodup by
        have e : l.take k = l := List.take_of_length_le (by omega)
        have h1 := (unhide hh).2.2
        rw [e] at h1
        exact ⟨fun x hx => ((h1.1 x).2 hx).bound (unhide hh).1, h1.2⟩)
      have HKF := hide (unhide hh).2.1
      go_wp2
      go_ret
      exact ⟨true, rfl, by simp; exact unhide HFIN, unhide HKF⟩
/-- Who stands ahead, all round. -/
def prv (l : List Int) (j : Nat) : Int := if j = 0 then l.getD (l.length - 1) 0 else l.getD (j - 1) 0
theorem prv_succ (l : List Int) (j : Nat) : prv l (j + 1) = l.getD j 0 := by unfold prv; simp
theorem prv_mem {l : List Int} {j : Nat} (h : j ≤ l.length) (h0 : 0 < l.length) : prv l j ∈ l := by
  unfold prv
  by_cases e : j = 0
  · rw [if_pos e]; exact getD_mem (by omega)
  · rw [if_neg e]; exact getD_mem (by omega)
theorem cyc_prv {es : List E} {l : List Int} (h3 : 3 ≤ l.length) (hn : l.Nodup) (h : ∀ j, j < l.length → Adj es (prv l j) (l.getD j 0)) : IsCyc es l :=
  ⟨h3, hn, fun i hi => by have := h (i + 1) hi; rwa [prv_succ] at this, by have := h 0 (by omega); unfold prv at this; rwa [if_pos rfl] at this⟩
theorem IsCyc.prv {es : List E} {l : List Int} (h : IsCyc es l) {j : Nat} (hj : j < l.length) : Adj es (prv l j) (l.getD j 0) := by
  cases j with
  | zero => unfold Go.Proofs.YtmpcnepiogjokaaDoor.prv; rw [if_pos rfl]; exact h.last
  | succ j => rw [prv_succ]; exact h.next j hj
theorem IsCyc.bound {n : Int} {es : List E} {l : List Int} (h : IsCyc es l) (hok : ∀ e ∈ es, okE n e = true) : ∀ x ∈ l, 0 ≤ x ∧ x < n := fun x hx => by
  obtain ⟨j, hj, e⟩ := mem_getD hx
  have := (adj_in hok (h.prv hj)).2
  rwa [e] at this

set_option maxRecDepth 20000 in
set_option maxHeartbeats 8000000 in
theorem sis_any {w : World} {n : Int} {v u : Value} {es : List E} {l : List Int} (h : EdgesAt w v es) (hx : IntsAt w u l) (hll : l.length ≤ 1000000) (hT : Tab w) :
    Calls Tryd.prog 28 #[gv n v, u] w fun e w' => ∃ c, e = .returned (.bool c) ∧ (c = true ↔ rightB n es = true ∧ IsCyc es l) ∧ Kept [] w w' := by
  obtain ⟨ao, cap, rfl, _⟩ := h.shape
  obtain ⟨xo, xc, rfl, hxm, hxs⟩ := hx.shape
  have KB := (Kept.refl [] w).alloc (.cells #[.int .i64 n, .slice ao es.length cap] 24)
  by_cases h3 : l.length < 3
  · have HN := hide (show ¬ IsCyc es l from fun hc => by have := hc.three; omega)
    have h3I : ((l.length : Int) < 3) := by omega
    clear h hx hxs h3
    go_enter Tryd.func28, Tryd.ntmps28
    go_wp2
    go_ret
    exact ⟨false, rfl, by simp; exact fun _ => unhide HN, KB⟩
  · have h3I : ¬ ((l.length : Int) < 3) := by omega
    have HR := right_any (n := n) (h.kept KB)
    cases hr : rightB n es
    · rw [hr] at HR
      have HR2 := hide HR
      clear HR h hx hxs
      go_enter Tryd.func28, Tryd.ntmps28
      go_wp2_with fail
      refine (unhide HR2).mono ?_
      rintro e w1 ⟨rfl, k1⟩
      go_wp2
      go_ret
      exact ⟨false, rfl, by simp, KB.trans k1⟩
    · rw [hr] at HR
      obtain ⟨N, rfl⟩ := Int.eq_ofNat_of_zero_le (right_rise hr).1
      have HR2 := hide HR
      have HRT := hide hr
      have hN := (right_rise hr).2.1
      have hel := (right_rise hr).2.2.1
      obtain ⟨B0, B1⟩ := box2 (Kept.refl [] (w.alloc (.cells #[.int .i64 (N : Int), .slice ao es.length cap] 24))) (by simp)
      have HL := hide (show ∀ W, Kept [] (w.alloc (.cells #[.int .i64 (N : Int), .slice ao es.length cap] 24)) W → W.cell? ⟨w.heap.size, 0, none⟩ = some (.int .i64 (N : Int)) ∧ W.cell? ⟨w.heap.size, 1, none⟩ = some (.slice ao es.length cap) from fun W k => ⟨kept_cell B0 k, kept_cell B1 k⟩)
      have HKB := hide KB
      have HV := hide (fun W (k : Kept [] w W) => h.kept k)
      have HX := hide (fun W (k : Kept [] w W) => hx.kept k)
      have HTT := hide (fun W (k : Kept [] w W) => hT.kept k (by simp))
      clear HR h hx KB hr B0 B1 hT
      obtain ⟨xg, xf, rfl, _⟩ := hxs (by omega)
      clear hxs
      go_enter Tryd.func28, Tryd.ntmps28
      go_wp2_with fail
      refine (unhide HR2).mono ?_
      rintro e w1 ⟨rfl, k1⟩
      have HK1 := hide ((unhide HKB).trans k1)
      have HDI := hide (distinct_any (N := N) (by omega) (unhide HX _ (unhide HK1)) hll (unhide HTT _ (unhide HK1)))
      obtain ⟨c0, c1⟩ := unhide HL _ k1
      have HK1' := hide k1
      clear k1
      go_wp2_with fail
      refine (unhide HDI).mono ?_
      rintro e w2 ⟨c, rfl, hc, k2⟩
      have HC := hide hc
      have HK2' := hide ((unhide HK1').trans k2)
      have HK2 := hide ((unhide HK1).trans k2)
      clear c0 c1
      obtain ⟨c0, c1⟩ := unhide HL _ (unhide HK2')
      clear hc k2
      cases c
      · have HFIN := hide (show ¬ IsCyc es l from fun hcy => by
          have := (unhide HC).2 ⟨hcy.bound (right_rise (unhide HRT)).2.2.2.2, hcy.nodup⟩
          cases this)
        go_wp2
        go_ret
        exact ⟨false, rfl, by simp; exact unhide HFIN, unhide HK2⟩
      · have HCC := hide ((unhide HC).1 rfl)
        have HNO := hide (nearOf_any (unhide HV _ (unhide HK2)) (unhide HRT))
        go_wp2_with fail
        refine (unhide HNO).mono ?_
        rintro e w3 ⟨gn, rfl, hn, k3⟩
        have HNN := hide (fun W (k : Kept [] w3 W) => hn.kept k (by simp))
        have HK3 := hide ((unhide HK2).trans k3)
        have hX := unhide HX _ (unhide HK3)
        obtain ⟨xo2, xc2, hv2, _, hin2⟩ := hX.shape
        obtain ⟨xg2, xf2, he2, hcell⟩ := hin2 (by omega)
        obtain ⟨rfl, rfl⟩ : xg2 = xg ∧ xf2 = xf := by simp at hv2; rw [he2] at hv2; simp at hv2; exact ⟨hv2.1.1.symm, hv2.1.2.symm⟩
        have HCL := hide (fun W (k : Kept [] w3 W) j (hj : j < l.length) => kept_cell (hcell j hj) k)
        have dl := hcell (l.length - 1) (by omega)
        have hwl : IntKind.i64.wrap ((l.length : Int) - 1) = (l.length : Int) - 1 := by rw [IntWalk.i64_left, IntWalk.wrap64_in _ (by omega)]
        have htl : ((l.length : Int) - 1).toNat = l.length - 1 := by omega
        have z0 : (0 : Int) ≤ (l.length : Int) - 1 := by omega
        have z1 : (l.length : Int) - 1 < (l.length : Int) := by omega
        have HLA := hide (show l.getD (l.length - 1) 0 = prv l 0 by unfold prv; rw [if_pos rfl])
        clear hn k3 hX hv2 he2 hin2 hcell c0 c1
        obtain ⟨la, hla⟩ : ∃ la, la = l.getD (l.length - 1) 0 := ⟨_, rfl⟩
        rw [← hla] at dl HLA
        clear hla
        go_wp2
        go_loopw [6, 36] (fun lav kk wr => ∃ k : Nat, k ≤ l.length ∧ kk = .int .i64 k ∧ lav = .int .i64 (prv l k) ∧ Hid (Kept [] w3 wr ∧ ∀ j, j < k → Adj es (prv l j) (l.getD j 0))) (fun _ kk _ => l.length - (intOf kk).toNat)
        case atStart => exact ⟨0, Nat.zero_le _, rfl, by rw [unhide HLA], Kept.refl [] w3, fun j hj => by omega⟩
        case round =>
          obtain ⟨k, hk, rfl, rfl, hh⟩ := hrel
          by_cases hlt : k < l.length
          · have d0 := unhide HCL _ (unhide hh).1 k hlt
            have hpm := (unhide HCC).1 _ (prv_mem (l := l) (j := k) (by omega) (by omega))
            obtain ⟨pn, hpn⟩ := Int.eq_ofNat_of_zero_le hpm.1
            have hpN : pn < N := by omega
            obtain ⟨nv, n1, n2, _⟩ := (unhide HNN _ (unhide hh).1).row pn hpN
            have hadj : l.getD k 0 ∈ nearL (pn : Int) es ↔ Adj es (pn : Int) (l.getD k 0) := adj_near (right_rise (unhide HRT)).2.2.2.2
            have HSE := hide (searchI_any n2 (nearL_rises (right_rise (unhide HRT)).2.2.2.1 (right_rise (unhide HRT)).2.2.2.2) (by have := nearL_len (pn : Int) es; omega) (l.getD k 0))
            have HSC := hide (prv_succ l k)
            have HAD := hide (show decide (l.getD k 0 ∈ nearL (pn : Int) es) = true ↔ Adj es (prv l k) (l.getD k 0) by rw [hpn]; simpa using hadj)
            obtain ⟨no, nc, rfl, _⟩ := n2.shape
            have HUP := hide (show Adj es (prv l k) (l.getD k 0) → ∀ j, j < k + 1 → Adj es (prv l j) (l.getD j 0) from fun ha j hj => by
              by_cases e : j = k
              · subst e; exact ha
              · exact (unhide hh).2 j (by omega))
            have HNC := hide (show ∀ c : IsCyc es l, Adj es (prv l k) (l.getD k 0) from fun c => c.prv hlt)
            have t0 : (0 : Int) ≤ (k : Int) := by omega
            have t1 : (k : Int) < (l.length : Int) := by omega
            have p0 : (0 : Int) ≤ (pn : Int) := by omega
            have p1 : (pn : Int) < (N : Int) := by omega
            rw [hpn]
            clear hpm hpn hadj n2
            generalize (nearL (pn : Int) es).length = nl at *
            cases hd : decide (l.getD k 0 ∈ nearL (pn : Int) es)
            · rw [hd] at HSE HAD
              have HFIN := hide (show ¬ IsCyc es l from fun c => by have := (unhide HAD).2 (unhide HNC c); cases this)
              clear hd
              generalize l.getD k 0 = x at *
              go_wp2_with fail
              refine (unhide HSE).mono ?_
              rintro e w4 ⟨q4, rfl, m4, rfl⟩
              have HKF := hide ((unhide HK3).trans ((unhide hh).1.drewN m4))
              go_wp2
              go_ret
              exact ⟨false, rfl, by simp; exact unhide HFIN, unhide HKF⟩
            · rw [hd] at HSE HAD
              have HNX := hide (unhide HUP ((unhide HAD).1 rfl))
              clear hd
              generalize hxx : l.getD k 0 = x at *
              go_wp2_with fail
              refine (unhide HSE).mono ?_
              rintro e w4 ⟨q4, rfl, m4, rfl⟩
              have HKF := hide ((unhide hh).1.drewN m4)
              clear d0 n1
              go_wp2
              go_roundw
              case rel => exact ⟨k + 1, by omega, by go_num, by rw [unhide HSC], unhide HKF, unhide HNX⟩
              case measure => simp [intOf]; omega
          · have e : k = l.length := by omega
            have HCY := hide (show IsCyc es l from cyc_prv (by omega) (unhide HCC).2 (by rw [← e]; exact (unhide hh).2))
            have HKF := hide ((unhide HK3).trans (unhide hh).1)
            clear e
            generalize prv l k = pp at *
            go_wp2
            go_ret
            exact ⟨true, rfl, by simp; exact unhide HCY, unhide HKF⟩
end Go.Proofs.YtmpcnepiogjokaaDoor

namespace Go.Proofs.YtmpcnepiogjokaaDoor
open Go.RowKit

/-- The next one, all round. -/
def nx (n k : Nat) : Nat := if k + 1 = n then 0 else k + 1
theorem nx_mod {n k : Nat} (h : k < n) : (k + 1) % n = nx n k := by
  unfold nx
  by_cases e : k + 1 = n
  · rw [if_pos e, e, Nat.mod_self]
  · rw [if_neg e, Nat.mod_eq_of_lt (by omega)]
theorem nx_lt {n k : Nat} (h : k < n) : nx n k < n := by unfold nx; split <;> omega
/-- The first k edges of a ring of n. -/
def RingTo (n k : Nat) (es : List E) : Prop := ∀ e, e ∈ es ↔ ∃ u : Nat, u < k ∧ e = trn (u : Int) ((nx n u : Nat) : Int)
theorem RingTo.start (n : Nat) : RingTo n 0 [] := fun e => by simp
theorem trn_eq {a b c d : Int} (h : trn a b = trn c d) : (a = c ∧ b = d) ∨ (a = d ∧ b = c) := by
  unfold trn at h
  simp only [Prod.mk.injEq] at h
  omega
theorem RingTo.fresh {n k : Nat} {es : List E} (h : RingTo n k es) (hn : 3 ≤ n) (hk : k < n) : trn (k : Int) ((nx n k : Nat) : Int) ∉ es := fun hm => by
  obtain ⟨u, hu, e⟩ := (h _).1 hm
  rcases trn_eq e with ⟨h1, _⟩ | ⟨h1, h2⟩
  · omega
  · unfold nx at h1 h2
    split at h1 <;> split at h2 <;> omega
theorem RingTo.succ {n k : Nat} {es : List E} (h : RingTo n k es) : RingTo n (k + 1) (insE es (trn (k : Int) ((nx n k : Nat) : Int))) := fun e => by
  rw [insE_mem, h e]
  constructor
  · rintro (rfl | ⟨u, hu, rfl⟩)
    · exact ⟨k, by omega, rfl⟩
    · exact ⟨u, by omega, rfl⟩
  · rintro ⟨u, hu, rfl⟩
    by_cases e : u = k
    · subst e; exact Or.inl rfl
    · exact Or.inr ⟨u, by omega, rfl⟩
theorem RingTo.err {n k N : Nat} {es : List E} (h : RingTo n k es) (hn : 3 ≤ n) (hk : k < n) (hN : n ≤ N) (hr : rightB (N : Int) es = true) (hl : es.length < 65536) : addErr (N : Int) es (k : Int) ((nx n k : Nat) : Int) = 0 := by
  have h1 := nx_lt hk
  have h2 : (k : Int) ≠ ((nx n k : Nat) : Int) := by unfold nx; split <;> omega
  unfold addErr
  rw [hr, if_neg (by simp), if_neg (by omega), if_neg h2, if_neg (h.fresh hn hk), if_neg (by omega)]
theorem RingTo.adj {n : Nat} {es : List E} (h : RingTo n n es) {x y : Int} : Adj es x y ↔ ∃ u : Nat, u < n ∧ ((x = (u : Int) ∧ y = ((nx n u : Nat) : Int)) ∨ (y = (u : Int) ∧ x = ((nx n u : Nat) : Int))) := by
  have key : ∀ a b : Int, (a, b) ∈ es → ∃ u : Nat, u < n ∧ ((a = (u : Int) ∧ b = ((nx n u : Nat) : Int)) ∨ (b = (u : Int) ∧ a = ((nx n u : Nat) : Int))) := fun a b hm => by
    obtain ⟨u, hu, e⟩ := (h _).1 hm
    refine ⟨u, hu, ?_⟩
    unfold trn at e
    simp only [Prod.mk.injEq] at e
    omega
  constructor
  · rintro (hm | hm)
    · exact key x y hm
    · obtain ⟨u, hu, hc⟩ := key y x hm
      exact ⟨u, hu, hc.symm⟩
  · rintro ⟨u, hu, hc⟩
    have hm := (h (trn (u : Int) ((nx n u : Nat) : Int))).2 ⟨u, hu, rfl⟩
    unfold Adj
    unfold trn at hm
    by_cases c : (u : Int) ≤ ((nx n u : Nat) : Int)
    · rw [show min (u : Int) ((nx n u : Nat) : Int) = u by omega, show max (u : Int) ((nx n u : Nat) : Int) = (nx n u : Nat) by omega] at hm
      rcases hc with ⟨rfl, rfl⟩ | ⟨rfl, rfl⟩
      · exact Or.inl hm
      · exact Or.inr hm
    · rw [show min (u : Int) ((nx n u : Nat) : Int) = (nx n u : Nat) by omega, show max (u : Int) ((nx n u : Nat) : Int) = u by omega] at hm
      rcases hc with ⟨rfl, rfl⟩ | ⟨rfl, rfl⟩
      · exact Or.inr hm
      · exact Or.inl hm
/-- An even ring has two sides. -/
theorem RingTo.even {n : Nat} {es : List E} (h : RingTo n n es) (he : n % 2 = 0) : Proper es (fun x => decide (x % 2 = 1)) := fun x y ha => by
  obtain ⟨u, hu, hc⟩ := h.adj.1 ha
  have key : ((u : Int) % 2 = 1) ↔ ¬ ((((nx n u : Nat) : Int)) % 2 = 1) := by unfold nx; split <;> omega
  simp only [ne_eq, decide_eq_decide]
  rcases hc with ⟨rfl, rfl⟩ | ⟨rfl, rfl⟩
  · rw [key]; intro hh; have := Classical.em ((((nx n u : Nat) : Int)) % 2 = 1); rcases this with h1 | h1
    · exact (hh.2 h1) h1
    · exact h1 (hh.1 h1)
  · rw [key]; intro hh; have := Classical.em ((((nx n u : Nat) : Int)) % 2 = 1); rcases this with h1 | h1
    · exact (hh.1 h1) h1
    · exact h1 (hh.2 h1)
/-- A ring is a cycle. -/
theorem RingTo.cyc {n : Nat} {es : List E} (h : RingTo n n es) (hn : 3 ≤ n) : IsCyc es ((List.range n).map Int.ofNat) := by
  have at' : ∀ i, i < n → ((List.range n).map Int.ofNat).getD i 0 = (i : Int) := fun i hi => by simp [List.getD, hi]
  refine ⟨by simpa using hn, ?_, fun i hi => ?_, ?_⟩
  · unfold List.Nodup
    rw [List.pairwise_map]
    exact List.pairwise_lt_range.imp (fun {a b} hab e => by simp at e; omega)
  · simp at hi
    rw [at' i (by omega), at' (i + 1) hi]
    exact h.adj.2 ⟨i, by omega, Or.inl ⟨rfl, by unfold nx; rw [if_neg (by omega)]⟩⟩
  · rw [List.length_map, List.length_range, at' (n - 1) (by omega), at' 0 (by omega)]
    exact h.adj.2 ⟨n - 1, by omega, Or.inl ⟨rfl, by unfold nx; rw [if_pos (by omega)]⟩⟩
/-- There is no other cycle. -/
theorem RingTo.len {n : Nat} {es : List E} (h : RingTo n n es) (hn : 3 ≤ n) {l : List Int} (hc : IsCyc es l) : l.length = n := by
  have h3 := hc.three
  have hb : ∀ x ∈ l, 0 ≤ x ∧ x < (n : Int) := fun x hx => by
    obtain ⟨j, hj, e⟩ := mem_getD hx
    have ha := hc.prv hj
    rw [e] at ha
    obtain ⟨u, hu, hcase⟩ := h.adj.1 ha
    have := nx_lt hu
    rcases hcase with ⟨_, rfl⟩ | ⟨rfl, _⟩ <;> omega
  have hle := len_bound (N := n) hc.nodup hb
  have hnx : ∀ x : Nat, x < n → (x : Int) ∈ l → ((nx n x : Nat) : Int) ∈ l := fun x hx hm => by
    obtain ⟨j, hj, e⟩ := mem_getD hm
    have a1 := hc.prv hj
    rw [e] at a1
    have hp : prv l j ∈ l := prv_mem (by omega) (by omega)
    obtain ⟨q, hq, a2, hqne⟩ : ∃ q, q ∈ l ∧ Adj es (x : Int) q ∧ q ≠ prv l j := by
      by_cases c : j + 1 < l.length
      · refine ⟨l.getD (j + 1) 0, getD_mem c, by have := hc.next j c; rwa [e] at this, fun eq => ?_⟩
        unfold prv at eq
        by_cases c0 : j = 0
        · rw [if_pos c0, getD_elem c, getD_elem (show l.length - 1 < l.length by omega)] at eq
          have := (List.getElem_inj hc.nodup).1 eq; omega
        · rw [if_neg c0, getD_elem c, getD_elem (show j - 1 < l.length by omega)] at eq
          have := (List.getElem_inj hc.nodup).1 eq; omega
      · have ej : j = l.length - 1 := by omega
        refine ⟨l.getD 0 0, getD_mem (by omega), by have := hc.last; rwa [← ej, e] at this, fun eq => ?_⟩
        unfold prv at eq
        rw [if_neg (by omega), getD_elem (show 0 < l.length by omega), getD_elem (show j - 1 < l.length by omega)] at eq
        have := (List.getElem_inj hc.nodup).1 eq; omega
    obtain ⟨u, hu, c1⟩ := h.adj.1 a1
    obtain ⟨v, hv, c2⟩ := h.adj.1 a2
    rcases c1 with ⟨p1, p2⟩ | ⟨p1, p2⟩
    · rcases c2 with ⟨q1, q2⟩ | ⟨q1, q2⟩
      · have : v = x := by omega
        subst this; rw [← q2]; exact hq
      · exfalso
        have : u = v := by unfold nx at p2 q2; split at p2 <;> split at q2 <;> omega
        subst this
        exact hqne (by rw [q1, p1])
    · have : u = x := by omega
      subst this; rw [← p2]; exact hp
  obtain ⟨x0, hx0⟩ := List.exists_mem_of_length_pos (show 0 < l.length by omega)
  obtain ⟨y, rfl⟩ := Int.eq_ofNat_of_zero_le (hb x0 hx0).1
  have hy : y < n := by have := (hb _ hx0).2; omega
  have up : ∀ k : Nat, y + k < n → ((y + k : Nat) : Int) ∈ l := by
    intro k
    induction k with
    | zero => intro _; exact hx0
    | succ k ih =>
      intro hk
      have := hnx (y + k) (by omega) (ih (by omega))
      unfold nx at this
      rwa [if_neg (by omega)] at this
  have hlast := up (n - 1 - y) (by omega)
  rw [show y + (n - 1 - y) = n - 1 by omega] at hlast
  have hz := hnx (n - 1) (by omega) hlast
  unfold nx at hz
  rw [if_pos (by omega)] at hz
  have all : ∀ k : Nat, k < n → ((k : Nat) : Int) ∈ l := by
    intro k
    induction k with
    | zero => intro _; exact hz
    | succ k ih =>
      intro hk
      have := hnx k (by omega) (ih (by omega))
      unfold nx at this
      rwa [if_neg (by omega)] at this
  have hge : ((List.range n).map Int.ofNat).length ≤ l.length := by
    refine List.Nodup.length_le_of_subset ((h.cyc hn).nodup) ?_
    intro z hz
    obtain ⟨k, hk, rfl⟩ := List.mem_map.1 hz
    exact all k (by simpa using hk)
  simp at hge
  omega
end Go.Proofs.YtmpcnepiogjokaaDoor

namespace Go.Proofs.YtmpcnepiogjokaaDoor
open Go.RowKit

def es3 : List E := [(0, 1), (0, 2), (1, 2)]
theorem right3 : rightB 3 es3 = true := by decide +kernel
theorem cyc3 : IsCyc es3 [0, 1, 2] := by
  refine ⟨by simp, by simp, fun i hi => ?_, ?_⟩
  · match i, hi with
    | 0, _ => left; decide
    | 1, _ => left; decide
  · right; decide
theorem cyc3_len {l : List Int} (h : IsCyc es3 l) : l.length = 3 := by
  have h1 := len_bound (N := 3) h.nodup (h.bound (n := 3) (right_rise right3).2.2.2.2)
  have := h.three
  omega
theorem edges3 (w : World) : EdgesAt (w.alloc (.cells #[.int .i64 0, .int .i64 1, .int .i64 0, .int .i64 2, .int .i64 1, .int .i64 2] 43)) (.slice (some ⟨w.heap.size, 0, none⟩) 3 3) es3 := by
  refine ⟨some ⟨w.heap.size, 0, none⟩, 3, rfl, Nat.le_refl _, by unfold maxLen; decide, fun _ => ⟨w.heap.size, 0, rfl, by simp, fun i hi => ?_, fun i hi => ?_⟩⟩
  · rw [cell_of_block (new_block w _)]
    match i, hi with
    | 0, _ => rfl
    | 1, _ => rfl
    | 2, _ => rfl
  · rw [cell_of_block (new_block w _)]
    match i, hi with
    | 0, _ => rfl
    | 1, _ => rfl
    | 2, _ => rfl
theorem ints3 (w : World) : IntsAt (w.alloc (.cells #[.int .i64 0, .int .i64 1, .int .i64 2] 3)) (.slice (some ⟨w.heap.size, 0, none⟩) 3 3) [0, 1, 2] := by
  refine ⟨_, 3, rfl, Nat.le_refl _, by unfold maxLen; decide, fun _ => ⟨w.heap.size, 0, rfl, by simp, fun i hi => ?_⟩⟩
  rw [cell_of_block (new_block w _)]
  match i, hi with
  | 0, _ => rfl
  | 1, _ => rfl
  | 2, _ => rfl

set_option maxRecDepth 20000 in
set_option maxHeartbeats 4000000 in
theorem sawake_any {w : World} (hT : Tab w) : Calls Tryd.prog 25 #[] w fun e w' => e = .returned (.bool true) ∧ Kept [] w w' := by
  have K0 := ((Kept.refl [] w).alloc (.cells #[.int .i64 0, .int .i64 1, .int .i64 0, .int .i64 2, .int .i64 1, .int .i64 2] 43))
  have HE := hide (fun W (k : Kept [] (w.alloc (.cells #[.int .i64 0, .int .i64 1, .int .i64 0, .int .i64 2, .int .i64 1, .int .i64 2] 43)) W) => (edges3 w).kept k)
  have KB := (Kept.refl [] (w.alloc (.cells #[.int .i64 0, .int .i64 1, .int .i64 0, .int .i64 2, .int .i64 1, .int .i64 2] 43))).alloc (.cells #[.int .i64 3, .slice (some ⟨w.heap.size, 0, none⟩) 3 3] 24)
  have HTT := hide (fun W (k : Kept [] w W) => hT.kept k (by simp))
  have HOF := hide (sof_any (n := 3) (unhide HE _ KB) (unhide HTT _ (K0.trans KB)))
  have b := box2 (Kept.refl [] ((w.alloc (.cells #[.int .i64 0, .int .i64 1, .int .i64 0, .int .i64 2, .int .i64 1, .int .i64 2] 43)).alloc (.cells #[.int .i64 3, .slice (some ⟨w.heap.size, 0, none⟩) 3 3] 24))) (by simp)
  rw [World.size_alloc] at b
  have HBX := hide b
  have HK0 := hide K0
  have HKB := hide KB
  clear K0 KB hT b
  go_enter Tryd.func25, Tryd.ntmps25
  go_wp2_with fail
  refine (unhide HOF).mono ?_
  rintro e w1 ⟨s, c, er, rfl, k1, hcase⟩
  have HK1 := hide ((unhide HKB).trans k1)
  have b0 := kept_cell (unhide HBX).1 k1
  have b1 := kept_cell (unhide HBX).2 k1
  rcases hcase with ⟨h1, _⟩ | ⟨_, ⟨S, _, hS⟩, _⟩ | ⟨_, rfl, ⟨l, hl, hc, ho⟩, rfl⟩
  · rw [right3] at h1; cases h1
  · exact (cyc3.odd_no (by simp) (hS.proper (right_rise right3).2.2.2.2)).elim
  · have hl3 := cyc3_len hc
    obtain ⟨lo, lc, rfl, _⟩ := hl.shape
    rw [hl3]
    have KI := (Kept.refl [] w1).alloc (.cells #[.int .i64 0, .int .i64 1, .int .i64 2] 3)
    have HIS := hide (sis_any (n := 3) (unhide HE _ ((unhide HK1).trans KI)) (ints3 w1) (by simp) (unhide HTT _ ((unhide HK0).trans ((unhide HK1).trans KI))))
    have HKI := hide KI
    clear KI hl hc ho k1 hl3
    go_wp2_with fail
    refine (unhide HIS).mono ?_
    rintro e w2 ⟨c2, rfl, hc2, k2⟩
    have e2 := hc2.2 ⟨right3, cyc3⟩
    subst e2
    go_wp2
    go_ret
    exact ⟨rfl, ((unhide HK0).trans (unhide HK1)).trans ((unhide HKI).trans k2)⟩
end Go.Proofs.YtmpcnepiogjokaaDoor

namespace Go.Proofs.YtmpcnepiogjokaaDoor
open Go.RowKit

theorem two_cells {w : World} (x y : Value) (t : TypeId) {p : Nat} (hp : p = w.heap.size) : ∀ j u, [x, y][j]? = some u → (w.alloc (.cells #[x, y] t)).cell? ((⟨p, 0, none⟩ : Addr).add j) = some u := by
  subst hp
  exact World.news_of_block (new_block w (.cells #[x, y] t))
theorem own_form3' {w : World} {base e size n : Nat} {v : Value} {xs : List Value} (h : w.ownsRow base e size v n xs) : ∃ ao m cap, v = .slice ao m cap := by
  rcases h.2 with ⟨rfl, _⟩ | ⟨g, cap, cur, rfl, _⟩
  · exact ⟨_, _, _, rfl⟩
  · exact ⟨_, _, _, rfl⟩
/-- What Beside goes on, in memory: boxes p2, p3, the answer's p4, out's p5. -/
structure Bs (w W : World) (B p5 : Nat) (n m : Int) (u r : Value) (fs : List E) : Prop where
  g0 : W.cell? ⟨w.heap.size, 0, none⟩ = some (.int .i64 n)
  g1 : W.cell? ⟨w.heap.size + 1, 1, none⟩ = some u
  r0 : W.cell? ⟨w.heap.size + 2, 0, none⟩ = some (.int .i64 0)
  r1 : W.cell? ⟨w.heap.size + 2, 1, none⟩ = some (.slice none 0 0)
  e0 : W.frozen? ⟨w.heap.size + 2, 0, none⟩ = false
  e1 : W.frozen? ⟨w.heap.size + 2, 1, none⟩ = false
  o0 : W.cell? ⟨p5, 0, none⟩ = some (.int .i64 (n + m))
  o1 : W.cell? ⟨p5, 1, none⟩ = some r
  f1 : W.frozen? ⟨p5, 1, none⟩ = false
  own : OwnE W B r fs
  ne : r.ownBlock ≠ some p5
  B0 : w.heap.size + 3 ≤ B
  p50 : w.heap.size + 3 ≤ p5
  Bw : B ≤ W.heap.size
  kept : Kept [] w W
theorem Bs.push {w W x5 : World} {B p5 : Nat} {n m : Int} {u : Value} {ro : Option Addr} {rc : Nat} {fs : List E} (h : Bs w W B p5 n m u (.slice ro fs.length rc) fs) {a b : Int} {gg cap5 : Nat}
    (own5 : x5.ownsRow B 43 2 (.slice (some ⟨gg, 0, none⟩) (fs.length + 1) cap5) (fs.length + 1) (flatE fs ++ [.int .i64 a, .int .i64 b]))
    (gr5 : (W.alloc (.cells #[.int .i64 a, .int .i64 b] 43)).grownBy x5 (Value.slice ro fs.length rc).ownBlock) (li5 : (Value.slice ro fs.length rc).ownBlock = some gg ∨ gg = W.heap.size + 1) :
    Bs w (x5.setCell ⟨p5, 1, none⟩ (.slice (some ⟨gg, 0, none⟩) (fs.length + 1) cap5)) B p5 n m u (.slice (some ⟨gg, 0, none⟩) (fs ++ [(a, b)]).length cap5) (fs ++ [(a, b)]) := by
  have hlen : (fs ++ [(a, b)]).length = fs.length + 1 := by simp
  have hob := own_block (show W.ownsRow B 43 2 (.slice ro fs.length rc) fs.length (flatE fs) from h.own)
  have kg : Kept (Value.slice ro fs.length rc).ownBlock.toList W x5 := (((Kept.refl [] W).alloc _).mono (by simp)).trans (grown_kept gr5)
  have hB := h.B0
  have hp := h.p50
  have hp5 := lt_of_cell h.o1
  have nb : ∀ q, q < B → q ∉ (Value.slice ro fs.length rc).ownBlock.toList := fun q hq hm => by have := hob q (by simpa using hm); omega
  have n5 : p5 ∉ (Value.slice ro fs.length rc).ownBlock.toList := fun hm => h.ne (by simpa using hm)
  have o1' := kept_cell' h.o1 kg n5
  have f1' := kept_free' h.o1 h.f1 kg n5
  have gne : gg ≠ p5 := by
    rcases li5 with h1 | h1
    · exact fun e => h.ne (by rw [h1, e])
    · omega
  have ks : Kept [p5] x5 (x5.setCell ⟨p5, 1, none⟩ (.slice (some ⟨gg, 0, none⟩) (fs.length + 1) cap5)) := (Kept.refl _ _).setCell (Or.inl (by simp)) _
  rw [hlen]
  refine ⟨?_, ?_, ?_, ?_, ?_, ?_, ?_, ?_, ?_, ?_, ?_, hB, hp, Nat.le_trans h.Bw (Nat.le_trans kg.size ks.size), ?_⟩
  · exact kept_cell' (kept_cell' h.g0 kg (nb _ (by omega))) ks (by simp; omega)
  · exact kept_cell' (kept_cell' h.g1 kg (nb _ (by omega))) ks (by simp; omega)
  · exact kept_cell' (kept_cell' h.r0 kg (nb _ (by omega))) ks (by simp; omega)
  · exact kept_cell' (kept_cell' h.r1 kg (nb _ (by omega))) ks (by simp; omega)
  · exact kept_free' (kept_cell' h.r0 kg (nb _ (by omega))) (kept_free' h.r0 h.e0 kg (nb _ (by omega))) ks (by simp; omega)
  · exact kept_free' (kept_cell' h.r1 kg (nb _ (by omega))) (kept_free' h.r1 h.e1 kg (nb _ (by omega))) ks (by simp; omega)
  · rw [cell_set_off (by omega)]; exact kept_cell' h.o0 kg n5
  · exact cell_set_eq o1'
  · rw [frozen_set]; exact f1'
  · have own6 : OwnE x5 B (.slice (some ⟨gg, 0, none⟩) (fs.length + 1) cap5) (fs ++ [(a, b)]) := by
      unfold OwnE; rw [hlen, flatE_app]; exact own5
    obtain ⟨h1, h2⟩ := own6
    rcases h2 with ⟨h2, _⟩ | ⟨g, cap, cur, hv, hg, hh, h5, h6, h7, h8⟩
    · cases h2
    · refine ⟨h1, Or.inr ⟨g, cap, cur, hv, hg, ?_, h5, h6, h7, h8⟩⟩
      have e : gg = g := by simp at hv; exact hv.1
      rw [ks.block g (by rcases Nat.lt_or_ge g x5.heap.size with hb | hb; exact hb; rw [Array.getElem?_eq_none (by omega)] at hh; simp at hh) (by simp; omega)]
      exact hh
  · simp [Value.ownBlock]; exact gne
  · exact (h.kept.trans' kg (fun q hq => Or.inr (by have := hob q (by simpa using hq); omega))).setCell (Or.inr (by show w.heap.size ≤ p5; omega)) _
/-- Four boxes at once. -/
theorem boxes3 (w : World) (a b c d : Value) (t : TypeId) (W : World) (k : Kept [] (((w.alloc (.cells #[a, b] t)).alloc (.cells #[c, d] t)).alloc (.cells #[.int .i64 0, .slice none 0 0] t)) W) :
    (W.cell? ⟨w.heap.size, 0, none⟩ = some a ∧ W.cell? ⟨w.heap.size, 1, none⟩ = some b) ∧ (W.cell? ⟨w.heap.size + 1, 0, none⟩ = some c ∧ W.cell? ⟨w.heap.size + 1, 1, none⟩ = some d) ∧ (W.cell? ⟨w.heap.size + 2, 0, none⟩ = some (.int .i64 0) ∧ W.cell? ⟨w.heap.size + 2, 1, none⟩ = some (.slice none 0 0)) ∧ W.frozen? ⟨w.heap.size + 2, 0, none⟩ = false ∧ W.frozen? ⟨w.heap.size + 2, 1, none⟩ = false := by
  have k1 := ((Kept.refl [] (w.alloc (.cells #[a, b] t))).alloc (.cells #[c, d] t)).alloc (.cells #[.int .i64 0, .slice none 0 0] t)
  have k2 := (Kept.refl [] ((w.alloc (.cells #[a, b] t)).alloc (.cells #[c, d] t))).alloc (.cells #[.int .i64 0, .slice none 0 0] t)
  have h1 := box2 (k1.trans k) (by simp)
  have h2 := box2 (k2.trans k) (by simp)
  have h3 := box2 k (by simp)
  have h4 := box2f k
  simp only [World.size_alloc] at h2 h3 h4
  exact ⟨h1, h2, h3, h4⟩

set_option maxRecDepth 20000 in
set_option maxHeartbeats 8000000 in
theorem beside_any {w : World} {n m : Int} {v u : Value} {es hs : List E} (h : EdgesAt w v es) (hu : EdgesAt w u hs) (hn : 0 ≤ n ∧ n ≤ 4096) (hm : 0 ≤ m ∧ m ≤ 4096) (hok : ∀ e ∈ hs, okE m e = true) (hl1 : es.length ≤ 10000) (hl2 : hs.length ≤ 10000) :
    Calls Tryd.prog 21 #[gv n v, gv m u] w fun e w' => ∃ r, e = .returned (gv (n + m) r) ∧ EdgesAt w' r (besideE n es hs) ∧ FreshAt w.heap.size r ∧ Kept [] w w' := by
  obtain ⟨i, hi, hz0, hz1, hz2⟩ := info_parts infoEdge
  obtain ⟨ao, cap, rfl, _⟩ := h.shape
  obtain ⟨ho, hcap, rfl, _⟩ := hu.shape
  have HV := hide (fun W (k : Kept [] w W) => h.kept k)
  have HU := hide (fun W (k : Kept [] w W) => hu.kept k)
  have HOK := hide hok
  obtain ⟨hn0, hn1⟩ := hn
  obtain ⟨hm0, hm1⟩ := hm
  clear h hu hok
  have KB := (((Kept.refl [] w).alloc (.cells #[.int .i64 n, .slice ao es.length cap] 24)).alloc (.cells #[.int .i64 m, .slice ho hs.length hcap] 24)).alloc (.cells #[.int .i64 0, .slice none 0 0] 24)
  have HBX := hide (boxes3 w (.int .i64 n) (.slice ao es.length cap) (.int .i64 m) (.slice ho hs.length hcap) 24)
  have hwr : IntKind.i64.wrap (n + m) = n + m := by rw [IntWalk.i64_left, IntWalk.wrap64_in _ (by omega)]
  go_enter Tryd.func21, Tryd.ntmps21
  go_wp2_with fail
  have HKB := hide KB
  have hsz : (((w.alloc (.cells #[.int .i64 n, .slice ao es.length cap] 24)).alloc (.cells #[.int .i64 m, .slice ho hs.length hcap] 24)).alloc (.cells #[.int .i64 0, .slice none 0 0] 24)).heap.size = w.heap.size + 3 := by simp
  have BX := unhide HBX _ (Kept.refl [] _)
  obtain ⟨⟨a0, a1⟩, ⟨b0, b1⟩, _⟩ := BX
  clear KB
  generalize ((w.alloc (.cells #[.int .i64 n, .slice ao es.length cap] 24)).alloc (.cells #[.int .i64 m, .slice ho hs.length hcap] 24)).alloc (.cells #[.int .i64 0, .slice none 0 0] 24) = W3 at *
  have HSZ := hide hsz
  clear hsz
  have HL := hide (show ∀ W, Kept [] W3 W → W.cell? ⟨w.heap.size, 0, none⟩ = some (.int .i64 n) ∧ W.cell? ⟨w.heap.size, 1, none⟩ = some (.slice ao es.length cap) ∧ W.cell? ⟨w.heap.size + 1, 0, none⟩ = some (.int .i64 m) from fun W k => ⟨kept_cell a0 k, kept_cell a1 k, kept_cell b0 k⟩)
  go_region_held3 (fun W => W.cell? ⟨w.heap.size, 0, none⟩ = some (.int .i64 n) ∧ W.cell? ⟨w.heap.size, 1, none⟩ = some (.slice ao es.length cap) ∧ W.cell? ⟨w.heap.size + 1, 0, none⟩ = some (.int .i64 m)) (first | exact unhide HL _ K2 | exact unhide HL _ (K2.alloc _) | exact ⟨(cell_set2 (by have := K2.size; have := unhide HSZ; omega)).trans (unhide HL _ K2).1, (cell_set2 (by have := K2.size; have := unhide HSZ; omega)).trans (unhide HL _ K2).2.1, (cell_set2 (by have := K2.size; have := unhide HSZ; omega)).trans (unhide HL _ K2).2.2⟩ | go_keep)
    (first
    | (refine step_append_src (by rfl) (.const (.slice none 0 0)) (.tmp 13) 22 (by rfl) (W3.heap.size + 1) 43 i (ev 0 0) 2 16 Tryd.underlying22 hi hz0 hz1 hz2 (by rfl) (by decide) (.slice none 0 0) 0 [] (by rfl) (OwnE.nil _ _) _ _ _ (by rfl) (EdgesAt.src (unhide HV _ (by repeat' first | exact unhide HKB | apply Kept.drewN | apply Kept.drew | apply Kept.alloc))) (by unfold maxLen; omega) (by omega) (by first | exact Nat.le_refl _ | simp) ?_; intro v2 w2 own2 g2; have kz : Kept [] (W3.alloc (.cells #[.int .i64 0, .slice none 0 0] 24)) w2 := (by refine Kept.grown ?_ g2 (by simp [Value.ownBlock]); first | exact Kept.refl _ _ | exact (Kept.refl _ _).drew | exact (Kept.refl _ _).drewN _); obtain ⟨z0, z1⟩ := box2 kz (by simp); obtain ⟨y0, y1⟩ := box2f kz; have K2 : Kept [] W3 w2 := ((Kept.refl [] W3).alloc _).trans kz; obtain ⟨so, sm, sc, rfl⟩ := own_form3' own2)
    | (refine step_append_src (by rfl) (.const (.slice none 0 0)) (.tmp 13) 22 (by rfl) W3.heap.size 43 i (ev 0 0) 2 16 Tryd.underlying22 hi hz0 hz1 hz2 (by rfl) (by decide) (.slice none 0 0) 0 [] (by rfl) (OwnE.nil _ _) _ _ _ (by rfl) (EdgesAt.src (unhide HV _ (by repeat' first | exact unhide HKB | apply Kept.drewN | apply Kept.drew | apply Kept.alloc))) (by unfold maxLen; omega) (by omega) (by first | exact Nat.le_refl _ | simp) ?_; intro v2 w2 own2 g2; have K2 : Kept [] W3 w2 := (by refine Kept.grown ?_ g2 (by simp [Value.ownBlock]); first | exact Kept.refl _ _ | exact (Kept.refl _ _).drew | exact (Kept.refl _ _).drewN _); obtain ⟨so, sm, sc, rfl⟩ := own_form3' own2))
  · have OW := own2
    have KW := hide ((unhide HKB).trans (K2.alloc (.cells #[.int .i64 (n + m), .slice so sm sc] 24)))
    obtain ⟨O0, O1⟩ := box2 (Kept.refl [] (w2.alloc (.cells #[.int .i64 (n + m), .slice so sm sc] 24))) (by simp)
    obtain ⟨F0, F1⟩ := box2f (Kept.refl [] (w2.alloc (.cells #[.int .i64 (n + m), .slice so sm sc] 24)))
    have hsm : sm = es.length := by
      rcases own2.2 with ⟨hv, h0⟩ | ⟨g, cap, cur, hv, _⟩
      · simp at hv; omega
      · simp at hv; omega
    subst hsm
    have BB := unhide HBX _ (K2.alloc (.cells #[.int .i64 (n + m), .slice so es.length sc] 24))
    have BS := hide (show Bs w (w2.alloc (.cells #[.int .i64 (n + m), .slice so es.length sc] 24)) W3.heap.size w2.heap.size n m (.slice ho hs.length hcap) (.slice so es.length sc) es from
      ⟨BB.1.1, BB.2.1.2, BB.2.2.1.1, BB.2.2.1.2, BB.2.2.2.1, BB.2.2.2.2, O0, O1, F1, (by have := (OwnE.app (es := []) (fs := es) (by simpa [flatE] using own2)); unfold OwnE at this ⊢; simpa using this.alloc _), (fun e => by have := own_lt own2 _ e; omega), (by have := unhide HSZ; omega), (by have := unhide HSZ; have := K2.size; omega), (by have := K2.size; simp; omega), unhide KW⟩)
    clear OW KW O0 O1 F0 F1 BB own2 g2 K2 a0 a1 b0 b1 HL HBX
    generalize w2.alloc (.cells #[.int .i64 (n + m), .slice so es.length sc] 24) = W5 at *
    generalize w2.heap.size = p5 at *
    generalize W3.heap.size = B at *
    go_wp2
    go_loopw [6] (fun kk wr => ∃ (k : Nat) (ro : Option Addr) (rc : Nat) (es2 : List E), k ≤ hs.length ∧ kk = .int .i64 k ∧ Hid (Bs w wr B p5 n m (.slice ho hs.length hcap) (.slice ro es2.length rc) es2 ∧ es2 = es ++ shiftE n (hs.take k))) (fun kk _ => hs.length - (intOf kk).toNat)
    case atStart => exact ⟨0, so, sc, es, Nat.zero_le _, rfl, unhide BS, by simp [shiftE]⟩
    case round =>
      obtain ⟨k, ro, rc, es2, hk, rfl, hh⟩ := hrel
      have g0 := (unhide hh).1.g0; have g1 := (unhide hh).1.g1
      by_cases hlt : k < hs.length
      · obtain ⟨ho2, _, hv2, _, _, hin2⟩ := (unhide HU w (Kept.refl [] w)).shape
        obtain ⟨eg, eo, he2, hin0⟩ := hin2 (by omega)
        have hao : ho = some ⟨eg, eo, none⟩ := by simp at hv2; rw [hv2.1, he2]
        subst hao
        have hegl := hin0.lt
        have hin := hin0.keptAt (unhide hh).1.kept (by simp)
        have d0 := hin.a k hlt; have d1 := hin.b k hlt
        have o1 := (unhide hh).1.o1; have f1 := (unhide hh).1.f1
        have hown : wr.ownsRow B 43 2 (.slice ro es2.length rc) es2.length (flatE es2) := (unhide hh).1.own
        have ok := okE_iff.1 (unhide HOK _ (at_mem hlt))
        have HTK := hide (show shiftE n (hs.take (k + 1)) = shiftE n (hs.take k) ++ [(eA hs k + n, eB hs k + n)] by
          unfold shiftE
          rw [List.take_succ_eq_append_getElem hlt, List.map_append, e_elem hlt]; rfl)
        unfold at_ at ok
        simp only at ok
        have hel2 : es2.length ≤ 20000 := by
          rw [(unhide hh).2]; simp [shiftE]; omega
        generalize eA hs k = xa at *
        generalize eB hs k = xb at *
        have hwa : IntKind.i64.wrap (xa + n) = xa + n := by rw [IntWalk.i64_left, IntWalk.wrap64_in _ (by omega)]
        have hwb : IntKind.i64.wrap (xb + n) = xb + n := by rw [IntWalk.i64_left, IntWalk.wrap64_in _ (by omega)]
        have t0 : (0 : Int) ≤ (k : Int) := by omega
        have t1 : (k : Int) < (hs.length : Int) := by omega
        have hB3 := (unhide hh).1.B0
        have hp53 := (unhide hh).1.p50
        have hBw : B ≤ wr.heap.size := (unhide hh).1.Bw
        have n25 : w.heap.size ≠ p5 := by omega
        have n35 : w.heap.size + 1 ≠ p5 := by omega
        have ne5 : eg ≠ p5 := by omega
        have hob := own_block hown
        have HNB := hide (show ∀ b, (Value.slice ro es2.length rc).ownBlock = some b → w.heap.size ≠ b ∧ w.heap.size + 1 ≠ b ∧ eg ≠ b ∧ p5 ≠ b from fun b hb => by
          have h1 := hob b hb
          exact ⟨by omega, by omega, by omega, fun e => (unhide hh).1.ne (by rw [hb, e])⟩)
        have HNEXT := hide (fun x5 gg cap5 own5 gr5 li5 => And.intro ((unhide hh).1.push (x5 := x5) (a := xa + n) (b := xb + n) (gg := gg) (cap5 := cap5) own5 gr5 li5) (show es2 ++ [(xa + n, xb + n)] = es ++ shiftE n (hs.take (k + 1)) by rw [unhide HTK, ← List.append_assoc, ← (unhide hh).2]))
        clear hin hin0 hin2 hv2 he2 ok hob
        have o1a := alloc_cell o1 (.cells #[.int .i64 (xa + n), .int .i64 (xb + n)] 43)
        go_wp2_with fail
        refine wp_region_held_drew (S := (fun W => W.cell? ⟨w.heap.size, 0, none⟩ = some (.int .i64 n) ∧ W.cell? ⟨w.heap.size + 1, 1, none⟩ = some (.slice (some ⟨eg, eo, none⟩) hs.length hcap) ∧ W.cell? ⟨eg, eo + k * 2, none⟩ = some (.int .i64 xa) ∧ W.cell? ⟨eg, eo + k * 2 + 1, none⟩ = some (.int .i64 xb))) (by kernel_rfl) ⟨g0, g1, d0, d1⟩ (fun hHeld => ?_)
        refine take_on 0 23 (v := ?_) rfl rfl (by kernel_rfl) (by kernel_rfl) (by kernel_rfl) (fun _ _ _ h => h) (by kernel_rfl) (by intro w hSw; (try dsimp only at hSw); go_simp; first | done | with_reducible rfl) (by assumption) ?_
        simp only [Act.put, List.setIfInBounds_toArray, List.set_cons_zero, List.set_cons_succ]
        refine take_on 2 25 (v := ?_) rfl rfl (by kernel_rfl) (by kernel_rfl) (by kernel_rfl) (fun _ _ _ h => h) (by kernel_rfl) (by intro w hSw; (try dsimp only at hSw); go_simp; first | done | with_reducible rfl) (by assumption) ?_
        simp only [Act.put, List.setIfInBounds_toArray, List.set_cons_zero, List.set_cons_succ]
        refine take_on 3 26 (v := ?_) rfl rfl (by kernel_rfl) (by kernel_rfl) (by kernel_rfl) (fun _ _ _ h => h) (by kernel_rfl) (by intro w hSw; (try dsimp only at hSw); go_simp; first | done | with_reducible rfl) (by assumption) ?_
        simp only [Act.put, List.setIfInBounds_toArray, List.set_cons_zero, List.set_cons_succ]
        refine take_on 4 27 (v := ?_) rfl rfl (by kernel_rfl) (by kernel_rfl) (by kernel_rfl) (fun _ _ _ h => h) (by kernel_rfl) (by intro w hSw; (try dsimp only at hSw); go_simp; first | done | with_reducible rfl) (by assumption) ?_
        simp only [Act.put, List.setIfInBounds_toArray, List.set_cons_zero, List.set_cons_succ]
        refine take_on 5 28 (v := ?_) rfl rfl (by kernel_rfl) (by kernel_rfl) (by kernel_rfl) (fun _ _ _ h => h) (by kernel_rfl) (by intro w hSw; (try dsimp only at hSw); go_simp; first | done | with_reducible rfl) (by assumption) ?_
        simp only [Act.put, List.setIfInBounds_toArray, List.set_cons_zero, List.set_cons_succ]
        refine take_on 6 29 (v := ?_) rfl rfl (by kernel_rfl) (by kernel_rfl) (by kernel_rfl) (fun _ _ _ h => h) (by kernel_rfl) (by intro w hSw; (try dsimp only at hSw); go_simp; first | done | with_reducible rfl) (by assumption) ?_
        simp only [Act.put, List.setIfInBounds_toArray, List.set_cons_zero, List.set_cons_succ]
        refine take_on 7 30 (v := ?_) rfl rfl (by kernel_rfl) (by kernel_rfl) (by kernel_rfl) (fun _ _ _ h => h) (by kernel_rfl) (by intro w hSw; (try dsimp only at hSw); go_simp; first | done | with_reducible rfl) (by assumption) ?_
        simp only [Act.put, List.setIfInBounds_toArray, List.set_cons_zero, List.set_cons_succ]
        refine take_on 8 31 (v := ?_) rfl rfl (by kernel_rfl) (by kernel_rfl) (by kernel_rfl) (fun _ _ _ h => h) (by kernel_rfl) (by intro w hSw; (try dsimp only at hSw); go_simp; first | done | with_reducible rfl) (by assumption) ?_
        simp only [Act.put, List.setIfInBounds_toArray, List.set_cons_zero, List.set_cons_succ]
        refine take_on 9 32 (v := ?_) rfl rfl (by kernel_rfl) (by kernel_rfl) (by kernel_rfl) (fun _ _ _ h => h) (by kernel_rfl) (by intro w hSw; (try dsimp only at hSw); go_simp; first | done | with_reducible rfl) (by assumption) ?_
        simp only [Act.put, List.setIfInBounds_toArray, List.set_cons_zero, List.set_cons_succ]
        refine take_on 10 33 (v := ?_) rfl rfl (by kernel_rfl) (by kernel_rfl) (by kernel_rfl) (fun _ _ _ h => h) (by kernel_rfl) (by intro w hSw; (try dsimp only at hSw); go_simp; first | done | with_reducible rfl) (by assumption) ?_
        simp only [Act.put, List.setIfInBounds_toArray, List.set_cons_zero, List.set_cons_succ]
        refine take_on 11 34 (v := ?_) rfl rfl (by kernel_rfl) (by kernel_rfl) (by kernel_rfl) (fun _ _ _ h => h) (by kernel_rfl) (by intro w hSw; (try dsimp only at hSw); go_simp; first | done | with_reducible rfl) (by assumption) ?_
        simp only [Act.put, List.setIfInBounds_toArray, List.set_cons_zero, List.set_cons_succ]
        refine take_on 12 35 (v := ?_) rfl rfl (by kernel_rfl) (by kernel_rfl) (by kernel_rfl) (fun _ _ _ h => h) (by kernel_rfl) (by intro w hSw; (try dsimp only at hSw); go_simp; first | done | with_reducible rfl) (by assumption) ?_
        simp only [Act.put, List.setIfInBounds_toArray, List.set_cons_zero, List.set_cons_succ]
        refine take_on 13 36 (v := ?_) rfl rfl (by kernel_rfl) (by kernel_rfl) (by kernel_rfl) (fun _ _ _ h => h) (by kernel_rfl) (by intro w hSw; (try dsimp only at hSw); go_simp; first | done | with_reducible rfl) (by assumption) ?_
        simp only [Act.put, List.setIfInBounds_toArray, List.set_cons_zero, List.set_cons_succ]
        refine take_on 14 37 (v := ?_) rfl rfl (by kernel_rfl) (by kernel_rfl) (by kernel_rfl) (fun _ _ _ h => h) (by kernel_rfl) (by intro w hSw; (try dsimp only at hSw); go_simp; first | done | with_reducible rfl) (by assumption) ?_
        simp only [Act.put, List.setIfInBounds_toArray, List.set_cons_zero, List.set_cons_succ]
        refine take_on 15 38 (v := ?_) rfl rfl (by kernel_rfl) (by kernel_rfl) (by kernel_rfl) (fun _ _ _ h => h) (by kernel_rfl) (by intro w hSw; (try dsimp only at hSw); go_simp; first | done | with_reducible rfl) (by assumption) ?_
        simp only [Act.put, List.setIfInBounds_toArray, List.set_cons_zero, List.set_cons_succ]
        refine take_on 16 39 (v := ?_) rfl rfl (by kernel_rfl) (by kernel_rfl) (by kernel_rfl) (fun _ _ _ h => h) (by kernel_rfl) (by intro w hSw; (try dsimp only at hSw); go_simp; first | done | with_reducible rfl) (by assumption) ?_
        simp only [Act.put, List.setIfInBounds_toArray, List.set_cons_zero, List.set_cons_succ]
        refine take_on 17 40 (v := ?_) rfl rfl (by kernel_rfl) (by kernel_rfl) (by kernel_rfl) (fun _ _ _ h => h) (by kernel_rfl) (by intro w hSw; (try dsimp only at hSw); go_simp; first | done | with_reducible rfl) (by assumption) ?_
        simp only [Act.put, List.setIfInBounds_toArray, List.set_cons_zero, List.set_cons_succ]
        refine take_on 18 41 (v := ?_) rfl rfl (by kernel_rfl) (by kernel_rfl) (by kernel_rfl) (fun _ _ _ h => h) (by kernel_rfl) (by intro w hSw; (try dsimp only at hSw); go_simp; first | done | with_reducible rfl) (by assumption) ?_
        simp only [Act.put, List.setIfInBounds_toArray, List.set_cons_zero, List.set_cons_succ]
        refine take_on 19 42 (v := ?_) rfl rfl (by kernel_rfl) (by kernel_rfl) (by kernel_rfl) (fun _ _ _ h => h) (by kernel_rfl) (by intro w hSw; (try dsimp only at hSw); go_simp; first | done | with_reducible rfl) (by assumption) ?_
        simp only [Act.put, List.setIfInBounds_toArray, List.set_cons_zero, List.set_cons_succ]
        refine take_on 20 43 (v := ?_) rfl rfl (by kernel_rfl) (by kernel_rfl) (by kernel_rfl) (fun _ _ _ h => h) (by kernel_rfl) (by intro w hSw; (try dsimp only at hSw); go_simp; first | done | with_reducible rfl) (by assumption) ?_
        simp only [Act.put, List.setIfInBounds_toArray, List.set_cons_zero, List.set_cons_succ]
        refine wpAnyH_ready (rs := [1, 21]) (by kernel_rfl) (by simp) ?_
        refine AllReadyH.cons rfl (fun K hK => ?_) (AllReadyH.cons rfl (fun K hK => ?_) AllReadyH.nil)
        · go_simp
          refine hK.out _ _ ⟨g0, g1, d0, d1⟩ (fun hHeld => ?_)
          clear hK K
          refine wpAnyH_ready (rs := [21]) (by kernel_rfl) (by simp) ?_
          refine AllReadyH.cons rfl (fun K hK => ?_) AllReadyH.nil
          go_simp
          refine hK.out _ _ ⟨alloc_cell g0 _, alloc_cell g1 _, alloc_cell d0 _, alloc_cell d1 _⟩ (fun hHeld => ?_)
          clear hK K
          refine wpAnyH_ready (rs := [22]) (by kernel_rfl) (by simp) ?_
          refine AllReadyH.cons rfl (fun K hK => ?_) AllReadyH.nil
          refine step_append_lies _ rfl (.tmp 24) (.tmp 44) 22 rfl B 43 i (ev 0 0) 2 16 Tryd.underlying22 hi hz0 hz1 hz2 rfl (by decide) (.slice ro es2.length rc) es2.length (flatE es2) rfl ((hown.alloc (.cells #[.int .i64 (xa + n), .int .i64 (xb + n)] 43)).drew) ⟨wr.heap.size, 0, none⟩ 1 1 [.int .i64 (xa + n), .int .i64 (xb + n)] rfl rfl (two_cells _ _ _ rfl) (by simp [Value.oneCell']) (by decide) (by unfold maxLen; omega) (by omega) (by simp; omega) (wr.heap.size + 1) (by simp) ?_
          intro gg cap5 x5 own5 gr5 li5 lt5
          have kg5 : Kept (Value.slice ro es2.length rc).ownBlock.toList (wr.alloc (.cells #[.int .i64 (xa + n), .int .i64 (xb + n)] 43)) x5 := (Kept.refl _ _).drew.trans (grown_kept gr5)
          have q0 := kept_cell' (alloc_cell g0 (.cells #[.int .i64 (xa + n), .int .i64 (xb + n)] 43)) kg5 (by simpa using fun h => (unhide HNB _ h).1 rfl)
          have q1 := kept_cell' (alloc_cell g1 (.cells #[.int .i64 (xa + n), .int .i64 (xb + n)] 43)) kg5 (by simpa using fun h => (unhide HNB _ h).2.1 rfl)
          have q2 := kept_cell' (alloc_cell d0 (.cells #[.int .i64 (xa + n), .int .i64 (xb + n)] 43)) kg5 (by simpa using fun h => (unhide HNB _ h).2.2.1 rfl)
          have q3 := kept_cell' (alloc_cell d1 (.cells #[.int .i64 (xa + n), .int .i64 (xb + n)] 43)) kg5 (by simpa using fun h => (unhide HNB _ h).2.2.1 rfl)
          have q4 := kept_cell' (alloc_cell o1 (.cells #[.int .i64 (xa + n), .int .i64 (xb + n)] 43)) kg5 (by simpa using fun h => (unhide HNB _ h).2.2.2 rfl)
          have q5 := kept_free' (alloc_cell o1 (.cells #[.int .i64 (xa + n), .int .i64 (xb + n)] 43)) (kept_free o1 f1 ((Kept.refl [] wr).alloc (.cells #[.int .i64 (xa + n), .int .i64 (xb + n)] 43))) kg5 (by simpa using fun h => (unhide HNB _ h).2.2.2 rfl)
          change K (Act.put _ (some 45) _) _
          refine hK.out _ _ ⟨q0, q1, q2, q3⟩ (fun hHeld => ?_)
          clear hK K
          simp only [Act.put, List.setIfInBounds_toArray, List.set_cons_zero, List.set_cons_succ]
          refine take_on 23 46 (v := ?_) rfl rfl (by kernel_rfl) (by kernel_rfl) (by kernel_rfl) (fun _ _ _ h => h) (by kernel_rfl) (by intro w hSw; (try dsimp only at hSw); go_simp; first | done | with_reducible rfl) (by assumption) ?_
          simp only [Act.put, List.setIfInBounds_toArray, List.set_cons_zero, List.set_cons_succ]
          refine wpAnyH_ready (rs := [24]) (by kernel_rfl) (by simp) ?_
          refine AllReadyH.cons rfl (fun K hK => ?_) AllReadyH.nil
          go_simp
          refine hK.out _ _ ⟨by rw [cell_set_ne n25]; assumption, by rw [cell_set_ne n35]; assumption, by rw [cell_set_ne ne5]; assumption, by rw [cell_set_ne ne5]; assumption⟩ (fun hHeld => ?_)
          clear hK K
          refine wpAnyH_done (by kernel_rfl) ?_ _
          have HNX := hide (unhide HNEXT x5 gg cap5 own5 ⟨gr5.os, gr5.tape, gr5.output, gr5.size, gr5.block⟩ li5)
          clear kg5 own5 gr5 li5 lt5 q0 q1 q2 q3 q4 q5
          go_wp2
          go_roundw
          case rel => exact ⟨k + 1, _, _, _, by omega, by go_num, unhide HNX⟩
          case measure => simp [intOf]; omega
        · go_simp
          refine hK.out _ _ ⟨alloc_cell g0 _, alloc_cell g1 _, alloc_cell d0 _, alloc_cell d1 _⟩ (fun hHeld => ?_)
          clear hK K
          refine wpAnyH_ready (rs := [1]) (by kernel_rfl) (by simp) ?_
          refine AllReadyH.cons rfl (fun K hK => ?_) AllReadyH.nil
          go_simp
          refine hK.out _ _ ⟨alloc_cell g0 _, alloc_cell g1 _, alloc_cell d0 _, alloc_cell d1 _⟩ (fun hHeld => ?_)
          clear hK K
          refine wpAnyH_ready (rs := [22]) (by kernel_rfl) (by simp) ?_
          refine AllReadyH.cons rfl (fun K hK => ?_) AllReadyH.nil
          refine step_append_lies _ rfl (.tmp 24) (.tmp 44) 22 rfl B 43 i (ev 0 0) 2 16 Tryd.underlying22 hi hz0 hz1 hz2 rfl (by decide) (.slice ro es2.length rc) es2.length (flatE es2) rfl ((hown.alloc (.cells #[.int .i64 (xa + n), .int .i64 (xb + n)] 43)).drew) ⟨wr.heap.size, 0, none⟩ 1 1 [.int .i64 (xa + n), .int .i64 (xb + n)] rfl rfl (two_cells _ _ _ rfl) (by simp [Value.oneCell']) (by decide) (by unfold maxLen; omega) (by omega) (by simp; omega) (wr.heap.size + 1) (by simp) ?_
          intro gg cap5 x5 own5 gr5 li5 lt5
          have kg5 : Kept (Value.slice ro es2.length rc).ownBlock.toList (wr.alloc (.cells #[.int .i64 (xa + n), .int .i64 (xb + n)] 43)) x5 := (Kept.refl _ _).drew.trans (grown_kept gr5)
          have q0 := kept_cell' (alloc_cell g0 (.cells #[.int .i64 (xa + n), .int .i64 (xb + n)] 43)) kg5 (by simpa using fun h => (unhide HNB _ h).1 rfl)
          have q1 := kept_cell' (alloc_cell g1 (.cells #[.int .i64 (xa + n), .int .i64 (xb + n)] 43)) kg5 (by simpa using fun h => (unhide HNB _ h).2.1 rfl)
          have q2 := kept_cell' (alloc_cell d0 (.cells #[.int .i64 (xa + n), .int .i64 (xb + n)] 43)) kg5 (by simpa using fun h => (unhide HNB _ h).2.2.1 rfl)
          have q3 := kept_cell' (alloc_cell d1 (.cells #[.int .i64 (xa + n), .int .i64 (xb + n)] 43)) kg5 (by simpa using fun h => (unhide HNB _ h).2.2.1 rfl)
          have q4 := kept_cell' (alloc_cell o1 (.cells #[.int .i64 (xa + n), .int .i64 (xb + n)] 43)) kg5 (by simpa using fun h => (unhide HNB _ h).2.2.2 rfl)
          have q5 := kept_free' (alloc_cell o1 (.cells #[.int .i64 (xa + n), .int .i64 (xb + n)] 43)) (kept_free o1 f1 ((Kept.refl [] wr).alloc (.cells #[.int .i64 (xa + n), .int .i64 (xb + n)] 43))) kg5 (by simpa using fun h => (unhide HNB _ h).2.2.2 rfl)
          change K (Act.put _ (some 45) _) _
          refine hK.out _ _ ⟨q0, q1, q2, q3⟩ (fun hHeld => ?_)
          clear hK K
          simp only [Act.put, List.setIfInBounds_toArray, List.set_cons_zero, List.set_cons_succ]
          refine take_on 23 46 (v := ?_) rfl rfl (by kernel_rfl) (by kernel_rfl) (by kernel_rfl) (fun _ _ _ h => h) (by kernel_rfl) (by intro w hSw; (try dsimp only at hSw); go_simp; first | done | with_reducible rfl) (by assumption) ?_
          simp only [Act.put, List.setIfInBounds_toArray, List.set_cons_zero, List.set_cons_succ]
          refine wpAnyH_ready (rs := [24]) (by kernel_rfl) (by simp) ?_
          refine AllReadyH.cons rfl (fun K hK => ?_) AllReadyH.nil
          go_simp
          refine hK.out _ _ ⟨by rw [cell_set_ne n25]; assumption, by rw [cell_set_ne n35]; assumption, by rw [cell_set_ne ne5]; assumption, by rw [cell_set_ne ne5]; assumption⟩ (fun hHeld => ?_)
          clear hK K
          refine wpAnyH_done (by kernel_rfl) ?_ _
          have HNX := hide (unhide HNEXT x5 gg cap5 own5 ⟨gr5.os, gr5.tape, gr5.output, gr5.size, gr5.block⟩ li5)
          clear kg5 own5 gr5 li5 lt5 q0 q1 q2 q3 q4 q5
          go_wp2
          go_roundw
          case rel => exact ⟨k + 1, _, _, _, by omega, by go_num, unhide HNX⟩
          case measure => simp [intOf]; omega
      · have HFS := hide (show es2 = besideE n es hs by rw [(unhide hh).2, List.take_of_length_le (by omega)]; rfl)
        have o0 := (unhide hh).1.o0; have o1 := (unhide hh).1.o1
        have r0 := (unhide hh).1.r0; have r1 := (unhide hh).1.r1; have e0 := (unhide hh).1.e0; have e1 := (unhide hh).1.e1
        have hB3 := (unhide hh).1.B0
        have ks : Kept [w.heap.size + 2] wr ((wr.setCell ⟨w.heap.size + 2, 0, none⟩ (.int .i64 (n + m))).setCell ⟨w.heap.size + 2, 1, none⟩ (.slice ro es2.length rc)) := ((Kept.refl _ _).setCell (Or.inl (by simp)) _).setCell (Or.inl (by simp)) _
        have hat := (unhide hh).1.own.at'
        have HT := hide (show EdgesAt ((wr.setCell ⟨w.heap.size + 2, 0, none⟩ (.int .i64 (n + m))).setCell ⟨w.heap.size + 2, 1, none⟩ (.slice ro es2.length rc)) (.slice ro es2.length rc) es2 ∧ FreshAt w.heap.size (.slice ro es2.length rc) ∧ Kept [] w ((wr.setCell ⟨w.heap.size + 2, 0, none⟩ (.int .i64 (n + m))).setCell ⟨w.heap.size + 2, 1, none⟩ (.slice ro es2.length rc)) from
          ⟨hat.1.keptAt ks (fun a x y e => by have := hat.2 a x y e; simp; omega), fun a x y e => by have := hat.2 a x y e; omega, (unhide hh).1.kept.trans' ks (by simp)⟩)
        clear hat ks hB3
        go_wp2
        refine bodyPost_ret (v := gv (n + m) (.slice ro es2.length rc)) (by simp [results, Tryd.results21, go_sem, r0, r1]) rfl ?_
        first | exact ⟨_, rfl, by rw [← unhide HFS]; exact (unhide HT).1, (unhide HT).2⟩ | exact ⟨_, by rw [← unhide HFS]; exact (unhide HT).1, (unhide HT).2⟩
  · have hsm : sm = es.length := by
      rcases own2.2 with ⟨hv, h0⟩ | ⟨g, cap, cur, hv, _⟩
      · simp at hv; omega
      · simp at hv; omega
    subst hsm
    have ks : Kept [W3.heap.size] w2 ((w2.setCell ⟨W3.heap.size, 0, none⟩ (.int .i64 (n + m))).setCell ⟨W3.heap.size, 1, none⟩ (.slice so es.length sc)) := ((Kept.refl _ _).setCell (Or.inl (by simp)) _).setCell (Or.inl (by simp)) _
    have K5 := K2.trans' ks (by simp)
    have KW := hide ((unhide HKB).trans K5)
    have O0 : ((w2.setCell ⟨W3.heap.size, 0, none⟩ (.int .i64 (n + m))).setCell ⟨W3.heap.size, 1, none⟩ (.slice so es.length sc)).cell? ⟨W3.heap.size, 0, none⟩ = some (.int .i64 (n + m)) := by go_simp
    have O1 : ((w2.setCell ⟨W3.heap.size, 0, none⟩ (.int .i64 (n + m))).setCell ⟨W3.heap.size, 1, none⟩ (.slice so es.length sc)).cell? ⟨W3.heap.size, 1, none⟩ = some (.slice so es.length sc) := by go_simp
    have F1 : ((w2.setCell ⟨W3.heap.size, 0, none⟩ (.int .i64 (n + m))).setCell ⟨W3.heap.size, 1, none⟩ (.slice so es.length sc)).frozen? ⟨W3.heap.size, 1, none⟩ = false := by go_simp
    have BB := unhide HBX _ K5
    have hnB := own_block own2
    have BS := hide (show Bs w ((w2.setCell ⟨W3.heap.size, 0, none⟩ (.int .i64 (n + m))).setCell ⟨W3.heap.size, 1, none⟩ (.slice so es.length sc)) (W3.heap.size + 1) W3.heap.size n m (.slice ho hs.length hcap) (.slice so es.length sc) es from
      ⟨BB.1.1, BB.2.1.2, BB.2.2.1.1, BB.2.2.1.2, BB.2.2.2.1, BB.2.2.2.2, O0, O1, F1, own_freeE (OwnE.app (es := []) (fs := es) (by simpa [flatE] using own2)) ks (by omega), (fun e => by have := hnB _ e; omega), (by have := unhide HSZ; omega), (by have := unhide HSZ; omega), (by have := kz.size; have := ks.size; simp at *; omega), unhide KW⟩)
    clear KW O0 O1 F1 BB own2 g2 K2 K5 ks a0 a1 b0 b1 HL HBX kz z0 z1 y0 y1 hnB
    generalize (w2.setCell ⟨W3.heap.size, 0, none⟩ (.int .i64 (n + m))).setCell ⟨W3.heap.size, 1, none⟩ (.slice so es.length sc) = W5 at *
    generalize W3.heap.size + 1 = B at *
    generalize W3.heap.size = p5 at *
    go_wp2
    go_loopw [6] (fun kk wr => ∃ (k : Nat) (ro : Option Addr) (rc : Nat) (es2 : List E), k ≤ hs.length ∧ kk = .int .i64 k ∧ Hid (Bs w wr B p5 n m (.slice ho hs.length hcap) (.slice ro es2.length rc) es2 ∧ es2 = es ++ shiftE n (hs.take k))) (fun kk _ => hs.length - (intOf kk).toNat)
    case atStart => exact ⟨0, so, sc, es, Nat.zero_le _, rfl, unhide BS, by simp [shiftE]⟩
    case round =>
      obtain ⟨k, ro, rc, es2, hk, rfl, hh⟩ := hrel
      have g0 := (unhide hh).1.g0; have g1 := (unhide hh).1.g1
      by_cases hlt : k < hs.length
      · obtain ⟨ho2, _, hv2, _, _, hin2⟩ := (unhide HU w (Kept.refl [] w)).shape
        obtain ⟨eg, eo, he2, hin0⟩ := hin2 (by omega)
        have hao : ho = some ⟨eg, eo, none⟩ := by simp at hv2; rw [hv2.1, he2]
        subst hao
        have hegl := hin0.lt
        have hin := hin0.keptAt (unhide hh).1.kept (by simp)
        have d0 := hin.a k hlt; have d1 := hin.b k hlt
        have o1 := (unhide hh).1.o1; have f1 := (unhide hh).1.f1
        have hown : wr.ownsRow B 43 2 (.slice ro es2.length rc) es2.length (flatE es2) := (unhide hh).1.own
        have ok := okE_iff.1 (unhide HOK _ (at_mem hlt))
        have HTK := hide (show shiftE n (hs.take (k + 1)) = shiftE n (hs.take k) ++ [(eA hs k + n, eB hs k + n)] by
          unfold shiftE
          rw [List.take_succ_eq_append_getElem hlt, List.map_append, e_elem hlt]; rfl)
        unfold at_ at ok
        simp only at ok
        have hel2 : es2.length ≤ 20000 := by
          rw [(unhide hh).2]; simp [shiftE]; omega
        generalize eA hs k = xa at *
        generalize eB hs k = xb at *
        have hwa : IntKind.i64.wrap (xa + n) = xa + n := by rw [IntWalk.i64_left, IntWalk.wrap64_in _ (by omega)]
        have hwb : IntKind.i64.wrap (xb + n) = xb + n := by rw [IntWalk.i64_left, IntWalk.wrap64_in _ (by omega)]
        have t0 : (0 : Int) ≤ (k : Int) := by omega
        have t1 : (k : Int) < (hs.length : Int) := by omega
        have hB3 := (unhide hh).1.B0
        have hp53 := (unhide hh).1.p50
        have hBw : B ≤ wr.heap.size := (unhide hh).1.Bw
        have n25 : w.heap.size ≠ p5 := by omega
        have n35 : w.heap.size + 1 ≠ p5 := by omega
        have ne5 : eg ≠ p5 := by omega
        have hob := own_block hown
        have HNB := hide (show ∀ b, (Value.slice ro es2.length rc).ownBlock = some b → w.heap.size ≠ b ∧ w.heap.size + 1 ≠ b ∧ eg ≠ b ∧ p5 ≠ b from fun b hb => by
          have h1 := hob b hb
          exact ⟨by omega, by omega, by omega, fun e => (unhide hh).1.ne (by rw [hb, e])⟩)
        have HNEXT := hide (fun x5 gg cap5 own5 gr5 li5 => And.intro ((unhide hh).1.push (x5 := x5) (a := xa + n) (b := xb + n) (gg := gg) (cap5 := cap5) own5 gr5 li5) (show es2 ++ [(xa + n, xb + n)] = es ++ shiftE n (hs.take (k + 1)) by rw [unhide HTK, ← List.append_assoc, ← (unhide hh).2]))
        clear hin hin0 hin2 hv2 he2 ok hob
        have o1a := alloc_cell o1 (.cells #[.int .i64 (xa + n), .int .i64 (xb + n)] 43)
        go_wp2_with fail
        refine wp_region_held_drew (S := (fun W => W.cell? ⟨w.heap.size, 0, none⟩ = some (.int .i64 n) ∧ W.cell? ⟨w.heap.size + 1, 1, none⟩ = some (.slice (some ⟨eg, eo, none⟩) hs.length hcap) ∧ W.cell? ⟨eg, eo + k * 2, none⟩ = some (.int .i64 xa) ∧ W.cell? ⟨eg, eo + k * 2 + 1, none⟩ = some (.int .i64 xb))) (by kernel_rfl) ⟨g0, g1, d0, d1⟩ (fun hHeld => ?_)
        refine take_on 0 23 (v := ?_) rfl rfl (by kernel_rfl) (by kernel_rfl) (by kernel_rfl) (fun _ _ _ h => h) (by kernel_rfl) (by intro w hSw; (try dsimp only at hSw); go_simp; first | done | with_reducible rfl) (by assumption) ?_
        simp only [Act.put, List.setIfInBounds_toArray, List.set_cons_zero, List.set_cons_succ]
        refine take_on 2 25 (v := ?_) rfl rfl (by kernel_rfl) (by kernel_rfl) (by kernel_rfl) (fun _ _ _ h => h) (by kernel_rfl) (by intro w hSw; (try dsimp only at hSw); go_simp; first | done | with_reducible rfl) (by assumption) ?_
        simp only [Act.put, List.setIfInBounds_toArray, List.set_cons_zero, List.set_cons_succ]
        refine take_on 3 26 (v := ?_) rfl rfl (by kernel_rfl) (by kernel_rfl) (by kernel_rfl) (fun _ _ _ h => h) (by kernel_rfl) (by intro w hSw; (try dsimp only at hSw); go_simp; first | done | with_reducible rfl) (by assumption) ?_
        simp only [Act.put, List.setIfInBounds_toArray, List.set_cons_zero, List.set_cons_succ]
        refine take_on 4 27 (v := ?_) rfl rfl (by kernel_rfl) (by kernel_rfl) (by kernel_rfl) (fun _ _ _ h => h) (by kernel_rfl) (by intro w hSw; (try dsimp only at hSw); go_simp; first | done | with_reducible rfl) (by assumption) ?_
        simp only [Act.put, List.setIfInBounds_toArray, List.set_cons_zero, List.set_cons_succ]
        refine take_on 5 28 (v := ?_) rfl rfl (by kernel_rfl) (by kernel_rfl) (by kernel_rfl) (fun _ _ _ h => h) (by kernel_rfl) (by intro w hSw; (try dsimp only at hSw); go_simp; first | done | with_reducible rfl) (by assumption) ?_
        simp only [Act.put, List.setIfInBounds_toArray, List.set_cons_zero, List.set_cons_succ]
        refine take_on 6 29 (v := ?_) rfl rfl (by kernel_rfl) (by kernel_rfl) (by kernel_rfl) (fun _ _ _ h => h) (by kernel_rfl) (by intro w hSw; (try dsimp only at hSw); go_simp; first | done | with_reducible rfl) (by assumption) ?_
        simp only [Act.put, List.setIfInBounds_toArray, List.set_cons_zero, List.set_cons_succ]
        refine take_on 7 30 (v := ?_) rfl rfl (by kernel_rfl) (by kernel_rfl) (by kernel_rfl) (fun _ _ _ h => h) (by kernel_rfl) (by intro w hSw; (try dsimp only at hSw); go_simp; first | done | with_reducible rfl) (by assumption) ?_
        simp only [Act.put, List.setIfInBounds_toArray, List.set_cons_zero, List.set_cons_succ]
        refine take_on 8 31 (v := ?_) rfl rfl (by kernel_rfl) (by kernel_rfl) (by kernel_rfl) (fun _ _ _ h => h) (by kernel_rfl) (by intro w hSw; (try dsimp only at hSw); go_simp; first | done | with_reducible rfl) (by assumption) ?_
        simp only [Act.put, List.setIfInBounds_toArray, List.set_cons_zero, List.set_cons_succ]
        refine take_on 9 32 (v := ?_) rfl rfl (by kernel_rfl) (by kernel_rfl) (by kernel_rfl) (fun _ _ _ h => h) (by kernel_rfl) (by intro w hSw; (try dsimp only at hSw); go_simp; first | done | with_reducible rfl) (by assumption) ?_
        simp only [Act.put, List.setIfInBounds_toArray, List.set_cons_zero, List.set_cons_succ]
        refine take_on 10 33 (v := ?_) rfl rfl (by kernel_rfl) (by kernel_rfl) (by kernel_rfl) (fun _ _ _ h => h) (by kernel_rfl) (by intro w hSw; (try dsimp only at hSw); go_simp; first | done | with_reducible rfl) (by assumption) ?_
        simp only [Act.put, List.setIfInBounds_toArray, List.set_cons_zero, List.set_cons_succ]
        refine take_on 11 34 (v := ?_) rfl rfl (by kernel_rfl) (by kernel_rfl) (by kernel_rfl) (fun _ _ _ h => h) (by kernel_rfl) (by intro w hSw; (try dsimp only at hSw); go_simp; first | done | with_reducible rfl) (by assumption) ?_
        simp only [Act.put, List.setIfInBounds_toArray, List.set_cons_zero, List.set_cons_succ]
        refine take_on 12 35 (v := ?_) rfl rfl (by kernel_rfl) (by kernel_rfl) (by kernel_rfl) (fun _ _ _ h => h) (by kernel_rfl) (by intro w hSw; (try dsimp only at hSw); go_simp; first | done | with_reducible rfl) (by assumption) ?_
        simp only [Act.put, List.setIfInBounds_toArray, List.set_cons_zero, List.set_cons_succ]
        refine take_on 13 36 (v := ?_) rfl rfl (by kernel_rfl) (by kernel_rfl) (by kernel_rfl) (fun _ _ _ h => h) (by kernel_rfl) (by intro w hSw; (try dsimp only at hSw); go_simp; first | done | with_reducible rfl) (by assumption) ?_
        simp only [Act.put, List.setIfInBounds_toArray, List.set_cons_zero, List.set_cons_succ]
        refine take_on 14 37 (v := ?_) rfl rfl (by kernel_rfl) (by kernel_rfl) (by kernel_rfl) (fun _ _ _ h => h) (by kernel_rfl) (by intro w hSw; (try dsimp only at hSw); go_simp; first | done | with_reducible rfl) (by assumption) ?_
        simp only [Act.put, List.setIfInBounds_toArray, List.set_cons_zero, List.set_cons_succ]
        refine take_on 15 38 (v := ?_) rfl rfl (by kernel_rfl) (by kernel_rfl) (by kernel_rfl) (fun _ _ _ h => h) (by kernel_rfl) (by intro w hSw; (try dsimp only at hSw); go_simp; first | done | with_reducible rfl) (by assumption) ?_
        simp only [Act.put, List.setIfInBounds_toArray, List.set_cons_zero, List.set_cons_succ]
        refine take_on 16 39 (v := ?_) rfl rfl (by kernel_rfl) (by kernel_rfl) (by kernel_rfl) (fun _ _ _ h => h) (by kernel_rfl) (by intro w hSw; (try dsimp only at hSw); go_simp; first | done | with_reducible rfl) (by assumption) ?_
        simp only [Act.put, List.setIfInBounds_toArray, List.set_cons_zero, List.set_cons_succ]
        refine take_on 17 40 (v := ?_) rfl rfl (by kernel_rfl) (by kernel_rfl) (by kernel_rfl) (fun _ _ _ h => h) (by kernel_rfl) (by intro w hSw; (try dsimp only at hSw); go_simp; first | done | with_reducible rfl) (by assumption) ?_
        simp only [Act.put, List.setIfInBounds_toArray, List.set_cons_zero, List.set_cons_succ]
        refine take_on 18 41 (v := ?_) rfl rfl (by kernel_rfl) (by kernel_rfl) (by kernel_rfl) (fun _ _ _ h => h) (by kernel_rfl) (by intro w hSw; (try dsimp only at hSw); go_simp; first | done | with_reducible rfl) (by assumption) ?_
        simp only [Act.put, List.setIfInBounds_toArray, List.set_cons_zero, List.set_cons_succ]
        refine take_on 19 42 (v := ?_) rfl rfl (by kernel_rfl) (by kernel_rfl) (by kernel_rfl) (fun _ _ _ h => h) (by kernel_rfl) (by intro w hSw; (try dsimp only at hSw); go_simp; first | done | with_reducible rfl) (by assumption) ?_
        simp only [Act.put, List.setIfInBounds_toArray, List.set_cons_zero, List.set_cons_succ]
        refine take_on 20 43 (v := ?_) rfl rfl (by kernel_rfl) (by kernel_rfl) (by kernel_rfl) (fun _ _ _ h => h) (by kernel_rfl) (by intro w hSw; (try dsimp only at hSw); go_simp; first | done | with_reducible rfl) (by assumption) ?_
        simp only [Act.put, List.setIfInBounds_toArray, List.set_cons_zero, List.set_cons_succ]
        refine wpAnyH_ready (rs := [1, 21]) (by kernel_rfl) (by simp) ?_
        refine AllReadyH.cons rfl (fun K hK => ?_) (AllReadyH.cons rfl (fun K hK => ?_) AllReadyH.nil)
        · go_simp
          refine hK.out _ _ ⟨g0, g1, d0, d1⟩ (fun hHeld => ?_)
          clear hK K
          refine wpAnyH_ready (rs := [21]) (by kernel_rfl) (by simp) ?_
          refine AllReadyH.cons rfl (fun K hK => ?_) AllReadyH.nil
          go_simp
          refine hK.out _ _ ⟨alloc_cell g0 _, alloc_cell g1 _, alloc_cell d0 _, alloc_cell d1 _⟩ (fun hHeld => ?_)
          clear hK K
          refine wpAnyH_ready (rs := [22]) (by kernel_rfl) (by simp) ?_
          refine AllReadyH.cons rfl (fun K hK => ?_) AllReadyH.nil
          refine step_append_lies _ rfl (.tmp 24) (.tmp 44) 22 rfl B 43 i (ev 0 0) 2 16 Tryd.underlying22 hi hz0 hz1 hz2 rfl (by decide) (.slice ro es2.length rc) es2.length (flatE es2) rfl ((hown.alloc (.cells #[.int .i64 (xa + n), .int .i64 (xb + n)] 43)).drew) ⟨wr.heap.size, 0, none⟩ 1 1 [.int .i64 (xa + n), .int .i64 (xb + n)] rfl rfl (two_cells _ _ _ rfl) (by simp [Value.oneCell']) (by decide) (by unfold maxLen; omega) (by omega) (by simp; omega) (wr.heap.size + 1) (by simp) ?_
          intro gg cap5 x5 own5 gr5 li5 lt5
          have kg5 : Kept (Value.slice ro es2.length rc).ownBlock.toList (wr.alloc (.cells #[.int .i64 (xa + n), .int .i64 (xb + n)] 43)) x5 := (Kept.refl _ _).drew.trans (grown_kept gr5)
          have q0 := kept_cell' (alloc_cell g0 (.cells #[.int .i64 (xa + n), .int .i64 (xb + n)] 43)) kg5 (by simpa using fun h => (unhide HNB _ h).1 rfl)
          have q1 := kept_cell' (alloc_cell g1 (.cells #[.int .i64 (xa + n), .int .i64 (xb + n)] 43)) kg5 (by simpa using fun h => (unhide HNB _ h).2.1 rfl)
          have q2 := kept_cell' (alloc_cell d0 (.cells #[.int .i64 (xa + n), .int .i64 (xb + n)] 43)) kg5 (by simpa using fun h => (unhide HNB _ h).2.2.1 rfl)
          have q3 := kept_cell' (alloc_cell d1 (.cells #[.int .i64 (xa + n), .int .i64 (xb + n)] 43)) kg5 (by simpa using fun h => (unhide HNB _ h).2.2.1 rfl)
          have q4 := kept_cell' (alloc_cell o1 (.cells #[.int .i64 (xa + n), .int .i64 (xb + n)] 43)) kg5 (by simpa using fun h => (unhide HNB _ h).2.2.2 rfl)
          have q5 := kept_free' (alloc_cell o1 (.cells #[.int .i64 (xa + n), .int .i64 (xb + n)] 43)) (kept_free o1 f1 ((Kept.refl [] wr).alloc (.cells #[.int .i64 (xa + n), .int .i64 (xb + n)] 43))) kg5 (by simpa using fun h => (unhide HNB _ h).2.2.2 rfl)
          change K (Act.put _ (some 45) _) _
          refine hK.out _ _ ⟨q0, q1, q2, q3⟩ (fun hHeld => ?_)
          clear hK K
          simp only [Act.put, List.setIfInBounds_toArray, List.set_cons_zero, List.set_cons_succ]
          refine take_on 23 46 (v := ?_) rfl rfl (by kernel_rfl) (by kernel_rfl) (by kernel_rfl) (fun _ _ _ h => h) (by kernel_rfl) (by intro w hSw; (try dsimp only at hSw); go_simp; first | done | with_reducible rfl) (by assumption) ?_
          simp only [Act.put, List.setIfInBounds_toArray, List.set_cons_zero, List.set_cons_succ]
          refine wpAnyH_ready (rs := [24]) (by kernel_rfl) (by simp) ?_
          refine AllReadyH.cons rfl (fun K hK => ?_) AllReadyH.nil
          go_simp
          refine hK.out _ _ ⟨by rw [cell_set_ne n25]; assumption, by rw [cell_set_ne n35]; assumption, by rw [cell_set_ne ne5]; assumption, by rw [cell_set_ne ne5]; assumption⟩ (fun hHeld => ?_)
          clear hK K
          refine wpAnyH_done (by kernel_rfl) ?_ _
          have HNX := hide (unhide HNEXT x5 gg cap5 own5 ⟨gr5.os, gr5.tape, gr5.output, gr5.size, gr5.block⟩ li5)
          clear kg5 own5 gr5 li5 lt5 q0 q1 q2 q3 q4 q5
          go_wp2
          go_roundw
          case rel => exact ⟨k + 1, _, _, _, by omega, by go_num, unhide HNX⟩
          case measure => simp [intOf]; omega
        · go_simp
          refine hK.out _ _ ⟨alloc_cell g0 _, alloc_cell g1 _, alloc_cell d0 _, alloc_cell d1 _⟩ (fun hHeld => ?_)
          clear hK K
          refine wpAnyH_ready (rs := [1]) (by kernel_rfl) (by simp) ?_
          refine AllReadyH.cons rfl (fun K hK => ?_) AllReadyH.nil
          go_simp
          refine hK.out _ _ ⟨alloc_cell g0 _, alloc_cell g1 _, alloc_cell d0 _, alloc_cell d1 _⟩ (fun hHeld => ?_)
          clear hK K
          refine wpAnyH_ready (rs := [22]) (by kernel_rfl) (by simp) ?_
          refine AllReadyH.cons rfl (fun K hK => ?_) AllReadyH.nil
          refine step_append_lies _ rfl (.tmp 24) (.tmp 44) 22 rfl B 43 i (ev 0 0) 2 16 Tryd.underlying22 hi hz0 hz1 hz2 rfl (by decide) (.slice ro es2.length rc) es2.length (flatE es2) rfl ((hown.alloc (.cells #[.int .i64 (xa + n), .int .i64 (xb + n)] 43)).drew) ⟨wr.heap.size, 0, none⟩ 1 1 [.int .i64 (xa + n), .int .i64 (xb + n)] rfl rfl (two_cells _ _ _ rfl) (by simp [Value.oneCell']) (by decide) (by unfold maxLen; omega) (by omega) (by simp; omega) (wr.heap.size + 1) (by simp) ?_
          intro gg cap5 x5 own5 gr5 li5 lt5
          have kg5 : Kept (Value.slice ro es2.length rc).ownBlock.toList (wr.alloc (.cells #[.int .i64 (xa + n), .int .i64 (xb + n)] 43)) x5 := (Kept.refl _ _).drew.trans (grown_kept gr5)
          have q0 := kept_cell' (alloc_cell g0 (.cells #[.int .i64 (xa + n), .int .i64 (xb + n)] 43)) kg5 (by simpa using fun h => (unhide HNB _ h).1 rfl)
          have q1 := kept_cell' (alloc_cell g1 (.cells #[.int .i64 (xa + n), .int .i64 (xb + n)] 43)) kg5 (by simpa using fun h => (unhide HNB _ h).2.1 rfl)
          have q2 := kept_cell' (alloc_cell d0 (.cells #[.int .i64 (xa + n), .int .i64 (xb + n)] 43)) kg5 (by simpa using fun h => (unhide HNB _ h).2.2.1 rfl)
          have q3 := kept_cell' (alloc_cell d1 (.cells #[.int .i64 (xa + n), .int .i64 (xb + n)] 43)) kg5 (by simpa using fun h => (unhide HNB _ h).2.2.1 rfl)
          have q4 := kept_cell' (alloc_cell o1 (.cells #[.int .i64 (xa + n), .int .i64 (xb + n)] 43)) kg5 (by simpa using fun h => (unhide HNB _ h).2.2.2 rfl)
          have q5 := kept_free' (alloc_cell o1 (.cells #[.int .i64 (xa + n), .int .i64 (xb + n)] 43)) (kept_free o1 f1 ((Kept.refl [] wr).alloc (.cells #[.int .i64 (xa + n), .int .i64 (xb + n)] 43))) kg5 (by simpa using fun h => (unhide HNB _ h).2.2.2 rfl)
          change K (Act.put _ (some 45) _) _
          refine hK.out _ _ ⟨q0, q1, q2, q3⟩ (fun hHeld => ?_)
          clear hK K
          simp only [Act.put, List.setIfInBounds_toArray, List.set_cons_zero, List.set_cons_succ]
          refine take_on 23 46 (v := ?_) rfl rfl (by kernel_rfl) (by kernel_rfl) (by kernel_rfl) (fun _ _ _ h => h) (by kernel_rfl) (by intro w hSw; (try dsimp only at hSw); go_simp; first | done | with_reducible rfl) (by assumption) ?_
          simp only [Act.put, List.setIfInBounds_toArray, List.set_cons_zero, List.set_cons_succ]
          refine wpAnyH_ready (rs := [24]) (by kernel_rfl) (by simp) ?_
          refine AllReadyH.cons rfl (fun K hK => ?_) AllReadyH.nil
          go_simp
          refine hK.out _ _ ⟨by rw [cell_set_ne n25]; assumption, by rw [cell_set_ne n35]; assumption, by rw [cell_set_ne ne5]; assumption, by rw [cell_set_ne ne5]; assumption⟩ (fun hHeld => ?_)
          clear hK K
          refine wpAnyH_done (by kernel_rfl) ?_ _
          have HNX := hide (unhide HNEXT x5 gg cap5 own5 ⟨gr5.os, gr5.tape, gr5.output, gr5.size, gr5.block⟩ li5)
          clear kg5 own5 gr5 li5 lt5 q0 q1 q2 q3 q4 q5
          go_wp2
          go_roundw
          case rel => exact ⟨k + 1, _, _, _, by omega, by go_num, unhide HNX⟩
          case measure => simp [intOf]; omega
      · have HFS := hide (show es2 = besideE n es hs by rw [(unhide hh).2, List.take_of_length_le (by omega)]; rfl)
        have o0 := (unhide hh).1.o0; have o1 := (unhide hh).1.o1
        have r0 := (unhide hh).1.r0; have r1 := (unhide hh).1.r1; have e0 := (unhide hh).1.e0; have e1 := (unhide hh).1.e1
        have hB3 := (unhide hh).1.B0
        have ks : Kept [w.heap.size + 2] wr ((wr.setCell ⟨w.heap.size + 2, 0, none⟩ (.int .i64 (n + m))).setCell ⟨w.heap.size + 2, 1, none⟩ (.slice ro es2.length rc)) := ((Kept.refl _ _).setCell (Or.inl (by simp)) _).setCell (Or.inl (by simp)) _
        have hat := (unhide hh).1.own.at'
        have HT := hide (show EdgesAt ((wr.setCell ⟨w.heap.size + 2, 0, none⟩ (.int .i64 (n + m))).setCell ⟨w.heap.size + 2, 1, none⟩ (.slice ro es2.length rc)) (.slice ro es2.length rc) es2 ∧ FreshAt w.heap.size (.slice ro es2.length rc) ∧ Kept [] w ((wr.setCell ⟨w.heap.size + 2, 0, none⟩ (.int .i64 (n + m))).setCell ⟨w.heap.size + 2, 1, none⟩ (.slice ro es2.length rc)) from
          ⟨hat.1.keptAt ks (fun a x y e => by have := hat.2 a x y e; simp; omega), fun a x y e => by have := hat.2 a x y e; omega, (unhide hh).1.kept.trans' ks (by simp)⟩)
        clear hat ks hB3
        go_wp2
        refine bodyPost_ret (v := gv (n + m) (.slice ro es2.length rc)) (by simp [results, Tryd.results21, go_sem, r0, r1]) rfl ?_
        first | exact ⟨_, rfl, by rw [← unhide HFS]; exact (unhide HT).1, (unhide HT).2⟩ | exact ⟨_, by rw [← unhide HFS]; exact (unhide HT).1, (unhide HT).2⟩
end Go.Proofs.YtmpcnepiogjokaaDoor

namespace Go.Proofs.YtmpcnepiogjokaaDoor
open Go.RowKit

set_option maxRecDepth 20000 in
set_option maxHeartbeats 4000000 in
theorem shift_any {w : World} {v : Value} {xs : List Int} (h : IntsAt w v xs) (n : Int) (hn : 0 ≤ n ∧ n ≤ 4096) (hb : ∀ x ∈ xs, 0 ≤ x ∧ x ≤ 100000) (hl : xs.length ≤ 100000) :
    Calls Tryd.prog 23 #[v, .int .i64 n] w fun e w' => ∃ r, e = .returned r ∧ IntsAt w' r (shiftL n xs) ∧ Kept [] w w' := by
  obtain ⟨i, hi, hz0, hz1, hz2⟩ := info_parts infoInt
  obtain ⟨ao, cap, rfl, hm, hc⟩ := h.shape
  have HX := hide (fun W (k : Kept [] w W) => h.kept k)
  have HB := hide hb
  have HO0 : w.ownsRow w.heap.size 3 1 (.slice none 0 0) 0 ([].map (Value.int .i64)) := ⟨rfl, Or.inl ⟨rfl, rfl⟩⟩
  clear h hc hm hb
  go_enter Tryd.func23, Tryd.ntmps23
  go_wp2
  go_loopw [5, 6] (fun pv kk wr => ∃ (k : Nat) (po : Option Addr) (pc : Nat) (pl : List Int), k ≤ xs.length ∧ kk = .int .i64 k ∧ pv = .slice po pl.length pc ∧ wr.ownsRow w.heap.size 3 1 pv pl.length (pl.map (Value.int .i64)) ∧ Hid (pl = shiftL n (xs.take k) ∧ Kept [] w wr)) (fun _ kk _ => xs.length - (intOf kk).toNat)
  case atStart => exact ⟨0, none, 0, [], Nat.zero_le _, rfl, rfl, HO0, rfl, Kept.refl [] w⟩
  case round =>
    obtain ⟨k, po, pc, pl, hk, rfl, rfl, hown, hh⟩ := hrel
    by_cases hlt : k < xs.length
    · obtain ⟨ao2, cap2, hv2, _, hin2⟩ := (unhide HX _ (unhide hh).2).shape
      obtain ⟨eg, eo, he2, hin⟩ := hin2 (by omega)
      have hao : ao = some ⟨eg, eo, none⟩ := by simp at hv2; rw [hv2.1, he2]
      subst hao
      have d0 := hin k hlt
      have hbx := unhide HB _ (getD_mem hlt)
      have HTK := hide (show shiftL n (xs.take (k + 1)) = shiftL n (xs.take k) ++ [xs.getD k 0 + n] by
        unfold shiftL; rw [List.take_succ_eq_append_getElem hlt, List.map_append, getD_elem hlt]; rfl)
      have hpl : pl.length ≤ 100000 := by rw [(unhide hh).1]; simp [shiftL]; omega
      generalize xs.getD k 0 = x at *
      clear hin hin2 hv2 he2
      have t0 : (0 : Int) ≤ (k : Int) := by omega
      have t1 : (k : Int) < (xs.length : Int) := by omega
      have hwx : IntKind.i64.wrap (x + n) = x + n := by rw [IntWalk.i64_left, IntWalk.wrap64_in _ (by omega)]
      have hws := (unhide hh).2.size
      go_wp2_with (first | (at_builtin; refine wpList_append_own _ rfl (.tmp 13) (.tmp 20) 25 rfl w.heap.size 3 i (.int .i64 0) 1 8 Tryd.underlying25 hi hz0 hz1 hz2 rfl (by decide) _ _ _ rfl (hown.alloc _) _ 1 _ [.int .i64 (x + n)] rfl rfl (one_cell' _ _ _ (by simp)) (by simp [Value.oneCell']) (by unfold maxLen; omega) (by omega) (by simp; omega) ?_; intro v' w4 own4 g4 _))
      have hob := own_block hown
      have HK4 := hide ((unhide hh).2.trans' (cs := (Value.slice po pl.length pc).ownBlock.toList) ((((Kept.refl [] wr).alloc _).mono (by simp)).trans (grown_kept g4)) (fun q hq => Or.inr (hob q (by simpa using hq))))
      have own5 : w4.ownsRow w.heap.size 3 1 v' (pl ++ [x + n]).length ((pl ++ [x + n]).map (Value.int .i64)) := by
        rw [List.length_append, List.map_append]; exact own4
      obtain ⟨lo5, lc5, hv5⟩ : ∃ lo5 lc5, v' = .slice lo5 (pl ++ [x + n]).length lc5 := by
        rcases own5.2 with ⟨_, h0⟩ | ⟨g', cap', cur, hv, _⟩
        · simp at h0
        · exact ⟨some ⟨g', 0, none⟩, cap', hv⟩
      have HV5 := hide hv5
      clear own4 g4 hob hv5 hown
      go_wp2
      go_roundw
      case rel => exact ⟨k + 1, lo5, lc5, pl ++ [x + n], by omega, by go_num, unhide HV5, own5, by rw [unhide HTK, (unhide hh).1], unhide HK4⟩
      case measure => simp [intOf]; omega
    · have HIN := hide (show IntsAt wr (.slice po pl.length pc) (shiftL n xs) by
        have h1 := (unhide hh).1
        rw [List.take_of_length_le (by omega)] at h1
        rw [← h1]
        exact (ints_of_owns hown).1)
      go_wp2
      go_ret
      exact ⟨_, rfl, unhide HIN, (unhide hh).2⟩

set_option maxRecDepth 20000 in
set_option maxHeartbeats 4000000 in
theorem putG_any {w : World} {n : Int} {v : Value} {es : List E} (h : EdgesAt w v es) (a b : Int) :
    Calls Tryd.prog 24 #[gv n v, ev a b] w fun e w' => ∃ r, e = .returned (.tuple #[gv (addN n es a b) r, .int .i64 (addErr n es a b)]) ∧ EdgesAt w' r (addE n es a b) ∧ Kept [] w w' := by
  obtain ⟨ao, cap, rfl, _⟩ := h.shape
  have KB := (((Kept.refl [] w).alloc (.cells #[.int .i64 n, .slice ao es.length cap] 24)).alloc (.cells #[.int .i64 a, .int .i64 b] 43)).alloc (.cells #[.int .i64 0, .slice none 0 0] 24)
  have HA := hide (radd_any (n := n) (h.kept KB) a b)
  have HK := hide KB
  generalize addN n es a b = nn at *
  generalize addE n es a b = ee at *
  generalize addErr n es a b = er at *
  clear h KB
  go_enter Tryd.func24, Tryd.ntmps24
  go_wp2_with fail
  refine (unhide HA).mono ?_
  rintro e w1 ⟨r, rfl, hr, hf, k1⟩
  obtain ⟨r0, r1⟩ := box2 k1 (by simp)
  obtain ⟨f0, f1⟩ := box2f k1
  simp only [World.size_alloc] at r0 r1 f0 f1
  obtain ⟨ro, rm, rc, rfl⟩ := hr.form
  have ks : Kept [w.heap.size + 2] w1 ((w1.setCell ⟨w.heap.size + 2, 0, none⟩ (.int .i64 nn)).setCell ⟨w.heap.size + 2, 1, none⟩ (.slice ro rm rc)) := ((Kept.refl _ _).setCell (Or.inl (by simp)) _).setCell (Or.inl (by simp)) _
  have HT := hide (show EdgesAt ((w1.setCell ⟨w.heap.size + 2, 0, none⟩ (.int .i64 nn)).setCell ⟨w.heap.size + 2, 1, none⟩ (.slice ro rm rc)) (.slice ro rm rc) ee ∧ Kept [] w ((w1.setCell ⟨w.heap.size + 2, 0, none⟩ (.int .i64 nn)).setCell ⟨w.heap.size + 2, 1, none⟩ (.slice ro rm rc)) from
    ⟨hr.keptAt ks (fun a x y e => by have := hf a x y e; simp at this ⊢; omega), ((unhide HK).trans k1).trans' ks (by simp)⟩)
  clear hr hf k1 ks
  go_wp2
  refine bodyPost_ret (v := .tuple #[gv nn (.slice ro rm rc), .int .i64 er]) (by simp [results, Tryd.results24, go_sem, r0, r1]) rfl ?_
  first | exact ⟨_, rfl, unhide HT⟩ | exact ⟨_, unhide HT⟩
end Go.Proofs.YtmpcnepiogjokaaDoor

namespace Go.Proofs.YtmpcnepiogjokaaDoor
open Go.RowKit

theorem getD_app_lo {S R : List Int} {v : Nat} (h : v < S.length) : (S ++ R).getD v 0 = S.getD v 0 := getD_app h
theorem getD_app_hi {S R : List Int} {v : Nat} (h : S.length ≤ v) : (S ++ R).getD v 0 = R.getD (v - S.length) 0 := by
  simp [List.getD, List.getElem?_append_right h]
/-- The sides of two graphs side by side. -/
theorem IsSides.beside {N M : Nat} {es hs : List E} {S R : List Int} (h : IsSides es N S) (k : IsSides hs M R) (ok1 : ∀ e ∈ es, okE (N : Int) e = true) (ok2 : ∀ e ∈ hs, okE (M : Int) e = true) : IsSides (besideE (N : Int) es hs) (N + M) (S ++ R) := by
  have hl := h.len
  have kl := k.len
  refine ⟨by rw [List.length_append, hl, kl], fun v hv => ?_, fun a b hab => ?_, fun v hv hd => ?_⟩
  · by_cases c : v < N
    · rw [getD_app_lo (by omega)]; exact h.val v c
    · rw [getD_app_hi (by omega), hl]; exact k.val (v - N) (by omega)
  · rcases List.mem_append.1 hab with hab | hab
    · have ok := okE_iff.1 (ok1 _ hab)
      simp only at ok
      rw [getD_app_lo (by omega), getD_app_lo (by omega)]
      exact h.edge a b hab
    · rw [mem_shiftE] at hab
      have ok := okE_iff.1 (ok2 _ hab)
      simp only at ok
      rw [getD_app_hi (by omega), getD_app_hi (by omega), hl]
      refine k.edge (a - N) (b - N) ?_
      rw [show ((a - N : Nat) : Int) = (a : Int) - (N : Int) by omega, show ((b - N : Nat) : Int) = (b : Int) - (N : Int) by omega]
      exact hab
  · have e : ((N + M : Nat) : Int) = (N : Int) + (M : Int) := by omega
    rw [e] at hd
    by_cases c : v < N
    · rw [getD_app_lo (by omega)]
      refine h.hd v c ⟨alive_nil.2 (by omega), fun y hy => hd.2 y ?_⟩
      exact (reach_low ok1 ok2 (by omega) (by omega)).2 hy
    · rw [getD_app_hi (by omega), hl]
      refine k.hd (v - N) (by omega) ⟨alive_nil.2 (by omega), fun y hy => ?_⟩
      have hx := (reach_high (n := (N : Int)) (m := (M : Int)) (x := ((v - N : Nat) : Int)) (y := y + (N : Int)) ok1 ok2 (by omega) (by omega)).2 (by rw [show y + (N : Int) - (N : Int) = y by omega]; exact hy)
      rw [show ((v - N : Nat) : Int) + (N : Int) = (v : Int) by omega] at hx
      have := hd.2 _ hx
      omega
theorem Proper.left {n : Int} {es hs : List E} {c : Int → Bool} (h : Proper (besideE n es hs) c) : Proper es c := fun x y ha => h x y (adj_beside.2 (Or.inl ha))
theorem Proper.right {n : Int} {es hs : List E} {c : Int → Bool} (h : Proper (besideE n es hs) c) : Proper hs (fun x => c (x + n)) := fun x y ha => h _ _ (adj_beside.2 (Or.inr (by rw [show x + n - n = x by omega, show y + n - n = y by omega]; exact ha)))
/-- What Of tells of a right graph. -/
def Told (w : World) (es : List E) (N : Nat) (s c : Value) (er : Int) : Prop := (∃ S, IntsAt w s S ∧ IsSides es N S ∧ c = .slice none 0 0 ∧ er = 0) ∨ (s = .slice none 0 0 ∧ (∃ l, IntsAt w c l ∧ IsCyc es l ∧ l.length % 2 = 1) ∧ er = 10)
theorem sof_right {w : World} {N : Nat} {v : Value} {es : List E} (h : EdgesAt w v es) (hr : rightB (N : Int) es = true) (hT : Tab w) :
    Calls Tryd.prog 26 #[gv N v] w fun e w' => ∃ s c er, e = .returned (.tuple #[s, c, .int .i64 er]) ∧ Told w' es N s c er ∧ Kept [] w w' :=
  (sof_any h hT).mono fun _ _ ⟨s, c, er, he, k, hc⟩ => ⟨s, c, er, he, by
    rcases hc with ⟨h1, _⟩ | ⟨_, ⟨S, h2, h3⟩, h4, h5⟩ | ⟨_, h2, h3, h4⟩
    · rw [hr] at h1; cases h1
    · exact Or.inl ⟨S, h2, by rwa [Int.toNat_natCast] at h3, h4, h5⟩
    · exact Or.inr ⟨h2, h3, h4⟩, k⟩
theorem Told.form {w : World} {es : List E} {N : Nat} {s c : Value} {er : Int} (h : Told w es N s c er) : (∃ a m k, s = .slice a m k) ∧ ∃ a m k, c = .slice a m k := by
  rcases h with ⟨S, h1, _, rfl, _⟩ | ⟨rfl, ⟨l, h1, _⟩, _⟩
  · obtain ⟨x, y, e, _⟩ := h1.shape; exact ⟨⟨_, _, _, e⟩, ⟨_, _, _, rfl⟩⟩
  · obtain ⟨x, y, e, _⟩ := h1.shape; exact ⟨⟨_, _, _, rfl⟩, ⟨_, _, _, e⟩⟩

set_option maxRecDepth 20000 in
set_option maxHeartbeats 8000000 in
theorem besideS_walk {w : World} {v u : Value} {xs ys : List Int} (n m : Int) (h : IntsAt w v xs) (hy : IntsAt w u ys) (hT : Tab w) : Calls Tryd.prog 8 #[.int .i64 n, .int .i64 m, v, u] w fun e w' => e = .returned (.bool true) ∧ Kept [] w w' := by
  obtain ⟨i, hi, hz0, hz1, hz2⟩ := info_parts infoInt
  have HS := hide (small_any h n 14 16 (by omega) (by omega) (by omega) (by omega))
  have HY := hide (fun W (k : Kept [] w W) => small_any (hy.kept k) m 14 16 (by omega) (by omega) (by omega) (by omega))
  have HTT := hide (fun W (k : Kept [] w W) => hT.kept k (by simp))
  clear h hT hy
  go_enter Tryd.func8, Tryd.ntmps8
  go_wp2_with fail
  refine (unhide HS).mono ?_
  rintro e w1 ⟨N', r, es, rfl, hr, hright, hNV, hel, _, k1⟩
  go_wp2_with fail
  refine (unhide HY _ k1).mono ?_
  rintro e w2 ⟨M', s, hs, rfl, hsr, hright2, hMV, hhl, _, k2⟩
  obtain ⟨ao, cap, rfl, _⟩ := hr.shape
  obtain ⟨bo, bap, rfl, _⟩ := hsr.shape
  obtain ⟨N, rfl⟩ := Int.eq_ofNat_of_zero_le (right_rise hright).1
  obtain ⟨M, rfl⟩ := Int.eq_ofNat_of_zero_le (right_rise hright2).1
  have HRT := hide hright
  have HRT2 := hide hright2
  have HK2 := hide (k1.trans k2)
  have HR := hide (hr.kept k2)
  have HSR := hide hsr
  have HBR := hide (show rightB ((N + M : Nat) : Int) (besideE (N : Int) es hs) = true by
    have := beside_right hright hright2 (by omega) (by omega)
    rwa [show ((N + M : Nat) : Int) = (N : Int) + (M : Int) by omega])
  clear hr hsr hright hright2 k1 k2
  go_wp2_with fail
  have GA := (GVar.new (n := (N : Int)) (unhide HR) 24).kept ((Kept.refl [] (w2.alloc (.cells #[.int .i64 (N : Int), .slice ao es.length cap] 24))).alloc (.cells #[.int .i64 (M : Int), .slice bo hs.length bap] 24))
  have GB := GVar.new (w := w2.alloc (.cells #[.int .i64 (N : Int), .slice ao es.length cap] 24)) (n := (M : Int)) ((unhide HSR).kept ((Kept.refl [] w2).alloc (.cells #[.int .i64 (N : Int), .slice ao es.length cap] 24))) 24
  rw [World.size_alloc] at GB
  have HK3 := hide (((unhide HK2).alloc (.cells #[.int .i64 (N : Int), .slice ao es.length cap] 24)).alloc (.cells #[.int .i64 (M : Int), .slice bo hs.length bap] 24))
  generalize (w2.alloc (.cells #[.int .i64 (N : Int), .slice ao es.length cap] 24)).alloc (.cells #[.int .i64 (M : Int), .slice bo hs.length bap] 24) = W3 at *
  generalize w2.heap.size + 1 = p1 at *
  generalize w2.heap.size = p0 at *
  have HGA := hide (fun W (k : Kept [] W3 W) => GA.kept k)
  have HGB := hide (fun W (k : Kept [] W3 W) => GB.kept k)
  have HTW := hide (fun W (k : Kept [] W3 W) => unhide HTT _ ((unhide HK3).trans k))
  clear GA GB HR HSR HK2
  refine (sof_right (unhide HGA _ (Kept.refl [] W3)).e (unhide HRT) (unhide HTW _ (Kept.refl [] W3))).mono ?_
  rintro e w4 ⟨s1, c1, e1, rfl, t1, k4⟩
  have HT1 := hide t1
  obtain ⟨⟨a1, m1, q1, rfl⟩, b1, n1, r1, rfl⟩ := t1.form
  have HK4 := hide k4
  have ga := (unhide HGB _ k4).a; have gb := (unhide HGB _ k4).b
  clear t1 k4
  go_wp2_with fail
  refine (sof_right (unhide HGB _ (unhide HK4)).e (unhide HRT2) (unhide HTW _ (unhide HK4))).mono ?_
  rintro e w5 ⟨s2, c2, e2, rfl, t2, k5⟩
  have HT2 := hide t2
  obtain ⟨⟨a2, m2, q2, rfl⟩, b2, n2, r2, rfl⟩ := t2.form
  have HK45 := hide k5
  have HK5 := hide ((unhide HK4).trans k5)
  clear t2 k5 ga gb
  have ga := (unhide HGA _ (unhide HK5)).a; have gb := (unhide HGA _ (unhide HK5)).b
  have gc := (unhide HGB _ (unhide HK5)).a; have gd := (unhide HGB _ (unhide HK5)).b
  have HBS := hide (fun W (k : Kept [] W3 W) => beside_any (n := (N : Int)) (m := (M : Int)) (unhide HGA _ k).e (unhide HGB _ k).e (by omega) (by omega) (right_rise (unhide HRT2)).2.2.2.2 (by omega) (by omega))
  go_wp2_with fail
  refine (unhide HBS _ (unhide HK5)).mono ?_
  rintro e w6 ⟨r6, rfl, h6, _, k6⟩
  have HK56 := hide k6
  have HK6 := hide ((unhide HK5).trans k6)
  obtain ⟨o6, m6, p6, rfl⟩ := h6.form
  have HOB := sof_right (N := N + M) h6 (unhide HBR) (unhide HTW _ (unhide HK6))
  rw [show ((N + M : Nat) : Int) = (N : Int) + (M : Int) by omega] at HOB
  have HOB2 := hide HOB
  clear HOB h6 k6 ga gb gc gd
  go_wp2_with fail
  refine (unhide HOB2).mono ?_
  rintro e w7 ⟨s3, c3, e3, rfl, t3, k7⟩
  have HT3 := hide t3
  obtain ⟨⟨a3, m3, q3, rfl⟩, b3, n3, r3, rfl⟩ := t3.form
  have HK67 := hide k7
  have HK7 := hide ((unhide HK6).trans k7)
  have HAW := hide (sawake_any (unhide HTW _ (unhide HK7)))
  clear t3 k7
  have ok1 := (right_rise (unhide HRT)).2.2.2.2
  have ok2 := (right_rise (unhide HRT2)).2.2.2.2
  have okB := (right_rise (unhide HBR)).2.2.2.2
  rcases unhide HT3 with ⟨C, iC, hC, ec, ee⟩ | ⟨es3', ⟨l, il, hcl, hol⟩, ee⟩
  · have hpr := hC.proper okB
    obtain ⟨S, iS, hS, ee1⟩ : ∃ S, IntsAt w4 (.slice a1 m1 q1) S ∧ IsSides es N S ∧ e1 = 0 := by
      rcases unhide HT1 with ⟨S, iS, hS, _, ee1⟩ | ⟨_, ⟨l1, _, h1, h2⟩, _⟩
      · exact ⟨S, iS, hS, ee1⟩
      · exact (h1.odd_no h2 hpr.left).elim
    obtain ⟨R, iR, hR, ee2⟩ : ∃ R, IntsAt w5 (.slice a2 m2 q2) R ∧ IsSides hs M R ∧ e2 = 0 := by
      rcases unhide HT2 with ⟨R, iR, hR, _, ee2⟩ | ⟨_, ⟨l2, _, h1, h2⟩, _⟩
      · exact ⟨R, iR, hR, ee2⟩
      · exact (h1.odd_no h2 hpr.right).elim
    subst ee ee1 ee2
    simp at ec
    obtain ⟨rfl, rfl, rfl⟩ := ec
    have hCe := hC.unique (hS.beside hR ok1 ok2) okB
    have hSl := hS.len
    have hRl := hR.len
    have HIC := hide (fun W (k : Kept [] w7 W) => iC.kept k)
    have HIS := hide (fun W (k : Kept [] w7 W) => (iS.kept (((unhide HK45).trans (unhide HK56)).trans (unhide HK67))).kept k)
    have HIR := hide (fun W (k : Kept [] w7 W) => (iR.kept ((unhide HK56).trans (unhide HK67))).kept k)
    clear hpr ok1 ok2 okB iC iS iR hC hS hR HT1 HT2 HT3
    have e00 : ((0 : Int) == 0) = true := by simp
    go_wp2_with fail
    refine (unhide HAW).mono ?_
    rintro e w8 ⟨rfl, k8⟩
    have HK8 := hide k8
    clear k8
    go_wp2_with (first
      | (at_builtin; refine wpList_append_src rfl (.const (.slice none 0 0)) (.tmp 62) 25 rfl w8.heap.size 3 i (.int .i64 0) 1 8 Tryd.underlying25 hi hz0 hz1 hz2 rfl (by decide) (.slice none 0 0) 0 [] rfl ⟨rfl, Or.inl ⟨rfl, rfl⟩⟩ _ _ _ rfl (unhide HIS _ (unhide HK8)).src (by unfold maxLen; omega) (by omega) (Nat.le_refl _) ?_; intro v9 w9 own9 g9; have K9 : Kept [] w8 w9 := (Kept.refl [] w8).grown g9 (by simp [Value.ownBlock]))
      | (at_builtin; refine wpList_append_src rfl (.tmp 63) (.tmp 64) 25 rfl w8.heap.size 3 i (.int .i64 0) 1 8 Tryd.underlying25 hi hz0 hz1 hz2 rfl (by decide) _ _ _ rfl own9 _ _ _ rfl (unhide HIR _ ((unhide HK8).trans K9)).src (by unfold maxLen; omega) (by omega) K9.size ?_; intro v10 w10 own10 g10; have K10 : Kept [] w8 w10 := K9.grown g10 (fun j hj => Or.inr (own_block own9 j hj))))
    have I10 : IntsAt w10 v10 (S ++ R) := by
      have ow : OwnN w10 w8.heap.size v10 (S ++ R) := by
        unfold OwnN
        rw [List.length_append, List.map_append]
        simpa using own10
      exact ow.at'.1
    have HPL := plain_any (unhide HIC _ ((unhide HK8).trans K10)) I10
    rw [show decide (C = S ++ R) = true by simpa using hCe] at HPL
    have HPL2 := hide HPL
    have HKF := hide ((unhide HK3).trans ((unhide HK7).trans ((unhide HK8).trans K10)))
    clear HPL I10 own9 own10 g9 g10 K9 K10
    refine (unhide HPL2).mono ?_
    rintro e w11 ⟨rfl, m11, rfl⟩
    have HKG := hide ((unhide HKF).drewN m11)
    go_wp2
    go_ret
    exact ⟨rfl, unhide HKG⟩
  · have hno : ¬ (e1 = 0 ∧ e2 = 0) := fun ⟨z1, z2⟩ => by
      rcases unhide HT1 with ⟨S, _, hS, _, _⟩ | ⟨_, _, z⟩
      · rcases unhide HT2 with ⟨R, _, hR, _, _⟩ | ⟨_, _, z⟩
        · exact hcl.odd_no hol ((hS.beside hR ok1 ok2).proper okB)
        · omega
      · omega
    have hv1 : e1 = 0 ∨ e1 = 10 := by
      rcases unhide HT1 with ⟨_, _, _, _, z⟩ | ⟨_, _, z⟩
      · exact Or.inl z
      · exact Or.inr z
    have hv2 : e2 = 0 ∨ e2 = 10 := by
      rcases unhide HT2 with ⟨_, _, _, _, z⟩ | ⟨_, _, z⟩
      · exact Or.inl z
      · exact Or.inr z
    subst ee
    simp at es3'
    obtain ⟨rfl, rfl, rfl⟩ := es3'
    have HIL := hide (fun W (k : Kept [] w7 W) => il.kept k)
    obtain ⟨lo', lc', hlv, _⟩ := il.shape
    simp at hlv
    obtain ⟨rfl, rfl, rfl⟩ := hlv
    have hll : l.length ≤ 1000000 := by
      have := len_bound (N := N + M) hcl.nodup (hcl.bound okB)
      omega
    have hllI : (l.length : Int) ≤ 9223372036854775807 := by omega
    have hmod : ((l.length : Int)).tmod 2 = 1 := by rw [Int.tmod_eq_emod_of_nonneg (by omega)]; omega
    have hmod2 : (l.length : Int) % 2 = 1 := by omega
    have hmod3 : IntKind.i64.wrap (((l.length : Int)).tmod 2) = 1 := by rw [hmod]; kernel_rfl
    have HCL := hide hcl
    have HRL := hide (fun W v (k : Kept [] w7 W) (he : EdgesAt W v (besideE (N : Int) es hs)) => ris_any (n := (N : Int) + (M : Int)) he (unhide HIL _ k) hll)
    have HBR2 := hide (show rightB ((N : Int) + (M : Int)) (besideE (N : Int) es hs) = true by have := unhide HBR; rwa [show ((N + M : Nat) : Int) = (N : Int) + (M : Int) by omega] at this)
    clear ok1 ok2 okB hcl hol il HT1 HT2 HT3 hll
    generalize l.length = ll at *
    have h10 : ((10 : Int) == 0) = false := by decide
    rcases hv1 with rfl | rfl
    · have e2' : e2 = 10 := by
        rcases hv2 with z | z
        · exact absurd ⟨rfl, z⟩ hno
        · exact z
      subst e2'
      clear hno hv2
      go_wp2_with fail
      refine (unhide HAW).mono ?_
      rintro e w8 ⟨rfl, k8⟩
      have HK78 := hide k8
      have HK8 := hide ((unhide HK7).trans k8)
      have ga := (unhide HGA _ (unhide HK8)).a; have gb := (unhide HGA _ (unhide HK8)).b
      have gc := (unhide HGB _ (unhide HK8)).a; have gd := (unhide HGB _ (unhide HK8)).b
      clear k8
      go_wp2_with fail
      refine (unhide HBS _ (unhide HK8)).mono ?_
      rintro e w9 ⟨r9, rfl, h9, _, k9⟩
      obtain ⟨o9, m9, p9, rfl⟩ := h9.form
      have HRL2 := hide (unhide HRL _ _ ((unhide HK78).trans k9) h9)
      have HK9 := hide ((unhide HK3).trans ((unhide HK8).trans k9))
      clear h9 k9 ga gb gc gd
      go_wp2_with fail
      refine (unhide HRL2).mono ?_
      rintro e w10 ⟨c10, rfl, hc10, k10⟩
      have e10 := hc10.2 ⟨unhide HBR2, unhide HCL⟩
      subst e10
      have HK10 := hide ((unhide HK9).trans k10)
      clear hc10 k10
      go_wp2
      go_ret
      exact ⟨rfl, unhide HK10⟩
    · clear hno
      rcases hv2 with rfl | rfl
      · go_wp2_with fail
        refine (unhide HAW).mono ?_
        rintro e w8 ⟨rfl, k8⟩
        have HK78 := hide k8
        have HK8 := hide ((unhide HK7).trans k8)
        have ga := (unhide HGA _ (unhide HK8)).a; have gb := (unhide HGA _ (unhide HK8)).b
        have gc := (unhide HGB _ (unhide HK8)).a; have gd := (unhide HGB _ (unhide HK8)).b
        clear k8
        go_wp2_with fail
        refine (unhide HBS _ (unhide HK8)).mono ?_
        rintro e w9 ⟨r9, rfl, h9, _, k9⟩
        obtain ⟨o9, m9, p9, rfl⟩ := h9.form
        have HRL2 := hide (unhide HRL _ _ ((unhide HK78).trans k9) h9)
        have HK9 := hide ((unhide HK3).trans ((unhide HK8).trans k9))
        clear h9 k9 ga gb gc gd
        go_wp2_with fail
        refine (unhide HRL2).mono ?_
        rintro e w10 ⟨c10, rfl, hc10, k10⟩
        have e10 := hc10.2 ⟨unhide HBR2, unhide HCL⟩
        subst e10
        have HK10 := hide ((unhide HK9).trans k10)
        clear hc10 k10
        go_wp2
        go_ret
        exact ⟨rfl, unhide HK10⟩
      · go_wp2_with fail
        refine (unhide HAW).mono ?_
        rintro e w8 ⟨rfl, k8⟩
        have HK78 := hide k8
        have HK8 := hide ((unhide HK7).trans k8)
        have ga := (unhide HGA _ (unhide HK8)).a; have gb := (unhide HGA _ (unhide HK8)).b
        have gc := (unhide HGB _ (unhide HK8)).a; have gd := (unhide HGB _ (unhide HK8)).b
        clear k8
        go_wp2_with fail
        refine (unhide HBS _ (unhide HK8)).mono ?_
        rintro e w9 ⟨r9, rfl, h9, _, k9⟩
        obtain ⟨o9, m9, p9, rfl⟩ := h9.form
        have HRL2 := hide (unhide HRL _ _ ((unhide HK78).trans k9) h9)
        have HK9 := hide ((unhide HK3).trans ((unhide HK8).trans k9))
        clear h9 k9 ga gb gc gd
        go_wp2_with fail
        refine (unhide HRL2).mono ?_
        rintro e w10 ⟨c10, rfl, hc10, k10⟩
        have e10 := hc10.2 ⟨unhide HBR2, unhide HCL⟩
        subst e10
        have HK10 := hide ((unhide HK9).trans k10)
        clear hc10 k10
        go_wp2
        go_ret
        exact ⟨rfl, unhide HK10⟩
theorem besideS_law (w : World) (n : Int) (_ : InI n) (m : Int) (_ : InI m) (v : Value) (xs : List Int) (h : IntsAt w v xs) (u : Value) (ys : List Int) (hy : IntsAt w u ys) (hT : Tab w) : Calls Tryd.prog 8 #[.int .i64 n, .int .i64 m, v, u] w fun e w' => e = .returned (.bool true) ∧ Kept [] w w' := besideS_walk n m h hy hT
end Go.Proofs.YtmpcnepiogjokaaDoor
