/- IsCycle of the reference. areDistinct, IsCycle. awake of the statements about sides. Labels that fall: plain mathematics. Of of the reference: plain mathematics: sides that are told from side to side. -/
import Derived.Test.YtmpcnepiogjokaaDoorSidesTell20
import Derived.Test.YtmpcnepiogjokaaDoorSidesTell9
import Derived.Test.YtmpcnepiogjokaaDoorSidesTell15
import Derived.Deep.RegionHeld3
import Derived.Test.YtmpcnepiogjokaaDoorSidesTell22
import Derived.Test.YtmpcnepiogjokaaDoorSidesTell19
namespace Go.Proofs.YtmpcnepiogjokaaDoor
open Go.RowKit

theorem has_adj {n : Int} {es : List E} (hr : rightB n es = true) (a b : Int) : decide (0 ≤ indexI n es a b) = true ↔ Adj es a b := by
  have hok := (right_rise hr).2.2.2.2
  unfold indexI
  rw [if_pos hr, idxE_pos]
  simp only [decide_eq_true_eq]
  unfold Adj trn
  constructor
  · intro h
    by_cases c : a ≤ b
    · left; rwa [show min a b = a by omega, show max a b = b by omega] at h
    · right; rwa [show min a b = b by omega, show max a b = a by omega] at h
  · rintro (h | h)
    · have := okE_iff.1 (hok _ h)
      simp only at this
      rwa [show min a b = a by omega, show max a b = b by omega]
    · have := okE_iff.1 (hok _ h)
      simp only at this
      rwa [show min a b = b by omega, show max a b = a by omega]
theorem IntsAt.take {w : World} {ao : Option Addr} {cap : Nat} {l : List Int} (h : IntsAt w (.slice ao l.length cap) l) {k : Nat} (hk : k ≤ l.length) : IntsAt w (.slice ao k cap) (l.take k) := by
  obtain ⟨ao', cap', hv, h1, h2, h3⟩ := h
  simp at hv
  obtain ⟨rfl, rfl⟩ := hv
  have hl : (l.take k).length = k := by rw [List.length_take]; omega
  refine ⟨ao, cap, by rw [hl], by rw [hl]; omega, by rw [hl]; omega, fun h0 => ?_⟩
  rw [hl] at h0
  obtain ⟨g, o, e, hg, hcell⟩ := h3 (by omega)
  refine ⟨g, o, e, hg, fun i hi => ?_⟩
  rw [hl] at hi
  rw [hcell i (by omega)]
  simp [List.getD, hi]
/-- Up to the k-th it may be a cycle. -/
def CycTo (es : List E) (l : List Int) (k : Nat) : Prop := ∀ j, j < k → l.getD j 0 ∉ l.take j ∧ Adj es (l.getD j 0) (l.getD ((j + 1) % l.length) 0)
theorem CycTo.done {es : List E} {l : List Int} (h : CycTo es l l.length) (h3 : 3 ≤ l.length) : IsCyc es l := by
  refine ⟨h3, ?_, fun i hi => ?_, ?_⟩
  · unfold List.Nodup
    rw [List.pairwise_iff_getElem]
    intro i j hi hj hij e
    refine (h j hj).1 ?_
    rw [getD_elem hj, ← e, List.mem_iff_getElem]
    exact ⟨i, by simp; omega, by simp⟩
  · have := (h i (by omega)).2
    rwa [Nat.mod_eq_of_lt hi] at this
  · have := (h (l.length - 1) (by omega)).2
    rwa [show l.length - 1 + 1 = l.length by omega, Nat.mod_self] at this
theorem IsCyc.to {es : List E} {l : List Int} (h : IsCyc es l) : CycTo es l l.length := by
  intro j hj
  constructor
  · intro hm
    obtain ⟨i, hi, e⟩ := List.getElem_of_mem hm
    simp at hi
    rw [List.getElem_take, getD_elem hj] at e
    have := (List.getElem_inj h.nodup).1 e
    omega
  · by_cases e : j + 1 < l.length
    · rw [Nat.mod_eq_of_lt e]; exact h.next j e
    · have e2 : j + 1 = l.length := by omega
      rw [e2, Nat.mod_self]
      have := h.last
      rwa [show l.length - 1 = j by omega] at this
theorem CycTo.succ {es : List E} {l : List Int} {k : Nat} (h : CycTo es l k) (h1 : l.getD k 0 ∉ l.take k) (h2 : Adj es (l.getD k 0) (l.getD ((k + 1) % l.length) 0)) : CycTo es l (k + 1) := fun j hj => by
  by_cases e : j = k
  · subst e; exact ⟨h1, h2⟩
  · exact h j (by omega)

set_option maxRecDepth 20000 in
set_option maxHeartbeats 8000000 in
theorem ris_any {w : World} {n : Int} {v u : Value} {es : List E} {l : List Int} (h : EdgesAt w v es) (hx : IntsAt w u l) (hll : l.length ≤ 1000000) :
    Calls Tryd.prog 29 #[gv n v, u] w fun e w' => ∃ c, e = .returned (.bool c) ∧ (c = true ↔ rightB n es = true ∧ IsCyc es l) ∧ Kept [] w w' := by
  obtain ⟨ao, cap, rfl, _⟩ := h.shape
  obtain ⟨xo, xc, rfl, hxm, hxs⟩ := hx.shape
  have KB := (Kept.refl [] w).alloc (.cells #[.int .i64 n, .slice ao es.length cap] 24)
  have HR := rright_any (n := n) (h.kept KB)
  cases hr : rightB n es
  · rw [hr] at HR
    have HR2 := hide HR
    clear HR h hx hxs
    go_enter Tryd.func29, Tryd.ntmps29
    go_wp2_with fail
    refine (unhide HR2).mono ?_
    rintro e w1 ⟨rfl, k1⟩
    go_wp2
    go_ret
    exact ⟨false, rfl, by simp, KB.trans k1⟩
  · rw [hr] at HR
    have HR2 := hide HR
    have HRT := hide hr
    by_cases h3 : l.length < 3
    · have HN := hide (show ¬ IsCyc es l from fun hc => by have := hc.three; omega)
      have h3I : ((l.length : Int) < 3) := by omega
      clear HR h hx hxs h3
      go_enter Tryd.func29, Tryd.ntmps29
      go_wp2_with fail
      refine (unhide HR2).mono ?_
      rintro e w1 ⟨rfl, k1⟩
      go_wp2
      go_ret
      exact ⟨false, rfl, by simp; exact unhide HN, KB.trans k1⟩
    · have h3I : ¬ ((l.length : Int) < 3) := by omega
      obtain ⟨B0, B1⟩ := box2 (Kept.refl [] (w.alloc (.cells #[.int .i64 n, .slice ao es.length cap] 24))) (by simp)
      have HL := hide (show ∀ W, Kept [] (w.alloc (.cells #[.int .i64 n, .slice ao es.length cap] 24)) W → W.cell? ⟨w.heap.size, 0, none⟩ = some (.int .i64 n) ∧ W.cell? ⟨w.heap.size, 1, none⟩ = some (.slice ao es.length cap) from fun W k => ⟨kept_cell B0 k, kept_cell B1 k⟩)
      have HKB := hide KB
      have HV := hide (fun W (k : Kept [] w W) => h.kept k)
      have HX := hide (fun W (k : Kept [] w W) => hx.kept k)
      have hxc : l.length ≤ xc := by obtain ⟨_, _, e, hc, _⟩ := hx; simp at e; rw [e.2]; exact hc
      clear HR h hx KB hr B0 B1
      obtain ⟨xg, xf, rfl, _⟩ := hxs (by omega)
      clear hxs
      go_enter Tryd.func29, Tryd.ntmps29
      go_wp2_with fail
      refine (unhide HR2).mono ?_
      rintro e w1 ⟨rfl, k1⟩
      have HK1 := hide k1
      clear k1
      go_wp2
      go_loopw [5] (fun ii wr => ∃ k : Nat, k ≤ l.length ∧ ii = .int .i64 k ∧ Hid (Kept [] (w.alloc (.cells #[.int .i64 n, .slice ao es.length cap] 24)) wr ∧ CycTo es l k)) (fun ii _ => l.length - (intOf ii).toNat)
      case atStart => exact ⟨0, Nat.zero_le _, rfl, unhide HK1, fun j hj => by omega⟩
      case round =>
        obtain ⟨k, hk, rfl, hh⟩ := hrel
        by_cases hlt : k < l.length
        · have hX := unhide HX _ ((unhide HKB).trans (unhide hh).1)
          obtain ⟨xo2, xc2, hv2, _, hin2⟩ := hX.shape
          obtain ⟨xg2, xf2, he2, hcell⟩ := hin2 (by omega)
          obtain ⟨rfl, rfl⟩ : xg2 = xg ∧ xf2 = xf := by simp at hv2; rw [he2] at hv2; simp at hv2; exact ⟨hv2.1.1.symm, hv2.1.2.symm⟩
          obtain ⟨p, hp⟩ : ∃ p, p = (k + 1) % l.length := ⟨_, rfl⟩
          have hpl : p < l.length := by rw [hp]; exact Nat.mod_lt _ (by omega)
          have d0 := hcell k hlt
          have d1 := hcell p hpl
          obtain ⟨ga, gb⟩ := unhide HL _ (unhide hh).1
          have HSUC := hide (fun h1 h2 => (unhide hh).2.succ (k := k) h1 (by rw [← hp]; exact h2))
          have HNO := hide (show ∀ c : IsCyc es l, l.getD k 0 ∉ l.take k ∧ Adj es (l.getD k 0) (l.getD p 0) from fun c => by rw [hp]; exact c.to k hlt)
          have HI := hide (fun W (k' : Kept [] wr W) => in_any ((hX.kept k').take (k := k) (by omega)) (l.getD k 0))
          have HH := hide (fun W (k' : Kept [] wr W) => rhas_any (n := n) (unhide HV _ (((unhide HKB).trans (unhide hh).1).trans k')) (l.getD k 0) (l.getD p 0))
          have HAD := hide (has_adj (unhide HRT) (l.getD k 0) (l.getD p 0))
          have t0 : (0 : Int) ≤ (k : Int) := by omega
          have t1 : (k : Int) < (l.length : Int) := by omega
          have t2 : (k : Int) ≤ (l.length : Int) := by omega
          have t2' : (k : Int) ≤ (xc : Int) := by omega
          have t3 : (0 : Int) ≤ (p : Int) := by omega
          have t4 : (p : Int) < (l.length : Int) := by omega
          have hwk : IntKind.i64.wrap ((k : Int) + 1) = (k : Int) + 1 := by rw [IntWalk.i64_left, IntWalk.wrap64_in _ (by omega)]
          have hmod : ((k : Int) + 1).tmod (l.length : Int) = (p : Int) := by rw [hp, Int.tmod_eq_emod_of_nonneg (by omega), Int.natCast_emod, Int.natCast_add]; rfl
          have hwp : IntKind.i64.wrap (p : Int) = (p : Int) := by rw [IntWalk.i64_left, IntWalk.wrap64_in _ (by omega)]
          have hnz : ((l.length : Int) == 0) = false := by rw [beq_eq_false_iff_ne]; omega
          have hnz2 : ¬ (l.length : Int) = 0 := by omega
          have hnz3 : ¬ l.length = 0 := by omega
          clear hv2 he2 hin2 hcell hX hp
          cases hm : decide (l.getD k 0 ∈ l.take k)
          · have hnm : l.getD k 0 ∉ l.take k := by simpa using hm
            have HI2 := hide (fun W k' => hm ▸ unhide HI W k')
            cases ha : decide (0 ≤ indexI n es (l.getD k 0) (l.getD p 0))
            · have HH2 := hide (fun W k' => ha ▸ unhide HH W k')
              have HFIN := hide (show ¬ IsCyc es l from fun c => by
                have := (unhide HAD).2 (unhide HNO c).2
                rw [ha] at this; cases this)
              clear HI HH hm hnm ha
              generalize l.getD k 0 = x at *
              generalize l.getD p 0 = y at *
              go_wp2_with fail
              go_region_held3 (fun W => W.cell? ⟨w.heap.size, 0, none⟩ = some (.int .i64 n) ∧ W.cell? ⟨w.heap.size, 1, none⟩ = some (.slice ao es.length cap) ∧ W.cell? ⟨xg2, xf2 + k, none⟩ = some (.int .i64 x) ∧ W.cell? ⟨xg2, xf2 + p, none⟩ = some (.int .i64 y)) (first | exact ⟨kept_cell ga K2, kept_cell gb K2, kept_cell d0 K2, kept_cell d1 K2⟩ | go_keep)
                (first
                | (go_at_call 32; refine (unhide HI2 _ (by first | exact (Kept.refl [] _).drew | exact Kept.refl [] _)).mono ?_; rintro e y1 ⟨rfl, rfl⟩)
                | (go_at_call 48; refine (unhide HH2 _ (by first | exact (Kept.refl [] _).drew | exact Kept.refl [] _)).mono ?_; rintro e y2 ⟨rfl, k2⟩; have K2 : Kept [] wr y2 := (by refine Kept.trans ?_ k2; first | exact (Kept.refl [] _).drew | exact Kept.refl [] _)))
              all_goals have HKF := hide ((unhide HKB).trans ((unhide hh).1.trans K2))
              all_goals go_wp2
              all_goals go_ret
              all_goals exact ⟨false, rfl, by simp; exact unhide HFIN, unhide HKF⟩
            · have HH2 := hide (fun W k' => ha ▸ unhide HH W k')
              have HNX := hide (unhide HSUC hnm ((unhide HAD).1 ha))
              clear HI HH hm hnm ha
              generalize l.getD k 0 = x at *
              generalize l.getD p 0 = y at *
              go_wp2_with fail
              go_region_held3 (fun W => W.cell? ⟨w.heap.size, 0, none⟩ = some (.int .i64 n) ∧ W.cell? ⟨w.heap.size, 1, none⟩ = some (.slice ao es.length cap) ∧ W.cell? ⟨xg2, xf2 + k, none⟩ = some (.int .i64 x) ∧ W.cell? ⟨xg2, xf2 + p, none⟩ = some (.int .i64 y)) (first | exact ⟨kept_cell ga K2, kept_cell gb K2, kept_cell d0 K2, kept_cell d1 K2⟩ | go_keep)
                (first
                | (go_at_call 32; refine (unhide HI2 _ (by first | exact (Kept.refl [] _).drew | exact Kept.refl [] _)).mono ?_; rintro e y1 ⟨rfl, rfl⟩)
                | (go_at_call 48; refine (unhide HH2 _ (by first | exact (Kept.refl [] _).drew | exact Kept.refl [] _)).mono ?_; rintro e y2 ⟨rfl, k2⟩; have K2 : Kept [] wr y2 := (by refine Kept.trans ?_ k2; first | exact (Kept.refl [] _).drew | exact Kept.refl [] _)))
              all_goals have HKF := hide ((unhide hh).1.trans K2)
              all_goals go_wp2
              all_goals go_roundw
              case rel => exact ⟨k + 1, by omega, by go_num, unhide HKF, unhide HNX⟩
              case measure => simp [intOf]; omega
          · have HI2 := hide (fun W k' => hm ▸ unhide HI W k')
            have HFIN := hide (show ¬ IsCyc es l from fun c => (unhide HNO c).1 (by simpa using hm))
            clear HI HH hm
            generalize l.getD k 0 = x at *
            generalize l.getD p 0 = y at *
            go_wp2_with fail
            go_quiet ((go_at_call 32; exact Calls.quiet_of ((unhide HI2 _ (by first | exact (Kept.refl [] _).drewN _ | exact (Kept.refl [] _).drew | exact Kept.refl [] _)).mono fun e w' h => ⟨h.1, 0, h.2⟩)))
            have HKF := hide ((unhide HKB).trans ((unhide hh).1.drewN nq))
            go_wp2
            go_ret
            exact ⟨false, rfl, by simp; exact unhide HFIN, unhide HKF⟩
        · have e : k = l.length := by omega
          have HC := hide (show IsCyc es l from (by have := (unhide hh).2; rw [e] at this; exact this.done (by omega)))
          have HKF := hide ((unhide HKB).trans (unhide hh).1)
          clear e
          go_wp2
          go_ret
          exact ⟨true, rfl, by simp; exact unhide HC, unhide HKF⟩
end Go.Proofs.YtmpcnepiogjokaaDoor

namespace Go.Proofs.YtmpcnepiogjokaaDoor
open Go.RowKit

set_option maxRecDepth 20000 in
set_option maxHeartbeats 4000000 in
theorem distinct_any {w : World} {N : Nat} {u : Value} {l : List Int} (hN : N ≤ 4096) (hx : IntsAt w u l) (hll : l.length ≤ 1000000) (hT : Tab w) :
    Calls Tryd.prog 45 #[.int .i64 N, u] w fun e w' => ∃ c, e = .returned (.bool c) ∧ (c = true ↔ (∀ x ∈ l, 0 ≤ x ∧ x < (N : Int)) ∧ l.Nodup) ∧ Kept [] w w' := by
  obtain ⟨xo, xc, rfl, _⟩ := hx.shape
  have HNW := new_any w (N : Int) hT
  rw [show newRoom (N : Int) = N by unfold newRoom; omega] at HNW
  have HN2 := hide HNW
  have HX := hide (fun W (k : Kept [] w W) => hx.kept k)
  clear hx HNW hT
  go_enter Tryd.func45, Tryd.ntmps45
  go_wp2_with fail
  refine (unhide HN2).mono ?_
  rintro e w1 ⟨s, b, rfl, hs, k1, _, hb⟩
  have HS := hide hs
  have HK1 := hide k1
  clear hs k1
  go_wp2
  go_loopw [12] (fun kk wr => ∃ (k : Nat) (ws : Nat → Nat), k ≤ l.length ∧ kk = .int .i64 k ∧ Hid (SetAt wr s b N ((N + 63) / 64) ((N + 63) / 64) ws ∧ Kept [] w wr ∧ (∀ x, Has ws x ↔ x ∈ l.take k) ∧ (l.take k).Nodup)) (fun kk _ => l.length - (intOf kk).toNat)
  case atStart => exact ⟨0, _, Nat.zero_le _, rfl, unhide HS, unhide HK1, fun x => by unfold Has hasI; rw [mem_zero]; simp, by simp⟩
  case round =>
    obtain ⟨k, ws, hk, rfl, hh⟩ := hrel
    by_cases hlt : k < l.length
    · obtain ⟨xo2, xc2, hv2, _, hin2⟩ := (unhide HX _ (unhide hh).2.1).shape
      obtain ⟨xg, xf, he2, hcell⟩ := hin2 (by omega)
      have hao : xo = some ⟨xg, xf, none⟩ := by simp at hv2; rw [hv2.1, he2]
      subst hao
      have d0 := hcell k hlt
      have HTK := hide (show l.take (k + 1) = l.take k ++ [l.getD k 0] by rw [List.take_succ_eq_append_getElem hlt, getD_elem hlt])
      have HMM := hide (getD_mem hlt)
      have HPT := bput_any (unhide hh).1 (l.getD k 0)
      have HND := hide (show l.getD k 0 ∈ l.take k → ¬ l.Nodup from fun hm hn => by
        have := not_in_take hn hlt
        exact this hm)
      have t0 : (0 : Int) ≤ (k : Int) := by omega
      have t1 : (k : Int) < (l.length : Int) := by omega
      clear hv2 he2 hin2 hcell
      generalize l.getD k 0 = x at *
      cases hp : putAns N ws x
      · rw [hp] at HPT
        have HPT2 := hide HPT
        have HFIN := hide (show ¬ ((∀ x ∈ l, 0 ≤ x ∧ x < (N : Int)) ∧ l.Nodup) from fun hc => by
          have hb2 := hc.1 x (unhide HMM)
          unfold putAns at hp
          simp [hb2.1, hb2.2] at hp
          have : Has ws x := by unfold Has hasI; simp [hb2.1, hp]
          exact unhide HND (((unhide hh).2.2.1 x).1 this) hc.2)
        clear HPT hp
        go_wp2_with fail
        refine (unhide HPT2).mono ?_
        rintro e w2 ⟨rfl, _, k2⟩
        have HKF := hide ((unhide hh).2.1.trans' k2 (fun y hy => by simp at hy; subst hy; exact Or.inr hb))
        go_wp2
        go_ret
        exact ⟨false, rfl, by simp; exact fun h1 h2 => unhide HFIN ⟨h1, h2⟩, unhide HKF⟩
      · rw [hp] at HPT
        have HPT2 := hide HPT
        have hp2 : 0 ≤ x ∧ x < (N : Int) ∧ Bm.mem ws x.toNat = false := by unfold putAns at hp; simp at hp; exact ⟨hp.1.1, hp.1.2, hp.2⟩
        have HHS := hide (show ∀ y, Has (putS N ws x) y ↔ y ∈ l.take (k + 1) from fun y => by
          rw [has_put, (unhide hh).2.2.1 y, unhide HTK]
          simp
          constructor
          · rintro (h | h)
            · exact Or.inl h
            · exact Or.inr h.1
          · rintro (h | h)
            · exact Or.inl h
            · exact Or.inr ⟨h, by omega, by omega⟩)
        have HNU := hide (show (l.take (k + 1)).Nodup by
          rw [unhide HTK, List.nodup_append]
          refine ⟨(unhide hh).2.2.2, by simp, fun a hm c hc => ?_⟩
          simp at hc
          subst hc
          intro e
          subst e
          have := ((unhide hh).2.2.1 a).2 hm
          unfold Has hasI at this
          rw [hp2.2.2] at this
          simp at this)
        clear HPT hp hp2
        go_wp2_with fail
        refine (unhide HPT2).mono ?_
        rintro e w2 ⟨rfl, hs2, k2⟩
        have HKF := hide (And.intro hs2 ((unhide hh).2.1.trans' k2 (fun y hy => by simp at hy; subst hy; exact Or.inr hb)))
        clear hs2 k2 d0
        go_wp2
        go_roundw
        case rel => exact ⟨k + 1, _, by omega, by go_num, (unhide HKF).1, (unhide HKF).2, unhide HHS, unhide HNU⟩
        case measure => simp [intOf]; omega
    · have HFIN := hide (show (∀ x ∈ l, 0 ≤ x ∧ x < (N : Int)) ∧ l.Nodup by
        have e : l.take k = l := List.take_of_length_le (by omega)
        have h1 := (unhide hh).2.2
        rw [e] at h1
        exact ⟨fun x hx => ((h1.1 x).2 hx).bound (unhide hh).1, h1.2⟩)
      have HKF := hide (unhide hh).2.1
      go_wp2
      go_ret
      exact ⟨true, rfl, by simp; exact unhide HFIN, unhide HKF⟩
/-- Who stands ahead, all round. -/
def prv (l : List Int) (j : Nat) : Int := if j = 0 then l.getD (l.length - 1) 0 else l.getD (j - 1) 0
theorem prv_succ (l : List Int) (j : Nat) : prv l (j + 1) = l.getD j 0 := by unfold prv; simp
theorem prv_mem {l : List Int} {j : Nat} (h : j ≤ l.length) (h0 : 0 < l.length) : prv l j ∈ l := by
  unfold prv
  by_cases e : j = 0
  · rw [if_pos e]; exact getD_mem (by omega)
  · rw [if_neg e]; exact getD_mem (by omega)
theorem cyc_prv {es : List E} {l : List Int} (h3 : 3 ≤ l.length) (hn : l.Nodup) (h : ∀ j, j < l.length → Adj es (prv l j) (l.getD j 0)) : IsCyc es l :=
  ⟨h3, hn, fun i hi => by have := h (i + 1) hi; rwa [prv_succ] at this, by have := h 0 (by omega); unfold prv at this; rwa [if_pos rfl] at this⟩
theorem IsCyc.prv {es : List E} {l : List Int} (h : IsCyc es l) {j : Nat} (hj : j < l.length) : Adj es (prv l j) (l.getD j 0) := by
  cases j with
  | zero => unfold Go.Proofs.YtmpcnepiogjokaaDoor.prv; rw [if_pos rfl]; exact h.last
  | succ j => rw [prv_succ]; exact h.next j hj
theorem IsCyc.bound {n : Int} {es : List E} {l : List Int} (h : IsCyc es l) (hok : ∀ e ∈ es, okE n e = true) : ∀ x ∈ l, 0 ≤ x ∧ x < n := fun x hx => by
  obtain ⟨j, hj, e⟩ := mem_getD hx
  have := (adj_in hok (h.prv hj)).2
  rwa [e] at this

set_option maxRecDepth 20000 in
set_option maxHeartbeats 8000000 in
theorem sis_any {w : World} {n : Int} {v u : Value} {es : List E} {l : List Int} (h : EdgesAt w v es) (hx : IntsAt w u l) (hll : l.length ≤ 1000000) (hT : Tab w) :
    Calls Tryd.prog 28 #[gv n v, u] w fun e w' => ∃ c, e = .returned (.bool c) ∧ (c = true ↔ rightB n es = true ∧ IsCyc es l) ∧ Kept [] w w' := by
  obtain ⟨ao, cap, rfl, _⟩ := h.shape
  obtain ⟨xo, xc, rfl, hxm, hxs⟩ := hx.shape
  have KB := (Kept.refl [] w).alloc (.cells #[.int .i64 n, .slice ao es.length cap] 24)
  by_cases h3 : l.length < 3
  · have HN := hide (show ¬ IsCyc es l from fun hc => by have := hc.three; omega)
    have h3I : ((l.length : Int) < 3) := by omega
    clear h hx hxs h3
    go_enter Tryd.func28, Tryd.ntmps28
    go_wp2
    go_ret
    exact ⟨false, rfl, by simp; exact fun _ => unhide HN, KB⟩
  · have h3I : ¬ ((l.length : Int) < 3) := by omega
    have HR := right_any (n := n) (h.kept KB)
    cases hr : rightB n es
    · rw [hr] at HR
      have HR2 := hide HR
      clear HR h hx hxs
      go_enter Tryd.func28, Tryd.ntmps28
      go_wp2_with fail
      refine (unhide HR2).mono ?_
      rintro e w1 ⟨rfl, k1⟩
      go_wp2
      go_ret
      exact ⟨false, rfl, by simp, KB.trans k1⟩
    · rw [hr] at HR
      obtain ⟨N, rfl⟩ := Int.eq_ofNat_of_zero_le (right_rise hr).1
      have HR2 := hide HR
      have HRT := hide hr
      have hN := (right_rise hr).2.1
      have hel := (right_rise hr).2.2.1
      obtain ⟨B0, B1⟩ := box2 (Kept.refl [] (w.alloc (.cells #[.int .i64 (N : Int), .slice ao es.length cap] 24))) (by simp)
      have HL := hide (show ∀ W, Kept [] (w.alloc (.cells #[.int .i64 (N : Int), .slice ao es.length cap] 24)) W → W.cell? ⟨w.heap.size, 0, none⟩ = some (.int .i64 (N : Int)) ∧ W.cell? ⟨w.heap.size, 1, none⟩ = some (.slice ao es.length cap) from fun W k => ⟨kept_cell B0 k, kept_cell B1 k⟩)
      have HKB := hide KB
      have HV := hide (fun W (k : Kept [] w W) => h.kept k)
      have HX := hide (fun W (k : Kept [] w W) => hx.kept k)
      have HTT := hide (fun W (k : Kept [] w W) => hT.kept k (by simp))
      clear HR h hx KB hr B0 B1 hT
      obtain ⟨xg, xf, rfl, _⟩ := hxs (by omega)
      clear hxs
      go_enter Tryd.func28, Tryd.ntmps28
      go_wp2_with fail
      refine (unhide HR2).mono ?_
      rintro e w1 ⟨rfl, k1⟩
      have HK1 := hide ((unhide HKB).trans k1)
      have HDI := hide (distinct_any (N := N) (by omega) (unhide HX _ (unhide HK1)) hll (unhide HTT _ (unhide HK1)))
      obtain ⟨c0, c1⟩ := unhide HL _ k1
      have HK1' := hide k1
      clear k1
      go_wp2_with fail
      refine (unhide HDI).mono ?_
      rintro e w2 ⟨c, rfl, hc, k2⟩
      have HC := hide hc
      have HK2' := hide ((unhide HK1').trans k2)
      have HK2 := hide ((unhide HK1).trans k2)
      clear c0 c1
      obtain ⟨c0, c1⟩ := unhide HL _ (unhide HK2')
      clear hc k2
      cases c
      · have HFIN := hide (show ¬ IsCyc es l from fun hcy => by
          have := (unhide HC).2 ⟨hcy.bound (right_rise (unhide HRT)).2.2.2.2, hcy.nodup⟩
          cases this)
        go_wp2
        go_ret
        exact ⟨false, rfl, by simp; exact unhide HFIN, unhide HK2⟩
      · have HCC := hide ((unhide HC).1 rfl)
        have HNO := hide (nearOf_any (unhide HV _ (unhide HK2)) (unhide HRT))
        go_wp2_with fail
        refine (unhide HNO).mono ?_
        rintro e w3 ⟨gn, rfl, hn, k3⟩
        have HNN := hide (fun W (k : Kept [] w3 W) => hn.kept k (by simp))
        have HK3 := hide ((unhide HK2).trans k3)
        have hX := unhide HX _ (unhide HK3)
        obtain ⟨xo2, xc2, hv2, _, hin2⟩ := hX.shape
        obtain ⟨xg2, xf2, he2, hcell⟩ := hin2 (by omega)
        obtain ⟨rfl, rfl⟩ : xg2 = xg ∧ xf2 = xf := by simp at hv2; rw [he2] at hv2; simp at hv2; exact ⟨hv2.1.1.symm, hv2.1.2.symm⟩
        have HCL := hide (fun W (k : Kept [] w3 W) j (hj : j < l.length) => kept_cell (hcell j hj) k)
        have dl := hcell (l.length - 1) (by omega)
        have hwl : IntKind.i64.wrap ((l.length : Int) - 1) = (l.length : Int) - 1 := by rw [IntWalk.i64_left, IntWalk.wrap64_in _ (by omega)]
        have htl : ((l.length : Int) - 1).toNat = l.length - 1 := by omega
        have z0 : (0 : Int) ≤ (l.length : Int) - 1 := by omega
        have z1 : (l.length : Int) - 1 < (l.length : Int) := by omega
        have HLA := hide (show l.getD (l.length - 1) 0 = prv l 0 by unfold prv; rw [if_pos rfl])
        clear hn k3 hX hv2 he2 hin2 hcell c0 c1
        obtain ⟨la, hla⟩ : ∃ la, la = l.getD (l.length - 1) 0 := ⟨_, rfl⟩
        rw [← hla] at dl HLA
        clear hla
        go_wp2
        go_loopw [6, 36] (fun lav kk wr => ∃ k : Nat, k ≤ l.length ∧ kk = .int .i64 k ∧ lav = .int .i64 (prv l k) ∧ Hid (Kept [] w3 wr ∧ ∀ j, j < k → Adj es (prv l j) (l.getD j 0))) (fun _ kk _ => l.length - (intOf kk).toNat)
        case atStart => exact ⟨0, Nat.zero_le _, rfl, by rw [unhide HLA], Kept.refl [] w3, fun j hj => by omega⟩
        case round =>
          obtain ⟨k, hk, rfl, rfl, hh⟩ := hrel
          by_cases hlt : k < l.length
          · have d0 := unhide HCL _ (unhide hh).1 k hlt
            have hpm := (unhide HCC).1 _ (prv_mem (l := l) (j := k) (by omega) (by omega))
            obtain ⟨pn, hpn⟩ := Int.eq_ofNat_of_zero_le hpm.1
            have hpN : pn < N := by omega
            obtain ⟨nv, n1, n2, _⟩ := (unhide HNN _ (unhide hh).1).row pn hpN
            have hadj : l.getD k 0 ∈ nearL (pn : Int) es ↔ Adj es (pn : Int) (l.getD k 0) := adj_near (right_rise (unhide HRT)).2.2.2.2
            have HSE := hide (searchI_any n2 (nearL_rises (right_rise (unhide HRT)).2.2.2.1 (right_rise (unhide HRT)).2.2.2.2) (by have := nearL_len (pn : Int) es; omega) (l.getD k 0))
            have HSC := hide (prv_succ l k)
            have HAD := hide (show decide (l.getD k 0 ∈ nearL (pn : Int) es) = true ↔ Adj es (prv l k) (l.getD k 0) by rw [hpn]; simpa using hadj)
            obtain ⟨no, nc, rfl, _⟩ := n2.shape
            have HUP := hide (show Adj es (prv l k) (l.getD k 0) → ∀ j, j < k + 1 → Adj es (prv l j) (l.getD j 0) from fun ha j hj => by
              by_cases e : j = k
              · subst e; exact ha
              · exact (unhide hh).2 j (by omega))
            have HNC := hide (show ∀ c : IsCyc es l, Adj es (prv l k) (l.getD k 0) from fun c => c.prv hlt)
            have t0 : (0 : Int) ≤ (k : Int) := by omega
            have t1 : (k : Int) < (l.length : Int) := by omega
            have p0 : (0 : Int) ≤ (pn : Int) := by omega
            have p1 : (pn : Int) < (N : Int) := by omega
            rw [hpn]
            clear hpm hpn hadj n2
            generalize (nearL (pn : Int) es).length = nl at *
            cases hd : decide (l.getD k 0 ∈ nearL (pn : Int) es)
            · rw [hd] at HSE HAD
              have HFIN := hide (show ¬ IsCyc es l from fun c => by have := (unhide HAD).2 (unhide HNC c); cases this)
              clear hd
              generalize l.getD k 0 = x at *
              go_wp2_with fail
              refine (unhide HSE).mono ?_
              rintro e w4 ⟨q4, rfl, m4, rfl⟩
              have HKF := hide ((unhide HK3).trans ((unhide hh).1.drewN m4))
              go_wp2
              go_ret
              exact ⟨false, rfl, by simp; exact unhide HFIN, unhide HKF⟩
            · rw [hd] at HSE HAD
              have HNX := hide (unhide HUP ((unhide HAD).1 rfl))
              clear hd
              generalize hxx : l.getD k 0 = x at *
              go_wp2_with fail
              refine (unhide HSE).mono ?_
              rintro e w4 ⟨q4, rfl, m4, rfl⟩
              have HKF := hide ((unhide hh).1.drewN m4)
              clear d0 n1
              go_wp2
              go_roundw
              case rel => exact ⟨k + 1, by omega, by go_num, by rw [unhide HSC], unhide HKF, unhide HNX⟩
              case measure => simp [intOf]; omega
          · have e : k = l.length := by omega
            have HCY := hide (show IsCyc es l from cyc_prv (by omega) (unhide HCC).2 (by rw [← e]; exact (unhide hh).2))
            have HKF := hide ((unhide HK3).trans (unhide hh).1)
            clear e
            generalize prv l k = pp at *
            go_wp2
            go_ret
            exact ⟨true, rfl, by simp; exact unhide HCY, unhide HKF⟩
end Go.Proofs.YtmpcnepiogjokaaDoor

namespace Go.Proofs.YtmpcnepiogjokaaDoor
open Go.RowKit

def es3 : List E := [(0, 1), (0, 2), (1, 2)]
theorem right3 : rightB 3 es3 = true := by decide +kernel
theorem cyc3 : IsCyc es3 [0, 1, 2] := by
  refine ⟨by simp, by simp, fun i hi => ?_, ?_⟩
  · match i, hi with
    | 0, _ => left; decide
    | 1, _ => left; decide
  · right; decide
theorem cyc3_len {l : List Int} (h : IsCyc es3 l) : l.length = 3 := by
  have h1 := len_bound (N := 3) h.nodup (h.bound (n := 3) (right_rise right3).2.2.2.2)
  have := h.three
  omega
theorem edges3 (w : World) : EdgesAt (w.alloc (.cells #[.int .i64 0, .int .i64 1, .int .i64 0, .int .i64 2, .int .i64 1, .int .i64 2] 43)) (.slice (some ⟨w.heap.size, 0, none⟩) 3 3) es3 := by
  refine ⟨some ⟨w.heap.size, 0, none⟩, 3, rfl, Nat.le_refl _, by unfold maxLen; decide, fun _ => ⟨w.heap.size, 0, rfl, by simp, fun i hi => ?_, fun i hi => ?_⟩⟩
  · rw [cell_of_block (new_block w _)]
    match i, hi with
    | 0, _ => rfl
    | 1, _ => rfl
    | 2, _ => rfl
  · rw [cell_of_block (new_block w _)]
    match i, hi with
    | 0, _ => rfl
    | 1, _ => rfl
    | 2, _ => rfl
theorem ints3 (w : World) : IntsAt (w.alloc (.cells #[.int .i64 0, .int .i64 1, .int .i64 2] 3)) (.slice (some ⟨w.heap.size, 0, none⟩) 3 3) [0, 1, 2] := by
  refine ⟨_, 3, rfl, Nat.le_refl _, by unfold maxLen; decide, fun _ => ⟨w.heap.size, 0, rfl, by simp, fun i hi => ?_⟩⟩
  rw [cell_of_block (new_block w _)]
  match i, hi with
  | 0, _ => rfl
  | 1, _ => rfl
  | 2, _ => rfl

set_option maxRecDepth 20000 in
set_option maxHeartbeats 4000000 in
theorem sawake_any {w : World} (hT : Tab w) : Calls Tryd.prog 25 #[] w fun e w' => e = .returned (.bool true) ∧ Kept [] w w' := by
  have K0 := ((Kept.refl [] w).alloc (.cells #[.int .i64 0, .int .i64 1, .int .i64 0, .int .i64 2, .int .i64 1, .int .i64 2] 43))
  have HE := hide (fun W (k : Kept [] (w.alloc (.cells #[.int .i64 0, .int .i64 1, .int .i64 0, .int .i64 2, .int .i64 1, .int .i64 2] 43)) W) => (edges3 w).kept k)
  have KB := (Kept.refl [] (w.alloc (.cells #[.int .i64 0, .int .i64 1, .int .i64 0, .int .i64 2, .int .i64 1, .int .i64 2] 43))).alloc (.cells #[.int .i64 3, .slice (some ⟨w.heap.size, 0, none⟩) 3 3] 24)
  have HTT := hide (fun W (k : Kept [] w W) => hT.kept k (by simp))
  have HOF := hide (sof_any (n := 3) (unhide HE _ KB) (unhide HTT _ (K0.trans KB)))
  have b := box2 (Kept.refl [] ((w.alloc (.cells #[.int .i64 0, .int .i64 1, .int .i64 0, .int .i64 2, .int .i64 1, .int .i64 2] 43)).alloc (.cells #[.int .i64 3, .slice (some ⟨w.heap.size, 0, none⟩) 3 3] 24))) (by simp)
  rw [World.size_alloc] at b
  have HBX := hide b
  have HK0 := hide K0
  have HKB := hide KB
  clear K0 KB hT b
  go_enter Tryd.func25, Tryd.ntmps25
  go_wp2_with fail
  refine (unhide HOF).mono ?_
  rintro e w1 ⟨s, c, er, rfl, k1, hcase⟩
  have HK1 := hide ((unhide HKB).trans k1)
  have b0 := kept_cell (unhide HBX).1 k1
  have b1 := kept_cell (unhide HBX).2 k1
  rcases hcase with ⟨h1, _⟩ | ⟨_, ⟨S, _, hS⟩, _⟩ | ⟨_, rfl, ⟨l, hl, hc, ho⟩, rfl⟩
  · rw [right3] at h1; cases h1
  · exact (cyc3.odd_no (by simp) (hS.proper (right_rise right3).2.2.2.2)).elim
  · have hl3 := cyc3_len hc
    obtain ⟨lo, lc, rfl, _⟩ := hl.shape
    rw [hl3]
    have KI := (Kept.refl [] w1).alloc (.cells #[.int .i64 0, .int .i64 1, .int .i64 2] 3)
    have HIS := hide (sis_any (n := 3) (unhide HE _ ((unhide HK1).trans KI)) (ints3 w1) (by simp) (unhide HTT _ ((unhide HK0).trans ((unhide HK1).trans KI))))
    have HKI := hide KI
    clear KI hl hc ho k1 hl3
    go_wp2_with fail
    refine (unhide HIS).mono ?_
    rintro e w2 ⟨c2, rfl, hc2, k2⟩
    have e2 := hc2.2 ⟨right3, cyc3⟩
    subst e2
    go_wp2
    go_ret
    exact ⟨rfl, ((unhide HK0).trans (unhide HK1)).trans ((unhide HKI).trans k2)⟩
end Go.Proofs.YtmpcnepiogjokaaDoor

namespace Go.Proofs.YtmpcnepiogjokaaDoor
open Go.RowKit

/-- Labels: -1 of who is out; else a vertex that is come to, none greater. -/
structure Lab (es : List E) (N : Nat) (xs : List Int) (f : Nat → Int) : Prop where
  out : ∀ v : Nat, v < N → (v : Int) ∈ xs → f v = -1
  low : ∀ v : Nat, v < N → (v : Int) ∉ xs → 0 ≤ f v ∧ f v ≤ (v : Int) ∧ Reach es (Alive (N : Int) xs) (f v) (v : Int)
theorem Lab.start {es : List E} {N : Nat} {xs : List Int} {f : Nat → Int} (h : ∀ v : Nat, v < N → f v = if (v : Int) ∈ xs then -1 else (v : Int)) : Lab es N xs f :=
  ⟨fun v hv hm => by rw [h v hv, if_pos hm], fun v hv hm => by
    rw [h v hv, if_neg hm]
    exact ⟨by omega, by omega, .refl ⟨⟨by omega, by omega⟩, hm⟩⟩⟩
theorem Lab.alive {es : List E} {N : Nat} {xs : List Int} {f : Nat → Int} (h : Lab es N xs f) {v : Nat} (hv : v < N) (h0 : 0 ≤ f v) : (v : Int) ∉ xs := fun hm => by have := h.out v hv hm; omega
/-- Two ends get the lesser label. -/
def fall (f : Nat → Int) (a b : Nat) : Nat → Int := fun v => if v = b then min (f a) (f b) else if v = a then min (f a) (f b) else f v
theorem Lab.fall {es : List E} {N : Nat} {xs : List Int} {f : Nat → Int} (h : Lab es N xs f) {a b : Nat} (ha : a < N) (hb : b < N) (hab : ((a : Int), (b : Int)) ∈ es) (fa : 0 ≤ f a) (fb : 0 ≤ f b) : Lab es N xs (fall f a b) := by
  have na := h.alive ha fa
  have nb := h.alive hb fb
  have la := h.low a ha na
  have lb := h.low b hb nb
  have key : ∀ k : Int, k = min (f a) (f b) → (0 ≤ k ∧ k ≤ (a : Int) ∧ Reach es (Alive (N : Int) xs) k a) ∧ (0 ≤ k ∧ k ≤ (b : Int) ∧ Reach es (Alive (N : Int) xs) k b) := by
    intro k hk
    by_cases hle : f a ≤ f b
    · have e : k = f a := by omega
      subst e
      exact ⟨la, by omega, by omega, la.2.2.step (Or.inl hab) lb.2.2.right⟩
    · have e : k = f b := by omega
      subst e
      exact ⟨⟨by omega, by omega, lb.2.2.step (Or.inr hab) la.2.2.right⟩, lb⟩
  refine ⟨fun v hv hm => ?_, fun v hv hm => ?_⟩
  · unfold Go.Proofs.YtmpcnepiogjokaaDoor.fall
    rw [if_neg (show ¬ v = b from fun e => nb (by rw [← e]; exact hm)), if_neg (show ¬ v = a from fun e => na (by rw [← e]; exact hm))]
    exact h.out v hv hm
  · unfold Go.Proofs.YtmpcnepiogjokaaDoor.fall
    by_cases e1 : v = b
    · subst e1; rw [if_pos rfl]; exact (key _ rfl).2
    · rw [if_neg e1]
      by_cases e2 : v = a
      · subst e2; rw [if_pos rfl]; exact (key _ rfl).1
      · rw [if_neg e2]; exact h.low v hv hm
/-- All labels together: it falls. -/
def labSum (f : Nat → Int) : Nat → Nat
  | 0 => 0
  | k + 1 => labSum f k + (f k + 1).toNat
theorem labSum_le {f g : Nat → Int} : ∀ {N : Nat}, (∀ v, v < N → g v ≤ f v) → labSum g N ≤ labSum f N
  | 0, _ => Nat.le_refl _
  | N + 1, h => by
    have := labSum_le (N := N) (fun v hv => h v (by omega))
    have := h N (by omega)
    simp only [labSum]
    omega
theorem labSum_lt {f g : Nat → Int} : ∀ {N : Nat}, (∀ v, v < N → g v ≤ f v) → ∀ {a : Nat}, a < N → g a < f a → 0 ≤ f a → labSum g N < labSum f N
  | 0, _, _, ha, _, _ => by omega
  | N + 1, h, a, ha, hlt, h0 => by
    simp only [labSum]
    by_cases e : a = N
    · subst e
      have := labSum_le (N := a) (fun v hv => h v (by omega))
      omega
    · have := labSum_lt (N := N) (fun v hv => h v (by omega)) (a := a) (by omega) hlt h0
      have := h N (by omega)
      omega
theorem fall_sum {f : Nat → Int} {N a b : Nat} (ha : a < N) (hb : b < N) (fa : 0 ≤ f a) (fb : 0 ≤ f b) (hne : f a ≠ f b) : labSum (fall f a b) N < labSum f N := by
  have hle : ∀ v, v < N → fall f a b v ≤ f v := fun v _ => by
    unfold fall
    by_cases e1 : v = b
    · subst e1; rw [if_pos rfl]; omega
    · rw [if_neg e1]
      by_cases e2 : v = a
      · subst e2; rw [if_pos rfl]; omega
      · rw [if_neg e2]; exact Int.le_refl _
  by_cases h : f a < f b
  · exact labSum_lt hle hb (by unfold fall; rw [if_pos rfl]; omega) fb
  · have hab : ¬ a = b := fun e => hne (by rw [e])
    exact labSum_lt hle ha (by unfold fall; rw [if_neg hab, if_pos rfl]; omega) fa
/-- No edge joins two labels. -/
def Still (es : List E) (f : Nat → Int) : Prop := ∀ a b : Nat, ((a : Int), (b : Int)) ∈ es → f a < 0 ∨ f b < 0 ∨ f a = f b
theorem Lab.same {es : List E} {N : Nat} {xs : List Int} {f : Nat → Int} (h : Lab es N xs f) (hs : Still es f) {x y : Int} (hr : Reach es (Alive (N : Int) xs) x y) : f x.toNat = f y.toNat := by
  refine hr.closed (P := fun y => f x.toNat = f y.toNat) rfl (fun y z hy hy1 ha hz => ?_)
  rw [hy]
  obtain ⟨yn, rfl⟩ := Int.eq_ofNat_of_zero_le hy1.1.1
  obtain ⟨zn, rfl⟩ := Int.eq_ofNat_of_zero_le hz.1.1
  have ly := h.low yn (by have := hy1.1.2; omega) hy1.2
  have lz := h.low zn (by have := hz.1.2; omega) hz.2
  simp only [Int.toNat_natCast]
  rcases ha with ha | ha
  · have := hs yn zn ha; omega
  · have := hs zn yn ha; omega
/-- The piece whose label is v; all of them. -/
def pieceOf (f : Nat → Int) (N v : Nat) : List Int := ((List.range N).filter fun w => f w == (v : Int)).map Int.ofNat
def listOf (f : Nat → Int) (N : Nat) : List (List Int) := ((List.range N).filter fun v => f v == (v : Int)).map (pieceOf f N)
theorem mem_pieceOf {f : Nat → Int} {N v : Nat} {x : Int} : x ∈ pieceOf f N v ↔ ∃ w : Nat, w < N ∧ f w = (v : Int) ∧ x = (w : Int) := by
  unfold pieceOf
  simp only [List.mem_map, List.mem_filter, List.mem_range, beq_iff_eq]
  constructor
  · rintro ⟨w, ⟨h1, h2⟩, rfl⟩; exact ⟨w, h1, h2, rfl⟩
  · rintro ⟨w, h1, h2, rfl⟩; exact ⟨w, ⟨h1, h2⟩, rfl⟩
theorem pieceOf_rise (f : Nat → Int) (N v : Nat) : (pieceOf f N v).Pairwise (· < ·) := by
  unfold pieceOf
  rw [List.pairwise_map]
  exact (List.pairwise_lt_range.filter _).imp (fun {a b} h => by show (a : Int) < (b : Int); omega)
theorem Lab.head {es : List E} {N : Nat} {xs : List Int} {f : Nat → Int} (h : Lab es N xs f) {v : Nat} (hv : v < N) (hf : f v = (v : Int)) : (pieceOf f N v).headD 0 = (v : Int) := by
  have hm : (v : Int) ∈ pieceOf f N v := mem_pieceOf.2 ⟨v, hv, hf, rfl⟩
  have hr := pieceOf_rise f N v
  cases hl : pieceOf f N v with
  | nil => rw [hl] at hm; simp at hm
  | cons x r =>
    rw [hl] at hm hr
    have hx : x ∈ pieceOf f N v := by rw [hl]; simp
    obtain ⟨w, hw, hfw, rfl⟩ := mem_pieceOf.1 hx
    have hn : (w : Int) ∉ xs := h.alive hw (by omega)
    have := h.low w hw hn
    simp only [List.headD_cons]
    rcases List.mem_cons.1 hm with e | e
    · exact e.symm
    · have := (List.pairwise_cons.1 hr).1 _ e; omega
/-- Behind the last label that fell: the pieces. -/
theorem Lab.pieces {es : List E} {N : Nat} {xs : List Int} {f : Nat → Int} (h : Lab es N xs f) (hs : Still es f) : IsPieces es (Alive (N : Int) xs) (listOf f N) where
  rise l hl := by
    obtain ⟨v, _, rfl⟩ := List.mem_map.1 hl
    exact pieceOf_rise f N v
  ne l hl := by
    obtain ⟨v, hv, rfl⟩ := List.mem_map.1 hl
    simp at hv
    intro e
    have : (v : Int) ∈ pieceOf f N v := mem_pieceOf.2 ⟨v, hv.1, hv.2, rfl⟩
    rw [e] at this; simp at this
  cls l hl x hx := by
    obtain ⟨v, hv, rfl⟩ := List.mem_map.1 hl
    simp at hv
    obtain ⟨w, hw, hfw, rfl⟩ := mem_pieceOf.1 hx
    have hn : (w : Int) ∉ xs := h.alive hw (by omega)
    have lw := h.low w hw hn
    refine ⟨lw.2.2.right, fun y => ⟨fun hy => ?_, fun hr => ?_⟩⟩
    · obtain ⟨u, hu, hfu, rfl⟩ := mem_pieceOf.1 hy
      have hnu : (u : Int) ∉ xs := h.alive hu (by omega)
      have lu := h.low u hu hnu
      rw [hfw] at lw
      rw [hfu] at lu
      exact lw.2.2.symm.trans lu.2.2
    · have hy := hr.right
      obtain ⟨u, rfl⟩ := Int.eq_ofNat_of_zero_le hy.1.1
      have := h.same hs hr
      simp only [Int.toNat_natCast] at this
      exact mem_pieceOf.2 ⟨u, by have := hy.1.2; omega, by rw [← this]; exact hfw, rfl⟩
  heads := by
    unfold listOf
    rw [List.pairwise_map]
    refine List.Pairwise.imp_of_mem ?_ (List.pairwise_lt_range.filter _)
    intro a b ha hb hlt
    simp at ha hb
    rw [h.head ha.1 ha.2, h.head hb.1 hb.2]
    omega
  all x hx := by
    obtain ⟨w, rfl⟩ := Int.eq_ofNat_of_zero_le hx.1.1
    have hw : w < N := by have := hx.1.2; omega
    have lw := h.low w hw hx.2
    obtain ⟨r, hr⟩ := Int.eq_ofNat_of_zero_le lw.1
    have hrN : r < N := by omega
    have hsame := h.same hs lw.2.2
    rw [hr] at hsame
    simp only [Int.toNat_natCast] at hsame
    refine ⟨pieceOf f N r, List.mem_map.2 ⟨r, by simp; exact ⟨hrN, by rw [hsame, hr]⟩, rfl⟩, mem_pieceOf.2 ⟨w, hw, hr, rfl⟩⟩
end Go.Proofs.YtmpcnepiogjokaaDoor

namespace Go.Proofs.YtmpcnepiogjokaaDoor
open Go.RowKit

/-- Sides that are told: each from the least vertex of its piece on. -/
structure RInv (es : List E) (N : Nat) (f : Nat → Int) : Prop where
  val : ∀ v : Nat, v < N → f v = -1 ∨ f v = 0 ∨ f v = 1
  root : ∀ v : Nat, v < N → 0 ≤ f v → ∃ r : Nat, r < N ∧ Hd es (Alive (N : Int) []) (r : Int) ∧ Reach es (Alive (N : Int) []) (r : Int) (v : Int) ∧ ∀ c : Int → Bool, Proper es c → c (v : Int) = (c (r : Int)).xor (decide (f v = 1))
theorem RInv.start {es : List E} {N : Nat} {f : Nat → Int} (h : ∀ v : Nat, v < N → f v = -1) : RInv es N f :=
  ⟨fun v hv => Or.inl (h v hv), fun v hv h0 => by have := h v hv; omega⟩
/-- No edge leads from who is told to who is not. -/
def Stab (es : List E) (f : Nat → Int) : Prop := ∀ a b : Nat, ((a : Int), (b : Int)) ∈ es → (0 ≤ f a ↔ 0 ≤ f b)
theorem Stab.start {es : List E} {N : Nat} (hok : ∀ e ∈ es, okE (N : Int) e = true) {f : Nat → Int} (h : ∀ v : Nat, v < N → f v = -1) : Stab es f := fun a b hab => by
  have ok := okE_iff.1 (hok _ hab)
  simp only at ok
  rw [h a (by omega), h b (by omega)]
theorem RInv.new {es : List E} {N : Nat} {f : Nat → Int} (h : RInv es N f) (hs : Stab es f) {v : Nat} (hv : v < N) (hlow : ∀ u : Nat, u < v → 0 ≤ f u) (hf : f v < 0) : RInv es N (fun u => if u = v then 0 else f u) := by
  refine ⟨fun u hu => ?_, fun u hu h0 => ?_⟩
  · by_cases e : u = v
    · simp [e]
    · simp only [e, if_false]; exact h.val u hu
  · by_cases e : u = v
    · subst e
      have hS : Alive (N : Int) [] (u : Int) := alive_nil.2 (by omega)
      refine ⟨u, hv, ⟨hS, fun y hy => ?_⟩, .refl hS, fun c hc => by simp⟩
      refine Classical.byContradiction fun hlt => ?_
      have hyr := alive_nil.1 hy.right
      obtain ⟨yn, rfl⟩ := Int.eq_ofNat_of_zero_le hyr.1
      have key := hy.symm.closed (P := fun z => 0 ≤ f z.toNat) (by simp only [Int.toNat_natCast]; exact hlow yn (by omega)) (fun x z hx hx1 ha hz => by
        have h1 := alive_nil.1 hx1
        have h2 := alive_nil.1 hz
        obtain ⟨xn, rfl⟩ := Int.eq_ofNat_of_zero_le h1.1
        obtain ⟨zn, rfl⟩ := Int.eq_ofNat_of_zero_le h2.1
        simp only [Int.toNat_natCast] at hx ⊢
        rcases ha with ha | ha
        · exact (hs xn zn ha).1 hx
        · exact (hs zn xn ha).2 hx)
      simp only [Int.toNat_natCast] at key
      omega
    · simp only [e, if_false] at h0 ⊢; exact h.root u hu h0
/-- A side more. -/
theorem RInv.tell {es : List E} {N : Nat} {f : Nat → Int} (h : RInv es N f) {a b : Nat} (ha : a < N) (hb : b < N) (hab : Adj es (a : Int) (b : Int)) (fa : 0 ≤ f a) : RInv es N (fun u => if u = b then 1 - f a else f u) := by
  have va := h.val a ha
  refine ⟨fun u hu => ?_, fun u hu h0 => ?_⟩
  · by_cases e : u = b
    · simp only [e, if_true]; omega
    · simp only [e, if_false]; exact h.val u hu
  · by_cases e : u = b
    · subst e
      simp only [if_true]
      obtain ⟨r, h1, h2, h3, h4⟩ := h.root a ha fa
      refine ⟨r, h1, h2, h3.step hab (alive_nil.2 (by omega)), fun c hc => ?_⟩
      have e1 := h4 c hc
      have e2 := hc _ _ hab
      rw [e1] at e2
      have hz : f a = 0 ∨ f a = 1 := by omega
      rcases hz with hz | hz
      · rw [hz] at e2 ⊢
        revert e2
        cases c (r : Int) <;> cases c (u : Int) <;> simp
      · rw [hz] at e2 ⊢
        revert e2
        cases c (r : Int) <;> cases c (u : Int) <;> simp
    · simp only [e, if_false] at h0 ⊢; exact h.root u hu h0
theorem hd_same {es : List E} {S : Int → Prop} {r s v : Int} (h1 : Hd es S r) (h2 : Hd es S s) (k1 : Reach es S r v) (k2 : Reach es S s v) : r = s := by
  have a := h1.2 _ (k1.trans k2.symm)
  have b := h2.2 _ (k2.trans k1.symm)
  omega
/-- An edge within a side: there are no two sides. -/
theorem RInv.clash {es : List E} {N : Nat} {f : Nat → Int} (h : RInv es N f) {a b : Nat} (ha : a < N) (hb : b < N) (fa : 0 ≤ f a) (fb : 0 ≤ f b) (hab : Adj es (a : Int) (b : Int)) (he : f a = f b) (c : Int → Bool) (hc : Proper es c) : False := by
  obtain ⟨r, _, h2, h3, h4⟩ := h.root a ha fa
  obtain ⟨s, _, k2, k3, k4⟩ := h.root b hb fb
  have e := hd_same h2 k2 (h3.step hab k3.right) k3
  have e1 := h4 c hc
  have e2 := k4 c hc
  rw [← e, ← he] at e2
  exact hc _ _ hab (by rw [e1, e2])
/-- No edge within a side: they are the sides. -/
theorem RInv.sides {es : List E} {N : Nat} {f : Nat → Int} (h : RInv es N f) (hok : ∀ e ∈ es, okE (N : Int) e = true) (hall : ∀ v : Nat, v < N → 0 ≤ f v) (hne : ∀ a b : Nat, ((a : Int), (b : Int)) ∈ es → f a ≠ f b) : IsSides es N ((List.range N).map f) := by
  have at' : ∀ v, v < N → ((List.range N).map f).getD v 0 = f v := fun v hv => by simp [List.getD, hv]
  have val : ∀ v, v < N → f v = 0 ∨ f v = 1 := fun v hv => by have := h.val v hv; have := hall v hv; omega
  have hpr : Proper es (fun x => f x.toNat == 1) := fun x y ha e => by
    obtain ⟨a, b, rfl, rfl, h1, h2, _, h3⟩ := adj_nat hok ha
    simp only [Int.toNat_natCast] at e
    have v1 := val a (by omega)
    have v2 := val b (by omega)
    have hd : f a ≠ f b := by
      rcases h3 with h3 | h3
      · exact hne a b h3
      · exact fun e => hne b a h3 e.symm
    rcases v1 with v1 | v1 <;> rcases v2 with v2 | v2 <;> simp [v1, v2] at e hd
  refine ⟨by simp, fun v hv => by rw [at' v hv]; exact val v hv, fun a b hab => ?_, fun v hv hd => ?_⟩
  · have ok := okE_iff.1 (hok _ hab)
    simp only at ok
    rw [at' a (by omega), at' b (by omega)]
    exact hne a b hab
  · rw [at' v hv]
    obtain ⟨r, _, h2, h3, h4⟩ := h.root v hv (hall v hv)
    have e := hd_same h2 hd h3 (.refl hd.1)
    have := h4 _ hpr
    rw [e] at this
    have v1 := val v hv
    rcases v1 with v1 | v1
    · exact v1
    · rw [v1] at this; simp at this
/-- How many are not told. -/
def unl (f : Nat → Int) : Nat → Int := fun v => if f v < 0 then 0 else -1
theorem unl_lt {f : Nat → Int} {N b : Nat} (hb : b < N) (fb : f b < 0) {y : Int} (hy : 0 ≤ y) : labSum (unl (fun u => if u = b then y else f u)) N < labSum (unl f) N := by
  refine labSum_lt (fun v _ => ?_) hb ?_ ?_
  · unfold unl
    by_cases e : v = b
    · subst e; simp [fb, show ¬ y < 0 by omega]
    · simp [e]
  · unfold unl; simp [fb, show ¬ y < 0 by omega]
  · unfold unl; simp [fb]
/-- No edge, of the first t, leads from who is told to who is not. -/
def StabTo (es : List E) (f : Nat → Int) (t : Nat) : Prop := ∀ s, s < t → (0 ≤ f (eA es s).toNat ↔ 0 ≤ f (eB es s).toNat)
theorem StabTo.all {es : List E} {f : Nat → Int} (h : StabTo es f es.length) : Stab es f := fun a b hab => by
  obtain ⟨s, hs, he⟩ := mem_at hab
  have := h s hs
  unfold at_ at he
  simp only [Prod.mk.injEq] at he
  rw [he.1, he.2] at this
  simpa using this
end Go.Proofs.YtmpcnepiogjokaaDoor
