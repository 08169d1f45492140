/- BitsCommon: the walk. -/
import Derived.Test.YtmcgeadpoiihkaaDoorLaw1
namespace Go.Proofs.YtmcgeadpoiihkaaDoor
open Go.RowKit

theorem Kept.ofDrew' {w w' : World} (h : ∃ m, w' = w.drewN m) : Kept [] w w' := by
  obtain ⟨m, rfl⟩ := h
  exact (Kept.refl [] w).drewN m

theorem below_filter (m p : Nat → Bool) (f : Nat) : (Bm.below m f).filter p = Bm.below (fun k => m k && p k) f := by
  unfold Bm.below
  rw [List.filter_filter]
  congr 1
  funext k
  rw [Bool.and_comm]

/-- What two sets have in common, counted from either. -/
theorem both_count {ws wt : Nat → Nat} {r r' : Nat} (hs : ∀ k, Bm.mem ws k = true → k < r) (ht : ∀ k, Bm.mem wt k = true → k < r') :
    ((elems wt r').filter (fun k => Bm.mem ws k)).length = ((elems ws r).filter (fun k => Bm.mem wt k)).length := by
  unfold elems
  rw [below_filter, below_filter]
  have key : ∀ R, r ≤ R → r' ≤ R → Bm.below (fun k => Bm.mem wt k && Bm.mem ws k) r' = Bm.below (fun k => Bm.mem ws k && Bm.mem wt k) R ∧ Bm.below (fun k => Bm.mem ws k && Bm.mem wt k) r = Bm.below (fun k => Bm.mem ws k && Bm.mem wt k) R := by
    intro R h1 h2
    constructor
    · rw [Bm.below_congr _ (fun k => Bm.mem ws k && Bm.mem wt k) r' (fun k _ => Bool.and_comm _ _)]
      refine (Bm.below_stay _ r' R h2 (fun j hj _ => ?_)).symm
      cases hm : Bm.mem wt j
      · simp
      · have := ht j hm; omega
    · refine (Bm.below_stay _ r R h1 (fun j hj _ => ?_)).symm
      cases hm : Bm.mem ws j
      · simp
      · have := hs j hm; omega
  obtain ⟨h1, h2⟩ := key (r + r') (by omega) (by omega)
  rw [h1, h2]

theorem filter_split (p : Nat → Bool) (xs : List Nat) : (xs.filter p).length + (xs.filter (fun k => !p k)).length = xs.length := by
  induction xs with
  | nil => rfl
  | cons x xs ih => cases h : p x <;> simp [h] <;> omega

theorem join_count {ws wt : Nat → Nat} {room r' : Nat} (hr : r' ≤ room) : ((elems wt r').filter (fun k => decide (k < room) && !Bm.mem ws k)).length + ((elems wt r').filter (fun k => Bm.mem ws k)).length = (elems wt r').length := by
  have e : (elems wt r').filter (fun k => decide (k < room) && !Bm.mem ws k) = (elems wt r').filter (fun k => !Bm.mem ws k) := by
    apply List.filter_congr
    intro k hk
    have := ((Bm.mem_below _ _ _).1 hk).1
    have h2 : k < room := by omega
    simp [h2]
  rw [e]
  have := filter_split (fun k => Bm.mem ws k) (elems wt r')
  omega

theorem all_count {ws wv : Nat → Nat} {r : Nat} (h : ∀ k, Bm.mem ws k = true → Bm.mem wv k = true) : ((elems ws r).filter (fun k => Bm.mem wv k)).length = (elems ws r).length := by
  have e : (elems ws r).filter (fun k => Bm.mem wv k) = elems ws r := List.filter_eq_self.2 (fun k hk => h k ((Bm.mem_below _ _ _).1 hk).2)
  rw [e]

theorem in_elems {wt : Nat → Nat} {r' : Nat} (ht : ∀ k, Bm.mem wt k = true → k < r') (e : Nat) : decide ((e : Int) ∈ (elems wt r').map Int.ofNat) = Bm.mem wt e := by
  rw [← mem_elems wt r' ht e]
  have h : ((e : Int) ∈ (elems wt r').map Int.ofNat) ↔ e ∈ elems wt r' := by
    rw [List.mem_map]
    constructor
    · rintro ⟨a, ha, hae⟩
      have : a = e := Int.ofNat.inj hae
      rw [← this]; exact ha
    · intro h; exact ⟨e, h, rfl⟩
  simp only [h]

theorem map_getD (xs : List Nat) (k : Nat) (h : k < xs.length) : (xs.map Int.ofNat).getD k 0 = ((xs.getD k 0 : Nat) : Int) := by
  simp [List.getD, h]

/-- How many of the first k are in the other one. -/
def firstIn (xs : List Nat) (wt : Nat → Nat) (k : Nat) : Nat := ((xs.take k).filter (fun e => Bm.mem wt e)).length
theorem firstIn_succ (xs : List Nat) (wt : Nat → Nat) (k : Nat) (h : k < xs.length) : firstIn xs wt (k + 1) = firstIn xs wt k + (if Bm.mem wt (xs.getD k 0) then 1 else 0) := by
  unfold firstIn
  rw [List.take_succ_eq_append_getElem h, filter_snoc]
  congr 2
  simp [List.getD, h]
theorem firstIn_le (xs : List Nat) (wt : Nat → Nat) (k : Nat) : firstIn xs wt k ≤ k := by
  unfold firstIn
  exact Nat.le_trans (List.length_filter_le _ _) (List.length_take_le _ _)

/-- What BitsCommon knows ahead of its loop. -/
structure ComSays (w : World) (s b t b' : Nat) (ws wt : Nat → Nat) (vx vy : Value) : Prop where
  s : SetAt w s b 200 4 4 ws
  t : SetAt w t b' 100 2 2 wt
  tab : Tab w
  x : IntsAt w vx ((elems ws 200).map Int.ofNat)
  y : IntsAt w vy ((elems wt 100).map Int.ofNat)

theorem ComSays.kept {w w' : World} {s b t b' : Nat} {ws wt : Nat → Nat} {vx vy : Value} (h : ComSays w s b t b' ws wt vx vy) (k : Kept [] w w') : ComSays w' s b t b' ws wt vx vy :=
  ⟨h.s.kept k (by simp) (by simp), h.t.kept k (by simp) (by simp), h.tab.kept k (by simp), h.x.kept k, h.y.kept k⟩

set_option maxHeartbeats 4000000 in
theorem common_walk (w : World) (va : Value) (xa : List Int) (ha : IntsAt w va xa) (vb : Value) (xb : List Int) (hb : IntsAt w vb xb) (hT : Tab w) :
    Calls Tryd.prog 4 #[va, vb] w fun e w' => e = .returned (.bool true) ∧ Kept [] w w' := by
  have HM := made_any w 200 ha hT
  rw [show newRoom 200 = 200 from by decide] at HM
  replace HM := hide HM
  have HT := hide hT
  have HB := hide hb
  clear ha hT hb
  go_enter Tryd.func4, Tryd.ntmps4
  go_wp2_with fail
  refine (unhide HM).mono ?_
  rintro e w1 ⟨s, b, ws, rfl, hs, -, hs1, hb1, k1⟩
  have C := made_any w1 100 ((unhide HB).kept k1) ((unhide HT).kept k1 (by simp))
  rw [show newRoom 100 = 100 from by decide] at C
  replace C := hide C
  have HS := hide hs
  clear hs HM HB
  go_wp2_with fail
  refine (unhide C).mono ?_
  rintro e w2 ⟨t, b', wt, rfl, ht, -, ht1, hb2, k2⟩
  have hsb : s < w1.heap.size ∧ b < w1.heap.size := ⟨(unhide HS).sl, (unhide HS).bl⟩
  have HS2 := hide ((unhide HS).kept k2 (by simp) (by simp))
  have HT2 := hide ht
  have K2 := k1.trans k2
  clear C HS ht k1 k2
  have C := hide (awake_any w2 ((unhide HT).kept K2 (by simp)))
  go_wp2_with fail
  refine (unhide C).mono ?_
  rintro e w3 ⟨rfl, k3⟩
  have HS3 := hide ((unhide HS2).kept k3 (by simp) (by simp))
  have HT3 := hide ((unhide HT2).kept k3 (by simp) (by simp))
  have K3 := K2.trans k3
  clear C HS2 HT2 K2 k3
  have C := hide (list_set (unhide HS3) ((unhide HT).kept K3 (by simp)))
  go_wp2_with fail
  refine (unhide C).mono ?_
  rintro e w4 ⟨vx, rfl, ix, -, k4⟩
  have HS4 := hide ((unhide HS3).kept k4 (by simp) (by simp))
  have HT4 := hide ((unhide HT3).kept k4 (by simp) (by simp))
  have K4 := K3.trans k4
  have IX := hide ix
  clear C HS3 HT3 K3 k4 ix
  have C := hide (list_set (unhide HT4) ((unhide HT).kept K4 (by simp)))
  go_wp2_with fail
  refine (unhide C).mono ?_
  rintro e w5 ⟨vy, rfl, iy, -, k5⟩
  have K5 := K4.trans k5
  have SAY := hide (ComSays.mk ((unhide HS4).kept k5 (by simp) (by simp)) ((unhide HT4).kept k5 (by simp) (by simp)) ((unhide HT).kept K5 (by simp)) ((unhide IX).kept k5) iy)
  clear C HS4 HT4 K4 k5 iy IX
  obtain ⟨ax, capx, hvx, hmx, hcx⟩ := (unhide SAY).x.shape
  obtain ⟨ay, capy, hvy, hmy, hcy⟩ := (unhide SAY).y.shape
  subst hvx hvy
  rw [List.length_map] at hcx hmx hcy hmy
  simp only [List.length_map] at SAY ⊢
  have HCX := hide hcx
  have hlx : (elems ws 200).length ≤ 200 := Bm.below_le _ _
  have hly : (elems wt 100).length ≤ 100 := Bm.below_le _ _
  have HX := hide (show ((elems ws 200).map Int.ofNat).length = (elems ws 200).length from List.length_map _)
  clear hcx hcy hmx hmy
  have HIN := hide (fun e : Nat => by
    have c := in_any (unhide SAY).y (e : Int)
    rw [in_elems (unhide SAY).t.tight] at c
    exact c)
  have hf0 := hide (show firstIn (elems ws 200) wt 0 = 0 by simp [firstIn])
  go_wp2
  go_loop [9, 10] (fun q i => ∃ k : Nat, k ≤ (elems ws 200).length ∧ i = .int .i64 k ∧ q = .int .i64 (firstIn (elems ws 200) wt k : Nat)) (fun _ i => (elems ws 200).length - (intOf i).toNat)
  case atStart => exact ⟨0, Nat.zero_le _, rfl, by rw [unhide hf0]; rfl⟩
  case round =>
    obtain ⟨k, hk, rfl, rfl⟩ := hrel
    have hfl := firstIn_le (elems ws 200) wt k
    by_cases hlt : k < (elems ws 200).length
    · obtain ⟨g, o, rfl, hcell⟩ := unhide HCX (by omega)
      have hck := hcell k hlt
      rw [map_getD _ _ hlt] at hck
      have hsu := firstIn_succ (elems ws 200) wt k hlt
      have C := unhide HIN ((elems ws 200).getD k 0)
      clear hcell
      generalize (elems ws 200).getD k 0 = e at *
      cases hmem : Bm.mem wt e
      all_goals
        rw [hmem] at C hsu
        replace C := hide C
        have HSU := hide hsu
        clear hsu hmem
        generalize firstIn (elems ws 200) wt k = q at *
        go_wp2_with fail
        refine (unhide C).mono ?_
        rintro e' w6 ⟨rfl, hw⟩
        obtain rfl := hw.symm
        go_wp2
        go_round
        case rel => exact ⟨k + 1, by omega, by go_num, by rw [unhide HSU]; simp⟩
        case measure => simp [intOf]; omega
    · have hk2 : k = (elems ws 200).length := by omega
      have HN := hide (show firstIn (elems ws 200) wt k = ((elems ws 200).filter (fun e => Bm.mem wt e)).length by rw [hk2]; unfold firstIn; rw [List.take_length])
      clear hk2
      generalize firstIn (elems ws 200) wt k = N at *
      have C := hide (fork_set (unhide SAY).s)
      go_wp2_with fail
      refine (unhide C).mono ?_
      rintro e w6 ⟨f, g, cap, rfl, hu, hf1, hg1, k6⟩
      have HU6 := hide hu
      clear C hu
      have C := common_set ((unhide SAY).kept k6).s ((unhide SAY).kept k6).t ((unhide SAY).kept k6).tab
      rw [both_count (unhide SAY).s.tight (unhide SAY).t.tight, ← unhide HN] at C
      replace C := hide C
      go_wp2_with fail
      refine (unhide C).mono ?_
      rintro e w7 ⟨rfl, k7⟩
      have K7 := k6.trans k7
      have HU7 := hide ((unhide HU6).kept k7 (by simp) (by simp))
      clear C HU6 k6 k7
      have C := common_set ((unhide SAY).kept K7).t ((unhide SAY).kept K7).s ((unhide SAY).kept K7).tab
      rw [← unhide HN] at C
      replace C := hide C
      go_wp2_with fail
      refine (unhide C).mono ?_
      rintro e w8 ⟨rfl, k8⟩
      have K8 := K7.trans k8
      have HU8 := hide ((unhide HU7).kept k8 (by simp) (by simp))
      clear C HU7 K7 k8
      have hts : t < w5.heap.size ∧ b' < w5.heap.size ∧ s < w5.heap.size ∧ b < w5.heap.size := ⟨(unhide SAY).t.sl, (unhide SAY).t.bl, (unhide SAY).s.sl, (unhide SAY).s.bl⟩
      have hjc := join_count (ws := ws) (wt := wt) (room := 200) (r' := 100) (by omega)
      rw [both_count (unhide SAY).s.tight (unhide SAY).t.tight, ← unhide HN] at hjc
      have C := join_set (unhide HU8) ((unhide SAY).kept K8).t ((unhide SAY).kept K8).tab (by omega) (by omega)
      generalize ((elems wt 100).filter (fun k => decide (k < 200) && !Bm.mem ws k)).length = M at *
      have hq1 : ((M : Int) == ((elems wt 100).length : Int) - (N : Int)) = true := by simp; omega
      clear hjc
      replace C := hide C
      have hqs := hide hts
      clear hts
      go_wp2_with fail
      refine (unhide C).mono ?_
      rintro e w9 ⟨rfl, wu, hu9, hmem, k9⟩
      have K9 := K8.put k9 hg1
      have HU9 := hide hu9
      have HME := hide hmem
      clear C HU8 K8 k9 hu9 hmem
      have C := less_set (unhide HU9) ((unhide SAY).kept K9).s ((unhide SAY).kept K9).tab (by have := unhide hqs; omega) (by have := unhide hqs; omega)
      rw [all_count (fun k hk => by rw [unhide HME k, hk]; simp)] at C
      replace C := hide C
      go_wp2_with fail
      refine (unhide C).mono ?_
      rintro e w10 ⟨rfl, wv, -, -, k10⟩
      have K10 := K9.put k10 hg1
      clear C HU9 HME K9 k10
      have C := hide (list_set ((unhide SAY).kept K10).s ((unhide SAY).kept K10).tab)
      go_wp2_with fail
      refine (unhide C).mono ?_
      rintro e w11 ⟨v11, rfl, i11, -, k11⟩
      have K11 := K10.trans k11
      clear C K10 k11
      have C := plain_any i11 ((unhide SAY).kept K11).x
      rw [show decide ((elems ws 200).map Int.ofNat = (elems ws 200).map Int.ofNat) = true by simp] at C
      replace C := hide C
      clear i11
      go_wp2_with fail
      refine (unhide C).mono ?_
      rintro e w12 ⟨rfl, k12⟩
      have K12 := K11.trans (Kept.ofDrew' k12)
      clear C K11 k12
      have C := hide (list_set ((unhide SAY).kept K12).t ((unhide SAY).kept K12).tab)
      go_wp2_with fail
      refine (unhide C).mono ?_
      rintro e w13 ⟨v13, rfl, i13, -, k13⟩
      have K13 := K12.trans k13
      clear C K12 k13
      have C := plain_any i13 ((unhide SAY).kept K13).y
      rw [show decide ((elems wt 100).map Int.ofNat = (elems wt 100).map Int.ofNat) = true by simp] at C
      replace C := hide C
      clear i13
      go_wp2_with fail
      refine (unhide C).mono ?_
      rintro e w14 ⟨rfl, k14⟩
      have K14 := K13.trans (Kept.ofDrew' k14)
      clear C K13 k14
      have C := common_set ((unhide SAY).kept K14).s ((unhide SAY).kept K14).s ((unhide SAY).kept K14).tab
      rw [all_count (fun k hk => hk)] at C
      replace C := hide C
      go_wp2_with fail
      refine (unhide C).mono ?_
      rintro e w15 ⟨rfl, k15⟩
      have K15 := K5.trans (K14.trans k15)
      clear C K14 k15
      go_wp2
      go_ret
      exact ⟨rfl, K15⟩
end Go.Proofs.YtmcgeadpoiihkaaDoor
