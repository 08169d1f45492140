/- BitsNil: the walk. -/
import Derived.Test.YtmcgeadpoiihkaaDoorLaw1
namespace Go.Proofs.YtmcgeadpoiihkaaDoor
open Go.RowKit

theorem Kept.ofDrewN {w w' : World} (h : ∃ m, w' = w.drewN m) : Kept [] w w' := by
  obtain ⟨m, rfl⟩ := h
  exact (Kept.refl [] w).drewN m

set_option maxHeartbeats 2000000 in
theorem nil_walk (w : World) (k : Int) (v : Value) (xs : List Int) (hI : IntsAt w v xs) (hT : Tab w) :
    Calls Tryd.prog 6 #[.int .i64 k, v] w fun e w' => e = .returned (.bool true) ∧ Kept [] w w' := by
  have HM := hide (made_any w 50 hI hT)
  have HT := hide hT
  clear hI hT
  go_enter Tryd.func6, Tryd.ntmps6
  go_wp2_with fail
  refine (unhide HM).mono ?_
  rintro e w1 ⟨s, b, ws, rfl, hs, hws, hs1, hb1, k1⟩
  have HS := hide hs
  have HT1 := hide ((unhide HT).kept k1 (by simp))
  clear hs hws HM
  have C := hide (awake_any w1 (unhide HT1))
  go_wp2_with fail
  refine (unhide C).mono ?_
  rintro e w2 ⟨rfl, k2⟩
  clear C
  have C := hide (put_nil k w2)
  go_wp2_with fail
  refine (unhide C).mono ?_
  rintro e w3 ⟨rfl, k3⟩
  have k3 := Kept.ofDrewN k3
  clear C
  have C := hide (drop_nil k w3)
  go_wp2_with fail
  refine (unhide C).mono ?_
  rintro e w4 ⟨rfl, k4⟩
  have k4 := Kept.ofDrewN k4
  clear C
  have C := hide (has_nil k w4)
  go_wp2_with fail
  refine (unhide C).mono ?_
  rintro e w5 ⟨rfl, k5⟩
  have k5 := Kept.ofDrewN k5
  clear C
  have C := hide (len_nil w5)
  go_wp2_with fail
  refine (unhide C).mono ?_
  rintro e w6 ⟨rfl, hw⟩
  obtain rfl := hw.symm
  clear C
  have C := hide (list_nil w5)
  go_wp2_with fail
  refine (unhide C).mono ?_
  rintro e w7 ⟨v7, rfl, i7, _, k7⟩
  obtain ⟨ao, cap, hv, _, _⟩ := i7.shape
  subst hv
  clear C i7
  have C := hide (least_nil w7 k)
  go_wp2_with fail
  refine (unhide C).mono ?_
  rintro e w8 ⟨rfl, k8⟩
  have k8 := Kept.ofDrewN k8
  clear C
  have K8 : Kept [] w1 w8 := (((((k2.trans k3).trans k4).trans k5).trans k7).trans k8)
  clear k2 k3 k4 k5 k7 k8
  have C := hide (join_nil ((unhide HS).kept K8 (by simp) (by simp)) ((unhide HT1).kept K8 (by simp)))
  go_wp2_with fail
  refine (unhide C).mono ?_
  rintro e w9 ⟨rfl, k9⟩
  clear C
  have K9 := K8.trans k9
  clear K8 k9
  have C := hide (less_nil ((unhide HS).kept K9 (by simp) (by simp)) ((unhide HT1).kept K9 (by simp)))
  go_wp2_with fail
  refine (unhide C).mono ?_
  rintro e w10 ⟨rfl, k10⟩
  clear C
  have K10 := K9.trans k10
  clear K9 k10
  have C := hide (common_nil ((unhide HS).kept K10 (by simp) (by simp)) ((unhide HT1).kept K10 (by simp)))
  go_wp2_with fail
  refine (unhide C).mono ?_
  rintro e w11 ⟨rfl, k11⟩
  clear C
  have K11 := K10.trans k11
  clear K10 k11
  have C := hide (fork_nil w11)
  go_wp2_with fail
  refine (unhide C).mono ?_
  rintro e w12 ⟨rfl, hw⟩
  obtain rfl := hw.symm
  clear C
  have C := hide (join_with_nil w11 (.pointer (some ⟨s, 0, none⟩)))
  go_wp2_with fail
  refine (unhide C).mono ?_
  rintro e w13 ⟨rfl, k13⟩
  clear C
  have K13 := K11.trans k13
  clear K11 k13
  have C := hide (common_with_nil w13 (.pointer (some ⟨s, 0, none⟩)))
  go_wp2_with fail
  refine (unhide C).mono ?_
  rintro e w14 ⟨rfl, k14⟩
  clear C
  have K14 := k1.trans (K13.trans k14)
  clear K13 k14
  go_wp2
  go_ret
  exact ⟨rfl, K14⟩
end Go.Proofs.YtmcgeadpoiihkaaDoor
