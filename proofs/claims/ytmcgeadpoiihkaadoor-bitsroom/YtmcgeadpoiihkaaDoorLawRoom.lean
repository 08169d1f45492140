/- BitsRoom: the walk. -/
import Derived.Test.YtmcgeadpoiihkaaDoorLaw1
namespace Go.Proofs.YtmcgeadpoiihkaaDoor
open Go.RowKit

theorem room_no (r : Nat) : putAns r (fun _ => 0) (r : Nat) = false ∧ putS r (fun _ => 0) (r : Nat) = (fun _ => 0) := by
  constructor
  · unfold putAns; simp
  · unfold putS; rw [if_neg (by omega)]
theorem room_neg (r : Nat) : putAns r (fun _ => 0) (-1) = false ∧ putS r (fun _ => 0) (-1) = (fun _ => 0) := by
  constructor
  · unfold putAns; simp
  · unfold putS; rw [if_neg (by omega)]
theorem elems_zero (r : Nat) : (elems (fun _ => 0) r).length = 0 := by
  unfold elems
  rw [Bm.below_stay (Bm.mem fun _ => 0) 0 r (Nat.zero_le _) (fun j _ _ => mem_zero j)]
  rfl
theorem room_last (r : Nat) (h : 0 < r) : putAns r (fun _ => 0) ((r : Int) - 1) = true := by
  unfold putAns; rw [mem_zero]; simp; omega
theorem room_least (r : Nat) (h : 0 < r) : IsLeast (Bm.mem (putS r (fun _ => 0) ((r : Int) - 1))) (0 : Int).toNat ((r : Int) - 1) := by
  refine Or.inr ⟨r - 1, by omega, by simp, ?_, ?_⟩
  · rw [mem_putS, mem_zero]; simp; omega
  · intro j _ hj
    rw [mem_putS, mem_zero]
    have : ¬ (j : Int) = (r : Int) - 1 := by omega
    simp [this]

/-- All that is asked behind New and awake, of a set that is empty and has room r. -/
structure RoomSays (w2 : World) (s b r : Nat) : Prop where
  set : SetAt w2 s b r ((r + 63) / 64) ((r + 63) / 64) (fun _ => 0)
  tab : Tab w2

theorem RoomSays.put_room {w : World} {s b r : Nat} (h : RoomSays w s b r) (R : Int) (hR : R = r) : Calls Tryd.prog 19 #[.pointer (some ⟨s, 0, none⟩), .int .i64 R] w fun e w' => e = .returned (.bool false) ∧ RoomSays w' s b r ∧ Kept [b] w w' := by
  subst hR
  have c := put_any h.set (r : Int)
  rw [(room_no r).1, (room_no r).2] at c
  exact c.mono fun e w' a => ⟨a.1, ⟨a.2.1, h.tab.kept a.2.2 (by have := h.set.b0; simpa using fun e => this e.symm)⟩, a.2.2⟩
theorem RoomSays.put_neg {w : World} {s b r : Nat} (h : RoomSays w s b r) : Calls Tryd.prog 19 #[.pointer (some ⟨s, 0, none⟩), .int .i64 (-1)] w fun e w' => e = .returned (.bool false) ∧ RoomSays w' s b r ∧ Kept [b] w w' := by
  have c := put_any h.set (-1)
  rw [(room_neg r).1, (room_neg r).2] at c
  exact c.mono fun e w' a => ⟨a.1, ⟨a.2.1, h.tab.kept a.2.2 (by have := h.set.b0; simpa using fun e => this e.symm)⟩, a.2.2⟩
theorem RoomSays.len {w : World} {s b r : Nat} (h : RoomSays w s b r) : Calls Tryd.prog 20 #[.pointer (some ⟨s, 0, none⟩)] w fun e w' => e = .returned (.int .i64 0) ∧ w' = w := by
  have c := len_set h.set
  rw [elems_zero] at c
  exact c
theorem RoomSays.put_last {w : World} {s b r : Nat} (h : RoomSays w s b r) (hr : 0 < r) (L : Int) (hL : L = (r : Int) - 1) : Calls Tryd.prog 19 #[.pointer (some ⟨s, 0, none⟩), .int .i64 L] w fun e w' => e = .returned (.bool true) ∧ (Calls Tryd.prog 22 #[.pointer (some ⟨s, 0, none⟩), .int .i64 0] w' fun e w'' => e = .returned (.int .i64 L) ∧ Kept [b] w' w'') ∧ Kept [b] w w' := by
  subst hL
  have c := put_any h.set ((r : Int) - 1)
  rw [room_last r hr] at c
  refine c.mono fun e w' a => ⟨a.1, ?_, a.2.2⟩
  refine (least_any a.2.1 (h.tab.kept a.2.2 (by have := h.set.b0; simpa using fun e => this e.symm)) 0).mono ?_
  rintro e w'' ⟨x, rfl, hx, m, rfl⟩
  rw [isLeast_unique hx (room_least r hr)]
  exact ⟨rfl, (Kept.refl _ _).drewN m⟩

set_option maxHeartbeats 2000000 in
theorem room_neg_walk (w : World) (n : Int) (hn : n < 0) (hT : Tab w) : Calls Tryd.prog 5 #[.int .i64 n] w fun e w' => e = .returned (.bool true) ∧ Kept [] w w' := by
  have HN := new_any w n hT
  rw [show newRoom n = 0 from by unfold newRoom; omega] at HN
  have HN := hide HN
  have HT := hide hT
  clear hT
  go_enter Tryd.func5, Tryd.ntmps5
  go_wp2_with fail
  refine (unhide HN).mono ?_
  rintro e w1 ⟨s, b, rfl, hs, k1, hs1, hb1⟩
  have HS := hide hs
  have HT1 := hide ((unhide HT).kept k1 (by simp))
  clear hs HN
  have C := hide (awake_any w1 (unhide HT1))
  go_wp2_with fail
  refine (unhide C).mono ?_
  rintro e w2 ⟨rfl, k2⟩
  have S2 := hide (RoomSays.mk ((unhide HS).kept k2 (by simp) (by simp)) ((unhide HT1).kept k2 (by simp)))
  have K2 := k1.trans k2
  clear C HS HT1 k1 k2
  have C := hide ((unhide S2).put_room 0 (by omega))
  go_wp2_with fail
  refine (unhide C).mono ?_
  rintro e w3 ⟨rfl, s3, k3⟩
  have K3 := K2.put k3 hb1
  have S3 := hide s3
  clear C S2 s3 k3 K2
  have C := hide (unhide S3).put_neg
  go_wp2_with fail
  refine (unhide C).mono ?_
  rintro e w4 ⟨rfl, s4, k4⟩
  have K4 := K3.put k4 hb1
  have S4 := hide s4
  clear C S3 s4 k4 K3
  have C := hide (unhide S4).len
  go_wp2_with fail
  refine (unhide C).mono ?_
  rintro e w5 ⟨rfl, hw⟩
  obtain rfl := hw.symm
  clear C
  go_wp2
  go_ret
  exact ⟨rfl, K4⟩

set_option maxHeartbeats 2000000 in
theorem room_zero_walk (w : World) (hT : Tab w) : Calls Tryd.prog 5 #[.int .i64 0] w fun e w' => e = .returned (.bool true) ∧ Kept [] w w' := by
  have HN := new_any w 0 hT
  rw [show newRoom 0 = 0 from by unfold newRoom; omega] at HN
  have HN := hide HN
  have HT := hide hT
  clear hT
  go_enter Tryd.func5, Tryd.ntmps5
  go_wp2_with fail
  refine (unhide HN).mono ?_
  rintro e w1 ⟨s, b, rfl, hs, k1, hs1, hb1⟩
  have HS := hide hs
  have HT1 := hide ((unhide HT).kept k1 (by simp))
  clear hs HN
  have C := hide (awake_any w1 (unhide HT1))
  go_wp2_with fail
  refine (unhide C).mono ?_
  rintro e w2 ⟨rfl, k2⟩
  have S2 := hide (RoomSays.mk ((unhide HS).kept k2 (by simp) (by simp)) ((unhide HT1).kept k2 (by simp)))
  have K2 := k1.trans k2
  clear C HS HT1 k1 k2
  have C := hide ((unhide S2).put_room 0 (by omega))
  go_wp2_with fail
  refine (unhide C).mono ?_
  rintro e w3 ⟨rfl, s3, k3⟩
  have K3 := K2.put k3 hb1
  have S3 := hide s3
  clear C S2 s3 k3 K2
  have C := hide (unhide S3).put_neg
  go_wp2_with fail
  refine (unhide C).mono ?_
  rintro e w4 ⟨rfl, s4, k4⟩
  have K4 := K3.put k4 hb1
  have S4 := hide s4
  clear C S3 s4 k4 K3
  have C := hide (unhide S4).len
  go_wp2_with fail
  refine (unhide C).mono ?_
  rintro e w5 ⟨rfl, hw⟩
  obtain rfl := hw.symm
  clear C
  go_wp2
  go_ret
  exact ⟨rfl, K4⟩

set_option maxHeartbeats 2000000 in
theorem room_mid_walk (w : World) (r : Nat) (hr : 0 < r) (hr2 : r ≤ 70000) (h0 : ((r : Int) == 0) = false) (hT : Tab w) : Calls Tryd.prog 5 #[.int .i64 (r : Int)] w fun e w' => e = .returned (.bool true) ∧ Kept [] w w' := by
  have HN := new_any w (r : Int) hT
  rw [show newRoom (r : Int) = r from by unfold newRoom; omega] at HN
  have HN := hide HN
  have HT := hide hT
  clear hT
  go_enter Tryd.func5, Tryd.ntmps5
  go_wp2_with fail
  refine (unhide HN).mono ?_
  rintro e w1 ⟨s, b, rfl, hs, k1, hs1, hb1⟩
  have HS := hide hs
  have HT1 := hide ((unhide HT).kept k1 (by simp))
  clear hs HN
  have C := hide (awake_any w1 (unhide HT1))
  go_wp2_with fail
  refine (unhide C).mono ?_
  rintro e w2 ⟨rfl, k2⟩
  have S2 := hide (RoomSays.mk ((unhide HS).kept k2 (by simp) (by simp)) ((unhide HT1).kept k2 (by simp)))
  have K2 := k1.trans k2
  clear C HS HT1 k1 k2
  have C := hide ((unhide S2).put_room r (by omega))
  go_wp2_with fail
  refine (unhide C).mono ?_
  rintro e w3 ⟨rfl, s3, k3⟩
  have K3 := K2.put k3 hb1
  have S3 := hide s3
  clear C S2 s3 k3 K2
  have C := hide (unhide S3).put_neg
  go_wp2_with fail
  refine (unhide C).mono ?_
  rintro e w4 ⟨rfl, s4, k4⟩
  have K4 := K3.put k4 hb1
  have S4 := hide s4
  clear C S3 s4 k4 K3
  have C := hide (unhide S4).len
  go_wp2_with fail
  refine (unhide C).mono ?_
  rintro e w5 ⟨rfl, hw⟩
  obtain rfl := hw.symm
  clear C
  have C := hide ((unhide S4).put_last hr ((r : Int) - 1) rfl)
  go_wp2_with fail
  refine (unhide C).mono ?_
  rintro e w6 ⟨rfl, l6, k6⟩
  have K6 := K4.put k6 hb1
  have L6 := hide l6
  clear C S4 l6 k6 K4
  go_wp2_with fail
  refine (unhide L6).mono ?_
  rintro e w7 ⟨rfl, k7⟩
  have K7 := K6.put k7 hb1
  clear L6 k7 K6
  go_wp2
  go_ret
  exact ⟨rfl, K7⟩

set_option maxHeartbeats 2000000 in
theorem room_big_walk (w : World) (n : Int) (hn : 70000 < n) (hT : Tab w) : Calls Tryd.prog 5 #[.int .i64 n] w fun e w' => e = .returned (.bool true) ∧ Kept [] w w' := by
  have HN := new_any w n hT
  rw [show newRoom n = 70000 from by unfold newRoom; omega] at HN
  have HN := hide HN
  have HT := hide hT
  clear hT
  go_enter Tryd.func5, Tryd.ntmps5
  go_wp2_with fail
  refine (unhide HN).mono ?_
  rintro e w1 ⟨s, b, rfl, hs, k1, hs1, hb1⟩
  have HS := hide hs
  have HT1 := hide ((unhide HT).kept k1 (by simp))
  clear hs HN
  have C := hide (awake_any w1 (unhide HT1))
  go_wp2_with fail
  refine (unhide C).mono ?_
  rintro e w2 ⟨rfl, k2⟩
  have S2 := hide (RoomSays.mk ((unhide HS).kept k2 (by simp) (by simp)) ((unhide HT1).kept k2 (by simp)))
  have K2 := k1.trans k2
  clear C HS HT1 k1 k2
  have C := hide ((unhide S2).put_room 70000 (by omega))
  go_wp2_with fail
  refine (unhide C).mono ?_
  rintro e w3 ⟨rfl, s3, k3⟩
  have K3 := K2.put k3 hb1
  have S3 := hide s3
  clear C S2 s3 k3 K2
  have C := hide (unhide S3).put_neg
  go_wp2_with fail
  refine (unhide C).mono ?_
  rintro e w4 ⟨rfl, s4, k4⟩
  have K4 := K3.put k4 hb1
  have S4 := hide s4
  clear C S3 s4 k4 K3
  have C := hide (unhide S4).len
  go_wp2_with fail
  refine (unhide C).mono ?_
  rintro e w5 ⟨rfl, hw⟩
  obtain rfl := hw.symm
  clear C
  have C := hide ((unhide S4).put_last (by omega) 69999 (by omega))
  go_wp2_with fail
  refine (unhide C).mono ?_
  rintro e w6 ⟨rfl, l6, k6⟩
  have K6 := K4.put k6 hb1
  have L6 := hide l6
  clear C S4 l6 k6 K4
  go_wp2_with fail
  refine (unhide L6).mono ?_
  rintro e w7 ⟨rfl, k7⟩
  have K7 := K6.put k7 hb1
  clear L6 k7 K6
  go_wp2
  go_ret
  exact ⟨rfl, K7⟩

theorem room_walk (w : World) (n : Int) (hT : Tab w) : Calls Tryd.prog 5 #[.int .i64 n] w fun e w' => e = .returned (.bool true) ∧ Kept [] w w' := by
  rcases Int.lt_or_le n 0 with h | h
  · exact room_neg_walk w n h hT
  · by_cases h2 : n ≤ 70000
    · obtain ⟨r, rfl⟩ := Int.eq_ofNat_of_zero_le h
      by_cases h3 : r = 0
      · subst h3; exact room_zero_walk w hT
      · exact room_mid_walk w r (by omega) (by omega) (by simpa using h3) hT
    · exact room_big_walk w n (by omega) hT
end Go.Proofs.YtmcgeadpoiihkaaDoor
