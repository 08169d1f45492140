/- garlandplay.Some; how many vertices pieces have. -/
import Derived.Test.YtpebakgdnkjjeaaDoorAwake
import Derived.Test.YtpebakgdnkjjeaaDoorSmall
import Derived.Test.YtpebakgdnkjjeaaDoorHelpI
namespace Go.Proofs.YtpebakgdnkjjeaaDoor
open Go.RowKit

set_option maxRecDepth 20000 in
set_option maxHeartbeats 4000000 in
theorem some_any (w : World) (N : Nat) (v : Value) (x : Int) : Calls Tryd.prog 18 #[gv N v, .int .u64 x] w fun e w' => ∃ r xs, e = .returned r ∧ IntsAt w' r xs ∧ xs.Pairwise (· < ·) ∧ (∀ y ∈ xs, 0 ≤ y ∧ y < (N : Int)) ∧ xs.length ≤ 64 ∧ FreshAt w.heap.size r ∧ Kept [] w w' := by
  obtain ⟨i, hi, hz0, hz1, hz2⟩ := info_parts infoInt
  go_enter Tryd.func18, Tryd.ntmps18
  go_wp2
  obtain ⟨b0, b1⟩ := box2 (Kept.refl [] (w.alloc (.cells #[.int .i64 (N : Int), v] 24))) (by simp)
  have KB := hide ((Kept.refl [] w).alloc (.cells #[.int .i64 (N : Int), v] 24))
  have hbs : w.heap.size < (w.alloc (.cells #[.int .i64 (N : Int), v] 24)).heap.size := by simp
  generalize w.alloc (.cells #[.int .i64 (N : Int), v] 24) = w1 at *
  go_loopw [5, 6] (fun lv vv wr => ∃ (k : Nat) (xs : List Int), k ≤ 64 ∧ vv = .int .i64 k ∧ wr.ownsRow w1.heap.size 3 1 lv xs.length (xs.map (Value.int .i64)) ∧ xs.length ≤ k ∧ Hid (Kept [] w1 wr ∧ xs.Pairwise (· < ·) ∧ ∀ y ∈ xs, (0 ≤ y ∧ y < (N : Int)) ∧ y < (k : Int))) (fun _ vv _ => 64 - (intOf vv).toNat)
  case atStart => exact ⟨0, [], Nat.zero_le _, rfl, ⟨rfl, Or.inl ⟨rfl, rfl⟩⟩, Nat.zero_le _, Kept.refl _ _, .nil, by simp⟩
  case round =>
    obtain ⟨k, xs, hk, rfl, hown, hxl, hh⟩ := hrel
    have c0 := kept_cell b0 (unhide hh).1
    by_cases hc : (k : Int) < (N : Int) ∧ (k : Int) < 64
    · obtain ⟨hc1, hc2⟩ := hc
      have hws := (unhide hh).1.size
      have HNO := hide (show ∀ y ∈ xs, (0 ≤ y ∧ y < (N : Int)) ∧ y < ((k + 1 : Nat) : Int) from fun y hy => by have := (unhide hh).2.2 y hy; omega)
      have HYES := hide (show (xs ++ [(k : Int)]).Pairwise (· < ·) ∧ ∀ y ∈ xs ++ [(k : Int)], (0 ≤ y ∧ y < (N : Int)) ∧ y < ((k + 1 : Nat) : Int) from ⟨by
          rw [List.pairwise_append]
          refine ⟨(unhide hh).2.1, by simp, fun a ha b hb => ?_⟩
          simp at hb; subst hb
          exact ((unhide hh).2.2 a ha).2, fun y hy => by
          rcases List.mem_append.1 hy with h | h
          · exact unhide HNO y h
          · simp at h; omega⟩)
      go_wp2_with (first | (at_builtin; refine wpList_append_own _ rfl (.tmp 23) (.tmp 25) 25 rfl w1.heap.size 3 i (.int .i64 0) 1 8 Tryd.underlying25 hi hz0 hz1 hz2 rfl (by decide) _ _ _ rfl (hown.alloc _) _ 1 _ [.int .i64 (k : Int)] rfl rfl (one_cell' _ _ _ (by simp)) (by simp [Value.oneCell']) (by unfold maxLen; omega) (by omega) (by simp; omega) ?_; intro v' w4 own4 g4 _))
      · have HK4 := hide (((unhide hh).1.alloc _).grown g4 (fun j hj => Or.inr (own_block hown j hj)))
        go_roundw
        case rel => exact ⟨k + 1, xs ++ [(k : Int)], by omega, by go_num, by rw [List.length_append, List.map_append]; exact own4, by simp; omega, unhide HK4, unhide HYES⟩
        case measure => simp [intOf]; omega
      · go_roundw
        case rel => exact ⟨k + 1, xs, by omega, by go_num, hown, by omega, (unhide hh).1, (unhide hh).2.1, unhide HNO⟩
        case measure => simp [intOf]; omega
    · have HF := hide (ints_of_owns hown)
      have HKF := hide ((unhide KB).trans (unhide hh).1)
      have HC := hide hc
      clear hc
      go_wp2
      all_goals first
        | (exfalso; have hc := unhide HC; omega)
        | (go_ret
           exact ⟨_, rfl, xs, (unhide HF).1, (unhide hh).2.1, fun y hy => ((unhide hh).2.2 y hy).1, by omega, fun a n c e => by have := (unhide HF).2 a n c e; omega, unhide HKF⟩)
        | (go_ret
           exact ⟨_, xs, rfl, (unhide HF).1, (unhide hh).2.1, fun y hy => ((unhide hh).2.2 y hy).1, by omega, fun a n c e => by have := (unhide HF).2 a n c e; omega, unhide HKF⟩)

/-- All vertices, in pieces or out. -/
theorem IsPieces.count {es : List E} {N : Nat} {xs : List Int} {L : List (List Int)} (h : IsPieces es (Alive (N : Int) xs) L) (hx : xs.Pairwise (· < ·)) (hb : ∀ y ∈ xs, 0 ≤ y ∧ y < (N : Int)) : L.flatten.length + xs.length = N := by
  have hd : L.flatten.Nodup := by
    unfold List.Nodup
    rw [List.pairwise_flatten]
    refine ⟨fun l hl => pair_irr (h.rise l hl), List.Pairwise.imp_of_mem ?_ h.heads⟩
    intro l m hl hm hlt x hxl y hym e
    subst e
    have : l = m := rising_eq (h.rise l hl) (h.rise m hm) (fun z => by rw [(h.cls l hl x hxl).2 z, (h.cls m hm x hym).2 z])
    subst this
    exact Int.lt_irrefl _ hlt
  have hmem : ∀ x, x ∈ L.flatten ↔ Alive (N : Int) xs x := fun x => by
    rw [List.mem_flatten]
    constructor
    · rintro ⟨l, hl, hxl⟩; exact (h.cls l hl x hxl).1
    · intro hx; obtain ⟨l, hl, hxl⟩ := h.all x hx; exact ⟨l, hl, hxl⟩
  have hn : (L.flatten ++ xs).Nodup := by
    rw [List.nodup_append]
    exact ⟨hd, pair_irr hx, fun a ha b hb e => by subst e; exact ((hmem a).1 ha).2 hb⟩
  have hr : ((List.range N).map Int.ofNat).Nodup := by
    unfold List.Nodup
    rw [List.pairwise_map]
    exact (List.nodup_range).imp (fun h e => h (Int.ofNat.inj e))
  have hp : (L.flatten ++ xs).Perm ((List.range N).map Int.ofNat) := (List.perm_ext_iff_of_nodup hn hr).2 (fun x => by
    rw [List.mem_append, hmem, List.mem_map]
    constructor
    · intro h
      have h2 : 0 ≤ x ∧ x < (N : Int) := by
        rcases h with h | h
        · exact h.1
        · exact hb x h
      exact ⟨x.toNat, by simp; omega, by show ((x.toNat : Nat) : Int) = x; omega⟩
    · rintro ⟨k, hk, rfl⟩
      simp at hk
      by_cases hm : Int.ofNat k ∈ xs
      · exact Or.inr hm
      · exact Or.inl ⟨⟨by show (0 : Int) ≤ (k : Int); omega, by show (k : Int) < N; omega⟩, hm⟩)
  have := hp.length_eq
  simp at this
  simpa using this
theorem odd_flat (L : List (List Int)) : oddL L ≤ L.flatten.length ∧ (L.flatten.length - oddL L) % 2 = 0 := by
  induction L with
  | nil => simp [oddL]
  | cons l r ih =>
    unfold oddL at *
    simp only [List.map_cons, List.sum_cons, List.flatten_cons, List.length_append]
    omega
end Go.Proofs.YtpebakgdnkjjeaaDoor
