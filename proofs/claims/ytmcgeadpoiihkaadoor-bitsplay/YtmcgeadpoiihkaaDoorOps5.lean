/- The list of a set; how many it has. -/
import Derived.Test.YtmcgeadpoiihkaaDoorOps4
import Derived.Test.YtmcgeadpoiihkaaDoorMath2
namespace Go.Proofs.YtmcgeadpoiihkaaDoor
open Go.RowKit

/-- The numbers of a set, rising. -/
def elems (ws : Nat → Nat) (room : Nat) : List Nat := Bm.below (Bm.mem ws) room

theorem lenW_below (n : Nat) (ws : Nat → Nat) : lenW n ws = (Bm.below (Bm.mem ws) (64 * n)).length := by
  induction n with
  | zero => rfl
  | succ n ih =>
    simp only [lenW]
    rw [ih, show 64 * (n + 1) = 64 * n + 64 by omega, Bm.cnt_below 64 (ws n)]
    intro j hj
    unfold Bm.mem
    rw [show (64 * n + j) / 64 = n by omega, show (64 * n + j) % 64 = j by omega]

theorem SetAt.lenW {w : World} {s b room n c : Nat} {ws : Nat → Nat} (h : SetAt w s b room n c ws) : Go.Proofs.YtmcgeadpoiihkaaDoor.lenW n ws = (elems ws room).length := by
  rw [lenW_below]
  unfold elems
  have hl := h.len
  rw [Bm.below_stay (Bm.mem ws) room (64 * n) (by omega) (fun j h1 _ => by
    cases hm : Bm.mem ws j
    · rfl
    · have := h.tight j hm; omega)]

theorem len_set {w : World} {s b room n c : Nat} {ws : Nat → Nat} (h : SetAt w s b room n c ws) :
    Calls Tryd.prog 20 #[.pointer (some ⟨s, 0, none⟩)] w fun e w' => e = .returned (.int .i64 ((elems ws room).length : Nat)) ∧ w' = w := by
  have := len_any h
  rw [h.lenW] at this
  exact this

theorem Kept.grown {bs : List Nat} {a w w' : World} {row : Option Nat} (h : Kept bs a w) (hg : w.grownBy w' row) (hr : ∀ k, row = some k → k ∈ bs ∨ a.heap.size ≤ k) : Kept bs a w' :=
  ⟨hg.os.trans h.os, hg.tape.trans h.tape, hg.output.trans h.output, Nat.le_trans h.size hg.size, fun k hk hn => by
    rw [hg.block k (Nat.lt_of_lt_of_le hk h.size) (fun e => by rcases hr k e.symm with h1 | h1; exact hn h1; omega)]
    exact h.block k hk hn⟩

/-- A slice of numbers in memory. -/
def IntsAt (w : World) (v : Value) (xs : List Int) : Prop :=
  ∃ ao cap, v = .slice ao xs.length cap ∧ xs.length ≤ cap ∧ xs.length ≤ maxLen ∧ (0 < xs.length → ∃ g o, ao = some ⟨g, o, none⟩ ∧ g < w.heap.size ∧ ∀ i, i < xs.length → w.cell? ⟨g, o + i, none⟩ = some (.int .i64 (xs.getD i 0)))

theorem IntsAt.keptAt {w w' : World} {v : Value} {xs : List Int} {bs : List Nat} (h : IntsAt w v xs) (k : Kept bs w w') (hb : ∀ a n c, v = .slice (some a) n c → a.block ∉ bs) : IntsAt w' v xs := by
  obtain ⟨ao, cap, rfl, hc, hm, h⟩ := h
  refine ⟨ao, cap, rfl, hc, hm, fun h0 => ?_⟩
  obtain ⟨g, o, rfl, hg, hcell⟩ := h h0
  exact ⟨g, o, rfl, Nat.lt_of_lt_of_le hg k.size, fun i hi => by rw [k.cell hg (hb _ _ _ rfl)]; exact hcell i hi⟩
theorem IntsAt.drewN {w : World} {v : Value} {xs : List Int} (h : IntsAt w v xs) (m : Nat) : IntsAt (w.drewN m) v xs :=
  h.keptAt ((Kept.refl [] w).drewN m) (by simp)

/-- A slice that is not in memory below base. -/
def FreshAt (base : Nat) (v : Value) : Prop := ∀ a n c, v = .slice (some a) n c → base ≤ a.block

theorem ints_of_owns {w : World} {base n : Nat} {v : Value} {xs : List Int} (h : w.ownsRow base 3 1 v n (xs.map (Value.int .i64))) : IntsAt w v xs ∧ FreshAt base v := by
  obtain ⟨h1, h2⟩ := h
  have hn : n = xs.length := by simpa using h1.symm
  subst hn
  rcases h2 with ⟨rfl, h2⟩ | ⟨g, cap, cur, rfl, h3, h4, h5, h6, h7, h8⟩
  · have e : xs = [] := List.eq_nil_of_length_eq_zero h2
    subst e
    exact ⟨⟨none, 0, rfl, Nat.le_refl _, Nat.zero_le _, fun h => by simp at h⟩, by intro a n c h; cases h⟩
  · refine ⟨⟨some ⟨g, 0, none⟩, cap, rfl, h5, by omega, fun _ => ⟨g, 0, rfl, ?_, ?_⟩⟩, by intro a n c h; cases h; exact h3⟩
    · by_cases hb : g < w.heap.size
      · exact hb
      · rw [Array.getElem?_eq_none (by omega)] at h4; simp at h4
    · intro i hi
      rw [cell_of_heap h4]
      have : cur[0 + i]? = (cur.toList.take (xs.length * 1))[i]? := by
        rw [List.getElem?_take, if_pos (by omega)]; simp
      rw [this, h8]
      simp [List.getD, hi]

theorem one_cell {w : World} (v : Value) (t : TypeId) : ∀ j u, [v][j]? = some u → (w.alloc (.cells #[v] t)).cell? ((⟨w.heap.size, 0, none⟩ : Addr).add j) = some u := by
  intro j u hu
  have hj : j = 0 := by
    have := (List.getElem?_eq_some_iff.1 hu).1
    simp at this; exact this
  subst hj
  simp at hu
  subst hu
  rw [Addr.add_lit, cell_of_heap (heap_new w _)]
  simp

/-- The measure of a walk from number to number. -/
def lm (room : Nat) (v : Value) : Nat := if intOf v < 0 then 0 else room + 1 - (intOf v).toNat
theorem lm_int (room : Nat) (k : IntKind) (r : Int) : lm room (.int k r) = if r < 0 then 0 else room + 1 - r.toNat := rfl
theorem IsLeast.next {m : Nat → Bool} {room k : Nat} {r : Int} (h : IsLeast m (k + 1) r) (hk : k < room) (ht : ∀ k, m k = true → k < room) : lm room (.int .i64 r) < lm room (.int .i64 (k : Nat)) := by
  have e0 : ¬ ((k : Nat) : Int) < 0 := by omega
  rw [lm_int, lm_int, if_neg e0]
  rcases h with ⟨rfl, _⟩ | ⟨j, rfl, h1, h2, _⟩
  · rw [if_pos (by decide)]; omega
  · have := ht j h2
    have e1 : ¬ ((j : Nat) : Int) < 0 := by omega
    rw [if_neg e1]; omega
theorem own_block {w : World} {base e size n : Nat} {v : Value} {xs : List Value} (h : w.ownsRow base e size v n xs) : ∀ k, v.ownBlock = some k → base ≤ k := by
  intro k hk
  rcases h.2 with ⟨rfl, _⟩ | ⟨g, cap, cur, rfl, h3, _⟩
  · simp [Value.ownBlock] at hk
  · simp [Value.ownBlock] at hk; omega

set_option maxHeartbeats 1000000 in
theorem list_core (w : World) (p : Value) (m : Nat → Bool) (room L : Nat) (hr : room ≤ 70000) (hL : L ≤ 70000) (htight : Hid (∀ k, m k = true → k < room))
    (hlen : Hid (Calls Tryd.prog 20 #[p] w fun e w' => e = .returned (.int .i64 (L : Nat)) ∧ w' = w))
    (hleast : Hid (∀ (W : World) (f : Nat), Kept [] w W → Calls Tryd.prog 22 #[p, .int .i64 f] W fun e w' => ∃ r, e = .returned (.int .i64 r) ∧ IsLeast m f r ∧ ∃ q, w' = W.drewN q)) :
    Calls Tryd.prog 17 #[p] w fun e w' => ∃ v, e = .returned v ∧ IntsAt w' v ((Bm.below m room).map Int.ofNat) ∧ FreshAt w.heap.size v ∧ Kept [] w w' := by
  obtain ⟨i, hi, hz0, hz1, hz2⟩ := info_parts infoInt
  go_enter Tryd.func17, Tryd.ntmps17
  go_wp2_with (first | (go_at_call 20; refine (unhide hlen).mono ?_; rintro e w1 ⟨rfl, hw⟩; obtain rfl := hw.symm) | (at_make; refine wpList_make_own _ rfl _ _ 29 rfl w.heap.size 3 i (.int .i64 0) 1 Tryd.underlying29 hi hz0 hz1 .i64 .i64 _ L rfl rfl rfl (by rw [hz2]; omega) (by unfold maxLen; omega) (Nat.le_refl _) ?_; intro w1 hown1 hg1))
  have hk0 : Kept [] w w1 := (Kept.refl [] w).grown hg1 (by simp)
  have HL := hide (unhide hleast w1 0 hk0)
  go_wp2_with (go_at_call 22; refine (unhide HL).mono ?_; rintro e w2 ⟨r, rfl, hr1, q, rfl⟩)
  go_loopw [3, 4] (fun v kk wr => ∃ (f : Nat) (r : Int), kk = .int .i64 r ∧ IsLeast m f r ∧ f ≤ room ∧ wr.ownsRow w.heap.size 3 1 v (Bm.below m f).length (((Bm.below m f).map Int.ofNat).map (Value.int .i64)) ∧ Kept [] w wr) (fun _ kk _ => lm room kk)
  case atStart => exact ⟨0, r, rfl, hr1, Nat.zero_le _, hown1, hk0.drewN q⟩
  case round =>
    obtain ⟨f, r, rfl, hr2, hf, hown, hk⟩ := hrel
    rcases hr2 with ⟨rfl, hnone⟩ | ⟨k, rfl, hfk, hmk, hno⟩
    · have HN := hide hnone
      clear hnone
      go_wp2
      go_ret
      obtain ⟨h1, h2⟩ := ints_of_owns hown
      refine ⟨_, rfl, ?_, h2, hk⟩
      rw [Bm.below_stay m f room hf (fun j h1 _ => unhide HN j h1)]
      exact h1
    · have hkr : k < room := unhide htight k hmk
      have hst := hide (Bm.below_step m f k hfk hno hmk)
      have hbl := Bm.below_le m f
      clear hno hmk
      go_wp2_with (first | (at_builtin; refine wpList_append_own _ rfl (.tmp 16) (.tmp 18) 29 rfl w.heap.size 3 i (.int .i64 0) 1 8 Tryd.underlying29 hi hz0 hz1 hz2 rfl (by decide) _ _ _ rfl (hown.alloc _) _ 1 _ [.int .i64 (k : Nat)] rfl rfl (one_cell _ _) (by simp [Value.oneCell']) (by unfold maxLen; omega) (by omega) (by simp; have := hk.size; omega) ?_; intro v' w2 hown2 hg2 _))
      have hk2 : Kept [] w w2 := (hk.alloc _).grown hg2 (fun j hj => Or.inr (own_block hown j hj))
      have HL2 := unhide hleast w2 (k + 1) hk2
      rw [show (((k + 1 : Nat)) : Int) = (k : Int) + 1 from by omega] at HL2
      have HL3 := hide HL2
      clear HL2
      go_wp2_with (go_at_call 22; refine (unhide HL3).mono ?_; rintro e w3 ⟨r', rfl, hr3, q', rfl⟩)
      go_roundw
      case rel =>
        refine ⟨k + 1, r', rfl, hr3, by omega, ?_, hk2.drewN q'⟩
        rw [unhide hst, List.length_append, List.map_append, List.map_append]
        exact hown2
      case measure => exact hr3.next hkr (unhide htight)

/-- List. -/
theorem list_set {w : World} {s b room n c : Nat} {ws : Nat → Nat} (h : SetAt w s b room n c ws) (hT : Tab w) :
    Calls Tryd.prog 17 #[.pointer (some ⟨s, 0, none⟩)] w fun e w' => ∃ v, e = .returned v ∧ IntsAt w' v ((elems ws room).map Int.ofNat) ∧ FreshAt w.heap.size v ∧ Kept [] w w' :=
  list_core w _ (Bm.mem ws) room (elems ws room).length h.most (Nat.le_trans (Bm.below_le _ _) h.most) (hide h.tight) (hide (len_set h)) (hide (fun W f hk => by
    have := least_any (h.kept hk (by simp) (by simp)) (hT.kept hk (by simp)) (f : Int)
    rw [Int.toNat_natCast] at this
    exact this))
theorem list_nil (w : World) : Calls Tryd.prog 17 #[.pointer none] w fun e w' => ∃ v, e = .returned v ∧ IntsAt w' v [] ∧ FreshAt w.heap.size v ∧ Kept [] w w' :=
  list_core w _ (fun _ => false) 0 0 (by omega) (by omega) (hide (by simp)) (hide (len_nil w)) (hide (fun W f hk => (least_nil W f).mono fun e w' h => ⟨-1, h.1, Or.inl ⟨rfl, fun _ _ => rfl⟩, h.2⟩))
end Go.Proofs.YtmcgeadpoiihkaaDoor
