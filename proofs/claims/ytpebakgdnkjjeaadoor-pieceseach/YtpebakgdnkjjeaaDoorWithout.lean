/- Without, All. -/
import Derived.Test.YtpebakgdnkjjeaaDoorRestOf
import Derived.Test.YtpebakgdnkjjeaaDoorLists
namespace Go.Proofs.YtpebakgdnkjjeaaDoor
open Go.RowKit

/-- A vertex that is not out. -/
def Alive (n : Int) (xs : List Int) (x : Int) : Prop := (0 ≤ x ∧ x < n) ∧ x ∉ xs

set_option maxRecDepth 20000 in
set_option maxHeartbeats 4000000 in
theorem take_zero {w : World} {q : Nat} (h1 : w.cell? ⟨q, 1, none⟩ = some (.pointer none)) (x : Int) :
    Calls Tryd.prog 27 #[.pointer (some ⟨q, 0, none⟩), .int .i64 x] w fun e w' => e = .returned (.slice none 0 0) ∧ Kept [] w w' := by
  have HD := hide (drop_nil x w)
  go_enter Tryd.func27, Tryd.ntmps27
  go_wp2_with fail
  refine (unhide HD).mono ?_
  rintro e w1 ⟨rfl, m, rfl⟩
  go_wp2
  go_ret
  exact ⟨rfl, (Kept.refl [] w).drewN m⟩

set_option maxRecDepth 20000 in
set_option maxHeartbeats 4000000 in
theorem next_zero {w : World} {q : Nat} (h1 : w.cell? ⟨q, 1, none⟩ = some (.pointer none)) :
    Calls Tryd.prog 24 #[.pointer (some ⟨q, 0, none⟩)] w fun e w' => e = .returned (.slice none 0 0) ∧ Kept [] w w' := by
  have HL := hide (least_nil w 0)
  go_enter Tryd.func24, Tryd.ntmps24
  go_wp2_with fail
  refine (unhide HL).mono ?_
  rintro e w1 ⟨rfl, m, rfl⟩
  have HT := hide (take_zero (w := w.drewN m) (kept_cell h1 ((Kept.refl [] w).drewN m)) (-1))
  go_wp2_with fail
  refine (unhide HT).mono ?_
  rintro e w2 ⟨rfl, k2⟩
  go_wp2
  go_ret
  exact ⟨rfl, ((Kept.refl [] w).drewN m).trans k2⟩

set_option maxRecDepth 20000 in
set_option maxHeartbeats 4000000 in
theorem without_no {w : World} {n : Int} {v u : Value} {es : List E} (h : EdgesAt w v es) (hr : rightB n es = false) :
    Calls Tryd.prog 9 #[gv n v, u] w fun e w' => e = .returned (.slice none 0 0) ∧ Kept [] w w' := by
  obtain ⟨ao, cap, rfl, _⟩ := h.shape
  have HR := hide (restOf_no (u := u) (h.kept ((Kept.refl [] w).alloc (.cells #[.int .i64 n, .slice ao es.length cap] 24))) hr)
  clear h
  go_enter Tryd.func9, Tryd.ntmps9
  go_wp2_with fail
  refine (unhide HR).mono ?_
  rintro e w1 ⟨q, rfl, c0, c1, k1⟩
  have HN := hide (next_zero c1)
  clear c0 c1
  go_wp2_with fail
  refine (unhide HN).mono ?_
  rintro e w2 ⟨rfl, k2⟩
  go_wp2
  go_loopw [5, 7] (fun lv pv wr => lv = .slice none 0 0 ∧ pv = .slice none 0 0 ∧ wr = w2) (fun _ _ _ => 0)
  case atStart => exact ⟨rfl, rfl, rfl⟩
  case round =>
    obtain ⟨rfl, rfl, rfl⟩ := hrel
    go_wp2
    go_ret
    exact ⟨rfl, (((Kept.refl [] w).alloc _).trans k1).trans k2⟩

set_option maxRecDepth 20000 in
set_option maxHeartbeats 8000000 in
theorem without_yes {w : World} {N : Nat} {v u : Value} {es : List E} {xs : List Int} (h : EdgesAt w v es) (hx : IntsAt w u xs) (hr : rightB (N : Int) es = true) (hT : Tab w) :
    Calls Tryd.prog 9 #[gv N v, u] w fun e w' => ∃ r L, e = .returned r ∧ ListsAt w' r L ∧ IsPieces es (Alive N xs) L ∧ Kept [] w w' := by
  obtain ⟨i, hi, hz0, hz1, hz2⟩ := info_parts infoInts
  obtain ⟨ao, cap, rfl, _⟩ := h.shape
  have KB := (Kept.refl [] w).alloc (.cells #[.int .i64 (N : Int), .slice ao es.length cap] 24)
  have HR := hide (restOf_yes (h.kept KB) (hx.kept KB) hr (hT.kept KB (by simp)))
  obtain ⟨_, hN, _, _, hok⟩ := right_rise hr
  have HOK := hide hok
  have HT := hide hT
  have HAB := hide (show ∀ x, Alive (N : Int) xs x → 0 ≤ x ∧ x < (N : Int) from fun x hx => hx.1)
  clear h hx hr hok hT
  go_enter Tryd.func9, Tryd.ntmps9
  go_wp2_with fail
  refine (unhide HR).mono ?_
  rintro e w1 ⟨q, g, s, b, m, d, ws, rfl, R1, hbw, hH, k1⟩
  have hbw' : w.heap.size < b := by have := hbw; simp at this; omega
  have HK1 := hide (KB.trans k1)
  have hb1 : b < w1.heap.size := R1.set.bl
  have HTK := hide (Taken.start (es := es) (S := Alive (N : Int) xs))
  have HNX := hide (next_any R1 (unhide HOK) ((unhide HT).kept (unhide HK1) (by simp)))
  have HTE := hide (show ∀ x, Has ws x ↔ Alive (N : Int) xs x from hH)
  have HR1 := hide R1
  have HT1 := hide ((unhide HT).kept (unhide HK1) (by simp))
  have htb := R1.set.b0
  clear R1 hH k1 KB hbw
  go_wp2_with fail
  refine (unhide HNX).mono ?_
  rintro e w2 ⟨pv, l, ws', rfl, hpv, hfr, R2, k2, hcase⟩
  obtain ⟨po, pc, rfl, hlm, _⟩ := hpv.shape
  have HST := hide (show ∃ T : Int → Prop, Taken es (Alive (N : Int) xs) T [] ∧ ((l = [] ∧ ∀ x, ¬ T x) ∨ ∃ v, T v ∧ (∀ x, T x → v ≤ x) ∧ l.Pairwise (· < ·) ∧ (∀ y, y ∈ l ↔ Reach es T v y) ∧ ∀ y, Has ws' y ↔ T y ∧ y ∉ l) from
    ⟨Has ws, by
      have he : Has ws = Alive (N : Int) xs := funext fun x => propext (unhide HTE x)
      rw [he]; exact unhide HTK, hcase⟩)
  have HPV := hide hpv
  have HFP := hide (show 0 < l.length → ∃ a, po = some a ∧ a.block ≠ b ∧ a.block < w2.heap.size ∧ w1.heap.size ≤ a.block from fun h0 => by
    obtain ⟨_, _, hv, _, hin⟩ := hpv.shape
    obtain ⟨gg, oo, he, hcc⟩ := hin h0
    have e2 : po = some ⟨gg, oo, none⟩ := by simp at hv; rw [hv.1, he]
    have hfr2 := hfr ⟨gg, oo, none⟩ l.length pc (by rw [e2])
    exact ⟨_, e2, by simp only at hfr2 ⊢; omega, lt_of_cell (hcc 0 h0), hfr2⟩)
  have HS2 := hide R2.set
  have HK2 := hide k2
  have HL0 := hide (LRow.start w2 w1.heap.size b)
  clear hpv hfr R2 k2 hcase
  go_wp2
  go_loopw [5, 7] (fun lv pv wr => ∃ (L : List (List Int)) (vals : List Value) (l : List Int) (ws' : Nat → Nat) (T : Int → Prop) (lo po : Option Addr) (lc pc : Nat), lv = .slice lo L.length lc ∧ pv = .slice po l.length pc ∧ LRow wr w1.heap.size b lv L vals ∧ l.length ≤ maxLen ∧
      Hid (SetAt wr s b N m d ws' ∧ Kept [b] w1 wr ∧ Taken es (Alive (N : Int) xs) T L ∧ ((l = [] ∧ ∀ x, ¬ T x) ∨ ∃ v, T v ∧ (∀ x, T x → v ≤ x) ∧ l.Pairwise (· < ·) ∧ (∀ y, y ∈ l ↔ Reach es T v y) ∧ ∀ y, Has ws' y ↔ T y ∧ y ∉ l) ∧ IntsAt wr pv l ∧ (0 < l.length → ∃ a, po = some a ∧ a.block ≠ b ∧ a.block < wr.heap.size ∧ lv.ownBlock ≠ some a.block))) (fun lv _ _ => N + 1 - lenV lv)
  case atStart =>
    obtain ⟨T, h1, h2⟩ := unhide HST
    exact ⟨[], [], l, ws', T, none, po, 0, pc, rfl, rfl, unhide HL0, hlm, unhide HS2, unhide HK2, h1, h2, unhide HPV, fun h0 => by
      obtain ⟨a, e1, e2, e3, _⟩ := unhide HFP h0
      exact ⟨a, e1, e2, e3, by simp [Value.ownBlock]⟩⟩
  case round =>
    obtain ⟨L, vals, l2, ws2, T, lo, po2, lc, pc2, rfl, rfl, hrow, hlm2, hh⟩ := hrel
    have hLN := (unhide hh).2.2.1.len (unhide HAB)
    by_cases hl0 : 0 < (l2.length : Int)
    · obtain ⟨pa, rfl, hpb, hpl, hpo⟩ := (unhide hh).2.2.2.2.2 (by omega)
      have hown := hrow.own
      have HROW := hide hrow
      have hws : w1.heap.size ≤ wr.heap.size := (unhide hh).2.1.size
      clear hrow
      go_wp2_with (first | (at_builtin; refine wpList_append_own_at _ rfl (.tmp 19) (.tmp 21) 29 rfl w1.heap.size 25 i (.slice none 0 0) 1 24 Tryd.underlying29 hi hz0 hz1 hz2 rfl (by decide) _ _ _ rfl (hown.alloc _) _ 1 _ [.slice (some pa) l2.length pc2] rfl rfl (one_cell' _ _ _ (by simp)) (by simp [Value.oneCell']) (by unfold maxLen; omega) (by omega) (by simp; omega) ?_; intro v' w4 own4 g4 _ hat))
      have g5 : (wr.alloc (.cells #[.slice (some pa) l2.length pc2] 25)).grownBy w4 (Value.slice lo L.length lc).ownBlock := g4
      have hat5 : v'.ownBlock = (Value.slice lo L.length lc).ownBlock ∨ v'.ownBlock = some (wr.heap.size + 1) := by
        rcases hat with h | h
        · exact Or.inl h
        · exact Or.inr (by rw [h]; simp)
      have hob := own_block hown
      have KG : Kept (Value.slice lo L.length lc).ownBlock.toList wr w4 := (((Kept.refl [] wr).alloc _).mono (by simp)).trans (grown_kept g5)
      have HR4 := hide ((unhide HROW).push (unhide hh).2.2.2.2.1 hpb hpo hpl own4 g5 hat5)
      have hsl1 : s < w1.heap.size := (unhide HR1).set.sl
      have HS4 := hide ((unhide hh).1.kept KG (fun hm => by have := hob s (by simpa using hm); omega) (fun hm => by have := hob b (by simpa using hm); omega))
      have HK4 := hide ((unhide hh).2.1.trans' KG (fun k hk => Or.inr (hob k (by simpa using hk))))
      have HNX4 := hide (next_any ((unhide HR1).wrote (unhide HK4) (unhide HS4)) (unhide HOK) ((unhide HT1).kept (unhide HK4) (by simpa using htb.symm)))
      have HTN := hide (show Taken es (Alive (N : Int) xs) (Has ws2) (L ++ [l2]) by
        rcases (unhide hh).2.2.2.1 with ⟨h1, _⟩ | ⟨v, h1, h2, h3, h4, h5⟩
        · rw [h1] at hl0; simp at hl0
        · exact (unhide hh).2.2.1.next h1 h2 h3 h4 h5)
      obtain ⟨lo5, lc5, hv5⟩ : ∃ lo5 lc5, v' = .slice lo5 (L ++ [l2]).length lc5 := by
        rcases own4.2 with ⟨_, h0⟩ | ⟨g', cap', cur, hv, _⟩
        · omega
        · exact ⟨some ⟨g', 0, none⟩, cap', by rw [hv]; simp⟩
      have hvl : ∀ k, v'.ownBlock = some k → k < w4.heap.size := own_lt own4
      have HVL := hide hvl
      have HV5 := hide hv5
      clear g4 g5 hat hat5 hob KG own4 hvl hv5 hown
      refine (unhide HNX4).mono ?_
      rintro e w5 ⟨pv5, l5, ws5, rfl, hpv5, hfr5, R5, k5, hcase5⟩
      obtain ⟨po5, pc5, rfl, hlm5, _⟩ := hpv5.shape
      have HFP5 := hide (show 0 < l5.length → ∃ a, po5 = some a ∧ a.block ≠ b ∧ a.block < w5.heap.size ∧ v'.ownBlock ≠ some a.block from fun h0 => by
        obtain ⟨_, _, hv, _, hin⟩ := hpv5.shape
        obtain ⟨gg, oo, he, hcc⟩ := hin h0
        have e2 : po5 = some ⟨gg, oo, none⟩ := by simp at hv; rw [hv.1, he]
        have hfr2 := hfr5 ⟨gg, oo, none⟩ l5.length pc5 (by rw [e2])
        have hsz := (unhide HK4).size
        refine ⟨_, e2, by simp only at hfr2 ⊢; omega, lt_of_cell (hcc 0 h0), fun e => ?_⟩
        have := unhide HVL _ e
        simp only at hfr2 this
        omega)
      have HL5 := hide ((unhide HR4).kept k5 hb1)
      have HE := hide (And.intro R5.set (And.intro ((unhide HK4).trans k5) (And.intro (unhide HTN) (And.intro hcase5 hpv5))))
      clear hpv5 hfr5 R5 k5 hcase5
      go_wp2
      go_roundw
      case rel => exact ⟨L ++ [l2], _, l5, ws5, Has ws2, lo5, po5, lc5, pc5, unhide HV5, rfl, unhide HL5, hlm5, (unhide HE).1, (unhide HE).2.1, (unhide HE).2.2.1, (unhide HE).2.2.2.1, (unhide HE).2.2.2.2, unhide HFP5⟩
      case measure =>
        have e5 := unhide HV5
        subst e5
        simp [lenV]; omega
    · have HFIN := hide (show IsPieces es (Alive (N : Int) xs) L from (unhide hh).2.2.1.done (by
        rcases (unhide hh).2.2.2.1 with ⟨_, h2⟩ | ⟨v, h1, _, _, h4, _⟩
        · exact h2
        · have : v ∈ l2 := (h4 v).2 (.refl h1)
          have := List.length_pos_of_mem this
          omega))
      have HLS := hide hrow.lists
      have HKF := hide ((unhide HK1).trans' (unhide hh).2.1 (fun k hk => by simp at hk; subst hk; exact Or.inr (by omega)))
      clear hrow
      go_wp2
      go_ret
      exact ⟨_, rfl, L, unhide HLS, unhide HFIN, unhide HKF⟩
/-- Without. -/
theorem without_any {w : World} {n : Int} {v u : Value} {es : List E} {xs : List Int} (h : EdgesAt w v es) (hx : IntsAt w u xs) (hT : Tab w) :
    Calls Tryd.prog 9 #[gv n v, u] w fun e w' => ∃ r L, e = .returned r ∧ ListsAt w' r L ∧ (rightB n es = true → IsPieces es (Alive n xs) L) ∧ (rightB n es = false → L = []) ∧ Kept [] w w' := by
  cases hr : rightB n es
  · refine (without_no h hr).mono ?_
    rintro e w' ⟨rfl, k⟩
    exact ⟨_, [], rfl, ListsAt.nil _ _ _, (fun h => by cases h), fun _ => rfl, k⟩
  · obtain ⟨N, rfl⟩ := Int.eq_ofNat_of_zero_le (right_rise hr).1
    refine (without_yes h hx hr hT).mono ?_
    rintro e w' ⟨r, L, rfl, h1, h2, h3⟩
    exact ⟨r, L, rfl, h1, fun _ => h2, (fun h => by cases h), h3⟩
end Go.Proofs.YtpebakgdnkjjeaaDoor
