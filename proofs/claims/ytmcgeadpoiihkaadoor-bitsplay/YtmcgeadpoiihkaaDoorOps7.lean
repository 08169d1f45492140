/- Fork. -/
import Derived.Test.YtmcgeadpoiihkaaDoorOps6
namespace Go.Proofs.YtmcgeadpoiihkaaDoor
open Go.RowKit

theorem owns_empty (w : World) (e : TypeId) (size : Nat) : (w.alloc (.cells #[] e)).ownsRow w.heap.size e size (.slice (some ⟨w.heap.size, 0, none⟩) 0 0) 0 [] :=
  ⟨by simp, Or.inr ⟨w.heap.size, 0, #[], rfl, Nat.le_refl _, heap_new w _, Nat.le_refl _, by unfold maxLen; omega, by simp, by simp⟩⟩

def wordVals (n : Nat) (ws : Nat → Nat) : List Value := (List.range n).map (fun i => .int .u64 (ws i : Nat))
theorem wordVals_len (n : Nat) (ws : Nat → Nat) : (wordVals n ws).length = n := by simp [wordVals]
theorem wordVals_at (n : Nat) (ws : Nat → Nat) (j : Nat) (h : j < n) : (wordVals n ws)[j]? = some (.int .u64 (ws j : Nat)) := by simp [wordVals, h]
theorem wordVals_one (n : Nat) (ws : Nat → Nat) : ∀ u ∈ wordVals n ws, u.oneCell' = true := by
  intro u hu
  obtain ⟨_, _, rfl⟩ := List.mem_map.1 hu
  rfl

set_option maxHeartbeats 400000 in
theorem clone_core (w : World) (b n c : Nat) (ws : Nat → Nat) (hn : n ≤ 2000) (hw : Hid (∀ i, i < n → w.cell? ⟨b, i, none⟩ = some (.int .u64 (ws i : Nat)))) (hb : Hid (b < w.heap.size)) :
    Calls Tryd.prog 29 #[.slice (some ⟨b, 0, none⟩) n c] w fun e w' => ∃ v, e = .returned v ∧ w'.ownsRow w.heap.size 46 1 v n (wordVals n ws) ∧ v ≠ .slice none 0 0 ∧ Kept [] w w' := by
  obtain ⟨i, hi, hz0, hz1, hz2⟩ := info_parts infoU64
  have he := fun W : World => Lib.run_eql_slice_nil (P := Tryd.prog) W 43 _ (some ⟨b, 0, none⟩) n c 0 0 Tryd.underlying43
  have hnews : ∀ j u, (wordVals n ws)[j]? = some u → (w.alloc (.cells #[] 46)).cell? ((⟨b, 0, none⟩ : Addr).add j) = some u := by
    intro j u hu
    have hj : j < n := by have := (List.getElem?_eq_some_iff.1 hu).1; rw [wordVals_len] at this; exact this
    rw [wordVals_at n ws j hj] at hu
    cases hu
    rw [Addr.add_lit, Nat.zero_add, ((Kept.refl [] w).alloc _).cell (unhide hb) (by simp)]
    exact unhide hw j hj
  have HN := hide hnews
  clear hnews
  go_enter Tryd.func29, Tryd.ntmps29
  go_wp2_with (at_builtin; refine wpList_append_own _ rfl (.tmp 5) (.tmp 6) 43 rfl w.heap.size 46 i (.int .u64 0) 1 8 Tryd.underlying43 hi hz0 hz1 hz2 rfl (by decide) (.slice (some ⟨w.heap.size, 0, none⟩) 0 0) 0 [] rfl (owns_empty w 46 1) _ n _ (wordVals n ws) rfl (by rw [wordVals_len]; simp) (unhide HN) (wordVals_one n ws) (by unfold maxLen; omega) (by omega) (by simp) ?_; intro v' w2 hown2 hg2 hnil)
  go_ret
  have hk : Kept [] w w2 := ((Kept.refl [] w).alloc _).grown hg2 (by intro k hk; simp [Value.ownBlock] at hk; right; omega)
  refine ⟨_, rfl, ?_, ?_, hk⟩
  · simpa using hown2
  · intro e
    have := hnil.1 e
    simp at this

theorem clone_any (w : World) (b n c : Nat) (ws : Nat → Nat) (hn : n ≤ 2000) (hw : ∀ i, i < n → w.cell? ⟨b, i, none⟩ = some (.int .u64 (ws i : Nat))) (hb : b < w.heap.size) :
    Calls Tryd.prog 29 #[.slice (some ⟨b, 0, none⟩) n c] w fun e w' => ∃ g cap, e = .returned (.slice (some ⟨g, 0, none⟩) n cap) ∧ w.heap.size ≤ g ∧ n ≤ cap ∧ g < w'.heap.size ∧ (∀ i, i < n → w'.cell? ⟨g, i, none⟩ = some (.int .u64 (ws i : Nat))) ∧ (∀ i, w'.frozen? ⟨g, i, none⟩ = false) ∧ Kept [] w w' := by
  refine (clone_core w b n c ws hn (hide hw) (hide hb)).mono ?_
  rintro e w' ⟨v, rfl, hown, hne, hk⟩
  rcases hown.2 with ⟨h, _⟩ | ⟨g, cap, cur, rfl, h3, h4, h5, h6, h7, h8⟩
  · exact absurd h hne
  · refine ⟨g, cap, rfl, h3, h5, ?_, ?_, fun i => frozen_of_heap h4, hk⟩
    · by_cases hb : g < w'.heap.size
      · exact hb
      · rw [Array.getElem?_eq_none (by omega)] at h4; simp at h4
    · intro i hi
      rw [cell_of_heap h4]
      have : cur[i]? = (cur.toList.take (n * 1))[i]? := by
        rw [List.getElem?_take, if_pos (by omega)]; simp
      rw [this, h8, wordVals_at n ws i hi]

set_option maxHeartbeats 1000000 in
theorem fork_core (w : World) (s b n c room : Nat) (h0 : w.cell? ⟨s, 0, none⟩ = some (.int .i64 (room : Nat))) (h1 : w.cell? ⟨s, 1, none⟩ = some (.slice (some ⟨b, 0, none⟩) n c)) (R : Nat → Nat → World → Prop)
    (hc : Hid (∀ m, Calls Tryd.prog 29 #[.slice (some ⟨b, 0, none⟩) n c] (w.drewN m) fun e w' => ∃ g cap, e = .returned (.slice (some ⟨g, 0, none⟩) n cap) ∧ w'.cell? ⟨s, 0, none⟩ = some (.int .i64 (room : Nat)) ∧ R g cap w')) :
    Calls Tryd.prog 18 #[.pointer (some ⟨s, 0, none⟩)] w fun e w' => ∃ g cap w1, R g cap w1 ∧ e = .returned (.pointer (some ⟨w1.heap.size, 0, none⟩)) ∧ w' = w1.alloc (.cells #[.int .i64 (room : Nat), .slice (some ⟨g, 0, none⟩) n cap] 45) := by
  go_enter Tryd.func18, Tryd.ntmps18
  go_wp2_with fail
  go_region_with (go_at_call 29; refine (unhide hc _).mono ?_; rintro e w1 ⟨g, cap, rfl, hcs, hR⟩)
  all_goals go_wp2
  all_goals go_ret
  all_goals exact ⟨g, cap, w1, hR, rfl, rfl⟩

/-- Fork: another one, alike. -/
theorem fork_set {w : World} {s b room n c : Nat} {ws : Nat → Nat} (h : SetAt w s b room n c ws) :
    Calls Tryd.prog 18 #[.pointer (some ⟨s, 0, none⟩)] w fun e w' => ∃ f g cap, e = .returned (.pointer (some ⟨f, 0, none⟩)) ∧ SetAt w' f g room n cap ws ∧ w.heap.size ≤ f ∧ w.heap.size ≤ g ∧ Kept [] w w' := by
  have hmx := h.most
  have hln := h.len
  refine (fork_core w s b n c room h.room0 h.words (fun g cap w' => w.heap.size ≤ g ∧ n ≤ cap ∧ g < w'.heap.size ∧ (∀ i, i < n → w'.cell? ⟨g, i, none⟩ = some (.int .u64 (ws i : Nat))) ∧ (∀ i, w'.frozen? ⟨g, i, none⟩ = false) ∧ Kept [] w w') (hide fun m => ?_)).mono ?_
  · have h' := h.drewN m
    refine (clone_any (w.drewN m) b n c ws (by omega) h'.word h'.bl).mono ?_
    rintro e w' ⟨g, cap, rfl, h1, h2, h3, h4, h5, h6⟩
    have h7 : Kept [] w w' := ((Kept.refl [] w).drewN m).trans h6
    exact ⟨g, cap, rfl, by rw [h7.cell h.sl (by simp)]; exact h.room0, h1, h2, h3, h4, h5, h7⟩
  · rintro e w' ⟨g, cap, w1, ⟨h1, h2, h3, h4, h5, h6⟩, rfl, rfl⟩
    have hsz := h6.size
    have k2 : Kept [] w1 (w1.alloc (.cells #[.int .i64 (room : Nat), .slice (some ⟨g, 0, none⟩) n cap] 45)) := (Kept.refl [] w1).alloc _
    have hh := heap_new w1 (.cells #[.int .i64 (room : Nat), .slice (some ⟨g, 0, none⟩) n cap] 45)
    have hs := h.sl
    have hs0 := h.s0
    have hz : 0 < w.heap.size := by omega
    refine ⟨w1.heap.size, g, cap, rfl, ?_, hsz, h1, h6.trans k2⟩
    refine { room0 := ?_, words := ?_, word := ?_, free := ?_, len := hln, cap := h2, small := h.small, tight := h.tight, most := hmx, ne := by omega, s0 := by omega, b0 := by omega, sl := by simp, bl := by simp; omega }
    · rw [cell_of_heap hh]; rfl
    · rw [cell_of_heap hh]; rfl
    · intro i hi
      rw [k2.cell h3 (by simp)]; exact h4 i hi
    · intro i hi
      rw [k2.frozen h3 (by simp)]; exact h5 i

set_option maxHeartbeats 400000 in
theorem fork_nil (w : World) : Calls Tryd.prog 18 #[.pointer none] w fun e w' => e = .returned (.pointer none) ∧ w' = w := by
  go_enter Tryd.func18, Tryd.ntmps18
  go_wp2
  go_ret
  exact ⟨rfl, rfl⟩
end Go.Proofs.YtmcgeadpoiihkaaDoor
