/- Lists held against each other. -/
import Derived.Test.YtpebakgdnkjjeaaDoorLists
import Derived.Test.YtpebakgdnkjjeaaDoorHelpP
namespace Go.Proofs.YtpebakgdnkjjeaaDoor
open Go.RowKit

theorem lists_eq {L M : List (List Int)} (hl : L.length = M.length) (h : ∀ j, j < L.length → L.getD j [] = M.getD j []) : L = M := by
  apply List.ext_getElem hl
  intro i h1 h2
  have := h i h1
  simpa [List.getD, h1, h2] using this
set_option maxRecDepth 20000 in
set_option maxHeartbeats 1000000 in
theorem sameL_ne (w : World) (ao bo : Option Addr) (la ca lb cb : Nat) (f : Value) (hne : ((la : Int) != (lb : Int)) = true) :
    Calls Tryd.prog 21 #[.slice ao la ca, .slice bo lb cb, f] w fun e w' => e = .returned (.bool false) ∧ w' = w := by
  go_enter Tryd.func21, Tryd.ntmps21
  go_wp2
  go_ret
  exact ⟨rfl, rfl⟩
set_option maxRecDepth 20000 in
set_option maxHeartbeats 2000000 in
theorem sameL_core {w : World} {ao bo : Option Addr} {ca cb n : Nat} {L M : List (List Int)} (hL : L.length = n) (hM : M.length = n) (hn : (n : Int) ≤ 9223372036854775807)
    (hx : Hid (0 < n → ∃ g o, ao = some ⟨g, o, none⟩ ∧ ∀ i, i < n → ∃ u, w.cell? ⟨g, o + i, none⟩ = some u ∧ IntsAt w u (L.getD i [])))
    (hy : Hid (0 < n → ∃ g o, bo = some ⟨g, o, none⟩ ∧ ∀ i, i < n → ∃ u, w.cell? ⟨g, o + i, none⟩ = some u ∧ IntsAt w u (M.getD i []))) :
    Calls Tryd.prog 21 #[.slice ao n ca, .slice bo n cb, .func (.func 22) #[] #[]] w fun e w' => e = .returned (.bool (decide (L = M))) ∧ ∃ m, w' = w.drewN m := by
  have HL := hide hL
  have HM := hide hM
  clear hL hM
  go_enter Tryd.func21, Tryd.ntmps21
  go_wp2
  go_loopw [7] (fun i wr => ∃ k m : Nat, k ≤ n ∧ i = .int .i64 k ∧ wr = w.drewN m ∧ Hid (∀ j, j < k → L.getD j [] = M.getD j [])) (fun i _ => n - (intOf i).toNat)
  case atStart => exact ⟨0, 0, Nat.zero_le _, rfl, rfl, fun j h => by omega⟩
  case round =>
    obtain ⟨k, m, hk, rfl, hwr, hall⟩ := hrel
    have HW := hide hwr
    by_cases hlt : k < n
    · obtain ⟨ga, oa, rfl, ha⟩ := unhide hx (by omega)
      obtain ⟨gb, ob, rfl, hb⟩ := unhide hy (by omega)
      obtain ⟨ua, hua, hia⟩ := ha k hlt
      obtain ⟨ub, hub, hib⟩ := hb k hlt
      have hc1 : wr.cell? ⟨ga, oa + k, none⟩ = some ua := by rw [hwr]; exact hua
      have hc2 : wr.cell? ⟨gb, ob + k, none⟩ = some ub := by rw [hwr]; exact hub
      have hpl := hide (fun W q (hW : W = w.drewN q) => by
        have := plain_any (hia.kept ((Kept.refl [] w).drewN q)) (hib.kept ((Kept.refl [] w).drewN q))
        rw [← hW] at this
        exact this)
      have k0 : (0 : Int) ≤ (k : Int) := by omega
      have k1 : (k : Int) < (n : Int) := by omega
      obtain ⟨pa, qa, ra, rfl⟩ : ∃ pa qa ra, ua = .slice pa qa ra := by obtain ⟨x, y, rfl, _⟩ := hia.shape; exact ⟨_, _, _, rfl⟩
      obtain ⟨pb, qb, rb, rfl⟩ : ∃ pb qb rb, ub = .slice pb qb rb := by obtain ⟨x, y, rfl, _⟩ := hib.shape; exact ⟨_, _, _, rfl⟩
      clear hwr ha hb hua hub hia hib
      cases he : decide (L.getD k [] = M.getD k [])
      · have hfin := hide (show decide (L = M) = false by simp; intro e; subst e; simp at he)
        have hpl2 := hide (fun W q (hW : W = w.drewN q) => he ▸ unhide hpl W q hW)
        clear hpl he
        go_wp2_with fail
        go_quiet ((go_at_call 22; exact Calls.quiet_of (unhide hpl2 _ _ (by rw [unhide HW, World.drewN_drewN]))))
        go_wp2
        go_ret
        exact ⟨ret_bool (unhide hfin).symm, m + nq, by rw [unhide HW, World.drewN_drewN]⟩
      · have hall2 := hide (show ∀ j, j < k + 1 → L.getD j [] = M.getD j [] from fun j hj => by
          by_cases e : j = k
          · subst e; simpa using he
          · exact unhide hall j (by omega))
        have hpl2 := hide (fun W q (hW : W = w.drewN q) => he ▸ unhide hpl W q hW)
        clear hpl he
        go_wp2_with fail
        go_quiet ((go_at_call 22; exact Calls.quiet_of (unhide hpl2 _ _ (by rw [unhide HW, World.drewN_drewN]))))
        go_wp2
        go_roundw
        case rel => exact ⟨k + 1, m + nq, by omega, by go_num, by rw [unhide HW, World.drewN_drewN], hall2⟩
        case measure => simp [intOf]; omega
    · have hfin := hide (show decide (L = M) = true by
        simp
        exact lists_eq (by rw [unhide HL, unhide HM]) (fun j hj => unhide hall j (by rw [unhide HL] at hj; omega)))
      clear hwr
      go_wp2
      go_ret
      exact ⟨ret_bool (unhide hfin).symm, m, unhide HW⟩
end Go.Proofs.YtpebakgdnkjjeaaDoor
