/- meet. -/
import Derived.Test.YtfilhbkenedchabSingleGrows13
import Derived.Deep.LoopGhost
namespace Go.Proofs.Ytfilhbkenedchab
open Go.RowKit

/-- It looked so often more. -/
def addK (F : FS) (x : Int) : FS := { F with k := F.k + x }
theorem addK_zero (F : FS) : addK F 0 = F := by unfold addK; rw [Int.add_zero]
theorem addK_two (F : FS) (x : Int) : { addK F x with k := (addK F x).k + 2 } = addK F (x + 2) := by unfold addK; simp only [Int.add_assoc]

section
variable {w0 w : World} {p g jp jg base N : Nat} {nv mv ve : Value} {F : FS} {m : List Int}
set_option maxRecDepth 20000 in
set_option maxHeartbeats 8000000 in
theorem fmeet_any (h : FAt w0 w p g jp jg base N nv mv ve F) (hm : IntsAt w0 mv m) (hml : m.length = N) {v u n : Nat} (hv : v < N) (hu : u < N) {r : Int} (hM : Meets N m F (F.B v) (F.B u) r n) (hB : ∀ x, x < N → F.B x < N) (hk : 0 ≤ F.k ∧ F.k + 2 * (n : Int) ≤ 1000000000) :
    Calls Try.prog 59 #[.pointer (some ⟨p, 0, none⟩), .int .i64 (v : Int), .int .i64 (u : Int)] w fun e w' => e = .returned (.int .i64 r) ∧ FAt w0 w' p g jp jg base N nv mv ve (addK F (2 * (n : Int))) := by
  have c5 := h.c5
  have HL1 := hide (fun n => (h.jb.kept ((Kept.refl [] w).drewN n) (by simp) (by simp)).label hv)
  have HL2 := hide (fun n => (h.jb.kept ((Kept.refl [] w).drewN n) (by simp) (by simp)).label hu)
  have HF := hide (fun n => h.keptE ((Kept.refl [] w).drewN n))
  have HMM := hide hM
  have HAB := hide (And.intro (hB v hv) (hB u hu))
  have HB := hide hB
  have HM := hide hm
  have HML := hide hml
  have HK := hide hk
  clear h hm hml hv hu hM hB hk
  generalize F.B v = a0 at *
  generalize F.B u = b0 at *
  go_enter Try.func59, Try.ntmps59
  go_wp2_with fail
  go_quiet (first | (go_at_call_of 33 v; exact Calls.quiet_of_same (unhide HL1 _)) | (go_at_call_of 33 u; exact Calls.quiet_of_same (unhide HL2 _)))
  have H0 := hide (unhide HF nq)
  clear HF HL1 HL2 c5
  generalize w.drewN nq = W0 at *
  go_wp2
  go_loopg [7, 8] n (fun j av bv wr => ∃ a b : Nat, av = .int .i64 (a : Int) ∧ bv = .int .i64 (b : Int) ∧ Hid (a < N ∧ b < N ∧ j ≤ n ∧ Meets N m F a b r j ∧ FAt w0 wr p g jp jg base N nv mv ve (addK F (2 * ((n : Int) - (j : Int))))))
  case atStart => exact ⟨a0, b0, rfl, rfl, (unhide HAB).1, (unhide HAB).2, Nat.le_refl _, unhide HMM, by rw [Int.sub_self, Int.mul_zero, addK_zero]; exact unhide H0⟩
  case round =>
    clear H0
    obtain ⟨a, b, rfl, rfl, hh⟩ := hrel
    obtain ⟨ha, hb, hj, hM, hF⟩ := unhide hh
    cases hM with
    | same =>
      have HFIN := hide hF
      have hne : ((a : Int) != (a : Int)) = false := by simp
      clear hF hh ha hb hj
      go_wp2
      go_ret
      exact ⟨rfl, by simpa using unhide HFIN⟩
    | none e hf =>
      have hne : ((a : Int) != (b : Int)) = true := by simp; omega
      have da := hF.nodes.dep a ha
      have db := hF.nodes.dep b hb
      have e2 := hF.c2
      have HQ := hide (fun q => hF.keptE ((Kept.refl [] wr).drewN q))
      have ta : (0 : Int) ≤ (a : Int) := by omega
      have tb : (0 : Int) ≤ (b : Int) := by omega
      have ta1 : (a : Int) < (N : Int) := by omega
      have tb1 : (b : Int) < (N : Int) := by omega
      by_cases hlt : F.dep a < F.dep b
      · rw [show hiF F a b = b by unfold hiF; rw [if_pos hlt]] at hf
        have HR := hide (fun q => fisRoot_any (hF.keptE ((Kept.refl [] wr).drewN q)) (unhide HM) (unhide HML) hb)
        rw [decide_eq_true hf] at HR
        have hlt' : (addK F (2 * ((n : Int) - ((0 : Nat) : Int)))).dep a < (addK F (2 * ((n : Int) - ((0 : Nat) : Int)))).dep b := hlt
        clear hF hh hj e ha hb hf hlt
        generalize (addK F (2 * ((n : Int) - ((0 : Nat) : Int)))).dep a = dA at *
        generalize (addK F (2 * ((n : Int) - ((0 : Nat) : Int)))).dep b = dB at *
        go_wp2_with fail
        go_quiet (fail)
        go_wp2_with fail
        refine (unhide HR _).mono ?_
        rintro e w1 ⟨rfl, rfl⟩
        have HFIN := hide (unhide HQ nq)
        clear HR HQ da db e2
        generalize wr.drewN nq = W1 at *
        go_wp2
        go_ret
        exact ⟨rfl, by simpa using unhide HFIN⟩
      · rw [show hiF F a b = a by unfold hiF; rw [if_neg hlt]] at hf
        have HR := hide (fun q => fisRoot_any (hF.keptE ((Kept.refl [] wr).drewN q)) (unhide HM) (unhide HML) ha)
        rw [decide_eq_true hf] at HR
        have hlt' : ¬ (addK F (2 * ((n : Int) - ((0 : Nat) : Int)))).dep a < (addK F (2 * ((n : Int) - ((0 : Nat) : Int)))).dep b := hlt
        clear hF hh hj e ha hb hf hlt
        generalize (addK F (2 * ((n : Int) - ((0 : Nat) : Int)))).dep a = dA at *
        generalize (addK F (2 * ((n : Int) - ((0 : Nat) : Int)))).dep b = dB at *
        go_wp2_with fail
        go_quiet (fail)
        go_wp2_with fail
        refine (unhide HR _).mono ?_
        rintro e w1 ⟨rfl, rfl⟩
        have HFIN := hide (unhide HQ nq)
        clear HR HQ da db e2
        generalize wr.drewN nq = W1 at *
        go_wp2
        go_ret
        exact ⟨rfl, by simpa using unhide HFIN⟩
    | @up _ _ y x j _ e hy hyN hx hxN hBx hM2 =>
      have hne : ((a : Int) != (b : Int)) = true := by simp; omega
      have da := hF.nodes.dep a ha
      have db := hF.nodes.dep b hb
      have e2 := hF.c2
      have ta : (0 : Int) ≤ (a : Int) := by omega
      have tb : (0 : Int) ≤ (b : Int) := by omega
      have ta1 : (a : Int) < (N : Int) := by omega
      have tb1 : (b : Int) < (N : Int) := by omega
      have HKK := hide (show 0 ≤ (addK F (2 * ((n : Int) - ((j + 1 : Nat) : Int)))).k ∧ (addK F (2 * ((n : Int) - ((j + 1 : Nat) : Int)))).k ≤ 1000000000 by
        have := unhide HK
        show 0 ≤ F.k + _ ∧ F.k + _ ≤ _
        omega)
      have HX := hide (show F.B x < N ∧ j + 1 ≤ n from ⟨hBx, hj⟩)
      have HST := hide (show { addK F (2 * ((n : Int) - ((j + 1 : Nat) : Int))) with k := (addK F (2 * ((n : Int) - ((j + 1 : Nat) : Int)))).k + 2 } = addK F (2 * ((n : Int) - (j : Int))) by
        rw [addK_two]; congr 1; omega)
      by_cases hlt : F.dep a < F.dep b
      · rw [show hiF F a b = b by unfold hiF; rw [if_pos hlt]] at hy
        rw [show loF F a b = a by unfold loF; rw [if_pos hlt]] at hM2
        have HR := hide (fun q => fisRoot_any (hF.keptE ((Kept.refl [] wr).drewN q)) (unhide HM) (unhide HML) hb)
        rw [decide_eq_false (show ¬ m.getD b 0 = -1 by omega)] at HR
        have HAB2 := hide (fun q => fabove_any (hF.keptE ((Kept.refl [] wr).drewN q)) (unhide HM) (unhide HML) hb hy hyN hx hxN (unhide HKK))
        have hlt' : (addK F (2 * ((n : Int) - ((j + 1 : Nat) : Int)))).dep a < (addK F (2 * ((n : Int) - ((j + 1 : Nat) : Int)))).dep b := hlt
        have HM2 := hide (show F.B x < N ∧ a < N ∧ j ≤ n ∧ Meets N m F (F.B x) a r j from ⟨hBx, ha, by omega, hM2⟩)
        rw [show (addK F (2 * ((n : Int) - ((j + 1 : Nat) : Int)))).B x = F.B x from rfl] at HAB2
        clear hF hh hj e ha hb hy hlt hyN hx hxN hBx hM2 HX HKK
        generalize F.B x = bx at *
        generalize (addK F (2 * ((n : Int) - ((j + 1 : Nat) : Int)))).dep a = dA at *
        generalize (addK F (2 * ((n : Int) - ((j + 1 : Nat) : Int)))).dep b = dB at *
        go_wp2_with fail
        go_quiet (fail)
        go_wp2_with fail
        refine (unhide HR _).mono ?_
        rintro e w1 ⟨rfl, rfl⟩
        go_wp2_with fail
        refine (unhide HAB2 _).mono ?_
        rintro e w1 ⟨rfl, hF1, _⟩
        rw [unhide HST] at hF1
        have HF1 := hide hF1
        clear HR HAB2 da db e2 hF1
        go_wp2
        go_roundg j
        case rel => exact ⟨bx, a, rfl, rfl, (unhide HM2).1, (unhide HM2).2.1, (unhide HM2).2.2.1, (unhide HM2).2.2.2, unhide HF1⟩
        case measure => omega
      · rw [show hiF F a b = a by unfold hiF; rw [if_neg hlt]] at hy
        rw [show loF F a b = b by unfold loF; rw [if_neg hlt]] at hM2
        have HR := hide (fun q => fisRoot_any (hF.keptE ((Kept.refl [] wr).drewN q)) (unhide HM) (unhide HML) ha)
        rw [decide_eq_false (show ¬ m.getD a 0 = -1 by omega)] at HR
        have HAB2 := hide (fun q => fabove_any (hF.keptE ((Kept.refl [] wr).drewN q)) (unhide HM) (unhide HML) ha hy hyN hx hxN (unhide HKK))
        have hlt' : ¬ (addK F (2 * ((n : Int) - ((j + 1 : Nat) : Int)))).dep a < (addK F (2 * ((n : Int) - ((j + 1 : Nat) : Int)))).dep b := hlt
        have HM2 := hide (show F.B x < N ∧ b < N ∧ j ≤ n ∧ Meets N m F (F.B x) b r j from ⟨hBx, hb, by omega, hM2⟩)
        rw [show (addK F (2 * ((n : Int) - ((j + 1 : Nat) : Int)))).B x = F.B x from rfl] at HAB2
        clear hF hh hj e ha hb hy hlt hyN hx hxN hBx hM2 HX HKK
        generalize F.B x = bx at *
        generalize (addK F (2 * ((n : Int) - ((j + 1 : Nat) : Int)))).dep a = dA at *
        generalize (addK F (2 * ((n : Int) - ((j + 1 : Nat) : Int)))).dep b = dB at *
        go_wp2_with fail
        go_quiet (fail)
        go_wp2_with fail
        refine (unhide HR _).mono ?_
        rintro e w1 ⟨rfl, rfl⟩
        go_wp2_with fail
        refine (unhide HAB2 _).mono ?_
        rintro e w1 ⟨rfl, hF1, _⟩
        rw [unhide HST] at hF1
        have HF1 := hide hF1
        clear HR HAB2 da db e2 hF1
        go_wp2
        go_roundg j
        case rel => exact ⟨bx, b, rfl, rfl, (unhide HM2).1, (unhide HM2).2.1, (unhide HM2).2.2.1, (unhide HM2).2.2.2, unhide HF1⟩
        case measure => omega
end
end Go.Proofs.Ytfilhbkenedchab
