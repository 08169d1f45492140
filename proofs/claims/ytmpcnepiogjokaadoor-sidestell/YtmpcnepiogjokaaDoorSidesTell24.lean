/- Of of the reference. -/
import Derived.Test.YtmpcnepiogjokaaDoorSidesTell23
import Derived.Test.YtmpcnepiogjokaaDoorSidesTell19
import Derived.Deep.LoopGhost
namespace Go.Proofs.YtmpcnepiogjokaaDoor
open Go.RowKit

/-- What the reference's Of tells. -/
def ROfTells (w : World) (n : Int) (es : List E) (e : Ending) (w' : World) : Prop :=
  ∃ s er, e = .returned (.tuple #[s, .int .i64 er]) ∧ Kept [] w w' ∧
    ((rightB n es = false ∧ s = .slice none 0 0 ∧ er = 3) ∨
     (rightB n es = true ∧ (∃ S, IntsAt w' s S ∧ IsSides es n.toNat S) ∧ er = 0) ∨
     (rightB n es = true ∧ s = .slice none 0 0 ∧ (∀ c : Int → Bool, ¬ Proper es c) ∧ er = 10))

set_option maxRecDepth 20000 in
set_option maxHeartbeats 8000000 in
theorem rof_any {w : World} {n : Int} {v : Value} {es : List E} (h : EdgesAt w v es) :
    Calls Tryd.prog 27 #[gv n v] w fun e w' => ROfTells w n es e w' := by
  obtain ⟨ao, cap, rfl, _⟩ := h.shape
  have KB := (Kept.refl [] w).alloc (.cells #[.int .i64 n, .slice ao es.length cap] 24)
  have HR := rright_any (n := n) (h.kept KB)
  cases hr : rightB n es
  · rw [hr] at HR
    have HR2 := hide HR
    have HRF := hide hr
    clear HR h hr
    go_enter Tryd.func27, Tryd.ntmps27
    go_wp2_with fail
    refine (unhide HR2).mono ?_
    rintro e w1 ⟨rfl, k1⟩
    have HF := hide (show ROfTells w n es (.returned (.tuple #[.slice none 0 0, .int .i64 3])) w1 from ⟨_, 3, rfl, KB.trans k1, Or.inl ⟨unhide HRF, rfl, rfl⟩⟩)
    go_wp2
    exact bodyPost_ret (v := .tuple #[.slice none 0 0, .int .i64 3]) (by simp [results, Tryd.results27, go_sem]) rfl (unhide HF)
  · rw [hr] at HR
    obtain ⟨N, rfl⟩ := Int.eq_ofNat_of_zero_le (right_rise hr).1
    have HR2 := hide HR
    have HRT := hide hr
    have hN := (right_rise hr).2.1
    have hel := (right_rise hr).2.2.1
    have HE := hide (fun W (k : Kept [] w W) => h.kept k)
    have hmk := make_ints N (by omega)
    clear HR h hr
    go_enter Tryd.func27, Tryd.ntmps27
    go_wp2_with fail
    refine (unhide HR2).mono ?_
    rintro e w1 ⟨rfl, k1⟩
    obtain ⟨b0, b1⟩ := box2 k1 (by simp)
    have HK1 := hide (KB.trans k1)
    have HB := hide (fun W (k : Kept [] w1 W) => And.intro (kept_cell b0 k) (kept_cell b1 k))
    have HOF := hide (OfAt.start w1 N)
    have HKA := hide ((Kept.refl [] w1).alloc (.cells (madeCells #[.int .i64 0] N) 3))
    clear k1 KB
    go_wp2
    clear hmk b0 b1
    obtain ⟨go, hgo⟩ : ∃ go, go = w1.heap.size := ⟨_, rfl⟩
    rw [← hgo] at HOF
    have HGO := hide (show w1.heap.size ≤ go by omega)
    rw [← hgo]
    clear hgo
    go_loopw [5] (fun vv wr => ∃ (k : Nat) (f : Nat → Int), k ≤ N ∧ vv = .int .i64 k ∧ Hid (Kept [] w1 wr ∧ OfAt wr go N f ∧ ∀ v : Nat, v < k → f v = -1)) (fun vv _ => N - (intOf vv).toNat)
    case atStart => exact ⟨0, _, Nat.zero_le _, rfl, unhide HKA, unhide HOF, fun v hv => by omega⟩
    case round =>
      obtain ⟨k, f, hk, rfl, hh⟩ := hrel
      have ga := (unhide HB _ (unhide hh).1).1
      by_cases hlt : k < N
      · have oc := (unhide hh).2.1.cell k hlt
        have ofz := (unhide hh).2.1.free k
        have k0 : (0 : Int) ≤ (k : Int) := by omega
        have k1 : (k : Int) < (N : Int) := by omega
        have HS1 := hide ((unhide hh).2.1.set hlt (-1))
        have HK2 := hide ((unhide hh).1.setCell (p := ⟨go, k, none⟩) (Or.inr (unhide HGO)) (.int .i64 (-1)))
        have HF := hide (show ∀ v : Nat, v < k + 1 → (fun u => if u = k then (-1 : Int) else f u) v = -1 from fun v hv => by
          by_cases e : v = k
          · subst e; simp
          · simp only [e, if_false]; exact (unhide hh).2.2 v (by omega))
        go_wp2
        go_roundw
        case rel => exact ⟨k + 1, _, by omega, by go_num, unhide HK2, unhide HS1, unhide HF⟩
        case measure => simp [intOf]; omega
      · have hall : ∀ v : Nat, v < N → f v = -1 := fun v hv => (unhide hh).2.2 v (by omega)
        have HIV := hide (RInv.start (es := es) hall)
        have HSTB := hide (Stab.start (right_rise (unhide HRT)).2.2.2.2 hall)
        clear hall
        go_wp2
        clear ga
        go_loopw [6] (fun vv wr => ∃ (k : Nat) (f : Nat → Int), k ≤ N ∧ vv = .int .i64 k ∧ Hid (Kept [] w1 wr ∧ OfAt wr go N f ∧ RInv es N f ∧ Stab es f ∧ ∀ u : Nat, u < k → 0 ≤ f u)) (fun vv _ => N - (intOf vv).toNat)
        case atStart => exact ⟨0, f, Nat.zero_le _, rfl, (unhide hh).1, (unhide hh).2.1, unhide HIV, unhide HSTB, fun u hu => by omega⟩
        case round =>
          obtain ⟨k2, f, hk2, rfl, h2⟩ := hrel
          have ga := (unhide HB _ (unhide h2).1).1
          by_cases hlt2 : k2 < N
          · have oc := (unhide h2).2.1.cell k2 hlt2
            have ofz := (unhide h2).2.1.free k2
            have k0 : (0 : Int) ≤ (k2 : Int) := by omega
            have k1 : (k2 : Int) < (N : Int) := by omega
            by_cases hf0 : 0 ≤ f k2
            · have HNX := hide (show ∀ u : Nat, u < k2 + 1 → 0 ≤ f u from fun u hu => by
                by_cases e : u = k2
                · subst e; exact hf0
                · exact (unhide h2).2.2.2.2 u (by omega))
              generalize f k2 = y at oc hf0
              go_wp2
              go_roundw
              case rel => exact ⟨k2 + 1, f, by omega, by go_num, (unhide h2).1, (unhide h2).2.1, (unhide h2).2.2.1, (unhide h2).2.2.2.1, unhide HNX⟩
              case measure => simp [intOf]; omega
            · have HI1 := hide ((unhide h2).2.2.1.new (unhide h2).2.2.2.1 hlt2 (unhide h2).2.2.2.2 (by omega))
              have HS1 := hide ((unhide h2).2.1.set hlt2 0)
              have HK2 := hide ((unhide h2).1.setCell (p := ⟨go, k2, none⟩) (Or.inr (unhide HGO)) (.int .i64 0))
              have HLW := hide (show ∀ u : Nat, u < k2 + 1 → 0 ≤ (fun u => if u = k2 then (0 : Int) else f u) u from fun u hu => by
                by_cases e : u = k2
                · subst e; simp
                · simp only [e, if_false]; exact (unhide h2).2.2.2.2 u (by omega))
              generalize hy : f k2 = y at oc hf0
              clear hy
              go_wp2
              clear oc ofz hf0 ga
              generalize hf1 : (fun u => if u = k2 then (0 : Int) else f u) = f1 at *
              have HF1 := hide hf1
              clear hf1
              go_loopg [7] (2 * labSum (unl f1) N + 1) (fun kk av wr => ∃ (f2 : Nat → Int) (c : Bool), av = .bool c ∧ Hid (kk = 2 * labSum (unl f2) N + (if c = true then 1 else 0) ∧ Kept [] w1 wr ∧ OfAt wr go N f2 ∧ RInv es N f2 ∧ (∀ u, 0 ≤ f1 u → 0 ≤ f2 u) ∧ (c = false → StabTo es f2 es.length)))
              case atStart => exact ⟨f1, true, rfl, rfl, unhide HK2, unhide HS1, unhide HI1, fun u hu => hu, fun h => by cases h⟩
              case round =>
                obtain ⟨f2, c, rfl, h3⟩ := hrel
                cases c
                · have HLW2 := hide (show ∀ u : Nat, u < k2 + 1 → 0 ≤ f2 u from fun u hu => (unhide h3).2.2.2.2.1 u (by have e := congrFun (unhide HF1) u; have h9 := unhide HLW u hu; rw [← e]; exact h9))
                  have HST2 := hide ((unhide h3).2.2.2.2.2 rfl).all
                  go_wp2
                  go_roundw
                  case rel => exact ⟨k2 + 1, f2, by omega, by go_num, (unhide h3).2.1, (unhide h3).2.2.1, (unhide h3).2.2.2.1, unhide HST2, unhide HLW2⟩
                  case measure => simp [intOf]; omega
                · go_wp2
                  go_loopw [7, 8] (fun av ii wt => ∃ (c2 : Bool) (t : Nat) (f3 : Nat → Int), av = .bool c2 ∧ ii = .int .i64 t ∧ t ≤ es.length ∧ Hid (Kept [] w1 wt ∧ OfAt wt go N f3 ∧ RInv es N f3 ∧ (∀ u, 0 ≤ f1 u → 0 ≤ f3 u) ∧ (c2 = true → labSum (unl f3) N < labSum (unl f2) N) ∧ (c2 = false → f3 = f2 ∧ StabTo es f2 t))) (fun _ ii _ => es.length - (intOf ii).toNat)
                  case atStart => exact ⟨false, 0, f2, rfl, rfl, Nat.zero_le _, (unhide h3).2.1, (unhide h3).2.2.1, (unhide h3).2.2.2.1, (unhide h3).2.2.2.2.1, (fun h => by cases h), fun _ => ⟨rfl, fun s hs => by omega⟩⟩
                  case round =>
                    obtain ⟨c2, t, f3, rfl, rfl, ht, h4⟩ := hrel
                    have gb := (unhide HB _ (unhide h4).1).2
                    by_cases htl : t < es.length
                    · obtain ⟨ao2, _, hv2, _, _, hin2⟩ := (unhide HE _ ((unhide HK1).trans (unhide h4).1)).shape
                      obtain ⟨eg, eo, he2, hin⟩ := hin2 (by omega)
                      have hao : ao = some ⟨eg, eo, none⟩ := by simp at hv2; rw [hv2.1, he2]
                      subst hao
                      have d0 := hin.a t htl; have d1 := hin.b t htl
                      have hmem := at_mem htl
                      have ok := okE_iff.1 ((right_rise (unhide HRT)).2.2.2.2 _ hmem)
                      unfold at_ at ok hmem
                      simp only at ok
                      obtain ⟨an, ha⟩ := Int.eq_ofNat_of_zero_le ok.1
                      obtain ⟨bn, hb⟩ := Int.eq_ofNat_of_zero_le (show 0 ≤ eB es t by omega)
                      have HSTP := hide (show ∀ g : Nat → Int, StabTo es g t → (0 ≤ g an ↔ 0 ≤ g bn) → StabTo es g (t + 1) from fun g hg hc s hs => by
                        by_cases e : s = t
                        · subst e; rw [ha, hb]; simpa using hc
                        · exact hg s (by omega))
                      rw [ha, hb] at ok hmem
                      rw [ha] at d0; rw [hb] at d1
                      have hanN : an < N := by omega
                      have hbnN : bn < N := by omega
                      have oa := (unhide h4).2.1.cell an hanN
                      have ob := (unhide h4).2.1.cell bn hbnN
                      have oaf := (unhide h4).2.1.free an
                      have obf := (unhide h4).2.1.free bn
                      have a0 : (0 : Int) ≤ (an : Int) := by omega
                      have a1 : (an : Int) < (N : Int) := by omega
                      have c0 : (0 : Int) ≤ (bn : Int) := by omega
                      have c1 : (bn : Int) < (N : Int) := by omega
                      have t0 : (0 : Int) ≤ (t : Int) := by omega
                      have t1 : (t : Int) < (es.length : Int) := by omega
                      have hne : an ≠ bn := by omega
                      have HMEM := hide hmem
                      have HVA := hide ((unhide h4).2.2.1.val an hanN)
                      have HVB := hide ((unhide h4).2.2.1.val bn hbnN)
                      have HPASS := hide (show (0 ≤ f3 an ↔ 0 ≤ f3 bn) → (c2 = false → f3 = f2 ∧ StabTo es f2 (t + 1)) from fun hc h0 => by
                        obtain ⟨e1, e2⟩ := (unhide h4).2.2.2.2.2 h0
                        exact ⟨e1, unhide HSTP f2 e2 (by rw [← e1]; exact hc)⟩)
                      have HLE := hide (show labSum (unl f3) N ≤ labSum (unl f2) N by
                        cases hc2 : c2
                        · rw [((unhide h4).2.2.2.2.2 hc2).1]; exact Nat.le_refl _
                        · exact Nat.le_of_lt ((unhide h4).2.2.2.2.1 hc2))
                      clear ok hmem hin hin2 hv2 he2 ha hb
                      by_cases ca : 0 ≤ f3 an
                      · by_cases cb : 0 ≤ f3 bn
                        · have HP2 := hide (unhide HPASS ⟨fun _ => cb, fun _ => ca⟩)
                          generalize f3 an = fa at *
                          generalize f3 bn = fb at *
                          go_wp2_with fail
                          go_quiet (fail)
                          go_wp2
                          go_roundw
                          case rel => exact ⟨c2, t + 1, f3, rfl, by go_num, by omega, (unhide h4).1.drewN _, (unhide h4).2.1.kept ((Kept.refl [] _).drewN _), (unhide h4).2.2.1, (unhide h4).2.2.2.1, (unhide h4).2.2.2.2.1, unhide HP2⟩
                          case measure => simp [intOf]; omega
                        · have HT := hide ((unhide h4).2.2.1.tell hanN hbnN (Or.inl (unhide HMEM)) ca)
                          have hy0 : 0 ≤ 1 - f3 an := by have := unhide HVA; omega
                          have HLT := hide (Nat.lt_of_lt_of_le (unl_lt hbnN (by omega) hy0) (unhide HLE))
                          have HMO := hide (show ∀ u, 0 ≤ f1 u → 0 ≤ (fun u => if u = bn then 1 - f3 an else f3 u) u from fun u hu => by
                            by_cases e : u = bn
                            · simp only [e, if_true]; exact hy0
                            · simp only [e, if_false]; exact (unhide h4).2.2.2.1 u hu)
                          have HSE := hide (fun W (hO : OfAt W go N f3) => hO.set hbnN (1 - f3 an))
                          have hwr : IntKind.i64.wrap (1 - f3 an) = 1 - f3 an := by have := unhide HVA; rw [IntWalk.i64_left, IntWalk.wrap64_in _ (by omega)]
                          generalize hfa : f3 an = fa at *
                          generalize hfb : f3 bn = fb at *
                          clear hfa hfb
                          have q2 : decide (fb < 0) = true := by simp; omega
                          have q3 : decide (fa < 0) = false := by simp; omega
                          clear HPASS HSTP
                          go_wp2_with fail
                          go_quiet (fail)
                          generalize hZ : (1 - fa) = z at *
                          go_wp2
                          go_roundw
                          case rel => exact ⟨true, t + 1, _, rfl, by go_num, by omega, ((unhide h4).1.drewN _).setCell (p := ⟨go, bn, none⟩) (Or.inr (unhide HGO)) _, unhide HSE _ ((unhide h4).2.1.kept ((Kept.refl [] _).drewN _)), unhide HT, unhide HMO, fun _ => unhide HLT, fun h => by cases h⟩
                          case measure => simp [intOf]; omega
                      · by_cases cb : 0 ≤ f3 bn
                        · have HT := hide ((unhide h4).2.2.1.tell hbnN hanN (Or.inr (unhide HMEM)) cb)
                          have hy0 : 0 ≤ 1 - f3 bn := by have := unhide HVB; omega
                          have HLT := hide (Nat.lt_of_lt_of_le (unl_lt hanN (by omega) hy0) (unhide HLE))
                          have HMO := hide (show ∀ u, 0 ≤ f1 u → 0 ≤ (fun u => if u = an then 1 - f3 bn else f3 u) u from fun u hu => by
                            by_cases e : u = an
                            · simp only [e, if_true]; exact hy0
                            · simp only [e, if_false]; exact (unhide h4).2.2.2.1 u hu)
                          have HSE := hide (fun W (hO : OfAt W go N f3) => hO.set hanN (1 - f3 bn))
                          have hwr : IntKind.i64.wrap (1 - f3 bn) = 1 - f3 bn := by have := unhide HVB; rw [IntWalk.i64_left, IntWalk.wrap64_in _ (by omega)]
                          generalize hfa : f3 an = fa at *
                          generalize hfb : f3 bn = fb at *
                          clear hfa hfb
                          have q2 : decide (fa < 0) = true := by simp; omega
                          clear HPASS HSTP
                          go_wp2_with fail
                          go_quiet (fail)
                          generalize hZ : (1 - fb) = z at *
                          go_wp2
                          go_roundw
                          case rel => exact ⟨true, t + 1, _, rfl, by go_num, by omega, ((unhide h4).1.drewN _).setCell (p := ⟨go, an, none⟩) (Or.inr (unhide HGO)) _, unhide HSE _ ((unhide h4).2.1.kept ((Kept.refl [] _).drewN _)), unhide HT, unhide HMO, fun _ => unhide HLT, fun h => by cases h⟩
                          case measure => simp [intOf]; omega
                        · have HP2 := hide (unhide HPASS ⟨fun h => absurd h ca, fun h => absurd h cb⟩)
                          generalize f3 an = fa at *
                          generalize f3 bn = fb at *
                          go_wp2_with fail
                          go_quiet (fail)
                          go_wp2
                          go_roundw
                          case rel => exact ⟨c2, t + 1, f3, rfl, by go_num, by omega, (unhide h4).1.drewN _, (unhide h4).2.1.kept ((Kept.refl [] _).drewN _), (unhide h4).2.2.1, (unhide h4).2.2.2.1, (unhide h4).2.2.2.2.1, unhide HP2⟩
                          case measure => simp [intOf]; omega
                    · have hte : t = es.length := by omega
                      have HFIN := hide (show c2 = false → StabTo es f3 es.length from fun h0 => by
                        obtain ⟨e1, e2⟩ := (unhide h4).2.2.2.2.2 h0
                        rw [e1, ← hte]; exact e2)
                      have HMEA := hide (show 2 * labSum (unl f3) N + (if c2 = true then 1 else 0) < 2 * labSum (unl f2) N + (if true = true then 1 else 0) from by
                        cases hc2 : c2
                        · rw [((unhide h4).2.2.2.2.2 hc2).1]; simp
                        · have := (unhide h4).2.2.2.2.1 hc2; simp; omega)
                      clear hte
                      go_wp2
                      go_roundg (2 * labSum (unl f3) N + (if c2 = true then 1 else 0))
                      case measure => have := (unhide h3).1; rw [this]; exact unhide HMEA
                      case rel => exact ⟨f3, c2, rfl, rfl, (unhide h4).1, (unhide h4).2.1, (unhide h4).2.2.1, (unhide h4).2.2.2.1, unhide HFIN⟩
          · have HALL := hide (show ∀ u : Nat, u < N → 0 ≤ f u from fun u hu => (unhide h2).2.2.2.2 u (by omega))
            go_wp2
            clear ga
            go_loopw [11] (fun ii wt => ∃ t : Nat, t ≤ es.length ∧ ii = .int .i64 t ∧ Hid (Kept [] w1 wt ∧ OfAt wt go N f ∧ ∀ s, s < t → f (eA es s).toNat ≠ f (eB es s).toNat)) (fun ii _ => es.length - (intOf ii).toNat)
            case atStart => exact ⟨0, Nat.zero_le _, rfl, (unhide h2).1, (unhide h2).2.1, fun s hs => by omega⟩
            case round =>
              obtain ⟨t, ht, rfl, h5⟩ := hrel
              have gb := (unhide HB _ (unhide h5).1).2
              by_cases htl : t < es.length
              · obtain ⟨ao2, _, hv2, _, _, hin2⟩ := (unhide HE _ ((unhide HK1).trans (unhide h5).1)).shape
                obtain ⟨eg, eo, he2, hin⟩ := hin2 (by omega)
                have hao : ao = some ⟨eg, eo, none⟩ := by simp at hv2; rw [hv2.1, he2]
                subst hao
                have d0 := hin.a t htl; have d1 := hin.b t htl
                have hmem := at_mem htl
                have ok := okE_iff.1 ((right_rise (unhide HRT)).2.2.2.2 _ hmem)
                unfold at_ at ok hmem
                simp only at ok
                obtain ⟨an, ha⟩ := Int.eq_ofNat_of_zero_le ok.1
                obtain ⟨bn, hb⟩ := Int.eq_ofNat_of_zero_le (show 0 ≤ eB es t by omega)
                have HSTP := hide (show f an ≠ f bn → ∀ s, s < t + 1 → f (eA es s).toNat ≠ f (eB es s).toNat from fun hc s hs => by
                  by_cases e : s = t
                  · subst e; rw [ha, hb]; simpa using hc
                  · exact (unhide h5).2.2 s (by omega))
                rw [ha, hb] at ok hmem
                rw [ha] at d0; rw [hb] at d1
                have hanN : an < N := by omega
                have hbnN : bn < N := by omega
                have oa := (unhide h5).2.1.cell an hanN
                have ob := (unhide h5).2.1.cell bn hbnN
                have a0 : (0 : Int) ≤ (an : Int) := by omega
                have a1 : (an : Int) < (N : Int) := by omega
                have c0 : (0 : Int) ≤ (bn : Int) := by omega
                have c1 : (bn : Int) < (N : Int) := by omega
                have t0 : (0 : Int) ≤ (t : Int) := by omega
                have t1 : (t : Int) < (es.length : Int) := by omega
                have HCL := hide (fun (he : f an = f bn) c hc => (unhide h2).2.2.1.clash hanN hbnN (unhide HALL an hanN) (unhide HALL bn hbnN) (Or.inl hmem) he c hc)
                clear ok hmem hin hin2 hv2 he2 ha hb
                by_cases he : f an = f bn
                · have HNP := hide (unhide HCL he)
                  have q : (f an == f bn) = true := by simpa using he
                  generalize f an = fa at *
                  generalize f bn = fb at *
                  clear he
                  go_wp2_with fail
                  go_quiet (fail)
                  have HF := hide (show ROfTells w (N : Int) es (.returned (.tuple #[.slice none 0 0, .int .i64 10])) (wr.drewN nq) from ⟨_, 10, rfl, (unhide HK1).trans ((unhide h5).1.drewN nq), Or.inr (Or.inr ⟨unhide HRT, rfl, unhide HNP, rfl⟩)⟩)
                  go_wp2
                  exact bodyPost_ret (v := .tuple #[.slice none 0 0, .int .i64 10]) (by simp [results, Tryd.results27, go_sem]) rfl (unhide HF)
                · have HNX := hide (unhide HSTP he)
                  have q : (f an == f bn) = false := by simpa using he
                  generalize f an = fa at *
                  generalize f bn = fb at *
                  clear he
                  go_wp2_with fail
                  go_quiet (fail)
                  go_wp2
                  go_roundw
                  case rel => exact ⟨t + 1, by omega, by go_num, (unhide h5).1.drewN _, (unhide h5).2.1.kept ((Kept.refl [] _).drewN _), unhide HNX⟩
                  case measure => simp [intOf]; omega
              · have HSD := hide ((unhide h2).2.2.1.sides (right_rise (unhide HRT)).2.2.2.2 (unhide HALL) (fun a b hab => by
                  obtain ⟨s, hs, he⟩ := mem_at hab
                  have := (unhide h5).2.2 s (by omega)
                  unfold at_ at he
                  simp only [Prod.mk.injEq] at he
                  rw [he.1, he.2] at this
                  simpa using this))
                have hside := (unhide h5).2.1
                have HF := hide (show ROfTells w (N : Int) es (.returned (.tuple #[.slice (some ⟨go, 0, none⟩) N N, .int .i64 0])) wr from ⟨_, 0, rfl, (unhide HK1).trans (unhide h5).1, Or.inr (Or.inl ⟨unhide HRT, ⟨(List.range N).map f, ⟨_, N, by simp, by simp, by unfold maxLen; simp; omega, fun _ => ⟨go, 0, rfl, hside.lt, fun i hi => by
                    simp at hi
                    rw [Nat.zero_add, hside.cell i hi]
                    simp [List.getD, hi]⟩⟩, by rw [Int.toNat_natCast]; exact unhide HSD⟩, rfl⟩)⟩)
                clear hside
                go_wp2
                exact bodyPost_ret (v := .tuple #[.slice (some ⟨go, 0, none⟩) N N, .int .i64 0]) (by simp [results, Tryd.results27, go_sem]) rfl (unhide HF)
end Go.Proofs.YtmpcnepiogjokaaDoor
