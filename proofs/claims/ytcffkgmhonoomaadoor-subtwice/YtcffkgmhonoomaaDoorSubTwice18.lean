/- SubTwice: the walk. -/
import Derived.Test.YtcffkgmhonoomaaDoorSubTwice17
import Derived.Deep.RegionHeld3
import Derived.Deep.DeepCutAuto
namespace Go.Proofs.YtcffkgmhonoomaaDoor
open Go.RowKit

set_option maxRecDepth 100000 in
set_option maxHeartbeats 16000000 in
theorem twice_walk {w : World} {v : Value} {xs : List Int} (n : Int) (h : IntsAt w v xs) (x y : Int) (hT : Tab w) : Calls Tryd.prog 5 #[.int .i64 n, v, .int .u64 x, .int .u64 y] w fun e w' => e = .returned (.bool true) ∧ Kept [] w w' := by
  obtain ⟨j, hj, jz0, jz1, jz2⟩ := info_parts infoInt
  have HS := hide (small_any h n 24 50 (by omega) (by omega) (by omega) (by omega))
  have HTT := hide (fun W (k : Kept [] w W) => hT.kept k (by simp))
  clear h hT
  go_enter Tryd.func5, Tryd.ntmps5
  go_wp2_with fail
  refine (unhide HS).mono ?_
  rintro e w1 ⟨N0, r1, es, rfl, hr1, hright, hNV, hEl, _, k1⟩
  obtain ⟨N, rfl⟩ := Int.eq_ofNat_of_zero_le (right_rise hright).1
  obtain ⟨ro1, rm1, rc1, rfl⟩ := hr1.form
  have HG1 := hide (GVar.new (n := (N : Int)) hr1 24)
  have HK1 := hide (k1.alloc (.cells #[.int .i64 (N : Int), .slice ro1 rm1 rc1] 24))
  have HR := hide hright
  have HSO := hide (fun W => some_any W N (.slice ro1 rm1 rc1) x)
  have hN24 : N ≤ 24 := by omega
  clear hr1 k1 hright HS hNV hEl
  go_upto_region 2 with fail
  generalize w1.alloc (.cells #[.int .i64 (N : Int), .slice ro1 rm1 rc1] 24) = x1 at *
  have HKP := hide (fun W u l (k : Kept [] x1 W) (h1 : List.Pairwise (· < ·) l) (h2 : ∀ q ∈ l, 0 ≤ q ∧ q < (N : Int)) (h3 : IntsAt W u l) => keep_some ((unhide HG1).e.kept k) (unhide HR) h3 h1 h2 (unhide HTT _ ((unhide HK1).trans k)))
  have ga := (unhide HG1).a; have gb := (unhide HG1).b
  go_cut [10, 11, 12] (fun hp wv ev wx => ∃ p ro rm rc uo uc l, hp = .pointer (some ⟨p, 0, none⟩) ∧ wv = .slice uo (List.length l) uc ∧ ev = .int .i64 0 ∧ Hid (KeptTo x1 wx N es p (.slice ro rm rc) (.slice uo (List.length l) uc) l))
  case first =>
    go_wp2_with fail
    go_region_held3 (fun W => W.cell? ⟨w1.heap.size, 0, none⟩ = some (.int .i64 (N : Nat)) ∧ W.cell? ⟨w1.heap.size, 1, none⟩ = some (.slice ro1 rm1 rc1)) (first | exact ⟨kept_cell ga (by assumption), kept_cell gb (by assumption)⟩ | exact ⟨kept_cell ga (by repeat' first | assumption | exact Kept.refl [] x1 | apply Kept.drew | apply Kept.drewN | apply Kept.alloc | exact Or.inr (Nat.le_refl _) | exact Or.inr K2.size | exact Or.inr K3.size | apply Kept.setCell), kept_cell gb (by repeat' first | assumption | exact Kept.refl [] x1 | apply Kept.drew | apply Kept.drewN | apply Kept.alloc | exact Or.inr (Nat.le_refl _) | exact Or.inr K2.size | exact Or.inr K3.size | apply Kept.setCell)⟩ | go_keep)
      (first
      | (go_at_call 10; have hl' := hl2; refine (unhide HKP _ _ _ (by repeat' first | exact K2 | apply Kept.drew | apply Kept.drewN | apply Kept.alloc) hlp hlb (hl2.kept (w := w2) (by repeat' first | exact Kept.refl [] w2 | apply Kept.drew | apply Kept.drewN | apply Kept.alloc))).mono ?_; rintro e w3 ⟨ro, rm, rc, uo, uc, rfl, hr3, hu3, hfr, hfu, k3⟩; have K3 : Kept [] x1 w3 := (by refine Kept.trans ?_ k3; repeat' first | exact K2 | apply Kept.drew | apply Kept.drewN | apply Kept.alloc); (first | (have bx0 : w3.cell? ⟨w2.heap.size, 0, none⟩ = some (.int .i64 0) := (box2 k3 (by simp)).1; have bx1 : w3.cell? ⟨w2.heap.size, 1, none⟩ = some (.slice none 0 0) := (box2 k3 (by simp)).2; have bf0 : w3.frozen? ⟨w2.heap.size, 0, none⟩ = false := (box2f k3).1; have bf1 : w3.frozen? ⟨w2.heap.size, 1, none⟩ = false := (box2f k3).2) | (have bx0 := kept_cell by0 k3; have bx1 := kept_cell by1 k3; have bf0 := kept_free by0 bg0 k3; have bf1 := kept_free by1 bg1 k3) | skip))
      | (go_at_call 21; refine (unhide HSO _).mono ?_; rintro e w2 ⟨r2, l, rfl, hl2, hlp, hlb, _, _, k2⟩; obtain ⟨lo, lc, hlv, _⟩ := hl2.shape; subst hlv; have K2 : Kept [] x1 w2 := (by refine Kept.trans ?_ k2; repeat' first | exact Kept.refl [] x1 | apply Kept.drew | apply Kept.drewN | apply Kept.alloc); (first | (have kd := (Kept.refl [] (x1.alloc (.cells #[.int .i64 0, .slice none 0 0] 24))).drew.trans k2; have by0 := (box2 kd (by simp)).1; have by1 := (box2 kd (by simp)).2; have bg0 := (box2f kd).1; have bg1 := (box2f kd).2) | skip)))
    · have HX := hide (KeptTo.new (N := N) hlp hlb hr3 hu3 K3 24)
      clear hr3 hu3 hfr hfu
      go_wp2_with fail
      go_meet
      case rel => exact ⟨_, ro, rm, rc, uo, uc, l, rfl, rfl, rfl, unhide HX⟩
    · have HX := hide (KeptTo.old (N := N) hlp hlb hr3 hu3 K3 hfr hfu (by simp) K2.size bx0 bx1)
      clear hr3 hu3 hfr hfu
      go_wp2_with fail
      go_meet
      case rel => exact ⟨_, ro, rm, rc, uo, uc, l, rfl, rfl, rfl, unhide HX⟩
    · have hs2 := k2.size
      have HX := hide (KeptTo.old (N := N) (p := x1.heap.size) hlp hlb hr3 hu3 K3 hfr hfu (by simp at hs2; omega) (Nat.le_refl _) bx0 bx1)
      clear hr3 hu3 hfr hfu
      go_wp2_with fail
      go_meet
      case rel => exact ⟨_, ro, rm, rc, uo, uc, l, rfl, rfl, rfl, unhide HX⟩
  case rest =>
    obtain ⟨p, ro, rm, rc, uo, uc, l, rfl, rfl, rfl, hc⟩ := hcut
    have HL1 := hide (unhide hc)
    have hll : l.length ≤ N := by rw [← keptL_self (unhide hc).rise (unhide hc).bound]; exact keptL_len N l true
    have HR2 := hide (by have := kept_right (l := l) (b := true) (unhide HR); rw [keptL_self (unhide hc).rise (unhide hc).bound] at this; exact this)
    have HAW := hide (kawake_any (unhide HTT _ ((unhide HK1).trans (unhide hc).k)))
    clear hc ga gb HKP HSO
    go_wp2_with fail
    refine (unhide HAW).mono ?_
    rintro e x2 ⟨rfl, k2⟩
    have HGG := hide (fun W (k : Kept [] x2 W) => (unhide HG1).kept ((unhide HL1).k.trans (k2.trans k)))
    have HG2 := hide (fun W (k : Kept [] x2 W) => (unhide HL1).g.kept (k2.trans k))
    have HI2 := hide (fun W (k : Kept [] x2 W) => (unhide HL1).i.kept (k2.trans k))
    have HK2 := hide ((unhide HK1).trans ((unhide HL1).k.trans k2))
    have HRB := hide (And.intro (unhide HL1).rise (unhide HL1).bound)
    have ga := (unhide HG2 _ (Kept.refl [] x2)).a; have gb := (unhide HG2 _ (Kept.refl [] x2)).b
    have u1 : (l.length : Int) ≤ 9223372036854775807 := by omega
    have t2 : ((l.length : Int) != (l.length : Int)) = false := by simp
    have HSO := hide (fun W => some_any W l.length (.slice ro rm rc) y)
    clear k2 HAW HL1 HG1 HK1
    go_upto_region 5 with fail
    have HKP := hide (fun W u m (k : Kept [] x2 W) (h1 : List.Pairwise (· < ·) m) (h2 : ∀ q ∈ m, 0 ≤ q ∧ q < (l.length : Int)) (h3 : IntsAt W u m) => keep_some ((unhide HG2 _ k).e) (unhide HR2) h3 h1 h2 (unhide HTT _ ((unhide HK2).trans k)))
    obtain ⟨fs, hfs⟩ : ∃ fs, fs = keepE (nowF l true) es := ⟨_, rfl⟩
    rw [← hfs] at HKP HR2 HG2
    have HFS := hide hfs
    clear hfs
    go_cut [13, 14, 15] (fun hp wv ev wx => ∃ p ro rm rc uo uc m, hp = .pointer (some ⟨p, 0, none⟩) ∧ wv = .slice uo (List.length m) uc ∧ ev = .int .i64 0 ∧ Hid (KeptTo x2 wx l.length fs p (.slice ro rm rc) (.slice uo (List.length m) uc) m))
    case first =>
      go_wp2_with fail
      go_region_held3 (fun W => W.cell? ⟨p, 0, none⟩ = some (.int .i64 (l.length : Nat)) ∧ W.cell? ⟨p, 1, none⟩ = some (.slice ro rm rc)) (first | exact ⟨kept_cell ga (by assumption), kept_cell gb (by assumption)⟩ | exact ⟨kept_cell ga (by repeat' first | assumption | exact Kept.refl [] x2 | apply Kept.drew | apply Kept.drewN | apply Kept.alloc | exact Or.inr (Nat.le_refl _) | exact Or.inr K2.size | exact Or.inr K3.size | apply Kept.setCell), kept_cell gb (by repeat' first | assumption | exact Kept.refl [] x2 | apply Kept.drew | apply Kept.drewN | apply Kept.alloc | exact Or.inr (Nat.le_refl _) | exact Or.inr K2.size | exact Or.inr K3.size | apply Kept.setCell)⟩ | go_keep)
        (first
        | (go_at_call 10; have hl' := hl2; refine (unhide HKP _ _ _ (by repeat' first | exact K2 | apply Kept.drew | apply Kept.drewN | apply Kept.alloc) hlp hlb (hl2.kept (w := w2) (by repeat' first | exact Kept.refl [] w2 | apply Kept.drew | apply Kept.drewN | apply Kept.alloc))).mono ?_; rintro e w3 ⟨ro5, rm5, rc5, uo5, uc5, rfl, hr3, hu3, hfr, hfu, k3⟩; have K3 : Kept [] x2 w3 := (by refine Kept.trans ?_ k3; repeat' first | exact K2 | apply Kept.drew | apply Kept.drewN | apply Kept.alloc); (first | (have bx0 : w3.cell? ⟨w2.heap.size, 0, none⟩ = some (.int .i64 0) := (box2 k3 (by simp)).1; have bx1 : w3.cell? ⟨w2.heap.size, 1, none⟩ = some (.slice none 0 0) := (box2 k3 (by simp)).2; have bf0 : w3.frozen? ⟨w2.heap.size, 0, none⟩ = false := (box2f k3).1; have bf1 : w3.frozen? ⟨w2.heap.size, 1, none⟩ = false := (box2f k3).2) | (have bx0 := kept_cell by0 k3; have bx1 := kept_cell by1 k3; have bf0 := kept_free by0 bg0 k3; have bf1 := kept_free by1 bg1 k3) | skip))
        | (go_at_call 21; refine (unhide HSO _).mono ?_; rintro e w2 ⟨r2, m5, rfl, hl2, hlp, hlb, _, _, k2⟩; obtain ⟨lo, lc, hlv, _⟩ := hl2.shape; subst hlv; have K2 : Kept [] x2 w2 := (by refine Kept.trans ?_ k2; repeat' first | exact Kept.refl [] x2 | apply Kept.drew | apply Kept.drewN | apply Kept.alloc); (first | (have kd := (Kept.refl [] (x2.alloc (.cells #[.int .i64 0, .slice none 0 0] 24))).drew.trans k2; have by0 := (box2 kd (by simp)).1; have by1 := (box2 kd (by simp)).2; have bg0 := (box2f kd).1; have bg1 := (box2f kd).2) | skip)))
      · have HX := hide (KeptTo.new (N := l.length) hlp hlb hr3 hu3 K3 24)
        clear hr3 hu3 hfr hfu
        go_wp2_with fail
        go_meet
        case rel => exact ⟨_, ro5, rm5, rc5, uo5, uc5, m5, rfl, rfl, rfl, unhide HX⟩
      · have HX := hide (KeptTo.old (N := l.length) hlp hlb hr3 hu3 K3 hfr hfu (by simp) K2.size bx0 bx1)
        clear hr3 hu3 hfr hfu
        go_wp2_with fail
        go_meet
        case rel => exact ⟨_, ro5, rm5, rc5, uo5, uc5, m5, rfl, rfl, rfl, unhide HX⟩
      · have hs2 := k2.size
        have HX := hide (KeptTo.old (N := l.length) (p := x2.heap.size) hlp hlb hr3 hu3 K3 hfr hfu (by simp at hs2; omega) (Nat.le_refl _) bx0 bx1)
        clear hr3 hu3 hfr hfu
        go_wp2_with fail
        go_meet
        case rel => exact ⟨_, ro5, rm5, rc5, uo5, uc5, m5, rfl, rfl, rfl, unhide HX⟩
    case rest =>
      obtain ⟨p5, ro5, rm5, rc5, uo5, uc5, m, rfl, rfl, rfl, hc⟩ := hcut
      have hml : m.length ≤ l.length := by rw [← keptL_self (unhide hc).rise (unhide hc).bound]; exact keptL_len l.length m true
      have HTW := hide (show keepE (nowF m true) fs = keepE (nowF (namesL l m) true) es by rw [unhide HFS]; exact kept_twice (unhide HR) (unhide HRB).1 (unhide HRB).2 (unhide hc).rise (unhide hc).bound)
      have HNP := hide (namesL_rise (unhide HRB).1 (unhide hc).rise (unhide hc).bound)
      have HNB := hide (namesL_bound (unhide HRB).2 (unhide hc).bound)
      have HMB := hide (unhide hc).bound
      have HG5 := hide (fun W (k : Kept [] wc W) => (unhide hc).g.kept k)
      have HI5 := hide (fun W (k : Kept [] wc W) => (unhide hc).i.kept k)
      have HGG5 := hide (fun W (k : Kept [] wc W) => unhide HGG _ ((unhide hc).k.trans k))
      have HI25 := hide (fun W (k : Kept [] wc W) => unhide HI2 _ ((unhide hc).k.trans k))
      have HK5 := hide ((unhide HK2).trans (unhide hc).k)
      have u2 : (m.length : Int) ≤ 9223372036854775807 := by omega
      obtain ⟨W5, h0⟩ : ∃ W5, W5 = wc := ⟨wc, rfl⟩
      subst h0
      clear hc HG2 HGG HI2 HK2 HKP HSO ga gb HFS HR2
      go_wp2
      go_loopw [16, 17] (fun nv iv wr => ∃ (k : Nat) (ns : List Int) (no : Option Addr) (nc : Nat), k ≤ m.length ∧ iv = .int .i64 k ∧ nv = .slice no ns.length nc ∧ wr.ownsRow W5.heap.size 3 1 nv ns.length (ns.map (Value.int .i64)) ∧ ns.length ≤ k ∧ W5.heap.size ≤ wr.heap.size ∧ Hid (ns = (namesL l m).take k ∧ Kept [] W5 wr)) (fun _ iv _ => m.length - (intOf iv).toNat)
      case atStart => exact ⟨0, [], none, 0, Nat.zero_le _, rfl, rfl, ⟨rfl, Or.inl ⟨rfl, rfl⟩⟩, Nat.zero_le _, Nat.le_refl _, rfl, Kept.refl _ _⟩
      case round =>
        obtain ⟨k, ns, no, nc, hk, rfl, rfl, hown, hnk, hsz, hh⟩ := hrel
        by_cases hlt : k < m.length
        · have kr := (unhide hh).2
          obtain ⟨eg, eo, he2, d0⟩ : ∃ eg eo, uo5 = some ⟨eg, eo, none⟩ ∧ wr.cell? ⟨eg, eo + k, none⟩ = some (.int .i64 (m.getD k 0)) := by
            obtain ⟨ao2, cap2, hv2, _, hin2⟩ := (unhide HI5 _ kr).shape
            obtain ⟨eg, eo, he2, hin⟩ := hin2 (by omega)
            simp at hv2
            exact ⟨eg, eo, by rw [hv2.1, he2], hin k hlt⟩
          subst he2
          have hb := unhide HMB _ (getD_mem hlt)
          obtain ⟨q, hq⟩ : ∃ q : Nat, m.getD k 0 = (q : Int) := ⟨(m.getD k 0).toNat, by omega⟩
          have HST := hide (show (namesL l m).take (k + 1) = ns ++ [l.getD q 0] by
            rw [take_snoc (by rw [namesL_len]; exact hlt), (unhide hh).1, namesL_at hlt, hq, Int.toNat_natCast])
          rw [hq] at d0 hb
          obtain ⟨fg, fo, hf2, d1⟩ : ∃ fg fo, uo = some ⟨fg, fo, none⟩ ∧ wr.cell? ⟨fg, fo + q, none⟩ = some (.int .i64 (l.getD q 0)) := by
            obtain ⟨ao2, cap2, hv2, _, hin2⟩ := (unhide HI25 _ kr).shape
            obtain ⟨eg, eo, he2, hin⟩ := hin2 (by omega)
            simp at hv2
            exact ⟨eg, eo, by rw [hv2.1, he2], hin q (by omega)⟩
          subst hf2
          have HKR := hide kr
          clear hq kr
          generalize l.getD q 0 = z at *
          have t0 : (0 : Int) ≤ (k : Int) := by omega
          have t1 : (k : Int) < (m.length : Int) := by omega
          have t3 : (0 : Int) ≤ (q : Int) := by omega
          have t4 : (q : Int) < (l.length : Int) := hb.2
          have t5 : ¬ (q : Int) < 0 := by omega
          clear hb
          go_wp2_with (first | (at_builtin; refine wpList_append_own _ rfl (.tmp 75) (.tmp 83) 25 rfl W5.heap.size 3 j (.int .i64 0) 1 8 Tryd.underlying25 hj jz0 jz1 jz2 rfl (by decide) _ _ _ rfl (hown.alloc _) _ 1 _ [.int .i64 z] rfl rfl (one_cell' _ _ _ (by simp)) (by simp [Value.oneCell']) (by unfold maxLen; omega) (by omega) (by simp; omega) ?_; intro v' w6 own6 g6 _))
          have hob := own_block hown
          have HK6 := hide (((unhide HKR).alloc _).grown g6 (fun q hq => Or.inr (hob q hq)))
          have hs6 : W5.heap.size ≤ w6.heap.size := (unhide HK6).size
          have own7 : w6.ownsRow W5.heap.size 3 1 v' (ns ++ [z]).length ((ns ++ [z]).map (Value.int .i64)) := by
            rw [List.length_append, List.map_append]; exact own6
          obtain ⟨lo7, lc7, hv7⟩ := own_form own7
          have HV7 := hide hv7
          clear own6 g6 hob hv7 hown
          go_wp2
          go_roundw
          case rel => exact ⟨k + 1, ns ++ [z], lo7, lc7, by omega, by go_num, unhide HV7, own7, by simp; omega, hs6, (unhide HST).symm, unhide HK6⟩
          case measure => simp [intOf]; omega
        · have e : k = m.length := by omega
          subst e
          have hns : ns = namesL l m := by rw [(unhide hh).1, List.take_of_length_le (by rw [namesL_len]; omega)]
          have hIN := (ints_of_owns hown).1
          have HNL := hide (show ns.length = m.length by rw [hns, namesL_len])
          rw [← hns] at HTW HNP HNB
          have kr := (unhide hh).2
          have HKR := hide kr
          have HC := hide (keep_some ((unhide HGG5 _ kr).e) (unhide HR) hIN (unhide HNP) (unhide HNB) (unhide HTT _ ((unhide HK5).trans kr)))
          have HIN := hide hIN
          have ga := (unhide HGG5 _ kr).a; have gb := (unhide HGG5 _ kr).b
          have hnl : ns.length ≤ 24 := by rw [unhide HNL]; omega
          have t1 : ¬ (m.length : Int) < (m.length : Int) := by omega
          clear hown hIN kr hh hns hnk
          go_wp2_with fail
          refine (unhide HC).mono ?_
          rintro e w6 ⟨ro6, rm6, rc6, uo6, uc6, rfl, hr6, hu6, _, _, k6⟩
          have KA := (Kept.refl [] w6).alloc (.cells #[.int .i64 (ns.length : Nat), .slice ro6 rm6 rc6] 24)
          have HG6 := hide (GVar.new (n := (ns.length : Nat)) hr6 24)
          have K6 := (unhide HKR).trans (k6.trans KA)
          have HG5w := hide (unhide HG5 _ K6)
          have HSG := sameGraph_any (n := (m.length : Nat)) (m := (ns.length : Nat)) (unhide HG5w).e (unhide HG6).e
          rw [show (decide (((m.length : Nat) : Int) = ((ns.length : Nat) : Int)) && decide (keepE (nowF m true) fs = keepE (nowF ns true) es)) = true by rw [unhide HNL, unhide HTW]; simp] at HSG
          have HSG2 := hide HSG
          have HPL := hide (fun W (k : Kept [] (w6.alloc (.cells #[.int .i64 (ns.length : Nat), .slice ro6 rm6 rc6] 24)) W) => by
            have := plain_any ((hu6.kept KA).kept k) ((unhide HIN).kept ((k6.trans KA).trans k))
            rw [show decide (ns = ns) = true by simp] at this
            exact this)
          have HEND := hide ((unhide HK5).trans K6)
          have ga5 := (unhide HG5w).a; have gb5 := (unhide HG5w).b; have ga6 := (unhide HG6).a; have gb6 := (unhide HG6).b
          clear HSG hr6 hu6 k6 KA K6 HC ga gb HG5 HI5 HGG5 HI25 HTT HKR
          go_wp2_with fail
          generalize w6.alloc (.cells #[.int .i64 (ns.length : Nat), .slice ro6 rm6 rc6] 24) = X6 at *
          refine (unhide HSG2).mono ?_
          rintro e w7 ⟨rfl, k7⟩
          have HPL7 := hide (unhide HPL _ k7)
          have HE7 := hide ((unhide HEND).trans k7)
          clear k7 HSG2 HPL ga5 gb5 ga6 gb6
          go_wp2_with fail
          refine (unhide HPL7).mono ?_
          rintro e w8 ⟨rfl, m8, rfl⟩
          go_wp2
          go_ret
          exact ⟨rfl, (unhide HE7).drewN m8⟩
theorem twice_law (w : World) (n : Int) (_ : InI n) (v : Value) (xs : List Int) (h : IntsAt w v xs) (x y : Int) (hT : Tab w) : Calls Tryd.prog 5 #[.int .i64 n, v, .int .u64 x, .int .u64 y] w fun e w' => e = .returned (.bool true) ∧ Kept [] w w' := twice_walk n h x y hT
end Go.Proofs.YtcffkgmhonoomaaDoor
