/- SubEdges: the walk. -/
import Derived.Test.YtcffkgmhonoomaaDoorSubEdges17
import Derived.Test.YtcffkgmhonoomaaDoorSubEdges18
import Derived.Deep.RegionHeld3
import Derived.Deep.RegionLawGrows
namespace Go.Proofs.YtcffkgmhonoomaaDoor
open Go.RowKit

/-- A graph's variable is written. -/
theorem put_box {x3 wr WF : World} {N0 : Int} {r y z : Value} {cs : List E} (b0 : wr.cell? ⟨x3.heap.size, 0, none⟩ = some y) (b1 : wr.cell? ⟨x3.heap.size, 1, none⟩ = some z) (hf : wr.frozen? ⟨x3.heap.size, 0, none⟩ = false ∧ wr.frozen? ⟨x3.heap.size, 1, none⟩ = false) (k0 : Kept [] x3 wr) (k : Kept [] wr WF) (hr : EdgesAt WF r cs) (hfr : FreshAt wr.heap.size r) :
    ((WF.setCell ⟨x3.heap.size, 0, none⟩ (.int .i64 N0)).setCell ⟨x3.heap.size, 1, none⟩ r).cell? ⟨x3.heap.size, 0, none⟩ = some (.int .i64 N0) ∧ ((WF.setCell ⟨x3.heap.size, 0, none⟩ (.int .i64 N0)).setCell ⟨x3.heap.size, 1, none⟩ r).cell? ⟨x3.heap.size, 1, none⟩ = some r ∧
    (((WF.setCell ⟨x3.heap.size, 0, none⟩ (.int .i64 N0)).setCell ⟨x3.heap.size, 1, none⟩ r).frozen? ⟨x3.heap.size, 0, none⟩ = false ∧ ((WF.setCell ⟨x3.heap.size, 0, none⟩ (.int .i64 N0)).setCell ⟨x3.heap.size, 1, none⟩ r).frozen? ⟨x3.heap.size, 1, none⟩ = false) ∧
    (EdgesAt ((WF.setCell ⟨x3.heap.size, 0, none⟩ (.int .i64 N0)).setCell ⟨x3.heap.size, 1, none⟩ r) r cs ∧ (0 < cs.length → ∀ a x y, r = .slice (some a) x y → a.block ≠ x3.heap.size)) ∧ Kept [] x3 ((WF.setCell ⟨x3.heap.size, 0, none⟩ (.int .i64 N0)).setCell ⟨x3.heap.size, 1, none⟩ r) := by
  have hlt := lt_of_cell b0
  have c0 := kept_cell b0 k; have c1 := kept_cell b1 k
  have z0 := kept_free b0 hf.1 k; have z1 := kept_free b1 hf.2 k
  have ks : Kept [x3.heap.size] WF ((WF.setCell ⟨x3.heap.size, 0, none⟩ (.int .i64 N0)).setCell ⟨x3.heap.size, 1, none⟩ r) := ((Kept.refl _ _).setCell (Or.inl (by simp)) _).setCell (Or.inl (by simp)) _
  refine ⟨?_, ?_, ⟨?_, ?_⟩, ⟨hr.past ks hfr hlt, fun _ a x y e => by have := hfr a x y e; omega⟩, (k0.trans k).trans' ks (by simp)⟩
  · go_simp
  · go_simp
  · go_simp
  · go_simp

set_option maxRecDepth 100000 in
set_option maxHeartbeats 16000000 in
theorem edgesK_walk {w : World} {v : Value} {xs : List Int} (n : Int) (h : IntsAt w v xs) (x : Int) (hT : Tab w) : Calls Tryd.prog 6 #[.int .i64 n, v, .int .u64 x] w fun e w' => e = .returned (.bool true) ∧ Kept [] w w' := by
  obtain ⟨i, hi, hz0, hz1, hz2⟩ := info_parts infoEdge
  have HS := hide (small_any h n 20 40 (by omega) (by omega) (by omega) (by omega))
  have HTT := hide (fun W (k : Kept [] w W) => hT.kept k (by simp))
  clear h hT
  go_enter Tryd.func6, Tryd.ntmps6
  go_wp2_with fail
  refine (unhide HS).mono ?_
  rintro e w1 ⟨N0, r1, es, rfl, hr1, hright, hNV, hEl, _, k1⟩
  obtain ⟨ro1, rc1, rfl, _⟩ := hr1.shape
  have HG1 := hide (GVar.new (n := N0) hr1 24)
  have HK1 := hide (k1.alloc (.cells #[.int .i64 N0, .slice ro1 es.length rc1] 24))
  have HR := hide hright
  have HOK := hide (right_rise hright).2.2.2.2
  have u1 : (es.length : Int) ≤ 9223372036854775807 := by omega
  have ga := (unhide HG1).a; have gb := (unhide HG1).b
  clear hr1 k1 hright HS
  go_wp2
  generalize w1.alloc (.cells #[.int .i64 N0, .slice ro1 es.length rc1] 24) = x1 at *
  go_loopw [8, 9] (fun lv kv wr => ∃ (k : Nat) (l : List E) (lo : Option Addr) (lc : Nat), k ≤ es.length ∧ kv = .int .i64 k ∧ lv = .slice lo l.length lc ∧ wr.ownsRow x1.heap.size 30 2 lv l.length (flatE l) ∧ l.length ≤ k ∧ x1.heap.size ≤ wr.heap.size ∧ Hid (Turned es l k ∧ Kept [] x1 wr)) (fun _ kv _ => es.length - (intOf kv).toNat)
  case atStart => exact ⟨0, [], none, 0, Nat.zero_le _, rfl, rfl, ⟨rfl, Or.inl ⟨rfl, rfl⟩⟩, Nat.zero_le _, Nat.le_refl _, Turned.start es, Kept.refl _ _⟩
  case round =>
    obtain ⟨k, l, lo, lc, hk, rfl, rfl, hown, hlk, hsz, hh⟩ := hrel
    have gw := (unhide HG1).kept (unhide hh).2
    have gbw := gw.b
    by_cases hlt : k < es.length
    · obtain ⟨eg, eo, he2, hin⟩ : ∃ eg eo, ro1 = some ⟨eg, eo, none⟩ ∧ EdgesIn wr eg eo es := by
        obtain ⟨ao2, cap2, hv2, _, _, hin2⟩ := gw.e.shape
        obtain ⟨eg, eo, he2, hin⟩ := hin2 (by omega)
        simp at hv2
        exact ⟨eg, eo, by rw [hv2.1, he2], hin⟩
      subst he2
      have d0 := hin.a k hlt
      have d1 := hin.b k hlt
      have hok := okE_iff.1 (unhide HOK _ (List.getElem_mem hlt))
      rw [e_elem hlt] at hok
      simp only at hok
      have HYES := hide ((unhide hh).1.yes hlt rfl rfl hok.2.1)
      have HNO := hide ((unhide hh).1.no hlt)
      have HKR := hide (unhide hh).2
      clear hin gw hok hh
      generalize eA es k = a at *
      generalize eB es k = b at *
      have t0 : (0 : Int) ≤ (k : Int) := by omega
      have t1 : (k : Int) < (es.length : Int) := by omega
      go_wp2_with fail
      · go_region_law (first
          | (refine step_append_src (by rfl) (.tmp 34) (.tmp 48) 22 (by rfl) x1.heap.size 30 i (ev 0 0) 2 16 Tryd.underlying22 hi hz0 hz1 hz2 (by rfl) (by decide) (.slice lo l.length lc) _ _ (by rfl) (own_keep hown (kept_grown (by repeat' first | exact Kept.refl [] wr | apply Kept.alloc | apply Kept.drew)) (by simp)) _ 1 [.int .i64 b, .int .i64 a] (by rfl) (EdgesAt.src (edge_new _ b a 30 1 _ (Nat.le_refl _) rfl)) (by unfold maxLen; omega) (by omega) (by simp; omega) ?_; intro v5 w5 own5 g5; have K5 : Kept [] x1 w5 := Kept.grown (by repeat' first | exact unhide HKR | apply Kept.alloc | apply Kept.drew) g5 (fun j hj => Or.inr (own_block hown j hj)); have own6 : w5.ownsRow x1.heap.size 30 2 v5 (l ++ [(b, a)]).length (flatE (l ++ [(b, a)])) := (by rw [List.length_append, flatE_app]; exact own5)))
        all_goals
          obtain ⟨lo5, lc5, hv5⟩ := own_form own6
          have HV5 := hide hv5
          have HK5 := hide K5
          have hs5 := K5.size
          clear own5 g5 hown hv5 K5
          go_simp
          go_wp2
          go_roundw
          case rel => exact ⟨k + 1, l ++ [(b, a)], lo5, lc5, by omega, by go_num, unhide HV5, own6, by simp; omega, hs5, unhide HYES, unhide HK5⟩
          case measure => simp [intOf]; omega
      · go_wp2
        go_roundw
        case rel => exact ⟨k + 1, l, lo, lc, by omega, by go_num, rfl, hown, by omega, hsz, unhide HNO, unhide HKR⟩
        case measure => simp [intOf]; omega
    · have e : k = es.length := by omega
      subst e
      have HTU := hide (unhide hh).1
      have HKR := hide (unhide hh).2
      obtain ⟨hb, hless, hput, hlen⟩ := turned_less (right_rise (unhide HR)).2.2.2.1 (unhide hh).1
      have hEA := (OwnE.at' hown)
      have hlw : ∀ e ∈ l, WfE e := fun e he => by
        have h1 := okE_iff.1 (unhide HOK _ ((List.take_sublist _ _).mem ((unhide hh).1.sub.mem (List.mem_map.2 ⟨e, he, rfl⟩))))
        have h2 := (unhide hh).1.ok e he
        unfold trn at h1
        simp only at h1
        unfold WfE InI; omega
      have HLW := hide hlw
      have hlc : l.length ≤ lc := by obtain ⟨_, _, e1, e2, _⟩ := hEA.1; simp at e1; omega
      have HC := less_any (n := N0) gw.e hEA.1 hlw
      have hle : lessErr N0 es l = 0 := by unfold lessErr; rw [unhide HR, hless]; rfl
      rw [hle, show lessN N0 es l = N0 by unfold lessN; rw [if_pos hle], show lessE N0 es l = hb by unfold lessE; rw [if_pos hle, hless]; rfl] at HC
      replace HC := hide HC
      have HLA := hide (fun W (k : Kept [] wr W) => hEA.1.kept k)
      have HPUT := hide hput
      have HLEN := hide hlen
      have gaw := gw.a
      have hll : l.length ≤ es.length := by omega
      obtain ⟨W1, h0⟩ : ∃ W1, W1 = wr := ⟨wr, rfl⟩
      subst h0
      clear hown hh hless hput hEA hlw hle hlen
      go_wp2_with fail
      refine (unhide HC).mono ?_
      rintro e w2 ⟨r2, rfl, hr2, _, k2⟩
      obtain ⟨ro2, rc2, rfl, _⟩ := hr2.shape
      have KA := (Kept.refl [] w2).alloc (.cells #[.int .i64 N0, .slice ro2 hb.length rc2] 24)
      have HG2 := hide (GVar.new (n := N0) hr2 24)
      have HKW := hide ((unhide HKR).trans (k2.trans KA))
      have HAW := hide (kawake_any (unhide HTT _ ((unhide HK1).trans (unhide HKW))))
      replace HLA := hide (fun W (k : Kept [] (w2.alloc (.cells #[.int .i64 N0, .slice ro2 hb.length rc2] 24)) W) => unhide HLA _ ((k2.trans KA).trans k))
      have ga2 := (unhide HG2).a; have gb2 := (unhide HG2).b
      clear hr2 k2 KA HC gw gaw gbw
      go_wp2_with fail
      generalize w2.alloc (.cells #[.int .i64 N0, .slice ro2 hb.length rc2] 24) = x2 at *
      refine (unhide HAW).mono ?_
      rintro e x3 ⟨rfl, k3⟩
      have HK3 := hide ((unhide HKW).trans k3)
      have HG3 := hide (fun W (k : Kept [] x3 W) => And.intro ((unhide HG1).kept ((unhide HK3).trans k)) ((unhide HG2).kept (k3.trans k)))
      have HL3 := hide (fun W (k : Kept [] x3 W) => unhide HLA _ (k3.trans k))
      obtain ⟨⟨q1, q2, _⟩, ⟨q3, q4, _⟩⟩ := unhide HG3 _ (Kept.refl [] x3)
      have hsub : IntKind.i64.wrap ((es.length : Int) - (l.length : Int)) = (hb.length : Int) := by have := unhide HLEN; rw [IntWalk.i64_left, IntWalk.wrap64_in _ (by omega)]; omega
      have t5 : ((hb.length : Int) != (hb.length : Int)) = false := by simp
      have u2 : (l.length : Int) ≤ 9223372036854775807 := by omega
      have u3 : (hb.length : Int) ≤ 9223372036854775807 := by have := unhide HLEN; omega
      have HHL := hide (show hb.length ≤ 40 by have := unhide HLEN; omega)
      clear k3 HAW HKW HLA HG2 ga2 gb2
      have KB := (Kept.refl [] x3).alloc (.cells #[.int .i64 N0, .slice ro2 hb.length rc2] 24)
      obtain ⟨p0, p1⟩ := box2 (Kept.refl [] (x3.alloc (.cells #[.int .i64 N0, .slice ro2 hb.length rc2] 24))) (by simp)
      have HPF := hide (box2f (Kept.refl [] (x3.alloc (.cells #[.int .i64 N0, .slice ro2 hb.length rc2] 24))))
      have HKB := hide KB
      have HB0 := hide (show EdgesAt (x3.alloc (.cells #[.int .i64 N0, .slice ro2 hb.length rc2] 24)) (.slice ro2 hb.length rc2) hb ∧ (0 < hb.length → ∀ a x y, (Value.slice ro2 hb.length rc2) = .slice (some a) x y → a.block ≠ x3.heap.size) from ⟨(unhide HG3 _ KB).2.e, fun h0 a x y e => by
        obtain ⟨_, _, e2, _, _, hh⟩ := (unhide HG3 _ (Kept.refl [] x3)).2.e.shape
        obtain ⟨g, o, ha, hg⟩ := hh h0
        have := hg.lt
        simp at e2
        rw [e2.1, ha] at e
        cases e
        simp only
        omega⟩)
      clear KB
      go_wp2
      generalize x3.alloc (.cells #[.int .i64 N0, .slice ro2 hb.length rc2] 24) = x4 at *
      go_loopw [13] (fun kv wr => ∃ (k : Nat) (bs : List E) (bo : Option Addr) (bc : Nat), k ≤ l.length ∧ kv = .int .i64 k ∧ wr.cell? ⟨x3.heap.size, 0, none⟩ = some (.int .i64 N0) ∧ wr.cell? ⟨x3.heap.size, 1, none⟩ = some (.slice bo bs.length bc) ∧ Hid ((wr.frozen? ⟨x3.heap.size, 0, none⟩ = false ∧ wr.frozen? ⟨x3.heap.size, 1, none⟩ = false) ∧ (EdgesAt wr (.slice bo bs.length bc) bs ∧ (0 < bs.length → ∀ a x y, (Value.slice bo bs.length bc) = .slice (some a) x y → a.block ≠ x3.heap.size)) ∧ PutTo es l k bs ∧ Kept [] x3 wr)) (fun kv _ => l.length - (intOf kv).toNat)
      case atStart => exact ⟨0, hb, ro2, rc2, Nat.zero_le _, rfl, p0, p1, unhide HPF, unhide HB0, unhide HPUT, unhide HKB⟩
      case round =>
        obtain ⟨k, bs, bo, bc, hk, rfl, b0, b1, hh⟩ := hrel
        obtain ⟨hfz, ⟨hbe, hbo⟩, hpt, kr⟩ := unhide hh
        have hx3 := lt_of_cell b0
        by_cases hlt : k < l.length
        · obtain ⟨hadd, hnext⟩ := hpt.step (unhide HR) (unhide HTU) (by omega) hlt
          obtain ⟨eg, eo, he2, hin⟩ : ∃ eg eo, lo = some ⟨eg, eo, none⟩ ∧ EdgesIn wr eg eo l := by
            obtain ⟨ao2, cap2, hv2, _, _, hin2⟩ := (unhide HL3 _ kr).shape
            obtain ⟨eg, eo, he2, hin⟩ := hin2 (by omega)
            simp at hv2
            exact ⟨eg, eo, by rw [hv2.1, he2], hin⟩
          subst he2
          have d0 := hin.a k hlt
          have d1 := hin.b k hlt
          generalize eA l k = a at *
          generalize eB l k = b at *
          have HC := fun W (k : Kept [] wr W) => putG_fresh (n := N0) (hbe.kept k) a b
          rw [hadd, show addN N0 bs a b = N0 by unfold addN; rw [if_pos hadd], show addE N0 bs a b = insE bs (trn a b) by unfold addE; rw [if_pos hadd]] at HC
          replace HC := hide HC
          have HN := hide hnext
          have HFZ := hide hfz
          have HKR := hide kr
          have t0 : (0 : Int) ≤ (k : Int) := by omega
          have t1 : (k : Int) < (l.length : Int) := by omega
          clear hin hadd hnext hfz hbe hbo hpt kr hh
          generalize insE bs (trn a b) = cs at *
          go_wp2_with fail
          go_region_held3 (fun W => W.cell? ⟨x3.heap.size, 0, none⟩ = some (.int .i64 N0) ∧ W.cell? ⟨x3.heap.size, 1, none⟩ = some (.slice bo bs.length bc) ∧ W.cell? ⟨eg, eo + k * 2, none⟩ = some (.int .i64 a) ∧ W.cell? ⟨eg, eo + k * 2 + 1, none⟩ = some (.int .i64 b)) (first | exact ⟨kept_cell b0 (by assumption), kept_cell b1 (by assumption), kept_cell d0 (by assumption), kept_cell d1 (by assumption)⟩ | exact ⟨kept_cell b0 (by repeat' first | assumption | exact Kept.refl [] wr | apply Kept.drew | apply Kept.alloc | exact Or.inr (Nat.le_refl _) | apply Kept.setCell), kept_cell b1 (by repeat' first | assumption | exact Kept.refl [] wr | apply Kept.drew | apply Kept.alloc | exact Or.inr (Nat.le_refl _) | apply Kept.setCell), kept_cell d0 (by repeat' first | assumption | exact Kept.refl [] wr | apply Kept.drew | apply Kept.alloc | exact Or.inr (Nat.le_refl _) | apply Kept.setCell), kept_cell d1 (by repeat' first | assumption | exact Kept.refl [] wr | apply Kept.drew | apply Kept.alloc | exact Or.inr (Nat.le_refl _) | apply Kept.setCell)⟩ | go_keep)
            (first
            | (go_at_call 24; refine (unhide HC _ (by repeat' first | exact Kept.refl [] wr | apply Kept.drew | apply Kept.alloc)).mono ?_; rintro e y1 ⟨r, rfl, hr, hfr, k1⟩; have K1 : Kept [] wr y1 := (by refine Kept.trans ?_ k1; repeat' first | exact Kept.refl [] wr | apply Kept.drew | apply Kept.alloc); obtain ⟨co, cc, hrv, _⟩ := hr.shape; subst hrv; (first | (have kd := (Kept.refl [] (wr.alloc (.cells #[.int .i64 0, .slice none 0 0] 24))).drew.trans k1; have by0 := (box2 kd (by simp)).1; have by1 := (box2 kd (by simp)).2; have bg0 := (box2f kd).1; have bg1 := (box2f kd).2) | skip)))
          · have KF := K1.alloc (.cells #[.int .i64 N0, .slice co cs.length cc] 24)
            have hE := hr.kept ((Kept.refl [] y1).alloc (.cells #[.int .i64 N0, .slice co cs.length cc] 24))
            obtain ⟨n0, n1⟩ := box2 (Kept.refl [] (y1.alloc (.cells #[.int .i64 N0, .slice co cs.length cc] 24))) (by simp)
            have hfw : FreshAt wr.heap.size (.slice co cs.length cc) := hfr
            clear hr hfr K1 k1
            have HPB := hide (put_box (N0 := N0) b0 b1 (unhide HFZ) (unhide HKR) KF hE hfw)
            have c0 := kept_cell b0 KF; have c1 := kept_cell b1 KF; have z0 := kept_free b0 (unhide HFZ).1 KF; have z1 := kept_free b1 (unhide HFZ).2 KF
            clear hE hfw KF b0 b1 d0 d1 HFZ HKR
            generalize y1.alloc (.cells #[.int .i64 N0, .slice co cs.length cc] 24) = WF at *
            go_wp2
            go_roundw
            case rel => exact ⟨k + 1, cs, co, cc, by omega, by go_num, (unhide HPB).1, (unhide HPB).2.1, (unhide HPB).2.2.1, (unhide HPB).2.2.2.1, unhide HN, (unhide HPB).2.2.2.2⟩
            case measure => simp [intOf]; omega
          · have ks : Kept [wr.heap.size] y1 ((y1.setCell ⟨wr.heap.size, 0, none⟩ (.int .i64 N0)).setCell ⟨wr.heap.size, 1, none⟩ (.slice co cs.length cc)) := ((Kept.refl _ _).setCell (Or.inl (by simp)) _).setCell (Or.inl (by simp)) _
            have KF := K1.trans' ks (by simp)
            have hfw1 : FreshAt (wr.heap.size + 1) (.slice co cs.length cc) := fun a x y e => by have := hfr a x y e; simpa using this
            have hE := hr.past ks hfw1 (by omega)
            have hfw : FreshAt wr.heap.size (.slice co cs.length cc) := fun a x y e => by have := hfw1 a x y e; omega
            have n0 : ((y1.setCell ⟨wr.heap.size, 0, none⟩ (.int .i64 N0)).setCell ⟨wr.heap.size, 1, none⟩ (.slice co cs.length cc)).cell? ⟨wr.heap.size, 0, none⟩ = some (.int .i64 N0) := by go_simp
            have n1 : ((y1.setCell ⟨wr.heap.size, 0, none⟩ (.int .i64 N0)).setCell ⟨wr.heap.size, 1, none⟩ (.slice co cs.length cc)).cell? ⟨wr.heap.size, 1, none⟩ = some (.slice co cs.length cc) := by go_simp
            clear hr hfr K1 k1 ks hfw1 by0 by1 bg0 bg1 kd
            have HPB := hide (put_box (N0 := N0) b0 b1 (unhide HFZ) (unhide HKR) KF hE hfw)
            have c0 := kept_cell b0 KF; have c1 := kept_cell b1 KF; have z0 := kept_free b0 (unhide HFZ).1 KF; have z1 := kept_free b1 (unhide HFZ).2 KF
            clear hE hfw KF b0 b1 d0 d1 HFZ HKR
            generalize (y1.setCell ⟨wr.heap.size, 0, none⟩ (.int .i64 N0)).setCell ⟨wr.heap.size, 1, none⟩ (.slice co cs.length cc) = WF at *
            go_wp2
            go_roundw
            case rel => exact ⟨k + 1, cs, co, cc, by omega, by go_num, (unhide HPB).1, (unhide HPB).2.1, (unhide HPB).2.2.1, (unhide HPB).2.2.2.1, unhide HN, (unhide HPB).2.2.2.2⟩
            case measure => simp [intOf]; omega
        · have e : k = l.length := by omega
          subst e
          have hbs := hpt.whole (right_rise (unhide HR)).2.2.2.1
          subst hbs
          have HKR := hide kr
          have HBE := hide (fun W (k : Kept [] wr W) => hbe.kept k)
          have HSG := hide (fun W (k : Kept [] wr W) => by
            have := sameGraph_any (n := N0) (m := N0) (hbe.kept k) (unhide HG3 _ (kr.trans k)).1.e
            simp only [eq_self, decide_true, Bool.and_self] at this
            exact this)
          have g1 := (unhide HG3 _ kr).1.a; have g2 := (unhide HG3 _ kr).1.b
          clear hfz hbe hbo hpt hh
          go_wp2_with fail
          refine (unhide HSG _ (Kept.refl [] wr)).mono ?_
          rintro e w5 ⟨rfl, k5⟩
          have HK5 := hide (kr.trans k5)
          by_cases hl0 : l.length = 0
          · have tz : ((l.length : Int) == 0) = true := by simpa using hl0
            have HSG5 := hide (unhide HSG _ k5)
            have v0 := kept_cell b0 k5; have v1 := kept_cell b1 k5; have v2 := kept_cell g1 k5; have v3 := kept_cell g2 k5
            clear hl0 k5 HSG b0 b1 g1 g2
            go_wp2_with fail
            refine (unhide HSG5).mono ?_
            rintro e w6 ⟨rfl, k6⟩
            go_wp2
            go_ret
            exact ⟨rfl, (unhide HK1).trans ((unhide HK3).trans ((unhide HK5).trans k6))⟩
          · have tz : ((l.length : Int) == 0) = false := by simpa using hl0
            have hgone := put_gone (unhide HR) (unhide HPUT) (by omega)
            have HC := fun W (k : Kept [] w5 W) => less_any (n := N0) (unhide HG3 _ ((unhide HK5).trans k)).2.e ((unhide HL3 _ ((unhide HK5).trans k)).take (k := 1) (by omega) lc (by omega)) (fun e he => unhide HLW e (List.mem_of_mem_take he))
            rw [hgone] at HC
            replace HC := hide HC
            have v0 := (unhide HG3 _ (unhide HK5)).2.a; have v1 := (unhide HG3 _ (unhide HK5)).2.b
            have t0 : (1 : Int) ≤ (l.length : Int) := by omega
            have t1 : (1 : Int) ≤ (lc : Int) := by omega
            generalize lessN N0 hb (l.take 1) = LN at *
            generalize lessE N0 hb (l.take 1) = LE at *
            clear hl0 hgone k5 HSG b0 b1 g1 g2 hx3
            go_wp2_with fail
            go_region_held3 (fun W => W.cell? ⟨w2.heap.size, 0, none⟩ = some (.int .i64 N0) ∧ W.cell? ⟨w2.heap.size, 1, none⟩ = some (.slice ro2 hb.length rc2)) (first | exact ⟨kept_cell v0 (by assumption), kept_cell v1 (by assumption)⟩ | exact ⟨kept_cell v0 (by repeat' first | assumption | exact Kept.refl [] w5 | apply Kept.drew | apply Kept.alloc | exact Or.inr (Nat.le_refl _) | apply Kept.setCell), kept_cell v1 (by repeat' first | assumption | exact Kept.refl [] w5 | apply Kept.drew | apply Kept.alloc | exact Or.inr (Nat.le_refl _) | apply Kept.setCell)⟩ | go_keep)
              (first
              | (go_at_call 14; refine (unhide HC _ (by repeat' first | exact Kept.refl [] w5 | apply Kept.drew | apply Kept.alloc)).mono ?_; rintro e y1 ⟨r, rfl, hr, hfr, k1⟩; have K1 : Kept [] w5 y1 := (by refine Kept.trans ?_ k1; repeat' first | exact Kept.refl [] w5 | apply Kept.drew | apply Kept.alloc); obtain ⟨co, cm, cc, hrv⟩ := hr.form; subst hrv; (first | (have kd := (Kept.refl [] (w5.alloc (.cells #[.int .i64 0, .slice none 0 0] 24))).drew.trans k1; have by0 := (box2 kd (by simp)).1; have by1 := (box2 kd (by simp)).2; have bg0 := (box2f kd).1; have bg1 := (box2f kd).2) | skip)))
            · have HE := hide ((unhide HK1).trans ((unhide HK3).trans ((unhide HK5).trans (K1.alloc (.cells #[.int .i64 LN, .slice co cm cc] 24)))))
              clear hr hfr k1 K1
              go_wp2
              go_ret
              exact ⟨rfl, unhide HE⟩
            · have ks : Kept [w5.heap.size] y1 ((y1.setCell ⟨w5.heap.size, 0, none⟩ (.int .i64 LN)).setCell ⟨w5.heap.size, 1, none⟩ (.slice co cm cc)) := ((Kept.refl _ _).setCell (Or.inl (by simp)) _).setCell (Or.inl (by simp)) _
              have HE := hide ((unhide HK1).trans ((unhide HK3).trans ((unhide HK5).trans (K1.trans' ks (by simp)))))
              clear hr hfr k1 K1 ks
              go_wp2
              go_ret
              exact ⟨rfl, unhide HE⟩
theorem edgesK_law (w : World) (n : Int) (_ : InI n) (v : Value) (xs : List Int) (h : IntsAt w v xs) (x : Int) (hT : Tab w) : Calls Tryd.prog 6 #[.int .i64 n, v, .int .u64 x] w fun e w' => e = .returned (.bool true) ∧ Kept [] w w' := edgesK_walk n h x hT
end Go.Proofs.YtcffkgmhonoomaaDoor
