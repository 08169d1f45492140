/- The reference's Keep and Without. The statements' own helpers, of edges: Same, Plain, Graph. Same, Plain of numbers. The reference's Keep and Without, whole; awake. sub.Less: a graph without some edges. sub.Less: the walk. -/
import Derived.Test.YtcffkgmhonoomaaDoorSubEdges16
import Derived.Test.YtcffkgmhonoomaaDoorSubEdges11
import Derived.Deep.RegionHeld3
import Derived.Test.YtcffkgmhonoomaaDoorSubEdges10
import Derived.Test.YtcffkgmhonoomaaDoorSubEdges1
import Derived.Test.YtcffkgmhonoomaaDoorSubEdges15
namespace Go.Proofs.YtcffkgmhonoomaaDoor
open Go.RowKit

theorem nowF_yes {l : List Int} {b : Bool} {v : Nat} (h : decide ((v : Int) ∈ l) = b) : nowF l b v = ((keptL v l b).length : Int) := by unfold nowF; rw [if_pos h]
theorem nowF_no {l : List Int} {b : Bool} {v : Nat} (h : decide ((v : Int) ∈ l) ≠ b) : nowF l b v = -1 := by unfold nowF; rw [if_neg h]

set_option maxRecDepth 20000 in
set_option maxHeartbeats 16000000 in
theorem rsome_any {w : World} {n : Int} {v u : Value} {es : List E} {l : List Int} {bb : Bool} (h : EdgesAt w v es) (hl : IntsAt w u l) :
    Calls Tryd.prog 27 #[gv n v, u, .bool bb] w fun e w' => KeepPost w n es l bb e w' := by
  obtain ⟨i, hi, hz0, hz1, hz2⟩ := info_parts infoEdge
  obtain ⟨j, hj, jz0, jz1, jz2⟩ := info_parts infoInt
  obtain ⟨ao, cap, rfl, _⟩ := h.shape
  obtain ⟨lo, lc, rfl, hlm, _⟩ := hl.shape
  unfold maxLen at hlm
  have F0 := Fr.start w n (.slice ao es.length cap) 24 24
  have HRR := rright_any (n := n) (h.kept F0.kept)
  have HF0 := hide F0
  have HE := hide h
  have HL := hide hl
  have HIS := hide (fun W x => is_any W n x (.slice ao es.length cap))
  clear h hl F0
  cases hr : rightB n es
  · rw [hr] at HRR
    have HRR := hide HRR
    have HC := hide (show keepErr n es l = 3 by unfold keepErr; rw [hr]; rfl)
    clear hr
    go_enter Tryd.func27, Tryd.ntmps27
    go_wp2_with fail
    refine (unhide HRR).mono ?_
    rintro e w1 ⟨rfl, k1⟩
    have F1 := (unhide HF0).go k1
    have HA := hide (keep_no (bb := bb) F1 (unhide HC) (by decide))
    have r0 := F1.r0; have r1 := F1.r1; have f0 := F1.f0; have f1 := F1.f1
    clear F1 k1 HF0
    go_wp2
    exact bodyPost_ret (v := .tuple #[gv 0 (.slice none 0 0), .slice none 0 0, .int .i64 3]) (by simp [results, Tryd.results27, go_sem, r0, r1]) rfl (unhide HA)
  · rw [hr] at HRR
    have HRR := hide HRR
    have HC := hide (show keepErr n es l = listErr n l by unfold keepErr; rw [hr]; rfl)
    obtain ⟨hn0, hn1, hel, _, hok⟩ := right_rise hr
    obtain ⟨N, rfl⟩ := Int.eq_ofNat_of_zero_le hn0
    have HOK := hide hok
    clear hr hok hn0
    go_enter Tryd.func27, Tryd.ntmps27
    go_wp2_with fail
    refine (unhide HRR).mono ?_
    rintro e w1 ⟨rfl, k1⟩
    have HF1 := hide ((unhide HF0).go k1)
    clear k1 HF0 HRR
    go_wp2
    go_loopw [9] (fun kk wr => ∃ k : Nat, k ≤ l.length ∧ kk = .int .i64 k ∧ Hid (Fr w wr (N : Int) (.slice ao es.length cap) ∧ ∀ x ∈ l.take k, 0 ≤ x ∧ x < (N : Int))) (fun kk _ => l.length - (intOf kk).toNat)
    case atStart => exact ⟨0, Nat.zero_le _, rfl, unhide HF1, by simp⟩
    case round =>
      obtain ⟨k, hk, rfl, hh⟩ := hrel
      obtain ⟨FW, hall⟩ := unhide hh
      by_cases hlt : k < l.length
      · obtain ⟨ao2, cap2, hv2, _, hin2⟩ := ((unhide HL).kept FW.kept).shape
        obtain ⟨eg, eo, he2, hin⟩ := hin2 (by omega)
        have hao : lo = some ⟨eg, eo, none⟩ := by simp at hv2; rw [hv2.1, he2]
        subst hao
        have d0 := hin k hlt
        have HTK := hide (take_snoc hlt)
        have HMEM := hide (getD_mem hlt)
        have HALL := hide hall
        have HFW := hide FW
        have c0 := FW.c0; have c1 := FW.c1
        clear hin hin2 hv2 he2 hall FW hh
        generalize l.getD k 0 = x at *
        have t0 : (0 : Int) ≤ (k : Int) := by omega
        have t1 : (k : Int) < (l.length : Int) := by omega
        have HI := hide (fun W => unhide HIS W x)
        by_cases hx : 0 ≤ x ∧ x < (N : Int)
        · rw [show (decide (0 ≤ x) && decide (x < (N : Int))) = true by simp; omega] at HI
          have HN := hide (show ∀ y ∈ l.take (k + 1), 0 ≤ y ∧ y < (N : Int) from fun y hy => by
            rw [unhide HTK] at hy
            rcases List.mem_append.1 hy with h | h
            · exact unhide HALL y h
            · simp at h; omega)
          clear hx
          go_wp2_with fail
          go_region_held3 (fun W => W.cell? ⟨w.heap.size, 0, none⟩ = some (.int .i64 (N : Int)) ∧ W.cell? ⟨w.heap.size, 1, none⟩ = some (.slice ao es.length cap) ∧ W.cell? ⟨eg, eo + k, none⟩ = some (.int .i64 x)) (first | exact ⟨kept_cell c0 K2, kept_cell c1 K2, kept_cell d0 K2⟩ | go_keep)
            (first | (go_at_call 42; refine (unhide HI _).mono ?_; rintro e w2 ⟨rfl, k2⟩; have K2 : Kept [] wr w2 := (Kept.refl [] wr).drew.trans k2))
          have HK2 := hide K2
          clear K2 k2
          go_wp2
          go_roundw
          case rel => exact ⟨k + 1, by omega, by go_num, (unhide HFW).go (unhide HK2), unhide HN⟩
          case measure => simp [intOf]; omega
        · rw [show (decide (0 ≤ x) && decide (x < (N : Int))) = false by simp; omega] at HI
          have HC4 := hide (show keepErr (N : Int) es l = 4 by rw [unhide HC]; unfold listErr; rw [if_neg (fun ha => hx (ha x (unhide HMEM)))])
          clear hx
          go_wp2_with fail
          go_region_held3 (fun W => W.cell? ⟨w.heap.size, 0, none⟩ = some (.int .i64 (N : Int)) ∧ W.cell? ⟨w.heap.size, 1, none⟩ = some (.slice ao es.length cap) ∧ W.cell? ⟨eg, eo + k, none⟩ = some (.int .i64 x)) (first | exact ⟨kept_cell c0 K2, kept_cell c1 K2, kept_cell d0 K2⟩ | go_keep)
            (first | (go_at_call 42; refine (unhide HI _).mono ?_; rintro e w2 ⟨rfl, k2⟩; have K2 : Kept [] wr w2 := (Kept.refl [] wr).drew.trans k2))
          have F2 := (unhide HFW).go K2
          have HA := hide (keep_no (bb := bb) F2 (unhide HC4) (by decide))
          have r0 := F2.r0; have r1 := F2.r1; have f0 := F2.f0; have f1 := F2.f1
          clear F2 K2 k2
          go_wp2
          exact bodyPost_ret (v := .tuple #[gv 0 (.slice none 0 0), .slice none 0 0, .int .i64 4]) (by simp [results, Tryd.results27, go_sem, r0, r1]) rfl (unhide HA)
      · have e : k = l.length := by omega
        subst e
        rw [List.take_length] at hall
        have HALL := hide hall
        have HF2 := hide FW
        obtain ⟨W0, h0⟩ : ∃ W0, W0 = wr := ⟨wr, rfl⟩
        subst h0
        clear hall FW hh
        go_wp2
        go_loopw [10] (fun kk wr => ∃ k : Nat, k ≤ l.length ∧ kk = .int .i64 k ∧ Hid (Kept [] W0 wr ∧ (l.take k).Nodup)) (fun kk _ => l.length - (intOf kk).toNat)
        case atStart => exact ⟨0, Nat.zero_le _, rfl, Kept.refl _ _, by simp⟩
        case round =>
          obtain ⟨k, hk, rfl, hh⟩ := hrel
          obtain ⟨kr, hnd⟩ := unhide hh
          have FW := (unhide HF2).go kr
          by_cases hlt : k < l.length
          · have hlk := (unhide HL).kept FW.kept
            have HIN := hide (fun m x => in_any ((hlk.kept ((Kept.refl [] wr).drewN m)).take (k := k) (by omega)) x)
            obtain ⟨ao2, cap2, hv2, _, hin2⟩ := hlk.shape
            obtain ⟨eg, eo, he2, hin⟩ := hin2 (by omega)
            have hao : lo = some ⟨eg, eo, none⟩ := by simp at hv2; rw [hv2.1, he2]
            subst hao
            have d0 := hin k hlt
            have HTK := hide (take_snoc hlt)
            have HND := hide hnd
            have HKR := hide kr
            have HFW := hide FW
            have hlc : l.length ≤ lc := by
              obtain ⟨a1, a2, a3, a4, _⟩ := hlk
              simp at a3; omega
            clear hin hin2 hv2 he2 hnd kr hh FW hlk
            generalize l.getD k 0 = x at *
            have t0 : (0 : Int) ≤ (k : Int) := by omega
            have t1 : (k : Int) < (l.length : Int) := by omega
            have t2 : (k : Int) ≤ (lc : Int) := by omega
            have HI := hide (fun m => unhide HIN m x)
            by_cases hx : x ∈ l.take k
            · rw [show decide (x ∈ l.take k) = true by simpa using hx] at HI
              have HC6 := hide (show keepErr (N : Int) es l = 6 by
                rw [unhide HC]; unfold listErr
                rw [if_pos (unhide HALL), if_neg (fun hd => ?_)]
                have h1 := hd.sublist (List.take_sublist (k + 1) l)
                rw [unhide HTK, List.nodup_append] at h1
                exact h1.2.2 x hx x (by simp) rfl)
              clear hx HIN
              go_wp2_with fail
              go_quiet ((go_at_call 23; exact Calls.quiet_of_same (unhide HI _)))
              have F2 := (unhide HFW).go ((Kept.refl [] wr).drewN nq)
              have HA := hide (keep_no (bb := bb) F2 (unhide HC6) (by decide))
              have r0 := F2.r0; have r1 := F2.r1; have f0 := F2.f0; have f1 := F2.f1
              clear F2
              generalize wr.drewN nq = wq at *
              go_wp2
              exact bodyPost_ret (v := .tuple #[gv 0 (.slice none 0 0), .slice none 0 0, .int .i64 6]) (by simp [results, Tryd.results27, go_sem, r0, r1]) rfl (unhide HA)
            · rw [show decide (x ∈ l.take k) = false by simpa using hx] at HI
              have HN := hide (show (l.take (k + 1)).Nodup by
                rw [unhide HTK, List.nodup_append]
                exact ⟨unhide HND, by simp, fun a ha b hb e => by simp at hb; subst hb; subst e; exact hx ha⟩)
              clear hx HIN
              go_wp2_with fail
              go_quiet ((go_at_call 23; exact Calls.quiet_of_same (unhide HI _)))
              have HK2 := hide ((unhide HKR).drewN nq)
              generalize wr.drewN nq = wq at *
              go_wp2
              go_roundw
              case rel => exact ⟨k + 1, by omega, by go_num, unhide HK2, unhide HN⟩
              case measure => simp [intOf]; omega
          · have e : k = l.length := by omega
            subst e
            rw [List.take_length] at hnd
            have HC0 := hide (show keepErr (N : Int) es l = 0 by rw [unhide HC]; unfold listErr; rw [if_pos (unhide HALL), if_pos hnd])
            have HF3 := hide FW
            have c0 := FW.c0
            obtain ⟨W1, h0⟩ : ∃ W1, W1 = wr := ⟨wr, rfl⟩
            subst h0
            have hmk := make_ints N (by omega)
            have HOF := hide (OfAt.start W1 N)
            clear hnd FW hh kr HF2 HALL HC
            go_wp2
            have KM := (Kept.refl [] W1).alloc (.cells (madeCells #[.int .i64 0] N) 3)
            have c0' := kept_cell c0 KM
            have HKM := hide KM
            have hgs : W1.heap.size < (W1.alloc (.cells (madeCells #[.int .i64 0] N) 3)).heap.size := by simp
            clear hmk KM
            generalize W1.alloc (.cells (madeCells #[.int .i64 0] N) 3) = W2 at *
            go_loopw [11, 13] (fun lv vv wr => ∃ (k : Nat) (xs : List Int) (uo : Option Addr) (uc : Nat), k ≤ N ∧ vv = .int .i64 k ∧ lv = .slice uo xs.length uc ∧ wr.ownsRow W2.heap.size 3 1 lv xs.length (xs.map (Value.int .i64)) ∧ xs.length ≤ k ∧ Hid (xs = keptL k l bb ∧ Kept [] W1 wr ∧ W2.heap.size ≤ wr.heap.size ∧ ∃ f, OfAt wr W1.heap.size N f ∧ ∀ j, j < k → f j = nowF l bb j)) (fun _ vv _ => N - (intOf vv).toNat)
            case atStart => exact ⟨0, [], none, 0, Nat.zero_le _, rfl, rfl, ⟨rfl, Or.inl ⟨rfl, rfl⟩⟩, Nat.zero_le _, rfl, unhide HKM, Nat.le_refl _, _, unhide HOF, fun j h => by omega⟩
            case round =>
              obtain ⟨k, xs, uo, uc, hk, rfl, rfl, hown, hxk, hh⟩ := hrel
              obtain ⟨hxs, kr, hsz, f, hof, hfn⟩ := unhide hh
              have c0w := kept_cell c0 kr
              by_cases hlt : k < N
              · have g0 := hof.cell k hlt
                have gf := hof.free k
                have t0 : (0 : Int) ≤ (k : Int) := by omega
                have t1 : (k : Int) < (N : Int) := by omega
                have HOF1 := hide (hof.set hlt (-1))
                have KS := kr.setCell (p := ⟨W1.heap.size, k, none⟩) (Or.inr (Nat.le_refl _)) (.int .i64 (-1))
                have HKS := hide KS
                have HIN := hide (in_any ((unhide HL).kept ((unhide HF3).kept.trans KS)) (k : Int))
                have hob := own_block hown
                have hown1 : (wr.setCell ⟨W1.heap.size, k, none⟩ (.int .i64 (-1))).ownsRow W2.heap.size 3 1 (.slice uo xs.length uc) xs.length (xs.map (Value.int .i64)) := own_keep hown (row := some W1.heap.size) ⟨rfl, rfl, rfl, by simp [World.setCell], fun q _ hq => Below.heap_setCell _ _ _ _ (fun e => hq (by have e' : q = W1.heap.size := e; rw [e']))⟩ (fun q hq e => by have := hob q hq; simp at e; omega)
                have g1 : (wr.setCell ⟨W1.heap.size, k, none⟩ (.int .i64 (-1))).cell? ⟨W1.heap.size, k, none⟩ = some (.int .i64 (-1)) := cell_set_eq g0
                have gf1 : (wr.setCell ⟨W1.heap.size, k, none⟩ (.int .i64 (-1))).frozen? ⟨W1.heap.size, k, none⟩ = false := by rw [frozen_set]; exact gf
                have HFN := hide hfn
                have HXS := hide hxs
                have hsz1 : W2.heap.size ≤ (wr.setCell ⟨W1.heap.size, k, none⟩ (.int .i64 (-1))).heap.size := by simpa [World.setCell] using hsz
                obtain ⟨t, ht⟩ : ∃ t, t = decide ((k : Int) ∈ l) := ⟨_, rfl⟩
                rw [← ht] at HIN
                have HTT := hide ht
                clear KS hob hown hof hfn hxs hsz kr hh ht
                go_wp2_with fail
                generalize wr.setCell ⟨W1.heap.size, k, none⟩ (.int .i64 (-1)) = W3 at *
                refine (unhide HIN).mono ?_
                rintro e w4 ⟨rfl, rfl⟩
                by_cases hq : t = bb
                · have hqb : (t == bb) = true := by simpa using hq
                  have HYES := hide (show decide ((k : Int) ∈ l) = bb by rw [← unhide HTT]; exact hq)
                  have HOF2 := hide ((unhide HOF1).set hlt (xs.length : Int))
                  have KS2 := (unhide HKS).setCell (p := ⟨W1.heap.size, k, none⟩) (Or.inr (Nat.le_refl _)) (.int .i64 (xs.length : Int))
                  have HKS2 := hide KS2
                  have hob := own_block hown1
                  have hown2 : (w4.setCell ⟨W1.heap.size, k, none⟩ (.int .i64 (xs.length : Int))).ownsRow W2.heap.size 3 1 (.slice uo xs.length uc) xs.length (xs.map (Value.int .i64)) := own_keep hown1 (row := some W1.heap.size) ⟨rfl, rfl, rfl, by simp [World.setCell], fun q _ hq => Below.heap_setCell _ _ _ _ (fun e => hq (by have e' : q = W1.heap.size := e; rw [e']))⟩ (fun q hq e => by have := hob q hq; simp at e; omega)
                  have hsz2 : W2.heap.size ≤ (w4.setCell ⟨W1.heap.size, k, none⟩ (.int .i64 (xs.length : Int))).heap.size := by simpa [World.setCell] using hsz1
                  have hlx : (xs.length : Int) ≤ 9223372036854775807 := by omega
                  clear hq KS2 hob hown1
                  go_wp2_with (first
                    | (at_builtin; refine wpList_append_own _ rfl (.tmp 73) (.tmp 75) 25 rfl W2.heap.size 3 j (.int .i64 0) 1 8 Tryd.underlying25 hj jz0 jz1 jz2 rfl (by decide) (.slice uo xs.length uc) _ _ rfl (hown2.alloc _) _ 1 _ [.int .i64 (k : Int)] rfl rfl (one_cell' _ _ _ (by first | rfl | simp [World.setCell])) (by simp [Value.oneCell']) (by unfold maxLen; omega) (by omega) (by first | omega | (simp [World.setCell]; omega) | (simp; omega)) ?_; intro v' w6 hown6 g6 _))
                  have HST := hide (show keptL (k + 1) l bb = xs ++ [(k : Int)] by rw [keptL_yes (unhide HYES), unhide HXS])
                  have hob := own_block hown2
                  have HK6 := hide (((unhide HKS2).alloc _).grown g6 (fun q hq => Or.inr (by have := hob q hq; omega)))
                  have hsz6 : W2.heap.size ≤ w6.heap.size := by have := g6.size; simp [World.setCell] at this; omega
                  have HOF6 := hide (show OfAt w6 W1.heap.size N (fun u => if u = k then (xs.length : Int) else if u = k then (-1) else (f u)) from by
                    have h1 := (unhide HOF2).kept ((Kept.refl [] _).alloc (.cells #[.int .i64 (k : Int)] 3))
                    have hb : ∀ q, (Value.slice uo xs.length uc).ownBlock = some q → W1.heap.size ≠ q := fun q hq e => by have := hob q hq; omega
                    exact ⟨fun v hv => by rw [(grown_kept g6).cell h1.lt (by simpa using fun e => hb _ e rfl)]; exact h1.cell v hv, fun v => by rw [(grown_kept g6).frozen h1.lt (by simpa using fun e => hb _ e rfl)]; exact h1.free v, Nat.lt_of_lt_of_le h1.lt (grown_kept g6).size⟩)
                  have HFN6 := hide (show ∀ q, q < k + 1 → (fun u => if u = k then (xs.length : Int) else if u = k then (-1) else (f u)) q = nowF l bb q from fun q hq => by
                    by_cases e : q = k
                    · subst e; simp only [if_true]; rw [nowF_yes (unhide HYES), unhide HXS]
                    · simp only [e, if_false]; exact unhide HFN q (by omega))
                  have own7 : w6.ownsRow W2.heap.size 3 1 v' (xs ++ [(k : Int)]).length ((xs ++ [(k : Int)]).map (Value.int .i64)) := by
                    rw [List.length_append, List.map_append]; exact hown6
                  obtain ⟨lo7, lc7, hv7⟩ := own_form own7
                  have HV7 := hide hv7
                  clear hown6 g6 hob hv7 hown2
                  go_wp2
                  go_roundw
                  case rel => exact ⟨k + 1, xs ++ [(k : Int)], lo7, lc7, by omega, by go_num, unhide HV7, own7, by simp; omega, (unhide HST).symm, unhide HK6, hsz6, _, unhide HOF6, unhide HFN6⟩
                  case measure => simp [intOf]; omega
                · have hqb : (t == bb) = false := by simpa using hq
                  have HNO := hide (show decide ((k : Int) ∈ l) ≠ bb by rw [← unhide HTT]; exact hq)
                  have HST := hide (show keptL (k + 1) l bb = xs by rw [keptL_no (unhide HNO), unhide HXS])
                  have HFN6 := hide (show ∀ q, q < k + 1 → (fun u => if u = k then (-1) else (f u)) q = nowF l bb q from fun q hq => by
                    by_cases e : q = k
                    · subst e; simp only [if_true]; rw [nowF_no (unhide HNO)]
                    · simp only [e, if_false]; exact unhide HFN q (by omega))
                  clear hq
                  go_wp2
                  go_roundw
                  case rel => exact ⟨k + 1, xs, uo, uc, by omega, by go_num, rfl, hown1, by omega, (unhide HST).symm, unhide HKS, hsz1, _, unhide HOF1, unhide HFN6⟩
                  case measure => simp [intOf]; omega
              · have hkN : k = N := by omega
                have hx2 : xs = keptL N l bb := by rw [hxs, hkN]
                have HWAS := hide (show IntsAt wr (.slice uo xs.length uc) (keptL N l bb) ∧ FreshAt W2.heap.size (.slice uo xs.length uc) by rw [← hx2]; exact ints_of_owns hown)
                have HLEN := hide (show ((xs.length : Nat) : Int) = ((keptL ((N : Int)).toNat l bb).length : Nat) by rw [hx2]; simp)
                have HOFN := hide (hof.congr (fun v hv => hfn v (by omega)))
                have HF4 := hide ((unhide HF3).go kr)
                have c1 := (unhide HF4).c1
                have hlx : (xs.length : Int) ≤ 9223372036854775807 := by omega
                obtain ⟨W4, h0⟩ : ∃ W4, W4 = wr := ⟨wr, rfl⟩
                subst h0
                clear hown hxs hx2 hof hfn kr hh hkN
                go_wp2
                obtain ⟨p0, p1⟩ := box2 (Kept.refl [] (W4.alloc (.cells #[.int .i64 (xs.length : Int), .slice none 0 0] 24))) (by simp)
                have HPF := hide (box2f (Kept.refl [] (W4.alloc (.cells #[.int .i64 (xs.length : Int), .slice none 0 0] 24))))
                have HKA := hide ((Kept.refl [] W4).alloc (.cells #[.int .i64 (xs.length : Int), .slice none 0 0] 24))
                have hp5 : W4.heap.size < (W4.alloc (.cells #[.int .i64 (xs.length : Int), .slice none 0 0] 24)).heap.size := by simp
                generalize W4.alloc (.cells #[.int .i64 (xs.length : Int), .slice none 0 0] 24) = W5 at *
                go_loopw [15] (fun kk wr => ∃ (k : Nat) (fs : List E) (ro : Option Addr) (rc : Nat), k ≤ es.length ∧ kk = .int .i64 k ∧ wr.cell? ⟨W4.heap.size, 0, none⟩ = some (.int .i64 (xs.length : Int)) ∧ wr.cell? ⟨W4.heap.size, 1, none⟩ = some (.slice ro fs.length rc) ∧ wr.ownsRow W5.heap.size 30 2 (.slice ro fs.length rc) fs.length (flatE fs) ∧ fs.length ≤ k ∧ W5.heap.size ≤ wr.heap.size ∧ Hid ((wr.frozen? ⟨W4.heap.size, 0, none⟩ = false ∧ wr.frozen? ⟨W4.heap.size, 1, none⟩ = false) ∧ fs = keepE (nowF l bb) (es.take k) ∧ Kept [] W4 wr)) (fun kk _ => es.length - (intOf kk).toNat)
                case atStart => exact ⟨0, [], none, 0, Nat.zero_le _, rfl, p0, p1, ⟨rfl, Or.inl ⟨rfl, rfl⟩⟩, Nat.zero_le _, Nat.le_refl _, unhide HPF, rfl, unhide HKA⟩
                case round =>
                  obtain ⟨k, fs, ro, rc, hk, rfl, q0, q1, hown, hfk, hsz, hh⟩ := hrel
                  obtain ⟨hfz, hfs, kr⟩ := unhide hh
                  by_cases hlt : k < es.length
                  · obtain ⟨eg, eo, he2, hin⟩ : ∃ eg eo, ao = some ⟨eg, eo, none⟩ ∧ EdgesIn wr eg eo es := by
                      obtain ⟨ao2, cap2, hv2, _, _, hin2⟩ := ((unhide HE).kept ((unhide HF4).kept.trans kr)).shape
                      obtain ⟨eg, eo, he2, hin⟩ := hin2 (by omega)
                      simp at hv2
                      exact ⟨eg, eo, by rw [hv2.1, he2], hin⟩
                    subst he2
                    have d0 := hin.a k hlt
                    have d1 := hin.b k hlt
                    have hok := okE_iff.1 (unhide HOK _ (List.getElem_mem hlt))
                    rw [e_elem hlt] at hok
                    have HTK := hide (take_snocE hlt)
                    obtain ⟨a, ha⟩ : ∃ a : Nat, eA es k = (a : Int) := ⟨(eA es k).toNat, by simp only at hok; omega⟩
                    obtain ⟨b, hb⟩ : ∃ b : Nat, eB es k = (b : Int) := ⟨(eB es k).toNat, by simp only at hok; omega⟩
                    rw [ha, hb] at HTK
                    rw [ha] at d0 hok
                    rw [hb] at d1 hok
                    simp only at hok
                    have haN : a < N := by omega
                    have hbN : b < N := by omega
                    have HO1 := (unhide HOFN).kept kr
                    have na := HO1.cell a haN
                    have nb := HO1.cell b hbN
                    have c1w := kept_cell c1 kr
                    have HSA := nowF_sign l bb a
                    have HSB := nowF_sign l bb b
                    have HST := hide (show keepE (nowF l bb) (es.take (k + 1)) = fs ++ (if 0 ≤ nowF l bb a ∧ 0 ≤ nowF l bb b then [(nowF l bb a, nowF l bb b)] else []) by rw [unhide HTK, keepE_snoc, hfs]; simp)
                    have HKR := hide kr
                    have HFZ := hide hfz
                    clear hin ha hb HTK HO1 hok kr hfz hfs hh
                    generalize nowF l bb a = x at *
                    generalize nowF l bb b = y at *
                    have t0 : (0 : Int) ≤ (k : Int) := by omega
                    have t1 : (k : Int) < (es.length : Int) := by omega
                    have t2 : (0 : Int) ≤ (a : Int) := by omega
                    have t3 : (a : Int) < (N : Int) := by omega
                    have t4 : (0 : Int) ≤ (b : Int) := by omega
                    have t5 : (b : Int) < (N : Int) := by omega
                    have hel9 : (es.length : Int) ≤ 9223372036854775807 := by omega
                    go_wp2_with fail
                    go_quiet (fail)
                    have q0' : (wr.drewN nq).cell? ⟨W4.heap.size, 0, none⟩ = some (.int .i64 (xs.length : Int)) := q0
                    have q1' : (wr.drewN nq).cell? ⟨W4.heap.size, 1, none⟩ = some (.slice ro fs.length rc) := q1
                    have hown2 : (wr.drewN nq).ownsRow W5.heap.size 30 2 (.slice ro fs.length rc) fs.length (flatE fs) := own_keep hown (kept_grown ((Kept.refl [] wr).drewN nq)) (by simp)
                    have HKQ := hide ((unhide HKR).drewN nq)
                    have HFQ := hide (show (wr.drewN nq).frozen? ⟨W4.heap.size, 0, none⟩ = false ∧ (wr.drewN nq).frozen? ⟨W4.heap.size, 1, none⟩ = false from unhide HFZ)
                    have hszq : W5.heap.size ≤ (wr.drewN nq).heap.size := hsz
                    clear q0 q1 hown HKR HFZ hsz na nb d0 d1 c1w
                    generalize wr.drewN nq = wq at *
                    by_cases hxy : 0 ≤ x ∧ 0 ≤ y
                    · obtain ⟨hx0, hy0⟩ := hxy
                      have HST1 := hide (show keepE (nowF l bb) (es.take (k + 1)) = fs ++ [(x, y)] by rw [unhide HST, if_pos ⟨hx0, hy0⟩])
                      clear HST HSA HSB
                      go_wp2_with (first
                        | (at_builtin; refine wpList_append_own _ rfl (.tmp 112) (.tmp 116) 22 rfl W5.heap.size 30 i (ev 0 0) 2 16 Tryd.underlying22 hi hz0 hz1 hz2 rfl (by decide) (.slice ro fs.length rc) _ _ rfl (hown2.alloc _) ⟨wq.heap.size, 0, none⟩ 1 1 [.int .i64 x, .int .i64 y] rfl rfl (edge_cells _ _ _ _ _ rfl) (by simp [Value.oneCell']) (by unfold maxLen; omega) (by omega) (by simp; omega) ?_; intro v' w6 hown6 g6 _; have hob := own_block hown2; have K6 : Kept (Value.slice ro fs.length rc).ownBlock.toList wq w6 := (((Kept.refl [] wq).alloc _).mono (by simp)).trans (grown_kept g6); have hne : W4.heap.size ∉ (Value.slice ro fs.length rc).ownBlock.toList := (fun hm => by have := hob _ (by simpa using hm); omega); have z0 := kept_cell' q0' K6 hne; have z1 := kept_cell' q1' K6 hne; have zf0 := kept_free' q0' (unhide HFQ).1 K6 hne; have zf1 := kept_free' q1' (unhide HFQ).2 K6 hne; obtain ⟨lo7, lc7, hv7⟩ := own_form hown6; subst hv7))
                      have hszs := K6.size
                      have HK7 := hide (((unhide HKQ).trans' K6 (fun q hq => Or.inr (by have := hob q (by simpa using hq); omega))).setCell (p := ⟨W4.heap.size, 1, none⟩) (Or.inr (Nat.le_refl _)) (.slice lo7 (fs.length + 1) lc7))
                      have y0 : (w6.setCell ⟨W4.heap.size, 1, none⟩ (.slice lo7 (fs.length + 1) lc7)).cell? ⟨W4.heap.size, 0, none⟩ = some (.int .i64 (xs.length : Int)) := by rw [cell_set_off (by decide)]; exact z0
                      have y1 : (w6.setCell ⟨W4.heap.size, 1, none⟩ (.slice lo7 (fs.length + 1) lc7)).cell? ⟨W4.heap.size, 1, none⟩ = some (.slice lo7 (fs.length + 1) lc7) := cell_set_eq z1
                      have HFQ7 := hide (show (w6.setCell ⟨W4.heap.size, 1, none⟩ (.slice lo7 (fs.length + 1) lc7)).frozen? ⟨W4.heap.size, 0, none⟩ = false ∧ (w6.setCell ⟨W4.heap.size, 1, none⟩ (.slice lo7 (fs.length + 1) lc7)).frozen? ⟨W4.heap.size, 1, none⟩ = false from ⟨by rw [frozen_set]; exact zf0, by rw [frozen_set]; exact zf1⟩)
                      have hob6 := own_block hown6
                      have own7 : (w6.setCell ⟨W4.heap.size, 1, none⟩ (.slice lo7 (fs.length + 1) lc7)).ownsRow W5.heap.size 30 2 (.slice lo7 (fs.length + 1) lc7) (fs.length + 1) (flatE fs ++ [.int .i64 x, .int .i64 y]) := own_keep hown6 (row := some W4.heap.size) ⟨rfl, rfl, rfl, by simp [World.setCell], fun q _ hq => Below.heap_setCell _ _ _ _ (fun e => hq (by have e' : q = W4.heap.size := e; rw [e']))⟩ (fun q hq e => by have := hob6 q hq; simp at e; omega)
                      have hsz7 : W5.heap.size ≤ (w6.setCell ⟨W4.heap.size, 1, none⟩ (.slice lo7 (fs.length + 1) lc7)).heap.size := by simp [World.setCell]; omega
                      clear hown6 g6 hob hob6 hown2 K6 hne z0 z1 zf0 zf1 q0' q1'
                      go_wp2
                      go_roundw
                      case rel => exact ⟨k + 1, fs ++ [(x, y)], lo7, lc7, by omega, by go_num, y0, by rw [List.length_append]; exact y1, by rw [List.length_append, flatE_app]; exact own7, by simp; omega, hsz7, unhide HFQ7, (unhide HST1).symm, unhide HK7⟩
                      case measure => simp [intOf]; omega
                    · have HST1 := hide (show keepE (nowF l bb) (es.take (k + 1)) = fs by rw [unhide HST, if_neg hxy]; simp)
                      have hsplit : x = -1 ∨ (0 ≤ x ∧ y = -1) := by omega
                      clear HST hxy HSA HSB
                      rcases hsplit with rfl | ⟨hx0, rfl⟩
                      all_goals
                        go_wp2
                        go_roundw
                        case rel => exact ⟨k + 1, fs, ro, rc, by omega, by go_num, q0', q1', hown2, by omega, hszq, unhide HFQ, (unhide HST1).symm, unhide HKQ⟩
                        case measure => simp [intOf]; omega
                  · have e : k = es.length := by omega
                    subst e
                    rw [List.take_length] at hfs
                    have F5 := (unhide HF4).go kr
                    have hOE := OwnE.at' hown
                    have hlt2 := lt_of_cell F5.r0
                    have hlt1 := lt_of_cell (unhide HF3).r0
                    have s54 := (unhide HF4).lt
                    rw [hfs] at hOE
                    have hLL : fs.length = (keepE (nowF l bb) es).length := by rw [hfs]
                    rw [← hLL] at hOE
                    have HANS := hide (keep_yes (es := es) (l := l) (bb := bb) F5 (unhide HC0) hOE.1 (by have := (unhide HWAS).1.kept kr; simpa using this) (unhide HLEN) (fun a x y e => by have := hOE.2 a x y e; omega) (fun a x y e => by have := (unhide HWAS).2 a x y e; omega))
                    have r0 := F5.r0; have r1 := F5.r1; have f0 := F5.f0; have f1 := F5.f1; have c1w := F5.c1
                    clear F5 hOE hown hfs kr hh hfz hLL
                    go_wp2
                    exact bodyPost_ret (v := .tuple #[gv (xs.length : Nat) (.slice ro fs.length rc), .slice uo xs.length uc, .int .i64 0]) (by simp [results, Tryd.results27, go_sem, r0, r1]) rfl (unhide HANS)
end Go.Proofs.YtcffkgmhonoomaaDoor

namespace Go.Proofs.YtcffkgmhonoomaaDoor
open Go.RowKit

set_option maxHeartbeats 1000000 in
theorem oneE_any (w : World) (a b c d : Int) : Calls Tryd.prog 50 #[ev a b, ev c d] w fun e w' => e = .returned (.bool (decide ((a, b) = (c, d)))) ∧ Kept [] w w' := by
  by_cases h1 : a = c
  · by_cases h2 : b = d
    · have q1 : (a == c) = true := by simpa using h1
      have q2 : (b == d) = true := by simpa using h2
      rw [show decide ((a, b) = (c, d)) = true by simp [h1, h2]]
      clear h1 h2
      go_enter Tryd.func50, Tryd.ntmps50
      go_wp2
      go_ret
      exact ⟨rfl, ((Kept.refl _ _).alloc _).alloc _⟩
    · have q1 : (a == c) = true := by simpa using h1
      have q2 : (b == d) = false := by simpa using h2
      rw [show decide ((a, b) = (c, d)) = false by simp [h2]]
      clear h1 h2
      go_enter Tryd.func50, Tryd.ntmps50
      go_wp2
      go_ret
      exact ⟨rfl, ((Kept.refl _ _).alloc _).alloc _⟩
  · have q1 : (a == c) = false := by simpa using h1
    rw [show decide ((a, b) = (c, d)) = false by simp [h1]]
    clear h1
    go_enter Tryd.func50, Tryd.ntmps50
    go_wp2
    go_ret
    exact ⟨rfl, ((Kept.refl _ _).alloc _).alloc _⟩

set_option maxHeartbeats 400000 in
theorem sameE_ne (w : World) (ao bo : Option Addr) (la ca lb cb : Nat) (f : Value) (hne : ((la : Int) != (lb : Int)) = true) :
    Calls Tryd.prog 49 #[.slice ao la ca, .slice bo lb cb, f] w fun e w' => e = .returned (.bool false) ∧ w' = w := by
  go_enter Tryd.func49, Tryd.ntmps49
  go_wp2
  go_ret
  exact ⟨rfl, rfl⟩

theorem eq_of_at {es fs : List E} (hl : es.length = fs.length) (h : ∀ j, j < es.length → (eA es j, eB es j) = (eA fs j, eB fs j)) : es = fs := by
  apply List.ext_getElem hl
  intro i h1 h2
  rw [e_elem h1, e_elem h2]
  exact h i h1

set_option maxHeartbeats 2000000 in
theorem sameE_core (w : World) (ao bo : Option Addr) (ca cb L : Nat) (es fs : List E) (hx : es.length = L) (hy : fs.length = L) (hL : L ≤ 9223372036854775807) (hxc : Hid (0 < L → ∃ g o, ao = some ⟨g, o, none⟩ ∧ EdgesIn w g o es)) (hyc : Hid (0 < L → ∃ g o, bo = some ⟨g, o, none⟩ ∧ EdgesIn w g o fs)) :
    Calls Tryd.prog 49 #[.slice ao L ca, .slice bo L cb, .func (.func 50) #[] #[]] w fun e w' => e = .returned (.bool (decide (es = fs))) ∧ Kept [] w w' := by
  have HX := hide hx
  have HY := hide hy
  clear hx hy
  go_enter Tryd.func49, Tryd.ntmps49
  go_wp2
  go_loopw [7] (fun i wr => ∃ k : Nat, k ≤ L ∧ i = .int .i64 k ∧ Hid (Kept [] w wr ∧ ∀ j, j < k → (eA es j, eB es j) = (eA fs j, eB fs j))) (fun i _ => L - (intOf i).toNat)
  case atStart => exact ⟨0, Nat.zero_le _, rfl, Kept.refl _ _, fun j h => by omega⟩
  case round =>
    obtain ⟨k, hk, rfl, hh⟩ := hrel
    by_cases hlt : k < L
    · obtain ⟨g, o, rfl, hin⟩ := unhide hxc (by omega)
      obtain ⟨g', o', rfl, hin'⟩ := unhide hyc (by omega)
      have hg := hin.keptAt (unhide hh).1 (by simp)
      have hg' := hin'.keptAt (unhide hh).1 (by simp)
      have d0 := hg.a k (by rw [unhide HX]; exact hlt)
      have d1 := hg.b k (by rw [unhide HX]; exact hlt)
      have d2 := hg'.a k (by rw [unhide HY]; exact hlt)
      have d3 := hg'.b k (by rw [unhide HY]; exact hlt)
      clear hg hin hg' hin'
      have k0 : (0 : Int) ≤ (k : Int) := by omega
      have k1 : (k : Int) < (L : Int) := by omega
      have HA := hide (show (eA es k, eB es k) = (eA es k, eB es k) from rfl)
      have HN := hide (show (eA es k, eB es k) = (eA fs k, eB fs k) → ∀ j, j < k + 1 → (eA es j, eB es j) = (eA fs j, eB fs j) from fun he j hj => by
        by_cases e : j = k
        · subst e; exact he
        · exact (unhide hh).2 j (by omega))
      have HF := hide (show ¬ (eA es k, eB es k) = (eA fs k, eB fs k) → decide (es = fs) = false from fun he => by simp; intro e; exact he (by rw [e]))
      generalize eA es k = a at *
      generalize eB es k = b at *
      generalize eA fs k = c at *
      generalize eB fs k = d at *
      have hone := hide (fun W => oneE_any W a b c d)
      clear HA
      by_cases he : (a, b) = (c, d)
      · rw [decide_eq_true he] at hone
        have hno := hide (unhide HN he)
        clear he HN HF
        go_wp2_with fail
        go_region_held3 (fun W => W.cell? ⟨g, o + k * 2, none⟩ = some (.int .i64 a) ∧ W.cell? ⟨g, o + k * 2 + 1, none⟩ = some (.int .i64 b) ∧ W.cell? ⟨g', o' + k * 2, none⟩ = some (.int .i64 c) ∧ W.cell? ⟨g', o' + k * 2 + 1, none⟩ = some (.int .i64 d)) (first | go_keep | exact ⟨kept_cell d0 q1', kept_cell d1 q1', kept_cell d2 q1', kept_cell d3 q1'⟩)
          (first | (go_at_call 50; refine (unhide hone _).mono ?_; rintro e w1 ⟨rfl, q1⟩; have q1' : Kept [] wr w1 := (Kept.refl [] _).drew.trans q1))
        go_wp2
        go_roundw
        case rel => exact ⟨k + 1, by omega, by go_num, (unhide hh).1.trans q1', unhide hno⟩
        case measure => simp [intOf]; omega
      · rw [decide_eq_false he] at hone
        have hno := hide (unhide HF he)
        clear he HN HF
        go_wp2_with fail
        go_region_held3 (fun W => W.cell? ⟨g, o + k * 2, none⟩ = some (.int .i64 a) ∧ W.cell? ⟨g, o + k * 2 + 1, none⟩ = some (.int .i64 b) ∧ W.cell? ⟨g', o' + k * 2, none⟩ = some (.int .i64 c) ∧ W.cell? ⟨g', o' + k * 2 + 1, none⟩ = some (.int .i64 d)) (first | go_keep | exact ⟨kept_cell d0 q1', kept_cell d1 q1', kept_cell d2 q1', kept_cell d3 q1'⟩)
          (first | (go_at_call 50; refine (unhide hone _).mono ?_; rintro e w1 ⟨rfl, q1⟩; have q1' : Kept [] wr w1 := (Kept.refl [] _).drew.trans q1))
        go_wp2
        go_ret
        exact ⟨ret_bool (unhide hno).symm, (unhide hh).1.trans q1'⟩
    · have hfin := hide (show decide (es = fs) = true by
        simp
        exact eq_of_at (by rw [unhide HX, unhide HY]) (fun j hj => (unhide hh).2 j (by rw [unhide HX] at hj; omega)))
      go_wp2
      go_ret
      exact ⟨ret_bool (unhide hfin).symm, (unhide hh).1⟩

set_option maxHeartbeats 400000 in
theorem plainE_any {w : World} {u v : Value} {es fs : List E} (hu : EdgesAt w u es) (hv : EdgesAt w v fs) :
    Calls Tryd.prog 32 #[u, v] w fun e w' => e = .returned (.bool (decide (es = fs))) ∧ Kept [] w w' := by
  obtain ⟨ao, ca, rfl, hma, _, hca⟩ := hu.shape
  obtain ⟨bo, cb, rfl, hmb, _, hcb⟩ := hv.shape
  have H : Calls Tryd.prog 49 #[.slice ao es.length ca, .slice bo fs.length cb, .func (.func 50) #[] #[]] w fun e w' => e = .returned (.bool (decide (es = fs))) ∧ Kept [] w w' := by
    by_cases hl : es.length = fs.length
    · unfold maxLen at hma
      rw [← hl]
      exact sameE_core w ao bo ca cb es.length es fs rfl hl.symm (by omega) (hide hca) (hide (by rw [hl]; exact hcb))
    · have e : decide (es = fs) = false := by simp; intro h; exact hl (by rw [h])
      rw [e]
      exact (sameE_ne w ao bo _ ca _ cb _ (by simp; omega)).mono fun _ _ h => ⟨h.1, h.2 ▸ Kept.refl _ _⟩
  have HH := hide H
  clear H hu hv hca hcb
  go_enter Tryd.func32, Tryd.ntmps32
  go_wp2_with (go_at_call 49; refine (unhide HH).mono ?_; rintro e w' ⟨rfl, k⟩)
  go_ret
  exact ⟨rfl, k⟩

set_option maxHeartbeats 1000000 in
theorem sameGraph_any {w : World} {n m : Int} {u v : Value} {es fs : List E} (hu : EdgesAt w u es) (hv : EdgesAt w v fs) :
    Calls Tryd.prog 16 #[gv n u, gv m v] w fun e w' => e = .returned (.bool (decide (n = m) && decide (es = fs))) ∧ Kept [] w w' := by
  obtain ⟨ao, ca, rfl, hma, _, hca⟩ := hu.shape
  obtain ⟨bo, cb, rfl, hmb, _, hcb⟩ := hv.shape
  have HP := hide (fun W (k : Kept [] w W) => plainE_any (hu.kept k) (hv.kept k))
  clear hu hv hca hcb hma hmb
  by_cases h : n = m
  · have hq : (n == m) = true := by simpa using h
    rw [decide_eq_true h, Bool.true_and]
    clear h
    generalize decide (es = fs) = q at *
    go_enter Tryd.func16, Tryd.ntmps16
    go_wp2_with fail
    refine (unhide HP _ (((Kept.refl [] w).alloc _).alloc _)).mono ?_
    rintro e w1 ⟨rfl, k1⟩
    go_wp2
    go_ret
    exact ⟨rfl, (((Kept.refl [] w).alloc _).alloc _).trans k1⟩
  · have hq : (n == m) = false := by simpa using h
    rw [decide_eq_false h, Bool.false_and]
    clear h HP
    go_enter Tryd.func16, Tryd.ntmps16
    go_wp2
    go_ret
    exact ⟨rfl, ((Kept.refl [] w).alloc _).alloc _⟩
end Go.Proofs.YtcffkgmhonoomaaDoor

namespace Go.Proofs.YtcffkgmhonoomaaDoor
open Go.RowKit

theorem eq_of_getD {xs ys : List Int} (hl : xs.length = ys.length) (h : ∀ j, j < xs.length → xs.getD j 0 = ys.getD j 0) : xs = ys := by
  apply List.ext_getElem hl
  intro i h1 h2
  have := h i h1
  rw [getD_elem h1, getD_elem h2] at this
  exact this
set_option maxHeartbeats 400000 in
theorem one_any (w : World) (x y : Int) : Calls Tryd.prog 34 #[.int .i64 x, .int .i64 y] w fun e w' => e = .returned (.bool (x == y)) ∧ w' = w := by
  go_enter Tryd.func34, Tryd.ntmps34
  go_wp2
  go_ret
  exact ⟨rfl, rfl⟩
set_option maxHeartbeats 400000 in
theorem same_ne (w : World) (ao bo : Option Addr) (la ca lb cb : Nat) (f : Value) (hne : ((la : Int) != (lb : Int)) = true) :
    Calls Tryd.prog 33 #[.slice ao la ca, .slice bo lb cb, f] w fun e w' => e = .returned (.bool false) ∧ w' = w := by
  go_enter Tryd.func33, Tryd.ntmps33
  go_wp2
  go_ret
  exact ⟨rfl, rfl⟩
set_option maxHeartbeats 400000 in
theorem same_zero (w : World) (ao bo : Option Addr) (ca cb : Nat) (f : Value) :
    Calls Tryd.prog 33 #[.slice ao 0 ca, .slice bo 0 cb, f] w fun e w' => e = .returned (.bool true) ∧ w' = w := by
  go_enter Tryd.func33, Tryd.ntmps33
  go_wp2
  go_loop [7] (fun i => i = .int .i64 0) (fun _ => 0)
  case atStart => rfl
  case round =>
    subst hrel
    go_wp2
    go_ret
    exact ⟨rfl, rfl⟩
set_option maxHeartbeats 1000000 in
theorem same_core (w : World) (ga oa gb ob ca cb L : Nat) (xs ys : List Int) (hx : xs.length = L) (hy : ys.length = L) (hL : L ≤ 9223372036854775807) (hxc : Hid (∀ i, i < L → w.cell? ⟨ga, oa + i, none⟩ = some (.int .i64 (xs.getD i 0)))) (hyc : Hid (∀ i, i < L → w.cell? ⟨gb, ob + i, none⟩ = some (.int .i64 (ys.getD i 0)))) :
    Calls Tryd.prog 33 #[.slice (some ⟨ga, oa, none⟩) L ca, .slice (some ⟨gb, ob, none⟩) L cb, .func (.func 34) #[] #[]] w fun e w' => e = .returned (.bool (decide (xs = ys))) ∧ ∃ m, w' = w.drewN m := by
  have HX := hide hx
  have HY := hide hy
  clear hx hy
  go_enter Tryd.func33, Tryd.ntmps33
  go_wp2
  go_loopw [7] (fun i wr => ∃ k m : Nat, k ≤ L ∧ i = .int .i64 k ∧ wr = w.drewN m ∧ Hid (∀ j, j < k → xs.getD j 0 = ys.getD j 0)) (fun i _ => L - (intOf i).toNat)
  case atStart => exact ⟨0, 0, Nat.zero_le _, rfl, rfl, fun j h => by omega⟩
  case round =>
    obtain ⟨k, m, hk, rfl, hwr, hall⟩ := hrel
    have HW := hide hwr
    by_cases hlt : k < L
    · have hc1 : wr.cell? ⟨ga, oa + k, none⟩ = some (.int .i64 (xs.getD k 0)) := by rw [hwr]; exact unhide hxc k hlt
      have hc2 : wr.cell? ⟨gb, ob + k, none⟩ = some (.int .i64 (ys.getD k 0)) := by rw [hwr]; exact unhide hyc k hlt
      clear hwr
      by_cases he : xs.getD k 0 = ys.getD k 0
      · have hq : (xs.getD k 0 == ys.getD k 0) = true := by simpa using he
        have hall2 := hide (show ∀ j, j < k + 1 → xs.getD j 0 = ys.getD j 0 from fun j hj => by
          by_cases e : j = k
          · subst e; exact he
          · exact unhide hall j (by omega))
        clear he
        generalize xs.getD k 0 = x at *
        generalize ys.getD k 0 = y at *
        have hone := hide (fun W => one_any W x y)
        go_wp2_with fail
        go_quiet ((go_at_call 34; exact Calls.quiet_of_same (unhide hone _)))
        go_wp2
        go_roundw
        case rel => exact ⟨k + 1, m + nq, by omega, by go_num, by rw [unhide HW, World.drewN_drewN], hall2⟩
        case measure => simp [intOf]; omega
      · have hq : (xs.getD k 0 == ys.getD k 0) = false := by simpa using he
        have hfin := hide (show decide (xs = ys) = false by simp; intro e; exact he (by rw [e]))
        clear he
        generalize xs.getD k 0 = x at *
        generalize ys.getD k 0 = y at *
        have hone := hide (fun W => one_any W x y)
        go_wp2_with fail
        go_quiet ((go_at_call 34; exact Calls.quiet_of_same (unhide hone _)))
        go_wp2
        go_ret
        exact ⟨ret_bool (unhide hfin).symm, m + nq, by rw [unhide HW, World.drewN_drewN]⟩
    · have hfin := hide (show decide (xs = ys) = true by
        simp
        exact eq_of_getD (by rw [unhide HX, unhide HY]) (fun j hj => unhide hall j (by rw [unhide HX] at hj; omega)))
      clear hwr
      go_wp2
      go_ret
      exact ⟨ret_bool (unhide hfin).symm, m, unhide HW⟩

/-- Plain: are two lists the same? -/
theorem same_any {w : World} {a b : Value} {xs ys : List Int} (ha : IntsAt w a xs) (hb : IntsAt w b ys) :
    Calls Tryd.prog 33 #[a, b, .func (.func 34) #[] #[]] w fun e w' => e = .returned (.bool (decide (xs = ys))) ∧ ∃ m, w' = w.drewN m := by
  obtain ⟨ao, ca, rfl, hma, hca⟩ := ha.shape
  obtain ⟨bo, cb, rfl, hmb, hcb⟩ := hb.shape
  by_cases hl : xs.length = ys.length
  · by_cases h0 : xs.length = 0
    · have e1 : xs = [] := List.eq_nil_of_length_eq_zero h0
      have e2 : ys = [] := List.eq_nil_of_length_eq_zero (by omega)
      subst e1 e2
      exact (same_zero w ao bo ca cb _).mono fun e w' h => ⟨by rw [h.1]; simp, 0, h.2⟩
    · obtain ⟨ga, oa, rfl, h1⟩ := hca (by omega)
      obtain ⟨gb, ob, rfl, h2⟩ := hcb (by omega)
      unfold maxLen at hma
      rw [← hl] at h2 ⊢
      exact same_core w ga oa gb ob ca cb xs.length xs ys rfl hl.symm (by omega) (hide h1) (hide h2)
  · have e : decide (xs = ys) = false := by simp; intro h; exact hl (by rw [h])
    rw [e]
    exact (same_ne w ao bo _ ca _ cb _ (by simp; omega)).mono fun e w' h => ⟨h.1, 0, h.2⟩

set_option maxHeartbeats 400000 in
theorem plain_any {w : World} {a b : Value} {xs ys : List Int} (ha : IntsAt w a xs) (hb : IntsAt w b ys) :
    Calls Tryd.prog 17 #[a, b] w fun e w' => e = .returned (.bool (decide (xs = ys))) ∧ ∃ m, w' = w.drewN m := by
  have H := hide (same_any ha hb)
  clear ha hb
  go_enter Tryd.func17, Tryd.ntmps17
  go_wp2_with (go_at_call 33; refine (unhide H).mono ?_; rintro e w' ⟨rfl, m, rfl⟩)
  go_ret
  exact ⟨rfl, m, rfl⟩

end Go.Proofs.YtcffkgmhonoomaaDoor

namespace Go.Proofs.YtcffkgmhonoomaaDoor
open Go.RowKit

theorem keep_pass {w W W' : World} {n n' : Int} {v r u : Value} {es : List E} {l : List Int} {bb : Bool} (F : Fr w W n' v) (k : Kept [] W W') (hr : EdgesAt W' r (keepES n es l bb)) (hu : IntsAt W' u (keepWas n es l bb)) (hfr : FreshAt W.heap.size r) (hfu : FreshAt W.heap.size u) :
    KeepPost w n es l bb (.returned (.tuple #[gv ((keepWas n es l bb).length : Nat) r, u, .int .i64 (keepErr n es l)])) ((W'.setCell ⟨w.heap.size + 1, 0, none⟩ (.int .i64 ((keepWas n es l bb).length : Nat))).setCell ⟨w.heap.size + 1, 1, none⟩ r) := by
  have hlt := F.lt
  have hw := F.write k (.int .i64 ((keepWas n es l bb).length : Nat)) r
  exact ⟨_, _, rfl, hr.past hw.2 hfr (by omega), hu.past hw.2 hfu (by omega), fun a x y e => by have := hfr a x y e; omega, fun a x y e => by have := hfu a x y e; omega, hw.1⟩

set_option maxRecDepth 20000 in
set_option maxHeartbeats 4000000 in
theorem rkeep_any {w : World} {n : Int} {v u : Value} {es : List E} {l : List Int} (h : EdgesAt w v es) (hl : IntsAt w u l) :
    Calls Tryd.prog 11 #[gv n v, u] w fun e w' => KeepPost w n es l true e w' := by
  obtain ⟨ao, cap, rfl, _⟩ := h.shape
  have F0 := Fr.start w n (.slice ao es.length cap) 24 24
  have HC := hide (rsome_any (n := n) (bb := true) (h.kept F0.kept) (hl.kept F0.kept))
  have HF0 := hide F0
  clear h hl F0
  go_enter Tryd.func11, Tryd.ntmps11
  go_wp2_with fail
  refine (unhide HC).mono ?_
  rintro e w1 ⟨r, uu, rfl, hr, hu, hfr, hfu, k1⟩
  have HA := hide (keep_pass (unhide HF0) k1 hr hu hfr hfu)
  have F1 := (unhide HF0).go k1
  have r0 := F1.r0; have r1 := F1.r1; have f0 := F1.f0; have f1 := F1.f1
  obtain ⟨ro, rm, rc, rfl⟩ := hr.form
  generalize keepErr n es l = c at *
  generalize (keepWas n es l true).length = L at *
  clear F1 hr hu hfr hfu k1 HF0
  go_wp2
  exact bodyPost_ret (v := .tuple #[gv L (.slice ro rm rc), uu, .int .i64 c]) (by simp [results, Tryd.results11, go_sem, r0, r1]) rfl (unhide HA)

set_option maxRecDepth 20000 in
set_option maxHeartbeats 4000000 in
theorem rkwithout_any {w : World} {n : Int} {v u : Value} {es : List E} {l : List Int} (h : EdgesAt w v es) (hl : IntsAt w u l) :
    Calls Tryd.prog 13 #[gv n v, u] w fun e w' => KeepPost w n es l false e w' := by
  obtain ⟨ao, cap, rfl, _⟩ := h.shape
  have F0 := Fr.start w n (.slice ao es.length cap) 24 24
  have HC := hide (rsome_any (n := n) (bb := false) (h.kept F0.kept) (hl.kept F0.kept))
  have HF0 := hide F0
  clear h hl F0
  go_enter Tryd.func13, Tryd.ntmps13
  go_wp2_with fail
  refine (unhide HC).mono ?_
  rintro e w1 ⟨r, uu, rfl, hr, hu, hfr, hfu, k1⟩
  have HA := hide (keep_pass (unhide HF0) k1 hr hu hfr hfu)
  have F1 := (unhide HF0).go k1
  have r0 := F1.r0; have r1 := F1.r1; have f0 := F1.f0; have f1 := F1.f1
  obtain ⟨ro, rm, rc, rfl⟩ := hr.form
  generalize keepErr n es l = c at *
  generalize (keepWas n es l false).length = L at *
  clear F1 hr hu hfr hfu k1 HF0
  go_wp2
  exact bodyPost_ret (v := .tuple #[gv L (.slice ro rm rc), uu, .int .i64 c]) (by simp [results, Tryd.results13, go_sem, r0, r1]) rfl (unhide HA)
def es2 : List E := [(0, 1), (1, 2)]
theorem edges2 (w : World) : EdgesAt (w.alloc (.cells #[.int .i64 0, .int .i64 1, .int .i64 1, .int .i64 2] 30)) (.slice (some ⟨w.heap.size, 0, none⟩) 2 2) es2 := by
  refine ⟨some ⟨w.heap.size, 0, none⟩, 2, rfl, Nat.le_refl _, by unfold maxLen; decide, fun _ => ⟨w.heap.size, 0, rfl, by simp, fun i hi => ?_, fun i hi => ?_⟩⟩
  · rw [cell_of_block (new_block w _)]
    match i, hi with
    | 0, _ => rfl
    | 1, _ => rfl
  · rw [cell_of_block (new_block w _)]
    match i, hi with
    | 0, _ => rfl
    | 1, _ => rfl
theorem ints2 (w : World) (x y : Int) (p : Nat) (hp : p = w.heap.size) : IntsAt (w.alloc (.cells #[.int .i64 x, .int .i64 y] 3)) (.slice (some ⟨p, 0, none⟩) 2 2) [x, y] := by
  subst hp
  refine ⟨_, 2, rfl, Nat.le_refl _, by unfold maxLen; simp, fun _ => ⟨w.heap.size, 0, rfl, by simp, fun i hi => ?_⟩⟩
  rw [cell_of_block (new_block w _)]
  match i, hi with
  | 0, _ => rfl
  | 1, _ => rfl

set_option maxRecDepth 20000 in
set_option maxHeartbeats 4000000 in
theorem kawake_any {w : World} (hT : Tab w) : Calls Tryd.prog 7 #[] w fun e w' => e = .returned (.bool true) ∧ Kept [] w w' := by
  have K0 := (((Kept.refl [] w).alloc (.cells #[.int .i64 0, .int .i64 1, .int .i64 1, .int .i64 2] 30)).alloc (.cells #[.int .i64 3, .slice (some ⟨w.heap.size, 0, none⟩) 2 2] 24)).alloc (.cells #[.int .i64 2, .int .i64 1] 3)
  have KE := ((Kept.refl [] (w.alloc (.cells #[.int .i64 0, .int .i64 1, .int .i64 1, .int .i64 2] 30))).alloc (.cells #[.int .i64 3, .slice (some ⟨w.heap.size, 0, none⟩) 2 2] 24)).alloc (.cells #[.int .i64 2, .int .i64 1] 3)
  have HKP := keep_any (n := 3) ((edges2 w).kept KE) (ints2 _ 2 1 (w.heap.size + 1 + 1) (by simp)) (hT.kept K0 (by simp))
  unfold KeepPost at HKP
  rw [show keepErr 3 es2 [2, 1] = 0 by decide +kernel, show keepWas 3 es2 [2, 1] true = [1, 2] by decide +kernel, show keepES 3 es2 [2, 1] true = [(0, 1)] by decide +kernel] at HKP
  replace HKP := hide HKP
  have HK0 := hide K0
  clear K0 KE hT
  go_enter Tryd.func7, Tryd.ntmps7
  go_wp2_with fail
  refine (unhide HKP).mono ?_
  rintro e w1 ⟨r, u, rfl, hr, hu, _, _, k1⟩
  obtain ⟨ro, rc, rfl, _⟩ := hr.shape
  obtain ⟨uo, uc, rfl, _⟩ := hu.shape
  have KA := (Kept.refl [] w1).alloc (.cells #[.int .i64 2, .slice ro 1 rc] 24)
  have KI := KA.alloc (.cells #[.int .i64 1, .int .i64 2] 3)
  have HPL := plain_any (hu.kept KI) (ints2 (w1.alloc (.cells #[.int .i64 2, .slice ro 1 rc] 24)) 1 2 (w1.heap.size + 1) (by simp))
  rw [show decide (([1, 2] : List Int) = [1, 2]) = true by simp] at HPL
  replace HPL := hide HPL
  have HKF := hide (((unhide HK0).trans k1).trans KI)
  clear hr hu KA KI k1 HKP HK0
  go_wp2_with fail
  refine (unhide HPL).mono ?_
  rintro e w2 ⟨rfl, m, rfl⟩
  go_wp2
  go_ret
  exact ⟨rfl, (unhide HKF).drewN m⟩
end Go.Proofs.YtcffkgmhonoomaaDoor

namespace Go.Proofs.YtcffkgmhonoomaaDoor
open Go.RowKit Go.Maps Go.WideMaps

/-- A set has just some edges. -/
def OnlyE (D : DataW Unit) (xs : List E) : Prop := IsMap D ∧ ∀ e, WfE e → Maps.has D (litE e) = decide (e ∈ xs)
theorem OnlyE.start : OnlyE (.map []) [] := ⟨⟨[], rfl⟩, fun e _ => by simp [Maps.has_eq]⟩
theorem litE_key (e : E) : WideAt.IsKeyLit (litE e) := by trivial
theorem OnlyE.put {D : DataW Unit} {xs : List E} (h : OnlyE D xs) {e : E} (he : WfE e) : OnlyE (D.put (litE e) (.agg [])) (xs ++ [e]) := by
  obtain ⟨hm, hh⟩ := h
  refine ⟨IsMap.put hm _ _, fun x hx => ?_⟩
  by_cases c : x = e
  · subst c; rw [has_put_same hm (litE_key x)]; simp
  · rw [has_put_other (fun k => c (litE_inj hx he k)), hh x hx]; simp [c]
theorem OnlyE.del {D : DataW Unit} {xs : List E} (h : OnlyE D xs) (hn : xs.Nodup) {e : E} (he : WfE e) : OnlyE (D.del (litE e)) (delE xs e) := by
  obtain ⟨hm, hh⟩ := h
  refine ⟨IsMap.del hm _, fun x hx => ?_⟩
  by_cases c : x = e
  · subst c
    rw [has_del_same]
    symm
    rw [decide_eq_false_iff_not, delE_mem hn]
    simp
  · rw [has_del_other (fun k => c (litE_inj hx he k)), hh x hx]
    congr 1
    apply propext
    rw [delE_mem hn]
    simp [c]
def lessErr (n : Int) (es l : List E) : Int := if rightB n es = true then (if (lessR es l).isSome then 0 else 7) else 3
def lessN (n : Int) (es l : List E) : Int := if lessErr n es l = 0 then n else 0
def lessE (n : Int) (es l : List E) : List E := if lessErr n es l = 0 then (lessR es l).getD [] else []
theorem less_no {w w' : World} {n : Int} {es l : List E} {c : Int} {e : Ending} (hc : lessErr n es l = c) (h0 : c ≠ 0) (h : Answers w w' e 0 [] c) : Answers w w' e (lessN n es l) (lessE n es l) (lessErr n es l) := by
  unfold lessN lessE; rw [hc, if_neg h0, if_neg h0]; exact h
theorem less_yes {w w' : World} {n : Int} {es l xs : List E} {e : Ending} (hr : rightB n es = true) (hl : lessR es l = some xs) (h : Answers w w' e n xs 0) : Answers w w' e (lessN n es l) (lessE n es l) (lessErr n es l) := by
  have hc : lessErr n es l = 0 := by unfold lessErr; rw [hr, hl]; rfl
  unfold lessN lessE; rw [hc, if_pos rfl, if_pos rfl, hl]; exact h
theorem right_wf {n : Int} {es : List E} (hr : rightB n es = true) : ∀ e ∈ es, WfE e := fun e he => by
  obtain ⟨_, h1, _, _, h2⟩ := right_rise hr
  have := okE_iff.1 (h2 e he)
  unfold WfE InI; omega
/-- What a call of Less goes on, while edges are taken away. -/
structure LessTo (es l : List E) (k : Nat) (xs : List E) : Prop where
  rise : Rise xs
  sub : ∀ e ∈ xs, e ∈ es
  same : lessR es l = lessR xs (l.drop k)
theorem LessTo.step {es l xs : List E} {k : Nat} (h : LessTo es l k xs) (hk : k < l.length) : (trn (eA l k) (eB l k) ∈ xs → LessTo es l (k + 1) (delE xs (trn (eA l k) (eB l k)))) ∧ (trn (eA l k) (eB l k) ∉ xs → lessR es l = none) := by
  have hd := h.same
  rw [drop_e hk] at hd
  simp only [lessR] at hd
  constructor
  · intro hm
    rw [if_pos hm] at hd
    exact ⟨delE_rise h.rise, fun e he => h.sub e ((delE_sub xs).mem he), hd⟩
  · intro hm
    rw [if_neg hm] at hd
    exact hd
theorem filter_sub {es xs : List E} (hr : Rise es) (hx : Rise xs) (hs : ∀ e ∈ xs, e ∈ es) : es.filter (fun e => decide (e ∈ xs)) = xs := by
  refine rise_eq ((List.perm_ext_iff_of_nodup ((rise_nodup hr).filter _) (rise_nodup hx)).2 (fun e => ?_)) (hr.filter _) hx
  rw [List.mem_filter, decide_eq_true_eq]
  exact ⟨fun h => h.2, fun h => ⟨hs e h, h⟩⟩
end Go.Proofs.YtcffkgmhonoomaaDoor

namespace Go.Proofs.YtcffkgmhonoomaaDoor
open Go.RowKit Go.Maps Go.WideMaps

set_option maxRecDepth 20000 in
set_option maxHeartbeats 16000000 in
theorem less_any {w : World} {n : Int} {v u : Value} {es l : List E} (h : EdgesAt w v es) (hl : EdgesAt w u l) (hw : ∀ e ∈ l, WfE e) :
    Calls Tryd.prog 14 #[gv n v, u] w fun e w' => Answers w w' e (lessN n es l) (lessE n es l) (lessErr n es l) := by
  obtain ⟨i, hi, hz0, hz1, hz2⟩ := info_parts infoEdge
  obtain ⟨ao, cap, rfl, _⟩ := h.shape
  obtain ⟨lo, lc, rfl, hlm, _⟩ := hl.shape
  unfold maxLen at hlm
  have F0 := Fr.start w n (.slice ao es.length cap) 24 24
  have HRR := right_any (n := n) (h.kept F0.kept)
  have HF0 := hide F0
  have HE := hide h
  have HL := hide hl
  have HW := hide hw
  clear h hl F0 hw
  cases hr : rightB n es
  · rw [hr] at HRR
    have HRR := hide HRR
    have HC := hide (show lessErr n es l = 3 by unfold lessErr; rw [hr]; rfl)
    clear hr
    go_enter Tryd.func14, Tryd.ntmps14
    go_wp2_with fail
    refine (unhide HRR).mono ?_
    rintro e w1 ⟨rfl, k1⟩
    have F1 := (unhide HF0).go k1
    have HA := hide (less_no (unhide HC) (by decide) (F1.tell (m := 0) (c := 3) (Kept.refl _ _) (EdgesAt.nil _ 0 none) fresh_nil))
    have r0 := F1.r0; have r1 := F1.r1; have f0 := F1.f0; have f1 := F1.f1
    clear F1 k1 HF0
    go_wp2
    exact bodyPost_ret (v := .tuple #[gv 0 (.slice none 0 0), .int .i64 3]) (by simp [results, Tryd.results14, go_sem, r0, r1]) rfl (unhide HA)
  · rw [hr] at HRR
    have HRR := hide HRR
    have HR := hide hr
    have HEW := hide (right_wf hr)
    obtain ⟨hn0, hn1, hel, hrise, _⟩ := right_rise hr
    have HRISE := hide hrise
    have hmm := makeMap_run
    have helI : (es.length : Int) ≤ 9223372036854775807 := by omega
    clear hr hrise
    go_enter Tryd.func14, Tryd.ntmps14
    go_wp2_with fail
    refine (unhide HRR).mono ?_
    rintro e w1 ⟨rfl, k1⟩
    have F1 := (unhide HF0).go k1
    have c0 := F1.c0; have c1 := F1.c1
    have HF1 := hide F1
    clear k1 HF0 HRR F1
    have c0' := kept_cell c0 ((Kept.refl [] w1).alloc (.map #[] 0))
    have c1' := kept_cell c1 ((Kept.refl [] w1).alloc (.map #[] 0))
    go_wp2
    clear hmm
    go_loopw [30] (fun kk wr => ∃ (k : Nat) (D : DataW Unit), k ≤ es.length ∧ kk = .int .i64 k ∧ wr.ownsMap Tryd.prog 30 (unitElem (H := Unit)) w1.heap.size k D ∧ Hid (OnlyE D (es.take k) ∧ Kept [] w1 wr)) (fun kk _ => es.length - (intOf kk).toNat)
    case atStart => exact ⟨0, _, Nat.zero_le _, rfl, World.ownsMap_made _ _ _ _, OnlyE.start, (Kept.refl [] w1).alloc _⟩
    case round =>
      obtain ⟨k, D, hk, rfl, hmap, hh⟩ := hrel
      obtain ⟨hon, kr⟩ := unhide hh
      by_cases hlt : k < es.length
      · obtain ⟨eg, eo, he2, hin⟩ : ∃ eg eo, ao = some ⟨eg, eo, none⟩ ∧ EdgesIn wr eg eo es := by
          obtain ⟨ao2, cap2, hv2, _, _, hin2⟩ := ((unhide HE).kept ((unhide HF1).kept.trans kr)).shape
          obtain ⟨eg, eo, he2, hin⟩ := hin2 (by omega)
          simp at hv2
          exact ⟨eg, eo, by rw [hv2.1, he2], hin⟩
        subst he2
        have d0 := hin.a k hlt
        have d1 := hin.b k hlt
        have hwf : WfE (eA es k, eB es k) := by have := unhide HEW es[k] (List.getElem_mem hlt); rwa [e_elem hlt] at this
        have HON := hide (hon.put hwf)
        rw [← take_snocE hlt] at HON
        have hkey := keyOf_edge hwf.1 hwf.2
        clear hin hwf hon hh
        generalize eA es k = a at *
        generalize eB es k = b at *
        have KA := (Kept.refl [] wr).alloc (.cells #[.int .i64 a, .int .i64 b] 30)
        have hm2 := hmap.alloc (.cells #[.int .i64 a, .int .i64 b] 30)
        have HKA := hide (kr.trans KA)
        have t0 : (0 : Int) ≤ (k : Int) := by omega
        have t1 : (k : Int) < (es.length : Int) := by omega
        clear hmap KA kr
        go_wp2_with (first
          | (at_mapUpdate; refine wpList_mapUpdate_own _ rfl _ _ _ 58 rfl 30 59 keyedEdge Tryd.underlying58 (unitElem (H := Unit)) w1.heap.size k _ rfl hm2 (by unfold maxLen; omega) _ _ _ rfl rfl hkey _ [] unitElem_mk ?_; intro w4 hm4 g4))
        have HK4 := hide ((unhide HKA).grown g4 (fun j hj => Or.inr (by cases hj; exact Nat.le_refl _)))
        clear g4 hm2
        go_wp2
        go_roundw
        case rel => exact ⟨k + 1, _, by omega, by go_num, hm4, unhide HON, unhide HK4⟩
        case measure => simp [intOf]; omega
      · have e : k = es.length := by omega
        subst e
        rw [List.take_length] at hon
        have HON := hide hon
        have HF2 := hide ((unhide HF1).go kr)
        have hB : w.heap.size + 1 < w1.heap.size := lt_of_cell (unhide HF1).r0
        have HLT := hide (show LessTo es l 0 es from ⟨unhide HRISE, fun _ h => h, rfl⟩)
        have HKR := hide kr
        obtain ⟨W2, h0⟩ : ∃ W2, W2 = wr := ⟨wr, rfl⟩
        subst h0
        have c1w := (unhide HF2).c1
        clear hon kr hh c0' c1'
        go_wp2
        go_loopw [40] (fun kk wr => ∃ (k : Nat) (xs : List E) (D : DataW Unit), k ≤ l.length ∧ kk = .int .i64 k ∧ wr.ownsMap Tryd.prog 30 (unitElem (H := Unit)) w1.heap.size es.length D ∧ Hid (OnlyE D xs ∧ LessTo es l k xs ∧ Kept [] w1 wr)) (fun kk _ => l.length - (intOf kk).toNat)
        case atStart => exact ⟨0, es, _, Nat.zero_le _, rfl, hmap, unhide HON, unhide HLT, unhide HKR⟩
        case round =>
          obtain ⟨k, xs, D, hk, rfl, hmap, hh⟩ := hrel
          obtain ⟨hon, hlt0, kr⟩ := unhide hh
          by_cases hlt : k < l.length
          · obtain ⟨eg, eo, he2, hin⟩ : ∃ eg eo, lo = some ⟨eg, eo, none⟩ ∧ EdgesIn wr eg eo l := by
              obtain ⟨ao2, cap2, hv2, _, _, hin2⟩ := ((unhide HL).kept ((unhide HF1).kept.trans kr)).shape
              obtain ⟨eg, eo, he2, hin⟩ := hin2 (by omega)
              simp at hv2
              exact ⟨eg, eo, by rw [hv2.1, he2], hin⟩
            subst he2
            have d0 := hin.a k hlt
            have d1 := hin.b k hlt
            have hwf : WfE (eA l k, eB l k) := by have := unhide HW l[k] (List.getElem_mem hlt); rwa [e_elem hlt] at this
            have HSTEP := hide (hlt0.step hlt)
            clear hin hh
            generalize eA l k = a at *
            generalize eB l k = b at *
            have hkey := keyOf_edge (wf_min hwf.1 hwf.2) (wf_max hwf.1 hwf.2)
            have hwf2 : WfE (min a b, max a b) := ⟨wf_min hwf.1 hwf.2, wf_max hwf.1 hwf.2⟩
            have HHAS := hide (hon.2 _ hwf2)
            have HDEL := hide (hon.del (rise_nodup hlt0.rise) hwf2)
            rw [show trn a b = (min a b, max a b) from rfl] at HSTEP
            have t0 : (0 : Int) ≤ (k : Int) := by omega
            have t1 : (k : Int) < (l.length : Int) := by omega
            have HKR := hide kr
            clear hwf hon hlt0 kr hwf2
            generalize hx : min a b = x at *
            generalize hy : max a b = y at *
            obtain ⟨t, ht⟩ : ∃ t, t = decide ((x, y) ∈ xs) := ⟨_, rfl⟩
            rw [← ht] at HHAS
            have hhas := unhide HHAS
            have HT := hide ht
            clear ht
            rcases (show a < b ∨ a = b ∨ b < a by omega) with hab | hab | hab
            · obtain rfl : x = a := by omega
              obtain rfl : y = b := by omega
              clear hx hy
              have KA := (((Kept.refl [] wr).alloc (.cells #[.int .i64 x, .int .i64 y] 30))).alloc (.cells #[.int .i64 x, .int .i64 y] 30)
              have hm2 := (hmap.alloc (.cells #[.int .i64 x, .int .i64 y] 30)).alloc (.cells #[.int .i64 x, .int .i64 y] 30)
              have HKA := hide ((unhide HKR).trans KA)
              clear hmap KA
              cases t
              · have HN := hide (show lessErr n es l = 7 by unfold lessErr; rw [unhide HR, (unhide HSTEP).2 (by simpa using (unhide HT).symm)]; rfl)
                go_wp2_with (first | (at_lookup; refine wpList_lookup_own_unit _ rfl _ _ 58 rfl 30 59 keyedEdge Tryd.underlying58 (zeroUnit _) w1.heap.size es.length _ rfl hm2 _ _ rfl hkey ?_; rw [hhas]; have F3 := (unhide HF1).go ((unhide HKA).alloc (.cells #[] 59)); have r0 := F3.r0; have r1 := F3.r1; have f0 := F3.f0; have f1 := F3.f1))
                have HA := hide (less_no (unhide HN) (by decide) (F3.tell (m := 0) (c := 7) (Kept.refl _ _) (EdgesAt.nil _ 0 none) fresh_nil))
                clear F3
                exact bodyPost_ret (v := .tuple #[gv 0 (.slice none 0 0), .int .i64 7]) (by simp [results, Tryd.results14, go_sem, r0, r1]) rfl (unhide HA)
              · have HN := hide ((unhide HSTEP).1 (by simpa using (unhide HT).symm))
                have hm3 := hm2.alloc (.cells #[] 59)
                go_wp2_with (first
                  | (at_lookup; refine wpList_lookup_own_unit _ rfl _ _ 58 rfl 30 59 keyedEdge Tryd.underlying58 (zeroUnit _) w1.heap.size es.length _ rfl hm2 _ _ rfl hkey ?_; rw [hhas])
                  | (at_delete; refine wpList_delete_own _ rfl _ _ 58 30 rfl 59 keyedEdge Tryd.underlying58 _ w1.heap.size es.length _ rfl hm3 _ _ rfl hkey ?_; intro w4 hm4 ht4))
                have HK4 := hide (((unhide HKA).alloc (.cells #[] 59)).grown ht4.grown (fun j hj => Or.inr (by cases hj; exact Nat.le_refl _)))
                clear ht4 hm2 hm3
                go_wp2
                go_roundw
                case rel => exact ⟨k + 1, _, _, by omega, by go_num, hm4, unhide HDEL, unhide HN, unhide HK4⟩
                case measure => simp [intOf]; omega
            · subst hab
              obtain rfl : x = a := by omega
              obtain rfl : y = x := by omega
              clear hx hy
              have KA := (((Kept.refl [] wr).alloc (.cells #[.int .i64 y, .int .i64 y] 30))).alloc (.cells #[.int .i64 y, .int .i64 y] 30)
              have hm2 := (hmap.alloc (.cells #[.int .i64 y, .int .i64 y] 30)).alloc (.cells #[.int .i64 y, .int .i64 y] 30)
              have HKA := hide ((unhide HKR).trans KA)
              clear hmap KA
              cases t
              · have HN := hide (show lessErr n es l = 7 by unfold lessErr; rw [unhide HR, (unhide HSTEP).2 (by simpa using (unhide HT).symm)]; rfl)
                go_wp2_with (first | (at_lookup; refine wpList_lookup_own_unit _ rfl _ _ 58 rfl 30 59 keyedEdge Tryd.underlying58 (zeroUnit _) w1.heap.size es.length _ rfl hm2 _ _ rfl hkey ?_; rw [hhas]; have F3 := (unhide HF1).go ((unhide HKA).alloc (.cells #[] 59)); have r0 := F3.r0; have r1 := F3.r1; have f0 := F3.f0; have f1 := F3.f1))
                have HA := hide (less_no (unhide HN) (by decide) (F3.tell (m := 0) (c := 7) (Kept.refl _ _) (EdgesAt.nil _ 0 none) fresh_nil))
                clear F3
                exact bodyPost_ret (v := .tuple #[gv 0 (.slice none 0 0), .int .i64 7]) (by simp [results, Tryd.results14, go_sem, r0, r1]) rfl (unhide HA)
              · have HN := hide ((unhide HSTEP).1 (by simpa using (unhide HT).symm))
                have hm3 := hm2.alloc (.cells #[] 59)
                go_wp2_with (first
                  | (at_lookup; refine wpList_lookup_own_unit _ rfl _ _ 58 rfl 30 59 keyedEdge Tryd.underlying58 (zeroUnit _) w1.heap.size es.length _ rfl hm2 _ _ rfl hkey ?_; rw [hhas])
                  | (at_delete; refine wpList_delete_own _ rfl _ _ 58 30 rfl 59 keyedEdge Tryd.underlying58 _ w1.heap.size es.length _ rfl hm3 _ _ rfl hkey ?_; intro w4 hm4 ht4))
                have HK4 := hide (((unhide HKA).alloc (.cells #[] 59)).grown ht4.grown (fun j hj => Or.inr (by cases hj; exact Nat.le_refl _)))
                clear ht4 hm2 hm3
                go_wp2
                go_roundw
                case rel => exact ⟨k + 1, _, _, by omega, by go_num, hm4, unhide HDEL, unhide HN, unhide HK4⟩
                case measure => simp [intOf]; omega
            · obtain rfl : x = b := by omega
              obtain rfl : y = a := by omega
              clear hx hy
              have KA := (((Kept.refl [] wr).alloc (.cells #[.int .i64 y, .int .i64 x] 30))).alloc (.cells #[.int .i64 x, .int .i64 y] 30)
              have hm2 := (hmap.alloc (.cells #[.int .i64 y, .int .i64 x] 30)).alloc (.cells #[.int .i64 x, .int .i64 y] 30)
              have HKA := hide ((unhide HKR).trans KA)
              clear hmap KA
              cases t
              · have HN := hide (show lessErr n es l = 7 by unfold lessErr; rw [unhide HR, (unhide HSTEP).2 (by simpa using (unhide HT).symm)]; rfl)
                go_wp2_with (first | (at_lookup; refine wpList_lookup_own_unit _ rfl _ _ 58 rfl 30 59 keyedEdge Tryd.underlying58 (zeroUnit _) w1.heap.size es.length _ rfl hm2 _ _ rfl hkey ?_; rw [hhas]; have F3 := (unhide HF1).go ((unhide HKA).alloc (.cells #[] 59)); have r0 := F3.r0; have r1 := F3.r1; have f0 := F3.f0; have f1 := F3.f1))
                have HA := hide (less_no (unhide HN) (by decide) (F3.tell (m := 0) (c := 7) (Kept.refl _ _) (EdgesAt.nil _ 0 none) fresh_nil))
                clear F3
                exact bodyPost_ret (v := .tuple #[gv 0 (.slice none 0 0), .int .i64 7]) (by simp [results, Tryd.results14, go_sem, r0, r1]) rfl (unhide HA)
              · have HN := hide ((unhide HSTEP).1 (by simpa using (unhide HT).symm))
                have hm3 := hm2.alloc (.cells #[] 59)
                go_wp2_with (first
                  | (at_lookup; refine wpList_lookup_own_unit _ rfl _ _ 58 rfl 30 59 keyedEdge Tryd.underlying58 (zeroUnit _) w1.heap.size es.length _ rfl hm2 _ _ rfl hkey ?_; rw [hhas])
                  | (at_delete; refine wpList_delete_own _ rfl _ _ 58 30 rfl 59 keyedEdge Tryd.underlying58 _ w1.heap.size es.length _ rfl hm3 _ _ rfl hkey ?_; intro w4 hm4 ht4))
                have HK4 := hide (((unhide HKA).alloc (.cells #[] 59)).grown ht4.grown (fun j hj => Or.inr (by cases hj; exact Nat.le_refl _)))
                clear ht4 hm2 hm3
                go_wp2
                go_roundw
                case rel => exact ⟨k + 1, _, _, by omega, by go_num, hm4, unhide HDEL, unhide HN, unhide HK4⟩
                case measure => simp [intOf]; omega
          · have e : k = l.length := by omega
            subst e
            have HFIN := hide (show lessR es l = some xs by rw [hlt0.same, List.drop_eq_nil_of_le (Nat.le_refl _)]; rfl)
            have HFIL := hide (filter_sub (unhide HRISE) hlt0.rise hlt0.sub)
            have HON3 := hide hon
            have HF3 := hide ((unhide HF1).go kr)
            have HKR3 := hide kr
            have hsize := hmap.size_le
            obtain ⟨W3, h0⟩ : ∃ W3, W3 = wr := ⟨wr, rfl⟩
            subst h0
            have c13 := (unhide HF3).c1
            clear hon hlt0 kr hh c1w
            go_wp2_with (first
              | (at_len; refine wpList_len_own _ rfl _ 58 rfl 30 59 Tryd.underlying58 _ w1.heap.size es.length _ rfl hmap ?_)
              | (at_make; refine wpList_make_own _ rfl _ _ 22 rfl W3.heap.size 30 i (ev 0 0) 2 Tryd.underlying22 hi hz0 hz1 .i64 .i64 _ (Maps.size D) rfl rfl rfl (by rw [hz2]; omega) (by unfold maxLen; omega) (Nat.le_refl _) ?_; intro w5 hown5 hg5; have c15 := kept_cell c13 ((Kept.refl [] W3).grown hg5 (by simp))))
            have HK5 := hide ((Kept.refl [] W3).grown hg5 (by simp))
            have hmap5 := hmap.kept hg5 (by simp)
            have hBW : w1.heap.size < W3.heap.size := hmap.lt
            have hs5 := hg5.size
            clear hg5 hmap
            go_wp2
            go_loopw [14, 73] (fun lv kk wr => ∃ (k : Nat) (fs : List E) (ro : Option Addr) (rc : Nat), k ≤ es.length ∧ kk = .int .i64 k ∧ lv = .slice ro fs.length rc ∧ wr.ownsRow W3.heap.size 30 2 lv fs.length (flatE fs) ∧ fs.length ≤ k ∧ wr.ownsMap Tryd.prog 30 (unitElem (H := Unit)) w1.heap.size es.length D ∧ W3.heap.size ≤ wr.heap.size ∧ Hid (fs = (es.take k).filter (fun e => decide (e ∈ xs)) ∧ Kept [] W3 wr)) (fun _ kk _ => es.length - (intOf kk).toNat)
            case atStart => exact ⟨0, [], _, _, Nat.zero_le _, rfl, rfl, hown5, Nat.zero_le _, hmap5, hs5, rfl, unhide HK5⟩
            case round =>
              obtain ⟨k, fs, ro, rc, hk, rfl, rfl, hown, hfk, hmap, hsz, hh⟩ := hrel
              obtain ⟨hfs, kr⟩ := unhide hh
              by_cases hlt : k < es.length
              · obtain ⟨eg, eo, he2, hin⟩ : ∃ eg eo, ao = some ⟨eg, eo, none⟩ ∧ EdgesIn wr eg eo es := by
                  obtain ⟨ao2, cap2, hv2, _, _, hin2⟩ := ((unhide HE).kept ((unhide HF3).kept.trans kr)).shape
                  obtain ⟨eg, eo, he2, hin⟩ := hin2 (by omega)
                  simp at hv2
                  exact ⟨eg, eo, by rw [hv2.1, he2], hin⟩
                subst he2
                have d0 := hin.a k hlt
                have d1 := hin.b k hlt
                have hwf : WfE (eA es k, eB es k) := by have := unhide HEW es[k] (List.getElem_mem hlt); rwa [e_elem hlt] at this
                have hkey := keyOf_edge hwf.1 hwf.2
                have hhas := (unhide HON3).2 _ hwf
                have HST := hide (show (es.take (k + 1)).filter (fun e => decide (e ∈ xs)) = fs ++ (if (eA es k, eB es k) ∈ xs then [(eA es k, eB es k)] else []) by
                  rw [take_snocE hlt, List.filter_append, hfs]
                  by_cases c : (eA es k, eB es k) ∈ xs
                  · simp [c]
                  · simp [c])
                clear hin hwf hfs hh
                generalize eA es k = a at *
                generalize eB es k = b at *
                have hm2 := hmap.alloc (.cells #[.int .i64 a, .int .i64 b] 30)
                have HKA := hide ((kr.alloc (.cells #[.int .i64 a, .int .i64 b] 30)).alloc (.cells #[] 59))
                have own2 := (hown.alloc (.cells #[.int .i64 a, .int .i64 b] 30)).alloc (.cells #[] 59)
                have hm3 := hm2.alloc (.cells #[] 59)
                have t0 : (0 : Int) ≤ (k : Int) := by omega
                have t1 : (k : Int) < (es.length : Int) := by omega
                clear hmap kr hown
                by_cases hmem : (a, b) ∈ xs
                · rw [show decide ((a, b) ∈ xs) = true by simpa using hmem] at hhas
                  rw [if_pos hmem] at HST
                  clear hmem
                  go_wp2_with (first
                    | (at_lookup; refine wpList_lookup_own_unit _ rfl _ _ 58 rfl 30 59 keyedEdge Tryd.underlying58 (zeroUnit _) w1.heap.size es.length _ rfl hm2 _ _ rfl hkey ?_; rw [hhas])
                    | (at_builtin; refine wpList_append_own _ rfl (.tmp 84) (.tmp 86) 22 rfl W3.heap.size 30 i (ev 0 0) 2 16 Tryd.underlying22 hi hz0 hz1 hz2 rfl (by decide) (.slice ro fs.length rc) _ _ rfl (own2.alloc _) _ 1 1 [.int .i64 a, .int .i64 b] rfl rfl (edge_cells _ _ _ _ _ (by first | rfl | simp)) (by simp [Value.oneCell']) (by unfold maxLen; omega) (by omega) (by simp; omega) ?_; intro v' w7 hown7 g7 _))
                  have hob := own_block own2
                  have HK7 := hide (((unhide HKA).alloc _).grown g7 (fun j hj => Or.inr (hob j hj)))
                  have hm7 := (hm3.alloc _).kept g7 (fun e => by have := hob _ e.symm; omega)
                  have hs7 : W3.heap.size ≤ w7.heap.size := (unhide HK7).size
                  have own8 : w7.ownsRow W3.heap.size 30 2 v' (fs ++ [(a, b)]).length (flatE (fs ++ [(a, b)])) := by
                    rw [List.length_append, flatE_app]; exact hown7
                  obtain ⟨lo8, lc8, hv8⟩ := own_form own8
                  have HV8 := hide hv8
                  clear hown7 g7 hob hv8 own2 hm2 hm3
                  go_wp2
                  go_roundw
                  case rel => exact ⟨k + 1, fs ++ [(a, b)], lo8, lc8, by omega, by go_num, unhide HV8, own8, by simp; omega, hm7, hs7, (unhide HST).symm, unhide HK7⟩
                  case measure => simp [intOf]; omega
                · rw [show decide ((a, b) ∈ xs) = false by simpa using hmem] at hhas
                  rw [if_neg hmem, List.append_nil] at HST
                  have hs7 : W3.heap.size ≤ ((wr.alloc (.cells #[.int .i64 a, .int .i64 b] 30)).alloc (.cells #[] 59)).heap.size := (unhide HKA).size
                  clear hmem
                  go_wp2_with (first
                    | (at_lookup; refine wpList_lookup_own_unit _ rfl _ _ 58 rfl 30 59 keyedEdge Tryd.underlying58 (zeroUnit _) w1.heap.size es.length _ rfl hm2 _ _ rfl hkey ?_; rw [hhas]))
                  go_roundw
                  case rel => exact ⟨k + 1, fs, ro, rc, by omega, by go_num, rfl, own2, by omega, hm3, hs7, (unhide HST).symm, unhide HKA⟩
                  case measure => simp [intOf]; omega
              · have e : k = es.length := by omega
                subst e
                rw [List.take_length, unhide HFIL] at hfs
                subst hfs
                have hOE := OwnE.at' hown
                have F5 := (unhide HF3).go kr
                have hl2 := (unhide HF3).lt
                have HANS := hide (less_yes (unhide HR) (unhide HFIN) ((unhide HF3).tell (m := n) (c := 0) kr hOE.1 hOE.2))
                have r0 := F5.r0; have r1 := F5.r1; have f0 := F5.f0; have f1 := F5.f1; have c05 := F5.c0; have c15' := F5.c1
                clear F5 hOE hown kr hh
                go_wp2
                exact bodyPost_ret (v := .tuple #[gv n (.slice ro fs.length rc), .int .i64 0]) (by simp [results, Tryd.results14, go_sem, r0, r1]) rfl (unhide HANS)
end Go.Proofs.YtcffkgmhonoomaaDoor
