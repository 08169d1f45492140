/- Make: the walk. -/
import Derived.Test.YtpebakgdnkjjeaaMake
namespace Go.Proofs.Ytpebakgdnkjjeaa
open Go.RowKit Go.Maps

theorem wf_min {a b : Int} (ha : InI a) (hb : InI b) : InI (min a b) := by unfold InI at *; omega
theorem wf_max {a b : Int} (ha : InI a) (hb : InI b) : InI (max a b) := by unfold InI at *; omega
theorem accE_wf {es : List E} (hw : ∀ e ∈ es, WfE e) (k : Nat) : ∀ e ∈ accE es k, WfE e := by
  intro e he
  unfold accE at he
  obtain ⟨f, hf, rfl⟩ := List.mem_map.1 he
  have := hw f (List.mem_of_mem_take hf)
  exact ⟨wf_min this.1 this.2, wf_max this.1 this.2⟩
theorem edge_cells (w : World) (x y : Int) (t : TypeId) (p : Nat) (hp : p = w.heap.size) : ∀ j u, [Value.int .i64 x, .int .i64 y][j]? = some u → (w.alloc (.cells #[.int .i64 x, .int .i64 y] t)).cell? ((⟨p, 0, none⟩ : Addr).add j) = some u := by
  have := (edge_new w x y t 1 p (Nat.le_refl _) hp).src
  obtain ⟨ao, c, he, _, _, _, h⟩ := this
  cases he
  exact h _ rfl
theorem own_acc {w : World} {base k : Nat} {v : Value} {l : List E} (h : w.ownsRow base 36 2 v k (flatE l)) (hl : l.length = k) : OwnE w base v l := by
  unfold OwnE; rw [hl]; exact h
/-- What a round of Make goes on. -/
structure Mk (w : World) (n : Int) (es : List E) (B : Nat) (r : Value) (k : Nat) (wr : World) : Prop where
  map : wr.ownsMap Try.prog 36 (unitElem (H := Unit)) B k (setE (accE es k))
  rs : Rs w wr
  apart : r.ownBlock ≠ some B
  lt : w.heap.size < B
  err : makeErr n [] es = makeErr n (accE es k) (es.drop k)

set_option maxRecDepth 20000 in
set_option maxHeartbeats 8000000 in
theorem make_core {w : World} {n : Int} {v : Value} {es : List E} (h : EdgesAt w v es) (hw : ∀ e ∈ es, WfE e) (hl : es.length ≤ 65536) (hn : (decide (0 ≤ n) && decide (n ≤ 4096)) = true)
    (hsort0 : ∀ (W : World) ao cap f, Calls Try.prog 27 #[.slice ao 0 cap, f] W fun e w' => e = .returned (.tuple #[]) ∧ w' = W) :
    Calls Try.prog 13 #[.int .i64 n, v] w fun e w' => Answers w w' e (if makeErr n [] es = 0 then n else 0) (if makeErr n [] es = 0 then srt es else []) (makeErr n [] es) := by
  obtain ⟨i, hi, hz0, hz1, hz2⟩ := info_parts infoEdge
  obtain ⟨ao, cap, rfl, hm, hc, hes⟩ := h.shape
  have HS := hide (fun W => sizeFits_any W n)
  rw [hn] at HS
  have HES := hide hes
  have HW := hide hw
  have HS0 := hide hsort0
  have HRS := hide (Rs.start w 25)
  have HANS := hide (show ∀ W' e c, makeErr n [] es = c → c ≠ 0 → Answers w W' e 0 [] c → Answers w W' e (if makeErr n [] es = 0 then n else 0) (if makeErr n [] es = 0 then srt es else []) (makeErr n [] es) from fun W' e c hc h0 h => by rw [hc, if_neg h0, if_neg h0]; exact h)
  have HANS0 := hide (show ∀ W' e, makeErr n [] es = 0 → Answers w W' e n (srt es) 0 → Answers w W' e (if makeErr n [] es = 0 then n else 0) (if makeErr n [] es = 0 then srt es else []) (makeErr n [] es) from fun W' e hc h => by rw [hc, if_pos rfl, if_pos rfl]; exact h)
  generalize (if makeErr n [] es = 0 then n else 0) = RN at *
  generalize (if makeErr n [] es = 0 then srt es else []) = RE at *
  obtain ⟨EC, hEC⟩ : ∃ c, c = makeErr n [] es := ⟨_, rfl⟩
  rw [← hEC] at HANS HANS0 ⊢
  have HEC := hide hEC
  have hlI : (es.length : Int) ≤ 65536 := by omega
  have hmin : min (es.length : Int) 65536 = (es.length : Int) := by omega
  have hmm := makeMap_run
  clear hm hes h hw hsort0 hn hEC
  go_enter Try.func13, Try.ntmps13
  go_wp2_with fail
  refine (unhide HS _).mono ?_
  rintro e w0 ⟨rfl, rfl⟩
  go_wp2_with (at_make; refine wpList_make_own _ rfl _ _ 23 rfl (w.heap.size + 1) 36 i (ev 0 0) 2 Try.underlying23 hi hz0 hz1 .i64 .i64 _ es.length rfl rfl rfl (by rw [hz2]; omega) (by unfold maxLen; omega) (by simp) ?_; intro w1 hown1 hg1)
  clear hmin hlI
  have HK1 := hide (((Kept.refl [] w).alloc (.cells #[.int .i64 0, .slice none 0 0] 25)).grown hg1 (by simp))
  have HRS1 := hide ((unhide HRS).go (bs := []) ((Kept.refl [] _).grown hg1 (by simp)) (by simp))
  rw [World.size_alloc] at hown1
  have HAP := hide (fun k hk => own_lt hown1 k hk)
  have HLT := hide (show w.heap.size < w1.heap.size from lt_of_cell (unhide HRS1).r0)
  clear hg1
  go_wp2
  go_loopw [7, 28] (fun r kk wr => ∃ k : Nat, k ≤ es.length ∧ kk = .int .i64 k ∧ wr.ownsRow (w.heap.size + 1) 36 2 r k (flatE (accE es k)) ∧ Hid (Mk w n es w1.heap.size r k wr)) (fun _ kk _ => es.length - (intOf kk).toNat)
  case atStart =>
    refine ⟨0, Nat.zero_le _, rfl, hown1.alloc _, World.ownsMap_made _ _ _ _, (unhide HRS1).go (bs := []) ((Kept.refl [] _).alloc _) (by simp), fun hb => ?_, unhide HLT, rfl⟩
    exact Nat.lt_irrefl _ (unhide HAP _ hb)
  case round =>
    obtain ⟨k, hk, rfl, hown, hmk⟩ := hrel
    by_cases hlt : k < es.length
    · obtain ⟨g, o, rfl, hin⟩ := unhide HES (by omega)
      have hg := hin.keptAt (unhide hmk).rs.kept (by simp)
      have d0 := hg.a k hlt
      have d1 := hg.b k hlt
      clear hg hin
      have hwf : WfE (eA es k, eB es k) := by have := unhide HW es[k] (List.getElem_mem hlt); rwa [e_elem hlt] at this
      have HSTEP := hide (makeErr_step (n := n) hlt)
      have HACC := hide (accE_step hlt)
      have HAW := hide (accE_wf (unhide HW) k)
      generalize eA es k = a at *
      generalize eB es k = b at *
      have HE := hide (fun W => edgeOf_any W a b)
      have hkey := keyOf_edge (wf_min hwf.1 hwf.2) (wf_max hwf.1 hwf.2)
      have HHAS := hide (has_setE (unhide HAW) (e := (min a b, max a b)) ⟨wf_min hwf.1 hwf.2, wf_max hwf.1 hwf.2⟩)
      have HTR := hide (show trn a b = (min a b, max a b) from rfl)
      rw [unhide HTR] at HSTEP HACC
      generalize min a b = x at *
      generalize max a b = y at *
      obtain ⟨t, ht⟩ : ∃ t, t = decide ((x, y) ∈ accE es k) := ⟨_, rfl⟩
      rw [← ht] at HHAS HSTEP
      have hhas := unhide HHAS
      have HRF := hide (fun W => refusal_any W n x y (k : Nat) t)
      obtain ⟨c, hcc⟩ : ∃ c, c = refuseI n x y t (k : Nat) := ⟨_, rfl⟩
      rw [← hcc] at HRF HSTEP
      clear hcc ht hwf
      obtain ⟨ro, rc, rfl⟩ := own_form hown
      go_wp2_with fail
      refine (unhide HE _).mono ?_
      rintro e w2 ⟨rfl, k2⟩
      have K2 := ((Kept.refl [] wr).alloc (.cells #[.int .i64 a, .int .i64 b] 36)).trans k2
      have hm2 := ((unhide hmk).map.kept (kept_grown K2) (by simp)).alloc (.cells #[.int .i64 x, .int .i64 y] 36)
      clear k2
      go_wp2_with (first | (at_lookup; refine wpList_lookup_own_unit _ rfl _ _ 54 rfl 36 55 keyedEdge Try.underlying54 (zeroUnit _) w1.heap.size k _ rfl hm2 _ _ rfl hkey ?_))
      refine (unhide HRF _).mono ?_
      rintro e w3 ⟨rfl, k3⟩
      have K3 : Kept [] (w2.alloc (.cells #[.int .i64 x, .int .i64 y] 36)) w3 := ((Kept.refl [] _).alloc _).trans k3
      obtain ⟨b0, b1⟩ := box2 K3 (by simp)
      have KR := hide (K2.trans (((Kept.refl [] w2).alloc _).trans K3))
      have R3 := hide ((unhide hmk).rs.go (unhide KR) (by simp))
      have r0 := (unhide R3).r0; have r1 := (unhide R3).r1; have f0 := (unhide R3).f0; have f1 := (unhide R3).f1
      have hm3 := (unhide hmk).map.kept (kept_grown (unhide KR)) (by simp)
      have hown3 := own_keep hown (kept_grown (unhide KR)) (by simp)
      have q2 := lt_of_cell b0
      have hBw : w1.heap.size < w2.heap.size := Nat.lt_of_lt_of_le (unhide hmk).map.lt K2.size
      clear k3 K3 hm2 hown hhas K2
      by_cases hc0 : c = 0
      · have hq : (c != 0) = false := by simpa using hc0
        have HC0 := hide hc0
        clear hc0
        have hB : w1.heap.size ≠ w2.heap.size := by omega
        have hap := (unhide hmk).apart
        go_wp2_with (first
          | (at_mapUpdate; refine wpList_mapUpdate_own _ rfl _ _ _ 54 rfl 36 55 keyedEdge Try.underlying54 (unitElem (H := Unit)) w1.heap.size k _ rfl hm3 (by unfold maxLen; omega) _ _ _ rfl rfl hkey _ [] unitElem_mk ?_; intro w4 hm4 g4; have KB := grown_kept g4; have b0' := kept_cell' b0 KB (by simp; omega); have b1' := kept_cell' b1 KB (by simp; omega); have hown4 := own_keep hown3 g4 (fun j hj => by rw [hj] at hap; exact fun e => hap e.symm))
          | (at_builtin; refine wpList_append_own_at _ rfl (.tmp 56) (.tmp 58) 23 rfl (w.heap.size + 1) 36 i (ev 0 0) 2 16 Try.underlying23 hi hz0 hz1 hz2 rfl (by decide) (.slice ro k rc) _ _ rfl (hown4.alloc _) ⟨w4.heap.size, 0, none⟩ 1 1 [.int .i64 x, .int .i64 y] rfl rfl (edge_cells _ _ _ _ _ rfl) (by simp [Value.oneCell']) (by unfold maxLen; omega) (by omega) (by simp; have := KB.size; have := (unhide R3).kept.size; omega) ?_; intro v' w5 hown5 g5 _ hat5))
        have hBL := (unhide hmk).lt
        have R4 := hide ((unhide R3).go KB (by simp; omega))
        have R5 := hide (((unhide R4).go (bs := []) ((Kept.refl [] w4).alloc (.cells #[.int .i64 x, .int .i64 y] 36)) (by simp)).go (grown_kept g5) (fun j hj => by have := own_block hown4 j (by simpa using hj); omega))
        have HM5 := hide ((hm4.alloc (.cells #[.int .i64 x, .int .i64 y] 36)).kept g5 (fun e => hap e.symm))
        have hB4 := hm4.lt
        have HAP5 := hide (show v'.ownBlock ≠ some w1.heap.size from fun e => by
          rcases hat5 with h | h
          · rw [h] at e; exact hap e
          · rw [h] at e; simp at e; omega)
        have HERR := hide (show makeErr n [] es = makeErr n (accE es (k + 1)) (es.drop (k + 1)) by rw [(unhide hmk).err, unhide HSTEP, if_neg (by have := unhide HC0; omega)])
        clear g5 hm4 hat5
        go_roundw
        case rel =>
          refine ⟨k + 1, by omega, by go_num, ?_, ?_, unhide R5, unhide HAP5, hBL, unhide HERR⟩
          · rw [unhide HACC, flatE_app]; exact hown5
          · rw [unhide HACC, setE_snoc]; exact unhide HM5
        case measure => simp [intOf]; omega
      · have hq : (c != 0) = true := by simpa using hc0
        have HC0 := hide hc0
        clear hc0
        go_wp2
        refine bodyPost_ret (v := .tuple #[gv 0 (.slice none 0 0), .int .i64 c]) (by simp [results, Try.results13, go_sem, r0, r1]) rfl (unhide HANS _ _ c ?_ (unhide HC0) ((unhide R3).tell (EdgesAt.nil _ _ _) fresh_nil))
        rw [unhide HEC, (unhide hmk).err, unhide HSTEP, if_pos (unhide HC0)]
    · have hke : k = es.length := by omega
      have HACC := hide (show accE es k = es.map trnE by unfold accE; rw [hke, List.take_length])
      have HERR := hide (show makeErr n [] es = 0 by rw [(unhide hmk).err, List.drop_eq_nil_of_le (by omega)]; rfl)
      have hO := own_acc hown (accE_len hk)
      have HAT := hide hO.at'
      have R0 := hide (unhide hmk).rs
      clear hO hke
      rcases hown.2 with ⟨rfl, hk0⟩ | ⟨g, cap', cur, rfl, hbg, hheap, hle, hmx, hsz, htake⟩
      · have hk0' := hide hk0
        have r0 := (unhide R0).r0; have r1 := (unhide R0).r1; have f0 := (unhide R0).f0; have f1 := (unhide R0).f1
        clear hk0 hown
        go_wp2_with fail
        refine (unhide HS0 _ _ _ _).mono ?_
        rintro e w6 ⟨rfl, rfl⟩
        go_wp2
        refine bodyPost_ret (v := .tuple #[gv n (.slice none 0 0), .int .i64 0]) (by simp [results, Try.results13, go_sem, r0, r1]) rfl (unhide HANS0 _ _ (by rw [unhide HEC]; exact unhide HERR) ((unhide R0).tell ?_ fresh_nil))
        have : accE es k = [] := List.eq_nil_of_length_eq_zero (by rw [accE_len hk]; exact unhide hk0')
        rw [show srt es = [] by unfold srt; rw [← unhide HACC, this]; rfl]
        exact EdgesAt.nil _ _ _
      · have hfz : ∀ j, wr.frozen? ⟨g, 0 + j, none⟩ = false := fun j => by simp only [World.frozen?, hheap]; simp
        have hglt : g < wr.heap.size := by
          rcases Nat.lt_or_ge g wr.heap.size with hb | hb
          · exact hb
          · rw [Array.getElem?_eq_none (by omega)] at hheap; simp at hheap
        have hin : EdgesIn wr g 0 (accE es k) := by
          by_cases hz : (accE es k).length = 0
          · exact ⟨hglt, fun i hi => by omega, fun i hi => by omega⟩
          · obtain ⟨ao', c', he, _, _, hh⟩ := (unhide HAT).1.shape
            obtain ⟨g', o', ha, hi⟩ := hh (by omega)
            subst ha
            simp at he
            obtain ⟨⟨rfl, rfl⟩, _⟩ := he
            exact hi
        have hso := sort_any (cap := cap') hin hfz (by rw [accE_len hk]; omega)
        rw [accE_len hk] at hso
        have HSO := hide hso
        have r0 := (unhide R0).r0
        clear hso hin hfz hown hheap hsz htake
        go_wp2_with fail
        refine (unhide HSO).mono ?_
        rintro e w6 ⟨rfl, es', hperm, hsorted, hin6, k6⟩
        have R6 := hide ((unhide R0).go k6 (by simp; omega))
        have r0 := (unhide R6).r0; have r1 := (unhide R6).r1; have f0 := (unhide R6).f0; have f1 := (unhide R6).f1
        rw [unhide HACC] at hperm
        have HSRT := hide (srt_is (unhide HERR) hperm hsorted)
        have HLN := hide (show es'.length = k by rw [hperm.length_eq, ← unhide HACC, accE_len hk])
        have HIN := hide hin6
        clear hperm hsorted hin6 k6
        go_wp2
        refine bodyPost_ret (v := .tuple #[gv n (.slice (some ⟨g, 0, none⟩) k cap'), .int .i64 0]) (by simp [results, Try.results13, go_sem, r0, r1]) rfl (unhide HANS0 _ _ (by rw [unhide HEC]; exact unhide HERR) ((unhide R6).tell ?_ (fun a x y h => by cases h; exact hbg)))
        rw [← unhide HSRT]
        exact ⟨_, cap', by rw [unhide HLN], by rw [unhide HLN]; exact hle, by rw [unhide HLN]; omega, fun _ => ⟨g, 0, rfl, unhide HIN⟩⟩
end Go.Proofs.Ytpebakgdnkjjeaa
