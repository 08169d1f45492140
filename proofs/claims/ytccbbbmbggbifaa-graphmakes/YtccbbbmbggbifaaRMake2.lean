/- Make of the reference: the walk. -/
import Derived.Test.YtccbbbmbggbifaaRMake
namespace Go.Proofs.Ytccbbbmbggbifaa
open Go.RowKit

/-- What a round of Make goes on, in memory: the answer's box, and the graph's. -/
structure Mr (w : World) (n : Int) (v : Value) (es : List E) (wr : World) : Prop where
  rs : Rs w wr
  g0 : wr.cell? ⟨w.heap.size + 1, 0, none⟩ = some (.int .i64 n)
  g1 : wr.cell? ⟨w.heap.size + 1, 1, none⟩ = some v
  f0 : wr.frozen? ⟨w.heap.size + 1, 0, none⟩ = false
  f1 : wr.frozen? ⟨w.heap.size + 1, 1, none⟩ = false
  at' : EdgesAt wr v es
  fresh : FreshAt (w.heap.size + 2) v
theorem Mr.go {w W W' : World} {n : Int} {v : Value} {es : List E} (h : Mr w n v es W) (k : Kept [] W W') : Mr w n v es W' :=
  ⟨h.rs.go k (by simp), kept_cell h.g0 k, kept_cell h.g1 k, kept_free h.g0 h.f0 k, kept_free h.g1 h.f1 k, h.at'.kept k, h.fresh⟩
theorem Mr.start (w : World) (n : Int) (t u : TypeId) : Mr w n (.slice none 0 0) [] ((w.alloc (.cells #[.int .i64 0, .slice none 0 0] t)).alloc (.cells #[.int .i64 n, .slice none 0 0] u)) := by
  have hs : (w.alloc (.cells #[.int .i64 0, .slice none 0 0] t)).heap.size = w.heap.size + 1 := by simp
  have hr := new_block (w.alloc (.cells #[.int .i64 0, .slice none 0 0] t)) (.cells #[.int .i64 n, .slice none 0 0] u)
  rw [hs] at hr
  refine ⟨(Rs.start w t).go (bs := []) ((Kept.refl [] _).alloc _) (by simp), ?_, ?_, ?_, ?_, EdgesAt.nil _ _ _, fresh_nil⟩
  · rw [cell_of_block hr]; rfl
  · rw [cell_of_block hr]; rfl
  · simp only [World.frozen?, hr]; rfl
  · simp only [World.frozen?, hr]; rfl
/-- The graph's box, written anew. -/
theorem Mr.put {w W : World} {n : Int} {v r : Value} {es fs : List E} (h : Mr w n v es W) (hr : EdgesAt W r fs) (hf : FreshAt (w.heap.size + 2) r) : Mr w n r fs ((W.setCell ⟨w.heap.size + 1, 0, none⟩ (.int .i64 n)).setCell ⟨w.heap.size + 1, 1, none⟩ r) := by
  have k : Kept [w.heap.size + 1] W ((W.setCell ⟨w.heap.size + 1, 0, none⟩ (.int .i64 n)).setCell ⟨w.heap.size + 1, 1, none⟩ r) := ((Kept.refl _ _).setCell (Or.inl (by simp)) _).setCell (Or.inl (by simp)) _
  have g0 := h.g0; have g1 := h.g1; have f0 := h.f0; have f1 := h.f1
  refine ⟨h.rs.go k (by simp), ?_, ?_, ?_, ?_, hr.keptAt k (fun a x y e => by have := hf a x y e; simp; omega), hf⟩
  · go_simp
  · go_simp
  · go_simp
  · go_simp

theorem box2f {w w1 : World} {x y : Value} {t : TypeId} (k : Kept [] (w.alloc (.cells #[x, y] t)) w1) : w1.frozen? ⟨w.heap.size, 0, none⟩ = false ∧ w1.frozen? ⟨w.heap.size, 1, none⟩ = false := by
  have hr := new_block w (.cells #[x, y] t)
  constructor
  · rw [k.frozen (by simp) (by simp)]; simp only [World.frozen?, hr]; rfl
  · rw [k.frozen (by simp) (by simp)]; simp only [World.frozen?, hr]; rfl
set_option maxRecDepth 20000 in
set_option maxHeartbeats 8000000 in
theorem rmake_core {w : World} {n : Int} {v : Value} {es : List E} (h : EdgesAt w v es) (hl : es.length ≤ 65536) (h0 : 0 ≤ n) (h1 : n ≤ 4096) :
    Calls Try.prog 23 #[.int .i64 n, v] w fun e w' => Answers w w' e (if makeErr n [] es = 0 then n else 0) (if makeErr n [] es = 0 then srt es else []) (makeErr n [] es) := by
  obtain ⟨ao, cap, rfl, hm, hc, hes⟩ := h.shape
  have HES := hide hes
  have MS := hide (Mr.start w n 24 24)
  have HN0 := hide h0
  have HN1 := hide h1
  have HANS := hide (show ∀ W' e c, makeErr n [] es = c → c ≠ 0 → Answers w W' e 0 [] c → Answers w W' e (if makeErr n [] es = 0 then n else 0) (if makeErr n [] es = 0 then srt es else []) (makeErr n [] es) from fun W' e c hc h0 h => by rw [hc, if_neg h0, if_neg h0]; exact h)
  have HANS0 := hide (show ∀ W' e, makeErr n [] es = 0 → Answers w W' e n (srt es) 0 → Answers w W' e (if makeErr n [] es = 0 then n else 0) (if makeErr n [] es = 0 then srt es else []) (makeErr n [] es) from fun W' e hc h => by rw [hc, if_pos rfl, if_pos rfl]; exact h)
  generalize (if makeErr n [] es = 0 then n else 0) = RN at *
  generalize (if makeErr n [] es = 0 then srt es else []) = RE at *
  obtain ⟨EC, hEC⟩ : ∃ c, c = makeErr n [] es := ⟨_, rfl⟩
  rw [← hEC] at HANS HANS0 ⊢
  have HEC := hide hEC
  clear hm hes h hEC
  go_enter Try.func23, Try.ntmps23
  go_wp2
  go_loopw [7] (fun kk wr => ∃ (k : Nat) (r : Value), k ≤ es.length ∧ kk = .int .i64 k ∧ Hid (Mr w n r (fold es k) wr ∧ Fo n es k)) (fun kk _ => es.length - (intOf kk).toNat)
  case atStart => exact ⟨0, _, Nat.zero_le _, rfl, unhide MS, Fo.zero n es⟩
  case round =>
    obtain ⟨k, r, hk, rfl, hh⟩ := hrel
    obtain ⟨ro, rm, rc, rfl⟩ := (unhide hh).1.at'.form
    have c0 := (unhide hh).1.g0; have c1 := (unhide hh).1.g1
    by_cases hlt : k < es.length
    · obtain ⟨g, o, rfl, hin⟩ := unhide HES (by omega)
      have hg := hin.keptAt (unhide hh).1.rs.kept (by simp)
      have d0 := hg.a k hlt
      have d1 := hg.b k hlt
      clear hg hin
      have HADD := hide ((unhide hh).2.add hlt hl (unhide HN0) (unhide HN1))
      have HNEXT := hide ((unhide hh).2.next hlt)
      have HBAD := hide (fun c => (unhide hh).2.bad (c := c) hlt)
      have HFS := hide (fold_step hlt)
      have HA := hide (fun W (k' : Kept [] wr W) => radd_any (n := n) ((unhide hh).1.at'.kept k') (eA es k) (eB es k))
      have k0 : (0 : Int) ≤ (k : Int) := by omega
      have k1 : (k : Int) < (es.length : Int) := by omega
      have HCA := hide (show addErr n (fold es k) (eA es k) (eB es k) = 0 → addN n (fold es k) (eA es k) (eB es k) = n ∧ addE n (fold es k) (eA es k) (eB es k) = insE (fold es k) (trn (eA es k) (eB es k)) from fun hc => ⟨by unfold addN; rw [if_pos hc], by unfold addE; rw [if_pos hc]⟩)
      generalize eA es k = a at *
      generalize eB es k = b at *
      generalize addErr n (fold es k) a b = c at *
      generalize addN n (fold es k) a b = nn at *
      generalize addE n (fold es k) a b = ee at *
      have hc0 := lt_of_cell c0
      have hd0 := lt_of_cell d0
      go_wp2_with fail
      go_region_held3 (fun W => W.cell? ⟨w.heap.size + 1, 0, none⟩ = some (.int .i64 n) ∧ W.cell? ⟨w.heap.size + 1, 1, none⟩ = some (.slice ro rm rc) ∧ W.cell? ⟨g, o + k * 2, none⟩ = some (.int .i64 a) ∧ W.cell? ⟨g, o + k * 2 + 1, none⟩ = some (.int .i64 b)) (first | exact ⟨kept_cell c0 K2, kept_cell c1 K2, kept_cell d0 K2, kept_cell d1 K2⟩ | exact ⟨(cell_set2 (by omega)).trans (kept_cell c0 K2), (cell_set2 (by omega)).trans (kept_cell c1 K2), (cell_set2 (by omega)).trans (kept_cell d0 K2), (cell_set2 (by omega)).trans (kept_cell d1 K2)⟩ | exact ⟨alloc_cell (kept_cell c0 K2) _, alloc_cell (kept_cell c1 K2) _, alloc_cell (kept_cell d0 K2) _, alloc_cell (kept_cell d1 K2) _⟩ | go_keep)
        (first | (go_at_call 26; refine (unhide HA _ (by repeat' first | exact Kept.refl _ _ | apply Kept.drew | apply Kept.alloc)).mono ?_; rintro e w2 ⟨r2, rfl, hr2, hf2, k2⟩; obtain ⟨so, sm, sc, rfl⟩ := hr2.form; have kz := (Kept.refl [] (wr.alloc (.cells #[.int .i64 0, .slice none 0 0] 24))).drew.trans k2; obtain ⟨z0, z1⟩ := box2 kz (by simp); obtain ⟨y0, y1⟩ := box2f kz; have K2 : Kept [] wr w2 := ((Kept.refl [] wr).alloc _).trans kz) | (go_at_call 26; refine (unhide HA _ (by repeat' first | exact Kept.refl _ _ | apply Kept.drew | apply Kept.alloc)).mono ?_; rintro e w2 ⟨r2, rfl, hr2, hf2, k2⟩; obtain ⟨so, sm, sc, rfl⟩ := hr2.form; have K2 : Kept [] wr w2 := (Kept.refl [] wr).drew.trans k2))
      · have M3 := (unhide hh).1.go (K2.alloc (.cells #[.int .i64 nn, .slice so sm sc] 24))
        obtain ⟨v0, v1⟩ := box2 (Kept.refl [] (w2.alloc (.cells #[.int .i64 nn, .slice so sm sc] 24))) (by simp)
        have hr3 := hr2.kept ((Kept.refl [] w2).alloc (.cells #[.int .i64 nn, .slice so sm sc] 24))
        have hf3 : FreshAt (w.heap.size + 2) (.slice so sm sc) := fun a x y e => Nat.le_trans hc0 (hf2 a x y e)
        have nP : w2.heap.size ≠ w.heap.size + 1 := by have := K2.size; omega
        clear k2 K2 hr2 hf2 c0 c1 d0 d1
        generalize w2.alloc (.cells #[.int .i64 nn, .slice so sm sc] 24) = w3 at *
        generalize w2.heap.size = pp at *
        have r0 := M3.rs.r0; have r1 := M3.rs.r1; have f0 := M3.rs.f0; have f1 := M3.rs.f1
        have s0 := M3.g0; have s1 := M3.g1; have t0 := M3.f0; have t1 := M3.f1
        have HM3 := hide M3
        have HR3 := hide hr3
        have HF3 := hide hf3
        clear M3 hr3 hf3 hc0 hd0
        by_cases hcz : c = 0
        · have hq : (c != 0) = false := by simpa using hcz
          obtain ⟨hnn, hee⟩ := unhide HCA hcz
          subst hnn
          have HREF := hide (show refuseI nn (min a b) (max a b) (decide (trn a b ∈ accE es k)) (k : Nat) = 0 by rw [← unhide HADD]; exact hcz)
          have HEE := hide hee
          clear hcz hee
          go_wp2
          go_roundw
          case rel =>
            refine ⟨k + 1, .slice so sm sc, by omega, by go_num, ?_, unhide HNEXT (unhide HREF)⟩
            rw [unhide HFS, ← unhide HEE]
            exact (unhide HM3).put (unhide HR3) (unhide HF3)
          case measure => simp [intOf]; omega
        · have hq : (c != 0) = true := by simpa using hcz
          have HC := hide hcz
          clear hcz
          go_wp2
          exact bodyPost_ret (v := .tuple #[gv 0 (.slice none 0 0), .int .i64 c]) (by simp [results, Try.results23, go_sem, r0, r1]) rfl (unhide HANS _ _ c (by rw [unhide HEC]; exact unhide HBAD c (unhide HADD).symm (unhide HC)) (unhide HC) ((unhide HM3).rs.tell (EdgesAt.nil _ _ _) fresh_nil))
      · have kS : Kept [wr.heap.size] w2 ((w2.setCell ⟨wr.heap.size, 0, none⟩ (.int .i64 nn)).setCell ⟨wr.heap.size, 1, none⟩ (.slice so sm sc)) := ((Kept.refl _ _).setCell (Or.inl (by simp)) _).setCell (Or.inl (by simp)) _
        have kA : Kept [] wr ((w2.setCell ⟨wr.heap.size, 0, none⟩ (.int .i64 nn)).setCell ⟨wr.heap.size, 1, none⟩ (.slice so sm sc)) := K2.trans' kS (by simp)
        have M3 := (unhide hh).1.go kA
        have v0 : ((w2.setCell ⟨wr.heap.size, 0, none⟩ (.int .i64 nn)).setCell ⟨wr.heap.size, 1, none⟩ (.slice so sm sc)).cell? ⟨wr.heap.size, 0, none⟩ = some (.int .i64 nn) := by go_simp
        have v1 : ((w2.setCell ⟨wr.heap.size, 0, none⟩ (.int .i64 nn)).setCell ⟨wr.heap.size, 1, none⟩ (.slice so sm sc)).cell? ⟨wr.heap.size, 1, none⟩ = some (.slice so sm sc) := by go_simp
        have hsz : wr.heap.size + 1 = (wr.alloc (.cells #[.int .i64 0, .slice none 0 0] 24)).heap.size := by simp
        have hr3 := hr2.keptAt kS (fun a x y e => by have h2 := hf2 a x y e; have h3 : (wr.alloc (.cells #[.int .i64 0, .slice none 0 0] 24)).heap.size ≤ a.block := h2; simp at h3 ⊢; omega)
        have hf3 : FreshAt (w.heap.size + 2) (.slice so sm sc) := fun a x y e => by have h2 := hf2 a x y e; have h3 : (wr.alloc (.cells #[.int .i64 0, .slice none 0 0] 24)).heap.size ≤ a.block := h2; simp at h3; omega
        have nP : wr.heap.size ≠ w.heap.size + 1 := by omega
        clear k2 kz K2 hr2 hf2 c0 c1 d0 d1 z0 z1 y0 y1 kS kA hsz
        generalize (w2.setCell ⟨wr.heap.size, 0, none⟩ (.int .i64 nn)).setCell ⟨wr.heap.size, 1, none⟩ (.slice so sm sc) = w3 at *
        have r0 := M3.rs.r0; have r1 := M3.rs.r1; have f0 := M3.rs.f0; have f1 := M3.rs.f1
        have s0 := M3.g0; have s1 := M3.g1; have t0 := M3.f0; have t1 := M3.f1
        have HM3 := hide M3
        have HR3 := hide hr3
        have HF3 := hide hf3
        clear M3 hr3 hf3 hc0 hd0
        by_cases hcz : c = 0
        · have hq : (c != 0) = false := by simpa using hcz
          obtain ⟨hnn, hee⟩ := unhide HCA hcz
          subst hnn
          have HREF := hide (show refuseI nn (min a b) (max a b) (decide (trn a b ∈ accE es k)) (k : Nat) = 0 by rw [← unhide HADD]; exact hcz)
          have HEE := hide hee
          clear hcz hee
          go_wp2
          go_roundw
          case rel =>
            refine ⟨k + 1, .slice so sm sc, by omega, by go_num, ?_, unhide HNEXT (unhide HREF)⟩
            rw [unhide HFS, ← unhide HEE]
            exact (unhide HM3).put (unhide HR3) (unhide HF3)
          case measure => simp [intOf]; omega
        · have hq : (c != 0) = true := by simpa using hcz
          have HC := hide hcz
          clear hcz
          go_wp2
          exact bodyPost_ret (v := .tuple #[gv 0 (.slice none 0 0), .int .i64 c]) (by simp [results, Try.results23, go_sem, r0, r1]) rfl (unhide HANS _ _ c (by rw [unhide HEC]; exact unhide HBAD c (unhide HADD).symm (unhide HC)) (unhide HC) ((unhide HM3).rs.tell (EdgesAt.nil _ _ _) fresh_nil))
    · have hke : k = es.length := by omega
      have HFIN := hide (show fold es k = srt es by unfold fold srt accE; rw [hke, List.take_length])
      have HERR := hide (show makeErr n [] es = 0 by rw [(unhide hh).2.err, List.drop_eq_nil_of_le (by omega)]; rfl)
      have r0 := (unhide hh).1.rs.r0; have r1 := (unhide hh).1.rs.r1; have f0 := (unhide hh).1.rs.f0; have f1 := (unhide hh).1.rs.f1
      clear hke
      go_wp2
      refine bodyPost_ret (v := .tuple #[gv n (.slice ro rm rc), .int .i64 0]) (by simp [results, Try.results23, go_sem, r0, r1]) rfl (unhide HANS0 _ _ (by rw [unhide HEC]; exact unhide HERR) ((unhide hh).1.rs.tell ?_ (fun a x y e => by have := (unhide hh).1.fresh a x y e; omega)))
      rw [← unhide HFIN]
      exact (unhide hh).1.at'
/-- Make of the reference. -/
theorem rmake_any {w : World} {n : Int} {v : Value} {es : List E} (h : EdgesAt w v es) (hl : es.length ≤ 65536) :
    Calls Try.prog 23 #[.int .i64 n, v] w fun e w' => Answers w w' e (makeN n es) (makeE n es) (makeC n es) := by
  unfold makeN makeE makeC
  by_cases hn : 0 ≤ n ∧ n ≤ 4096
  · rw [show (decide (0 ≤ n) && decide (n ≤ 4096)) = true by simp; omega]
    exact rmake_core h hl hn.1 hn.2
  · rw [show (decide (0 ≤ n) && decide (n ≤ 4096)) = false by simp; omega]
    exact rmake_size w n v (by omega)
end Go.Proofs.Ytccbbbmbggbifaa
