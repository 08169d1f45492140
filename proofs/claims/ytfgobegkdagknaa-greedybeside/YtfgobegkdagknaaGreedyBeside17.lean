/- garlandplay.Beside, Shift, Put. garlandplay.Some; a graph in a variable. -/
import Derived.Test.YtfgobegkdagknaaGreedyBeside15
import Derived.Test.YtfgobegkdagknaaGreedyBeside6
import Derived.Test.YtfgobegkdagknaaGreedyBeside7
import Derived.Test.YtfgobegkdagknaaGreedyBeside12
import Derived.Test.YtfgobegkdagknaaGreedyBeside9
import Derived.Test.YtfgobegkdagknaaGreedyBeside16
import Derived.Deep.AppendLies
namespace Go.Proofs.Ytfgobegkdagknaa
open Go.RowKit

theorem two_cells {w : World} (x y : Value) (t : TypeId) {p : Nat} (hp : p = w.heap.size) : ∀ j u, [x, y][j]? = some u → (w.alloc (.cells #[x, y] t)).cell? ((⟨p, 0, none⟩ : Addr).add j) = some u := by
  subst hp
  exact World.news_of_block (new_block w (.cells #[x, y] t))
theorem own_form3' {w : World} {base e size n : Nat} {v : Value} {xs : List Value} (h : w.ownsRow base e size v n xs) : ∃ ao m cap, v = .slice ao m cap := by
  rcases h.2 with ⟨rfl, _⟩ | ⟨g, cap, cur, rfl, _⟩
  · exact ⟨_, _, _, rfl⟩
  · exact ⟨_, _, _, rfl⟩
/-- What Beside goes on, in memory: boxes p2, p3, the answer's p4, out's p5. -/
structure Bs (w W : World) (B p5 : Nat) (n m : Int) (u r : Value) (fs : List E) : Prop where
  g0 : W.cell? ⟨w.heap.size, 0, none⟩ = some (.int .i64 n)
  g1 : W.cell? ⟨w.heap.size + 1, 1, none⟩ = some u
  r0 : W.cell? ⟨w.heap.size + 2, 0, none⟩ = some (.int .i64 0)
  r1 : W.cell? ⟨w.heap.size + 2, 1, none⟩ = some (.slice none 0 0)
  e0 : W.frozen? ⟨w.heap.size + 2, 0, none⟩ = false
  e1 : W.frozen? ⟨w.heap.size + 2, 1, none⟩ = false
  o0 : W.cell? ⟨p5, 0, none⟩ = some (.int .i64 (n + m))
  o1 : W.cell? ⟨p5, 1, none⟩ = some r
  f1 : W.frozen? ⟨p5, 1, none⟩ = false
  own : OwnE W B r fs
  ne : r.ownBlock ≠ some p5
  B0 : w.heap.size + 3 ≤ B
  p50 : w.heap.size + 3 ≤ p5
  Bw : B ≤ W.heap.size
  kept : Kept [] w W
theorem Bs.push {w W x5 : World} {B p5 : Nat} {n m : Int} {u : Value} {ro : Option Addr} {rc : Nat} {fs : List E} (h : Bs w W B p5 n m u (.slice ro fs.length rc) fs) {a b : Int} {gg cap5 : Nat}
    (own5 : x5.ownsRow B 39 2 (.slice (some ⟨gg, 0, none⟩) (fs.length + 1) cap5) (fs.length + 1) (flatE fs ++ [.int .i64 a, .int .i64 b]))
    (gr5 : (W.alloc (.cells #[.int .i64 a, .int .i64 b] 39)).grownBy x5 (Value.slice ro fs.length rc).ownBlock) (li5 : (Value.slice ro fs.length rc).ownBlock = some gg ∨ gg = W.heap.size + 1) :
    Bs w (x5.setCell ⟨p5, 1, none⟩ (.slice (some ⟨gg, 0, none⟩) (fs.length + 1) cap5)) B p5 n m u (.slice (some ⟨gg, 0, none⟩) (fs ++ [(a, b)]).length cap5) (fs ++ [(a, b)]) := by
  have hlen : (fs ++ [(a, b)]).length = fs.length + 1 := by simp
  have hob := own_block (show W.ownsRow B 39 2 (.slice ro fs.length rc) fs.length (flatE fs) from h.own)
  have kg : Kept (Value.slice ro fs.length rc).ownBlock.toList W x5 := (((Kept.refl [] W).alloc _).mono (by simp)).trans (grown_kept gr5)
  have hB := h.B0
  have hp := h.p50
  have hp5 := lt_of_cell h.o1
  have nb : ∀ q, q < B → q ∉ (Value.slice ro fs.length rc).ownBlock.toList := fun q hq hm => by have := hob q (by simpa using hm); omega
  have n5 : p5 ∉ (Value.slice ro fs.length rc).ownBlock.toList := fun hm => h.ne (by simpa using hm)
  have o1' := kept_cell' h.o1 kg n5
  have f1' := kept_free' h.o1 h.f1 kg n5
  have gne : gg ≠ p5 := by
    rcases li5 with h1 | h1
    · exact fun e => h.ne (by rw [h1, e])
    · omega
  have ks : Kept [p5] x5 (x5.setCell ⟨p5, 1, none⟩ (.slice (some ⟨gg, 0, none⟩) (fs.length + 1) cap5)) := (Kept.refl _ _).setCell (Or.inl (by simp)) _
  rw [hlen]
  refine ⟨?_, ?_, ?_, ?_, ?_, ?_, ?_, ?_, ?_, ?_, ?_, hB, hp, Nat.le_trans h.Bw (Nat.le_trans kg.size ks.size), ?_⟩
  · exact kept_cell' (kept_cell' h.g0 kg (nb _ (by omega))) ks (by simp; omega)
  · exact kept_cell' (kept_cell' h.g1 kg (nb _ (by omega))) ks (by simp; omega)
  · exact kept_cell' (kept_cell' h.r0 kg (nb _ (by omega))) ks (by simp; omega)
  · exact kept_cell' (kept_cell' h.r1 kg (nb _ (by omega))) ks (by simp; omega)
  · exact kept_free' (kept_cell' h.r0 kg (nb _ (by omega))) (kept_free' h.r0 h.e0 kg (nb _ (by omega))) ks (by simp; omega)
  · exact kept_free' (kept_cell' h.r1 kg (nb _ (by omega))) (kept_free' h.r1 h.e1 kg (nb _ (by omega))) ks (by simp; omega)
  · rw [cell_set_off (by omega)]; exact kept_cell' h.o0 kg n5
  · exact cell_set_eq o1'
  · rw [frozen_set]; exact f1'
  · have own6 : OwnE x5 B (.slice (some ⟨gg, 0, none⟩) (fs.length + 1) cap5) (fs ++ [(a, b)]) := by
      unfold OwnE; rw [hlen, flatE_app]; exact own5
    obtain ⟨h1, h2⟩ := own6
    rcases h2 with ⟨h2, _⟩ | ⟨g, cap, cur, hv, hg, hh, h5, h6, h7, h8⟩
    · cases h2
    · refine ⟨h1, Or.inr ⟨g, cap, cur, hv, hg, ?_, h5, h6, h7, h8⟩⟩
      have e : gg = g := by simp at hv; exact hv.1
      rw [ks.block g (by rcases Nat.lt_or_ge g x5.heap.size with hb | hb; exact hb; rw [Array.getElem?_eq_none (by omega)] at hh; simp at hh) (by simp; omega)]
      exact hh
  · simp [Value.ownBlock]; exact gne
  · exact (h.kept.trans' kg (fun q hq => Or.inr (by have := hob q (by simpa using hq); omega))).setCell (Or.inr (by show w.heap.size ≤ p5; omega)) _
/-- Four boxes at once. -/
theorem boxes3 (w : World) (a b c d : Value) (t : TypeId) (W : World) (k : Kept [] (((w.alloc (.cells #[a, b] t)).alloc (.cells #[c, d] t)).alloc (.cells #[.int .i64 0, .slice none 0 0] t)) W) :
    (W.cell? ⟨w.heap.size, 0, none⟩ = some a ∧ W.cell? ⟨w.heap.size, 1, none⟩ = some b) ∧ (W.cell? ⟨w.heap.size + 1, 0, none⟩ = some c ∧ W.cell? ⟨w.heap.size + 1, 1, none⟩ = some d) ∧ (W.cell? ⟨w.heap.size + 2, 0, none⟩ = some (.int .i64 0) ∧ W.cell? ⟨w.heap.size + 2, 1, none⟩ = some (.slice none 0 0)) ∧ W.frozen? ⟨w.heap.size + 2, 0, none⟩ = false ∧ W.frozen? ⟨w.heap.size + 2, 1, none⟩ = false := by
  have k1 := ((Kept.refl [] (w.alloc (.cells #[a, b] t))).alloc (.cells #[c, d] t)).alloc (.cells #[.int .i64 0, .slice none 0 0] t)
  have k2 := (Kept.refl [] ((w.alloc (.cells #[a, b] t)).alloc (.cells #[c, d] t))).alloc (.cells #[.int .i64 0, .slice none 0 0] t)
  have h1 := box2 (k1.trans k) (by simp)
  have h2 := box2 (k2.trans k) (by simp)
  have h3 := box2 k (by simp)
  have h4 := box2f k
  simp only [World.size_alloc] at h2 h3 h4
  exact ⟨h1, h2, h3, h4⟩

set_option maxRecDepth 20000 in
set_option maxHeartbeats 8000000 in
theorem beside_any {w : World} {n m : Int} {v u : Value} {es hs : List E} (h : EdgesAt w v es) (hu : EdgesAt w u hs) (hn : 0 ≤ n ∧ n ≤ 4096) (hm : 0 ≤ m ∧ m ≤ 4096) (hok : ∀ e ∈ hs, okE m e = true) (hl1 : es.length ≤ 10000) (hl2 : hs.length ≤ 10000) :
    Calls Try.prog 18 #[gv n v, gv m u] w fun e w' => ∃ r, e = .returned (gv (n + m) r) ∧ EdgesAt w' r (besideE n es hs) ∧ FreshAt w.heap.size r ∧ Kept [] w w' := by
  obtain ⟨i, hi, hz0, hz1, hz2⟩ := info_parts infoEdge
  obtain ⟨ao, cap, rfl, _⟩ := h.shape
  obtain ⟨ho, hcap, rfl, _⟩ := hu.shape
  have HV := hide (fun W (k : Kept [] w W) => h.kept k)
  have HU := hide (fun W (k : Kept [] w W) => hu.kept k)
  have HOK := hide hok
  obtain ⟨hn0, hn1⟩ := hn
  obtain ⟨hm0, hm1⟩ := hm
  clear h hu hok
  have KB := (((Kept.refl [] w).alloc (.cells #[.int .i64 n, .slice ao es.length cap] 24)).alloc (.cells #[.int .i64 m, .slice ho hs.length hcap] 24)).alloc (.cells #[.int .i64 0, .slice none 0 0] 24)
  have HBX := hide (boxes3 w (.int .i64 n) (.slice ao es.length cap) (.int .i64 m) (.slice ho hs.length hcap) 24)
  have hwr : IntKind.i64.wrap (n + m) = n + m := by rw [IntWalk.i64_left, IntWalk.wrap64_in _ (by omega)]
  go_enter Try.func18, Try.ntmps18
  go_wp2_with fail
  have HKB := hide KB
  have hsz : (((w.alloc (.cells #[.int .i64 n, .slice ao es.length cap] 24)).alloc (.cells #[.int .i64 m, .slice ho hs.length hcap] 24)).alloc (.cells #[.int .i64 0, .slice none 0 0] 24)).heap.size = w.heap.size + 3 := by simp
  have BX := unhide HBX _ (Kept.refl [] _)
  obtain ⟨⟨a0, a1⟩, ⟨b0, b1⟩, _⟩ := BX
  clear KB
  generalize ((w.alloc (.cells #[.int .i64 n, .slice ao es.length cap] 24)).alloc (.cells #[.int .i64 m, .slice ho hs.length hcap] 24)).alloc (.cells #[.int .i64 0, .slice none 0 0] 24) = W3 at *
  have HSZ := hide hsz
  clear hsz
  have HL := hide (show ∀ W, Kept [] W3 W → W.cell? ⟨w.heap.size, 0, none⟩ = some (.int .i64 n) ∧ W.cell? ⟨w.heap.size, 1, none⟩ = some (.slice ao es.length cap) ∧ W.cell? ⟨w.heap.size + 1, 0, none⟩ = some (.int .i64 m) from fun W k => ⟨kept_cell a0 k, kept_cell a1 k, kept_cell b0 k⟩)
  go_region_held3 (fun W => W.cell? ⟨w.heap.size, 0, none⟩ = some (.int .i64 n) ∧ W.cell? ⟨w.heap.size, 1, none⟩ = some (.slice ao es.length cap) ∧ W.cell? ⟨w.heap.size + 1, 0, none⟩ = some (.int .i64 m)) (first | exact unhide HL _ K2 | exact unhide HL _ (K2.alloc _) | exact ⟨(cell_set2 (by have := K2.size; have := unhide HSZ; omega)).trans (unhide HL _ K2).1, (cell_set2 (by have := K2.size; have := unhide HSZ; omega)).trans (unhide HL _ K2).2.1, (cell_set2 (by have := K2.size; have := unhide HSZ; omega)).trans (unhide HL _ K2).2.2⟩ | go_keep)
    (first
    | (refine step_append_src (by rfl) (.const (.slice none 0 0)) (.tmp 13) 22 (by rfl) (W3.heap.size + 1) 39 i (ev 0 0) 2 16 Try.underlying22 hi hz0 hz1 hz2 (by rfl) (by decide) (.slice none 0 0) 0 [] (by rfl) (OwnE.nil _ _) _ _ _ (by rfl) (EdgesAt.src (unhide HV _ (by repeat' first | exact unhide HKB | apply Kept.drewN | apply Kept.drew | apply Kept.alloc))) (by unfold maxLen; omega) (by omega) (by first | exact Nat.le_refl _ | simp) ?_; intro v2 w2 own2 g2; have kz : Kept [] (W3.alloc (.cells #[.int .i64 0, .slice none 0 0] 24)) w2 := (by refine Kept.grown ?_ g2 (by simp [Value.ownBlock]); first | exact Kept.refl _ _ | exact (Kept.refl _ _).drew | exact (Kept.refl _ _).drewN _); obtain ⟨z0, z1⟩ := box2 kz (by simp); obtain ⟨y0, y1⟩ := box2f kz; have K2 : Kept [] W3 w2 := ((Kept.refl [] W3).alloc _).trans kz; obtain ⟨so, sm, sc, rfl⟩ := own_form3' own2)
    | (refine step_append_src (by rfl) (.const (.slice none 0 0)) (.tmp 13) 22 (by rfl) W3.heap.size 39 i (ev 0 0) 2 16 Try.underlying22 hi hz0 hz1 hz2 (by rfl) (by decide) (.slice none 0 0) 0 [] (by rfl) (OwnE.nil _ _) _ _ _ (by rfl) (EdgesAt.src (unhide HV _ (by repeat' first | exact unhide HKB | apply Kept.drewN | apply Kept.drew | apply Kept.alloc))) (by unfold maxLen; omega) (by omega) (by first | exact Nat.le_refl _ | simp) ?_; intro v2 w2 own2 g2; have K2 : Kept [] W3 w2 := (by refine Kept.grown ?_ g2 (by simp [Value.ownBlock]); first | exact Kept.refl _ _ | exact (Kept.refl _ _).drew | exact (Kept.refl _ _).drewN _); obtain ⟨so, sm, sc, rfl⟩ := own_form3' own2))
  · have OW := own2
    have KW := hide ((unhide HKB).trans (K2.alloc (.cells #[.int .i64 (n + m), .slice so sm sc] 24)))
    obtain ⟨O0, O1⟩ := box2 (Kept.refl [] (w2.alloc (.cells #[.int .i64 (n + m), .slice so sm sc] 24))) (by simp)
    obtain ⟨F0, F1⟩ := box2f (Kept.refl [] (w2.alloc (.cells #[.int .i64 (n + m), .slice so sm sc] 24)))
    have hsm : sm = es.length := by
      rcases own2.2 with ⟨hv, h0⟩ | ⟨g, cap, cur, hv, _⟩
      · simp at hv; omega
      · simp at hv; omega
    subst hsm
    have BB := unhide HBX _ (K2.alloc (.cells #[.int .i64 (n + m), .slice so es.length sc] 24))
    have BS := hide (show Bs w (w2.alloc (.cells #[.int .i64 (n + m), .slice so es.length sc] 24)) W3.heap.size w2.heap.size n m (.slice ho hs.length hcap) (.slice so es.length sc) es from
      ⟨BB.1.1, BB.2.1.2, BB.2.2.1.1, BB.2.2.1.2, BB.2.2.2.1, BB.2.2.2.2, O0, O1, F1, (by have := (OwnE.app (es := []) (fs := es) (by simpa [flatE] using own2)); unfold OwnE at this ⊢; simpa using this.alloc _), (fun e => by have := own_lt own2 _ e; omega), (by have := unhide HSZ; omega), (by have := unhide HSZ; have := K2.size; omega), (by have := K2.size; simp; omega), unhide KW⟩)
    clear OW KW O0 O1 F0 F1 BB own2 g2 K2 a0 a1 b0 b1 HL HBX
    generalize w2.alloc (.cells #[.int .i64 (n + m), .slice so es.length sc] 24) = W5 at *
    generalize w2.heap.size = p5 at *
    generalize W3.heap.size = B at *
    go_wp2
    go_loopw [6] (fun kk wr => ∃ (k : Nat) (ro : Option Addr) (rc : Nat) (es2 : List E), k ≤ hs.length ∧ kk = .int .i64 k ∧ Hid (Bs w wr B p5 n m (.slice ho hs.length hcap) (.slice ro es2.length rc) es2 ∧ es2 = es ++ shiftE n (hs.take k))) (fun kk _ => hs.length - (intOf kk).toNat)
    case atStart => exact ⟨0, so, sc, es, Nat.zero_le _, rfl, unhide BS, by simp [shiftE]⟩
    case round =>
      obtain ⟨k, ro, rc, es2, hk, rfl, hh⟩ := hrel
      have g0 := (unhide hh).1.g0; have g1 := (unhide hh).1.g1
      by_cases hlt : k < hs.length
      · obtain ⟨ho2, _, hv2, _, _, hin2⟩ := (unhide HU w (Kept.refl [] w)).shape
        obtain ⟨eg, eo, he2, hin0⟩ := hin2 (by omega)
        have hao : ho = some ⟨eg, eo, none⟩ := by simp at hv2; rw [hv2.1, he2]
        subst hao
        have hegl := hin0.lt
        have hin := hin0.keptAt (unhide hh).1.kept (by simp)
        have d0 := hin.a k hlt; have d1 := hin.b k hlt
        have o1 := (unhide hh).1.o1; have f1 := (unhide hh).1.f1
        have hown : wr.ownsRow B 39 2 (.slice ro es2.length rc) es2.length (flatE es2) := (unhide hh).1.own
        have ok := okE_iff.1 (unhide HOK _ (at_mem hlt))
        have HTK := hide (show shiftE n (hs.take (k + 1)) = shiftE n (hs.take k) ++ [(eA hs k + n, eB hs k + n)] by
          unfold shiftE
          rw [List.take_succ_eq_append_getElem hlt, List.map_append, e_elem hlt]; rfl)
        unfold at_ at ok
        simp only at ok
        have hel2 : es2.length ≤ 20000 := by
          rw [(unhide hh).2]; simp [shiftE]; omega
        generalize eA hs k = xa at *
        generalize eB hs k = xb at *
        have hwa : IntKind.i64.wrap (xa + n) = xa + n := by rw [IntWalk.i64_left, IntWalk.wrap64_in _ (by omega)]
        have hwb : IntKind.i64.wrap (xb + n) = xb + n := by rw [IntWalk.i64_left, IntWalk.wrap64_in _ (by omega)]
        have t0 : (0 : Int) ≤ (k : Int) := by omega
        have t1 : (k : Int) < (hs.length : Int) := by omega
        have hB3 := (unhide hh).1.B0
        have hp53 := (unhide hh).1.p50
        have hBw : B ≤ wr.heap.size := (unhide hh).1.Bw
        have n25 : w.heap.size ≠ p5 := by omega
        have n35 : w.heap.size + 1 ≠ p5 := by omega
        have ne5 : eg ≠ p5 := by omega
        have hob := own_block hown
        have HNB := hide (show ∀ b, (Value.slice ro es2.length rc).ownBlock = some b → w.heap.size ≠ b ∧ w.heap.size + 1 ≠ b ∧ eg ≠ b ∧ p5 ≠ b from fun b hb => by
          have h1 := hob b hb
          exact ⟨by omega, by omega, by omega, fun e => (unhide hh).1.ne (by rw [hb, e])⟩)
        have HNEXT := hide (fun x5 gg cap5 own5 gr5 li5 => And.intro ((unhide hh).1.push (x5 := x5) (a := xa + n) (b := xb + n) (gg := gg) (cap5 := cap5) own5 gr5 li5) (show es2 ++ [(xa + n, xb + n)] = es ++ shiftE n (hs.take (k + 1)) by rw [unhide HTK, ← List.append_assoc, ← (unhide hh).2]))
        clear hin hin0 hin2 hv2 he2 ok hob
        have o1a := alloc_cell o1 (.cells #[.int .i64 (xa + n), .int .i64 (xb + n)] 39)
        go_wp2_with fail
        refine wp_region_held_drew (S := (fun W => W.cell? ⟨w.heap.size, 0, none⟩ = some (.int .i64 n) ∧ W.cell? ⟨w.heap.size + 1, 1, none⟩ = some (.slice (some ⟨eg, eo, none⟩) hs.length hcap) ∧ W.cell? ⟨eg, eo + k * 2, none⟩ = some (.int .i64 xa) ∧ W.cell? ⟨eg, eo + k * 2 + 1, none⟩ = some (.int .i64 xb))) (by kernel_rfl) ⟨g0, g1, d0, d1⟩ (fun hHeld => ?_)
        refine take_on 0 23 (v := ?_) rfl rfl (by kernel_rfl) (by kernel_rfl) (by kernel_rfl) (fun _ _ _ h => h) (by kernel_rfl) (by intro w hSw; (try dsimp only at hSw); go_simp; first | done | with_reducible rfl) (by assumption) ?_
        simp only [Act.put, List.setIfInBounds_toArray, List.set_cons_zero, List.set_cons_succ]
        refine take_on 2 25 (v := ?_) rfl rfl (by kernel_rfl) (by kernel_rfl) (by kernel_rfl) (fun _ _ _ h => h) (by kernel_rfl) (by intro w hSw; (try dsimp only at hSw); go_simp; first | done | with_reducible rfl) (by assumption) ?_
        simp only [Act.put, List.setIfInBounds_toArray, List.set_cons_zero, List.set_cons_succ]
        refine take_on 3 26 (v := ?_) rfl rfl (by kernel_rfl) (by kernel_rfl) (by kernel_rfl) (fun _ _ _ h => h) (by kernel_rfl) (by intro w hSw; (try dsimp only at hSw); go_simp; first | done | with_reducible rfl) (by assumption) ?_
        simp only [Act.put, List.setIfInBounds_toArray, List.set_cons_zero, List.set_cons_succ]
        refine take_on 4 27 (v := ?_) rfl rfl (by kernel_rfl) (by kernel_rfl) (by kernel_rfl) (fun _ _ _ h => h) (by kernel_rfl) (by intro w hSw; (try dsimp only at hSw); go_simp; first | done | with_reducible rfl) (by assumption) ?_
        simp only [Act.put, List.setIfInBounds_toArray, List.set_cons_zero, List.set_cons_succ]
        refine take_on 5 28 (v := ?_) rfl rfl (by kernel_rfl) (by kernel_rfl) (by kernel_rfl) (fun _ _ _ h => h) (by kernel_rfl) (by intro w hSw; (try dsimp only at hSw); go_simp; first | done | with_reducible rfl) (by assumption) ?_
        simp only [Act.put, List.setIfInBounds_toArray, List.set_cons_zero, List.set_cons_succ]
        refine take_on 6 29 (v := ?_) rfl rfl (by kernel_rfl) (by kernel_rfl) (by kernel_rfl) (fun _ _ _ h => h) (by kernel_rfl) (by intro w hSw; (try dsimp only at hSw); go_simp; first | done | with_reducible rfl) (by assumption) ?_
        simp only [Act.put, List.setIfInBounds_toArray, List.set_cons_zero, List.set_cons_succ]
        refine take_on 7 30 (v := ?_) rfl rfl (by kernel_rfl) (by kernel_rfl) (by kernel_rfl) (fun _ _ _ h => h) (by kernel_rfl) (by intro w hSw; (try dsimp only at hSw); go_simp; first | done | with_reducible rfl) (by assumption) ?_
        simp only [Act.put, List.setIfInBounds_toArray, List.set_cons_zero, List.set_cons_succ]
        refine take_on 8 31 (v := ?_) rfl rfl (by kernel_rfl) (by kernel_rfl) (by kernel_rfl) (fun _ _ _ h => h) (by kernel_rfl) (by intro w hSw; (try dsimp only at hSw); go_simp; first | done | with_reducible rfl) (by assumption) ?_
        simp only [Act.put, List.setIfInBounds_toArray, List.set_cons_zero, List.set_cons_succ]
        refine take_on 9 32 (v := ?_) rfl rfl (by kernel_rfl) (by kernel_rfl) (by kernel_rfl) (fun _ _ _ h => h) (by kernel_rfl) (by intro w hSw; (try dsimp only at hSw); go_simp; first | done | with_reducible rfl) (by assumption) ?_
        simp only [Act.put, List.setIfInBounds_toArray, List.set_cons_zero, List.set_cons_succ]
        refine take_on 10 33 (v := ?_) rfl rfl (by kernel_rfl) (by kernel_rfl) (by kernel_rfl) (fun _ _ _ h => h) (by kernel_rfl) (by intro w hSw; (try dsimp only at hSw); go_simp; first | done | with_reducible rfl) (by assumption) ?_
        simp only [Act.put, List.setIfInBounds_toArray, List.set_cons_zero, List.set_cons_succ]
        refine take_on 11 34 (v := ?_) rfl rfl (by kernel_rfl) (by kernel_rfl) (by kernel_rfl) (fun _ _ _ h => h) (by kernel_rfl) (by intro w hSw; (try dsimp only at hSw); go_simp; first | done | with_reducible rfl) (by assumption) ?_
        simp only [Act.put, List.setIfInBounds_toArray, List.set_cons_zero, List.set_cons_succ]
        refine take_on 12 35 (v := ?_) rfl rfl (by kernel_rfl) (by kernel_rfl) (by kernel_rfl) (fun _ _ _ h => h) (by kernel_rfl) (by intro w hSw; (try dsimp only at hSw); go_simp; first | done | with_reducible rfl) (by assumption) ?_
        simp only [Act.put, List.setIfInBounds_toArray, List.set_cons_zero, List.set_cons_succ]
        refine take_on 13 36 (v := ?_) rfl rfl (by kernel_rfl) (by kernel_rfl) (by kernel_rfl) (fun _ _ _ h => h) (by kernel_rfl) (by intro w hSw; (try dsimp only at hSw); go_simp; first | done | with_reducible rfl) (by assumption) ?_
        simp only [Act.put, List.setIfInBounds_toArray, List.set_cons_zero, List.set_cons_succ]
        refine take_on 14 37 (v := ?_) rfl rfl (by kernel_rfl) (by kernel_rfl) (by kernel_rfl) (fun _ _ _ h => h) (by kernel_rfl) (by intro w hSw; (try dsimp only at hSw); go_simp; first | done | with_reducible rfl) (by assumption) ?_
        simp only [Act.put, List.setIfInBounds_toArray, List.set_cons_zero, List.set_cons_succ]
        refine take_on 15 38 (v := ?_) rfl rfl (by kernel_rfl) (by kernel_rfl) (by kernel_rfl) (fun _ _ _ h => h) (by kernel_rfl) (by intro w hSw; (try dsimp only at hSw); go_simp; first | done | with_reducible rfl) (by assumption) ?_
        simp only [Act.put, List.setIfInBounds_toArray, List.set_cons_zero, List.set_cons_succ]
        refine take_on 16 39 (v := ?_) rfl rfl (by kernel_rfl) (by kernel_rfl) (by kernel_rfl) (fun _ _ _ h => h) (by kernel_rfl) (by intro w hSw; (try dsimp only at hSw); go_simp; first | done | with_reducible rfl) (by assumption) ?_
        simp only [Act.put, List.setIfInBounds_toArray, List.set_cons_zero, List.set_cons_succ]
        refine take_on 17 40 (v := ?_) rfl rfl (by kernel_rfl) (by kernel_rfl) (by kernel_rfl) (fun _ _ _ h => h) (by kernel_rfl) (by intro w hSw; (try dsimp only at hSw); go_simp; first | done | with_reducible rfl) (by assumption) ?_
        simp only [Act.put, List.setIfInBounds_toArray, List.set_cons_zero, List.set_cons_succ]
        refine take_on 18 41 (v := ?_) rfl rfl (by kernel_rfl) (by kernel_rfl) (by kernel_rfl) (fun _ _ _ h => h) (by kernel_rfl) (by intro w hSw; (try dsimp only at hSw); go_simp; first | done | with_reducible rfl) (by assumption) ?_
        simp only [Act.put, List.setIfInBounds_toArray, List.set_cons_zero, List.set_cons_succ]
        refine take_on 19 42 (v := ?_) rfl rfl (by kernel_rfl) (by kernel_rfl) (by kernel_rfl) (fun _ _ _ h => h) (by kernel_rfl) (by intro w hSw; (try dsimp only at hSw); go_simp; first | done | with_reducible rfl) (by assumption) ?_
        simp only [Act.put, List.setIfInBounds_toArray, List.set_cons_zero, List.set_cons_succ]
        refine take_on 20 43 (v := ?_) rfl rfl (by kernel_rfl) (by kernel_rfl) (by kernel_rfl) (fun _ _ _ h => h) (by kernel_rfl) (by intro w hSw; (try dsimp only at hSw); go_simp; first | done | with_reducible rfl) (by assumption) ?_
        simp only [Act.put, List.setIfInBounds_toArray, List.set_cons_zero, List.set_cons_succ]
        refine wpAnyH_ready (rs := [1, 21]) (by kernel_rfl) (by simp) ?_
        refine AllReadyH.cons rfl (fun K hK => ?_) (AllReadyH.cons rfl (fun K hK => ?_) AllReadyH.nil)
        · go_simp
          refine hK.out _ _ ⟨g0, g1, d0, d1⟩ (fun hHeld => ?_)
          clear hK K
          refine wpAnyH_ready (rs := [21]) (by kernel_rfl) (by simp) ?_
          refine AllReadyH.cons rfl (fun K hK => ?_) AllReadyH.nil
          go_simp
          refine hK.out _ _ ⟨alloc_cell g0 _, alloc_cell g1 _, alloc_cell d0 _, alloc_cell d1 _⟩ (fun hHeld => ?_)
          clear hK K
          refine wpAnyH_ready (rs := [22]) (by kernel_rfl) (by simp) ?_
          refine AllReadyH.cons rfl (fun K hK => ?_) AllReadyH.nil
          refine step_append_lies _ rfl (.tmp 24) (.tmp 44) 22 rfl B 39 i (ev 0 0) 2 16 Try.underlying22 hi hz0 hz1 hz2 rfl (by decide) (.slice ro es2.length rc) es2.length (flatE es2) rfl ((hown.alloc (.cells #[.int .i64 (xa + n), .int .i64 (xb + n)] 39)).drew) ⟨wr.heap.size, 0, none⟩ 1 1 [.int .i64 (xa + n), .int .i64 (xb + n)] rfl rfl (two_cells _ _ _ rfl) (by simp [Value.oneCell']) (by decide) (by unfold maxLen; omega) (by omega) (by simp; omega) (wr.heap.size + 1) (by simp) ?_
          intro gg cap5 x5 own5 gr5 li5 lt5
          have kg5 : Kept (Value.slice ro es2.length rc).ownBlock.toList (wr.alloc (.cells #[.int .i64 (xa + n), .int .i64 (xb + n)] 39)) x5 := (Kept.refl _ _).drew.trans (grown_kept gr5)
          have q0 := kept_cell' (alloc_cell g0 (.cells #[.int .i64 (xa + n), .int .i64 (xb + n)] 39)) kg5 (by simpa using fun h => (unhide HNB _ h).1 rfl)
          have q1 := kept_cell' (alloc_cell g1 (.cells #[.int .i64 (xa + n), .int .i64 (xb + n)] 39)) kg5 (by simpa using fun h => (unhide HNB _ h).2.1 rfl)
          have q2 := kept_cell' (alloc_cell d0 (.cells #[.int .i64 (xa + n), .int .i64 (xb + n)] 39)) kg5 (by simpa using fun h => (unhide HNB _ h).2.2.1 rfl)
          have q3 := kept_cell' (alloc_cell d1 (.cells #[.int .i64 (xa + n), .int .i64 (xb + n)] 39)) kg5 (by simpa using fun h => (unhide HNB _ h).2.2.1 rfl)
          have q4 := kept_cell' (alloc_cell o1 (.cells #[.int .i64 (xa + n), .int .i64 (xb + n)] 39)) kg5 (by simpa using fun h => (unhide HNB _ h).2.2.2 rfl)
          have q5 := kept_free' (alloc_cell o1 (.cells #[.int .i64 (xa + n), .int .i64 (xb + n)] 39)) (kept_free o1 f1 ((Kept.refl [] wr).alloc (.cells #[.int .i64 (xa + n), .int .i64 (xb + n)] 39))) kg5 (by simpa using fun h => (unhide HNB _ h).2.2.2 rfl)
          change K (Act.put _ (some 45) _) _
          refine hK.out _ _ ⟨q0, q1, q2, q3⟩ (fun hHeld => ?_)
          clear hK K
          simp only [Act.put, List.setIfInBounds_toArray, List.set_cons_zero, List.set_cons_succ]
          refine take_on 23 46 (v := ?_) rfl rfl (by kernel_rfl) (by kernel_rfl) (by kernel_rfl) (fun _ _ _ h => h) (by kernel_rfl) (by intro w hSw; (try dsimp only at hSw); go_simp; first | done | with_reducible rfl) (by assumption) ?_
          simp only [Act.put, List.setIfInBounds_toArray, List.set_cons_zero, List.set_cons_succ]
          refine wpAnyH_ready (rs := [24]) (by kernel_rfl) (by simp) ?_
          refine AllReadyH.cons rfl (fun K hK => ?_) AllReadyH.nil
          go_simp
          refine hK.out _ _ ⟨by rw [cell_set_ne n25]; assumption, by rw [cell_set_ne n35]; assumption, by rw [cell_set_ne ne5]; assumption, by rw [cell_set_ne ne5]; assumption⟩ (fun hHeld => ?_)
          clear hK K
          refine wpAnyH_done (by kernel_rfl) ?_ _
          have HNX := hide (unhide HNEXT x5 gg cap5 own5 ⟨gr5.os, gr5.tape, gr5.output, gr5.size, gr5.block⟩ li5)
          clear kg5 own5 gr5 li5 lt5 q0 q1 q2 q3 q4 q5
          go_wp2
          go_roundw
          case rel => exact ⟨k + 1, _, _, _, by omega, by go_num, unhide HNX⟩
          case measure => simp [intOf]; omega
        · go_simp
          refine hK.out _ _ ⟨alloc_cell g0 _, alloc_cell g1 _, alloc_cell d0 _, alloc_cell d1 _⟩ (fun hHeld => ?_)
          clear hK K
          refine wpAnyH_ready (rs := [1]) (by kernel_rfl) (by simp) ?_
          refine AllReadyH.cons rfl (fun K hK => ?_) AllReadyH.nil
          go_simp
          refine hK.out _ _ ⟨alloc_cell g0 _, alloc_cell g1 _, alloc_cell d0 _, alloc_cell d1 _⟩ (fun hHeld => ?_)
          clear hK K
          refine wpAnyH_ready (rs := [22]) (by kernel_rfl) (by simp) ?_
          refine AllReadyH.cons rfl (fun K hK => ?_) AllReadyH.nil
          refine step_append_lies _ rfl (.tmp 24) (.tmp 44) 22 rfl B 39 i (ev 0 0) 2 16 Try.underlying22 hi hz0 hz1 hz2 rfl (by decide) (.slice ro es2.length rc) es2.length (flatE es2) rfl ((hown.alloc (.cells #[.int .i64 (xa + n), .int .i64 (xb + n)] 39)).drew) ⟨wr.heap.size, 0, none⟩ 1 1 [.int .i64 (xa + n), .int .i64 (xb + n)] rfl rfl (two_cells _ _ _ rfl) (by simp [Value.oneCell']) (by decide) (by unfold maxLen; omega) (by omega) (by simp; omega) (wr.heap.size + 1) (by simp) ?_
          intro gg cap5 x5 own5 gr5 li5 lt5
          have kg5 : Kept (Value.slice ro es2.length rc).ownBlock.toList (wr.alloc (.cells #[.int .i64 (xa + n), .int .i64 (xb + n)] 39)) x5 := (Kept.refl _ _).drew.trans (grown_kept gr5)
          have q0 := kept_cell' (alloc_cell g0 (.cells #[.int .i64 (xa + n), .int .i64 (xb + n)] 39)) kg5 (by simpa using fun h => (unhide HNB _ h).1 rfl)
          have q1 := kept_cell' (alloc_cell g1 (.cells #[.int .i64 (xa + n), .int .i64 (xb + n)] 39)) kg5 (by simpa using fun h => (unhide HNB _ h).2.1 rfl)
          have q2 := kept_cell' (alloc_cell d0 (.cells #[.int .i64 (xa + n), .int .i64 (xb + n)] 39)) kg5 (by simpa using fun h => (unhide HNB _ h).2.2.1 rfl)
          have q3 := kept_cell' (alloc_cell d1 (.cells #[.int .i64 (xa + n), .int .i64 (xb + n)] 39)) kg5 (by simpa using fun h => (unhide HNB _ h).2.2.1 rfl)
          have q4 := kept_cell' (alloc_cell o1 (.cells #[.int .i64 (xa + n), .int .i64 (xb + n)] 39)) kg5 (by simpa using fun h => (unhide HNB _ h).2.2.2 rfl)
          have q5 := kept_free' (alloc_cell o1 (.cells #[.int .i64 (xa + n), .int .i64 (xb + n)] 39)) (kept_free o1 f1 ((Kept.refl [] wr).alloc (.cells #[.int .i64 (xa + n), .int .i64 (xb + n)] 39))) kg5 (by simpa using fun h => (unhide HNB _ h).2.2.2 rfl)
          change K (Act.put _ (some 45) _) _
          refine hK.out _ _ ⟨q0, q1, q2, q3⟩ (fun hHeld => ?_)
          clear hK K
          simp only [Act.put, List.setIfInBounds_toArray, List.set_cons_zero, List.set_cons_succ]
          refine take_on 23 46 (v := ?_) rfl rfl (by kernel_rfl) (by kernel_rfl) (by kernel_rfl) (fun _ _ _ h => h) (by kernel_rfl) (by intro w hSw; (try dsimp only at hSw); go_simp; first | done | with_reducible rfl) (by assumption) ?_
          simp only [Act.put, List.setIfInBounds_toArray, List.set_cons_zero, List.set_cons_succ]
          refine wpAnyH_ready (rs := [24]) (by kernel_rfl) (by simp) ?_
          refine AllReadyH.cons rfl (fun K hK => ?_) AllReadyH.nil
          go_simp
          refine hK.out _ _ ⟨by rw [cell_set_ne n25]; assumption, by rw [cell_set_ne n35]; assumption, by rw [cell_set_ne ne5]; assumption, by rw [cell_set_ne ne5]; assumption⟩ (fun hHeld => ?_)
          clear hK K
          refine wpAnyH_done (by kernel_rfl) ?_ _
          have HNX := hide (unhide HNEXT x5 gg cap5 own5 ⟨gr5.os, gr5.tape, gr5.output, gr5.size, gr5.block⟩ li5)
          clear kg5 own5 gr5 li5 lt5 q0 q1 q2 q3 q4 q5
          go_wp2
          go_roundw
          case rel => exact ⟨k + 1, _, _, _, by omega, by go_num, unhide HNX⟩
          case measure => simp [intOf]; omega
      · have HFS := hide (show es2 = besideE n es hs by rw [(unhide hh).2, List.take_of_length_le (by omega)]; rfl)
        have o0 := (unhide hh).1.o0; have o1 := (unhide hh).1.o1
        have r0 := (unhide hh).1.r0; have r1 := (unhide hh).1.r1; have e0 := (unhide hh).1.e0; have e1 := (unhide hh).1.e1
        have hB3 := (unhide hh).1.B0
        have ks : Kept [w.heap.size + 2] wr ((wr.setCell ⟨w.heap.size + 2, 0, none⟩ (.int .i64 (n + m))).setCell ⟨w.heap.size + 2, 1, none⟩ (.slice ro es2.length rc)) := ((Kept.refl _ _).setCell (Or.inl (by simp)) _).setCell (Or.inl (by simp)) _
        have hat := (unhide hh).1.own.at'
        have HT := hide (show EdgesAt ((wr.setCell ⟨w.heap.size + 2, 0, none⟩ (.int .i64 (n + m))).setCell ⟨w.heap.size + 2, 1, none⟩ (.slice ro es2.length rc)) (.slice ro es2.length rc) es2 ∧ FreshAt w.heap.size (.slice ro es2.length rc) ∧ Kept [] w ((wr.setCell ⟨w.heap.size + 2, 0, none⟩ (.int .i64 (n + m))).setCell ⟨w.heap.size + 2, 1, none⟩ (.slice ro es2.length rc)) from
          ⟨hat.1.keptAt ks (fun a x y e => by have := hat.2 a x y e; simp; omega), fun a x y e => by have := hat.2 a x y e; omega, (unhide hh).1.kept.trans' ks (by simp)⟩)
        clear hat ks hB3
        go_wp2
        refine bodyPost_ret (v := gv (n + m) (.slice ro es2.length rc)) (by simp [results, Try.results18, go_sem, r0, r1]) rfl ?_
        first | exact ⟨_, rfl, by rw [← unhide HFS]; exact (unhide HT).1, (unhide HT).2⟩ | exact ⟨_, by rw [← unhide HFS]; exact (unhide HT).1, (unhide HT).2⟩
  · have hsm : sm = es.length := by
      rcases own2.2 with ⟨hv, h0⟩ | ⟨g, cap, cur, hv, _⟩
      · simp at hv; omega
      · simp at hv; omega
    subst hsm
    have ks : Kept [W3.heap.size] w2 ((w2.setCell ⟨W3.heap.size, 0, none⟩ (.int .i64 (n + m))).setCell ⟨W3.heap.size, 1, none⟩ (.slice so es.length sc)) := ((Kept.refl _ _).setCell (Or.inl (by simp)) _).setCell (Or.inl (by simp)) _
    have K5 := K2.trans' ks (by simp)
    have KW := hide ((unhide HKB).trans K5)
    have O0 : ((w2.setCell ⟨W3.heap.size, 0, none⟩ (.int .i64 (n + m))).setCell ⟨W3.heap.size, 1, none⟩ (.slice so es.length sc)).cell? ⟨W3.heap.size, 0, none⟩ = some (.int .i64 (n + m)) := by go_simp
    have O1 : ((w2.setCell ⟨W3.heap.size, 0, none⟩ (.int .i64 (n + m))).setCell ⟨W3.heap.size, 1, none⟩ (.slice so es.length sc)).cell? ⟨W3.heap.size, 1, none⟩ = some (.slice so es.length sc) := by go_simp
    have F1 : ((w2.setCell ⟨W3.heap.size, 0, none⟩ (.int .i64 (n + m))).setCell ⟨W3.heap.size, 1, none⟩ (.slice so es.length sc)).frozen? ⟨W3.heap.size, 1, none⟩ = false := by go_simp
    have BB := unhide HBX _ K5
    have hnB := own_block own2
    have BS := hide (show Bs w ((w2.setCell ⟨W3.heap.size, 0, none⟩ (.int .i64 (n + m))).setCell ⟨W3.heap.size, 1, none⟩ (.slice so es.length sc)) (W3.heap.size + 1) W3.heap.size n m (.slice ho hs.length hcap) (.slice so es.length sc) es from
      ⟨BB.1.1, BB.2.1.2, BB.2.2.1.1, BB.2.2.1.2, BB.2.2.2.1, BB.2.2.2.2, O0, O1, F1, own_freeE (OwnE.app (es := []) (fs := es) (by simpa [flatE] using own2)) ks (by omega), (fun e => by have := hnB _ e; omega), (by have := unhide HSZ; omega), (by have := unhide HSZ; omega), (by have := kz.size; have := ks.size; simp at *; omega), unhide KW⟩)
    clear KW O0 O1 F1 BB own2 g2 K2 K5 ks a0 a1 b0 b1 HL HBX kz z0 z1 y0 y1 hnB
    generalize (w2.setCell ⟨W3.heap.size, 0, none⟩ (.int .i64 (n + m))).setCell ⟨W3.heap.size, 1, none⟩ (.slice so es.length sc) = W5 at *
    generalize W3.heap.size + 1 = B at *
    generalize W3.heap.size = p5 at *
    go_wp2
    go_loopw [6] (fun kk wr => ∃ (k : Nat) (ro : Option Addr) (rc : Nat) (es2 : List E), k ≤ hs.length ∧ kk = .int .i64 k ∧ Hid (Bs w wr B p5 n m (.slice ho hs.length hcap) (.slice ro es2.length rc) es2 ∧ es2 = es ++ shiftE n (hs.take k))) (fun kk _ => hs.length - (intOf kk).toNat)
    case atStart => exact ⟨0, so, sc, es, Nat.zero_le _, rfl, unhide BS, by simp [shiftE]⟩
    case round =>
      obtain ⟨k, ro, rc, es2, hk, rfl, hh⟩ := hrel
      have g0 := (unhide hh).1.g0; have g1 := (unhide hh).1.g1
      by_cases hlt : k < hs.length
      · obtain ⟨ho2, _, hv2, _, _, hin2⟩ := (unhide HU w (Kept.refl [] w)).shape
        obtain ⟨eg, eo, he2, hin0⟩ := hin2 (by omega)
        have hao : ho = some ⟨eg, eo, none⟩ := by simp at hv2; rw [hv2.1, he2]
        subst hao
        have hegl := hin0.lt
        have hin := hin0.keptAt (unhide hh).1.kept (by simp)
        have d0 := hin.a k hlt; have d1 := hin.b k hlt
        have o1 := (unhide hh).1.o1; have f1 := (unhide hh).1.f1
        have hown : wr.ownsRow B 39 2 (.slice ro es2.length rc) es2.length (flatE es2) := (unhide hh).1.own
        have ok := okE_iff.1 (unhide HOK _ (at_mem hlt))
        have HTK := hide (show shiftE n (hs.take (k + 1)) = shiftE n (hs.take k) ++ [(eA hs k + n, eB hs k + n)] by
          unfold shiftE
          rw [List.take_succ_eq_append_getElem hlt, List.map_append, e_elem hlt]; rfl)
        unfold at_ at ok
        simp only at ok
        have hel2 : es2.length ≤ 20000 := by
          rw [(unhide hh).2]; simp [shiftE]; omega
        generalize eA hs k = xa at *
        generalize eB hs k = xb at *
        have hwa : IntKind.i64.wrap (xa + n) = xa + n := by rw [IntWalk.i64_left, IntWalk.wrap64_in _ (by omega)]
        have hwb : IntKind.i64.wrap (xb + n) = xb + n := by rw [IntWalk.i64_left, IntWalk.wrap64_in _ (by omega)]
        have t0 : (0 : Int) ≤ (k : Int) := by omega
        have t1 : (k : Int) < (hs.length : Int) := by omega
        have hB3 := (unhide hh).1.B0
        have hp53 := (unhide hh).1.p50
        have hBw : B ≤ wr.heap.size := (unhide hh).1.Bw
        have n25 : w.heap.size ≠ p5 := by omega
        have n35 : w.heap.size + 1 ≠ p5 := by omega
        have ne5 : eg ≠ p5 := by omega
        have hob := own_block hown
        have HNB := hide (show ∀ b, (Value.slice ro es2.length rc).ownBlock = some b → w.heap.size ≠ b ∧ w.heap.size + 1 ≠ b ∧ eg ≠ b ∧ p5 ≠ b from fun b hb => by
          have h1 := hob b hb
          exact ⟨by omega, by omega, by omega, fun e => (unhide hh).1.ne (by rw [hb, e])⟩)
        have HNEXT := hide (fun x5 gg cap5 own5 gr5 li5 => And.intro ((unhide hh).1.push (x5 := x5) (a := xa + n) (b := xb + n) (gg := gg) (cap5 := cap5) own5 gr5 li5) (show es2 ++ [(xa + n, xb + n)] = es ++ shiftE n (hs.take (k + 1)) by rw [unhide HTK, ← List.append_assoc, ← (unhide hh).2]))
        clear hin hin0 hin2 hv2 he2 ok hob
        have o1a := alloc_cell o1 (.cells #[.int .i64 (xa + n), .int .i64 (xb + n)] 39)
        go_wp2_with fail
        refine wp_region_held_drew (S := (fun W => W.cell? ⟨w.heap.size, 0, none⟩ = some (.int .i64 n) ∧ W.cell? ⟨w.heap.size + 1, 1, none⟩ = some (.slice (some ⟨eg, eo, none⟩) hs.length hcap) ∧ W.cell? ⟨eg, eo + k * 2, none⟩ = some (.int .i64 xa) ∧ W.cell? ⟨eg, eo + k * 2 + 1, none⟩ = some (.int .i64 xb))) (by kernel_rfl) ⟨g0, g1, d0, d1⟩ (fun hHeld => ?_)
        refine take_on 0 23 (v := ?_) rfl rfl (by kernel_rfl) (by kernel_rfl) (by kernel_rfl) (fun _ _ _ h => h) (by kernel_rfl) (by intro w hSw; (try dsimp only at hSw); go_simp; first | done | with_reducible rfl) (by assumption) ?_
        simp only [Act.put, List.setIfInBounds_toArray, List.set_cons_zero, List.set_cons_succ]
        refine take_on 2 25 (v := ?_) rfl rfl (by kernel_rfl) (by kernel_rfl) (by kernel_rfl) (fun _ _ _ h => h) (by kernel_rfl) (by intro w hSw; (try dsimp only at hSw); go_simp; first | done | with_reducible rfl) (by assumption) ?_
        simp only [Act.put, List.setIfInBounds_toArray, List.set_cons_zero, List.set_cons_succ]
        refine take_on 3 26 (v := ?_) rfl rfl (by kernel_rfl) (by kernel_rfl) (by kernel_rfl) (fun _ _ _ h => h) (by kernel_rfl) (by intro w hSw; (try dsimp only at hSw); go_simp; first | done | with_reducible rfl) (by assumption) ?_
        simp only [Act.put, List.setIfInBounds_toArray, List.set_cons_zero, List.set_cons_succ]
        refine take_on 4 27 (v := ?_) rfl rfl (by kernel_rfl) (by kernel_rfl) (by kernel_rfl) (fun _ _ _ h => h) (by kernel_rfl) (by intro w hSw; (try dsimp only at hSw); go_simp; first | done | with_reducible rfl) (by assumption) ?_
        simp only [Act.put, List.setIfInBounds_toArray, List.set_cons_zero, List.set_cons_succ]
        refine take_on 5 28 (v := ?_) rfl rfl (by kernel_rfl) (by kernel_rfl) (by kernel_rfl) (fun _ _ _ h => h) (by kernel_rfl) (by intro w hSw; (try dsimp only at hSw); go_simp; first | done | with_reducible rfl) (by assumption) ?_
        simp only [Act.put, List.setIfInBounds_toArray, List.set_cons_zero, List.set_cons_succ]
        refine take_on 6 29 (v := ?_) rfl rfl (by kernel_rfl) (by kernel_rfl) (by kernel_rfl) (fun _ _ _ h => h) (by kernel_rfl) (by intro w hSw; (try dsimp only at hSw); go_simp; first | done | with_reducible rfl) (by assumption) ?_
        simp only [Act.put, List.setIfInBounds_toArray, List.set_cons_zero, List.set_cons_succ]
        refine take_on 7 30 (v := ?_) rfl rfl (by kernel_rfl) (by kernel_rfl) (by kernel_rfl) (fun _ _ _ h => h) (by kernel_rfl) (by intro w hSw; (try dsimp only at hSw); go_simp; first | done | with_reducible rfl) (by assumption) ?_
        simp only [Act.put, List.setIfInBounds_toArray, List.set_cons_zero, List.set_cons_succ]
        refine take_on 8 31 (v := ?_) rfl rfl (by kernel_rfl) (by kernel_rfl) (by kernel_rfl) (fun _ _ _ h => h) (by kernel_rfl) (by intro w hSw; (try dsimp only at hSw); go_simp; first | done | with_reducible rfl) (by assumption) ?_
        simp only [Act.put, List.setIfInBounds_toArray, List.set_cons_zero, List.set_cons_succ]
        refine take_on 9 32 (v := ?_) rfl rfl (by kernel_rfl) (by kernel_rfl) (by kernel_rfl) (fun _ _ _ h => h) (by kernel_rfl) (by intro w hSw; (try dsimp only at hSw); go_simp; first | done | with_reducible rfl) (by assumption) ?_
        simp only [Act.put, List.setIfInBounds_toArray, List.set_cons_zero, List.set_cons_succ]
        refine take_on 10 33 (v := ?_) rfl rfl (by kernel_rfl) (by kernel_rfl) (by kernel_rfl) (fun _ _ _ h => h) (by kernel_rfl) (by intro w hSw; (try dsimp only at hSw); go_simp; first | done | with_reducible rfl) (by assumption) ?_
        simp only [Act.put, List.setIfInBounds_toArray, List.set_cons_zero, List.set_cons_succ]
        refine take_on 11 34 (v := ?_) rfl rfl (by kernel_rfl) (by kernel_rfl) (by kernel_rfl) (fun _ _ _ h => h) (by kernel_rfl) (by intro w hSw; (try dsimp only at hSw); go_simp; first | done | with_reducible rfl) (by assumption) ?_
        simp only [Act.put, List.setIfInBounds_toArray, List.set_cons_zero, List.set_cons_succ]
        refine take_on 12 35 (v := ?_) rfl rfl (by kernel_rfl) (by kernel_rfl) (by kernel_rfl) (fun _ _ _ h => h) (by kernel_rfl) (by intro w hSw; (try dsimp only at hSw); go_simp; first | done | with_reducible rfl) (by assumption) ?_
        simp only [Act.put, List.setIfInBounds_toArray, List.set_cons_zero, List.set_cons_succ]
        refine take_on 13 36 (v := ?_) rfl rfl (by kernel_rfl) (by kernel_rfl) (by kernel_rfl) (fun _ _ _ h => h) (by kernel_rfl) (by intro w hSw; (try dsimp only at hSw); go_simp; first | done | with_reducible rfl) (by assumption) ?_
        simp only [Act.put, List.setIfInBounds_toArray, List.set_cons_zero, List.set_cons_succ]
        refine take_on 14 37 (v := ?_) rfl rfl (by kernel_rfl) (by kernel_rfl) (by kernel_rfl) (fun _ _ _ h => h) (by kernel_rfl) (by intro w hSw; (try dsimp only at hSw); go_simp; first | done | with_reducible rfl) (by assumption) ?_
        simp only [Act.put, List.setIfInBounds_toArray, List.set_cons_zero, List.set_cons_succ]
        refine take_on 15 38 (v := ?_) rfl rfl (by kernel_rfl) (by kernel_rfl) (by kernel_rfl) (fun _ _ _ h => h) (by kernel_rfl) (by intro w hSw; (try dsimp only at hSw); go_simp; first | done | with_reducible rfl) (by assumption) ?_
        simp only [Act.put, List.setIfInBounds_toArray, List.set_cons_zero, List.set_cons_succ]
        refine take_on 16 39 (v := ?_) rfl rfl (by kernel_rfl) (by kernel_rfl) (by kernel_rfl) (fun _ _ _ h => h) (by kernel_rfl) (by intro w hSw; (try dsimp only at hSw); go_simp; first | done | with_reducible rfl) (by assumption) ?_
        simp only [Act.put, List.setIfInBounds_toArray, List.set_cons_zero, List.set_cons_succ]
        refine take_on 17 40 (v := ?_) rfl rfl (by kernel_rfl) (by kernel_rfl) (by kernel_rfl) (fun _ _ _ h => h) (by kernel_rfl) (by intro w hSw; (try dsimp only at hSw); go_simp; first | done | with_reducible rfl) (by assumption) ?_
        simp only [Act.put, List.setIfInBounds_toArray, List.set_cons_zero, List.set_cons_succ]
        refine take_on 18 41 (v := ?_) rfl rfl (by kernel_rfl) (by kernel_rfl) (by kernel_rfl) (fun _ _ _ h => h) (by kernel_rfl) (by intro w hSw; (try dsimp only at hSw); go_simp; first | done | with_reducible rfl) (by assumption) ?_
        simp only [Act.put, List.setIfInBounds_toArray, List.set_cons_zero, List.set_cons_succ]
        refine take_on 19 42 (v := ?_) rfl rfl (by kernel_rfl) (by kernel_rfl) (by kernel_rfl) (fun _ _ _ h => h) (by kernel_rfl) (by intro w hSw; (try dsimp only at hSw); go_simp; first | done | with_reducible rfl) (by assumption) ?_
        simp only [Act.put, List.setIfInBounds_toArray, List.set_cons_zero, List.set_cons_succ]
        refine take_on 20 43 (v := ?_) rfl rfl (by kernel_rfl) (by kernel_rfl) (by kernel_rfl) (fun _ _ _ h => h) (by kernel_rfl) (by intro w hSw; (try dsimp only at hSw); go_simp; first | done | with_reducible rfl) (by assumption) ?_
        simp only [Act.put, List.setIfInBounds_toArray, List.set_cons_zero, List.set_cons_succ]
        refine wpAnyH_ready (rs := [1, 21]) (by kernel_rfl) (by simp) ?_
        refine AllReadyH.cons rfl (fun K hK => ?_) (AllReadyH.cons rfl (fun K hK => ?_) AllReadyH.nil)
        · go_simp
          refine hK.out _ _ ⟨g0, g1, d0, d1⟩ (fun hHeld => ?_)
          clear hK K
          refine wpAnyH_ready (rs := [21]) (by kernel_rfl) (by simp) ?_
          refine AllReadyH.cons rfl (fun K hK => ?_) AllReadyH.nil
          go_simp
          refine hK.out _ _ ⟨alloc_cell g0 _, alloc_cell g1 _, alloc_cell d0 _, alloc_cell d1 _⟩ (fun hHeld => ?_)
          clear hK K
          refine wpAnyH_ready (rs := [22]) (by kernel_rfl) (by simp) ?_
          refine AllReadyH.cons rfl (fun K hK => ?_) AllReadyH.nil
          refine step_append_lies _ rfl (.tmp 24) (.tmp 44) 22 rfl B 39 i (ev 0 0) 2 16 Try.underlying22 hi hz0 hz1 hz2 rfl (by decide) (.slice ro es2.length rc) es2.length (flatE es2) rfl ((hown.alloc (.cells #[.int .i64 (xa + n), .int .i64 (xb + n)] 39)).drew) ⟨wr.heap.size, 0, none⟩ 1 1 [.int .i64 (xa + n), .int .i64 (xb + n)] rfl rfl (two_cells _ _ _ rfl) (by simp [Value.oneCell']) (by decide) (by unfold maxLen; omega) (by omega) (by simp; omega) (wr.heap.size + 1) (by simp) ?_
          intro gg cap5 x5 own5 gr5 li5 lt5
          have kg5 : Kept (Value.slice ro es2.length rc).ownBlock.toList (wr.alloc (.cells #[.int .i64 (xa + n), .int .i64 (xb + n)] 39)) x5 := (Kept.refl _ _).drew.trans (grown_kept gr5)
          have q0 := kept_cell' (alloc_cell g0 (.cells #[.int .i64 (xa + n), .int .i64 (xb + n)] 39)) kg5 (by simpa using fun h => (unhide HNB _ h).1 rfl)
          have q1 := kept_cell' (alloc_cell g1 (.cells #[.int .i64 (xa + n), .int .i64 (xb + n)] 39)) kg5 (by simpa using fun h => (unhide HNB _ h).2.1 rfl)
          have q2 := kept_cell' (alloc_cell d0 (.cells #[.int .i64 (xa + n), .int .i64 (xb + n)] 39)) kg5 (by simpa using fun h => (unhide HNB _ h).2.2.1 rfl)
          have q3 := kept_cell' (alloc_cell d1 (.cells #[.int .i64 (xa + n), .int .i64 (xb + n)] 39)) kg5 (by simpa using fun h => (unhide HNB _ h).2.2.1 rfl)
          have q4 := kept_cell' (alloc_cell o1 (.cells #[.int .i64 (xa + n), .int .i64 (xb + n)] 39)) kg5 (by simpa using fun h => (unhide HNB _ h).2.2.2 rfl)
          have q5 := kept_free' (alloc_cell o1 (.cells #[.int .i64 (xa + n), .int .i64 (xb + n)] 39)) (kept_free o1 f1 ((Kept.refl [] wr).alloc (.cells #[.int .i64 (xa + n), .int .i64 (xb + n)] 39))) kg5 (by simpa using fun h => (unhide HNB _ h).2.2.2 rfl)
          change K (Act.put _ (some 45) _) _
          refine hK.out _ _ ⟨q0, q1, q2, q3⟩ (fun hHeld => ?_)
          clear hK K
          simp only [Act.put, List.setIfInBounds_toArray, List.set_cons_zero, List.set_cons_succ]
          refine take_on 23 46 (v := ?_) rfl rfl (by kernel_rfl) (by kernel_rfl) (by kernel_rfl) (fun _ _ _ h => h) (by kernel_rfl) (by intro w hSw; (try dsimp only at hSw); go_simp; first | done | with_reducible rfl) (by assumption) ?_
          simp only [Act.put, List.setIfInBounds_toArray, List.set_cons_zero, List.set_cons_succ]
          refine wpAnyH_ready (rs := [24]) (by kernel_rfl) (by simp) ?_
          refine AllReadyH.cons rfl (fun K hK => ?_) AllReadyH.nil
          go_simp
          refine hK.out _ _ ⟨by rw [cell_set_ne n25]; assumption, by rw [cell_set_ne n35]; assumption, by rw [cell_set_ne ne5]; assumption, by rw [cell_set_ne ne5]; assumption⟩ (fun hHeld => ?_)
          clear hK K
          refine wpAnyH_done (by kernel_rfl) ?_ _
          have HNX := hide (unhide HNEXT x5 gg cap5 own5 ⟨gr5.os, gr5.tape, gr5.output, gr5.size, gr5.block⟩ li5)
          clear kg5 own5 gr5 li5 lt5 q0 q1 q2 q3 q4 q5
          go_wp2
          go_roundw
          case rel => exact ⟨k + 1, _, _, _, by omega, by go_num, unhide HNX⟩
          case measure => simp [intOf]; omega
        · go_simp
          refine hK.out _ _ ⟨alloc_cell g0 _, alloc_cell g1 _, alloc_cell d0 _, alloc_cell d1 _⟩ (fun hHeld => ?_)
          clear hK K
          refine wpAnyH_ready (rs := [1]) (by kernel_rfl) (by simp) ?_
          refine AllReadyH.cons rfl (fun K hK => ?_) AllReadyH.nil
          go_simp
          refine hK.out _ _ ⟨alloc_cell g0 _, alloc_cell g1 _, alloc_cell d0 _, alloc_cell d1 _⟩ (fun hHeld => ?_)
          clear hK K
          refine wpAnyH_ready (rs := [22]) (by kernel_rfl) (by simp) ?_
          refine AllReadyH.cons rfl (fun K hK => ?_) AllReadyH.nil
          refine step_append_lies _ rfl (.tmp 24) (.tmp 44) 22 rfl B 39 i (ev 0 0) 2 16 Try.underlying22 hi hz0 hz1 hz2 rfl (by decide) (.slice ro es2.length rc) es2.length (flatE es2) rfl ((hown.alloc (.cells #[.int .i64 (xa + n), .int .i64 (xb + n)] 39)).drew) ⟨wr.heap.size, 0, none⟩ 1 1 [.int .i64 (xa + n), .int .i64 (xb + n)] rfl rfl (two_cells _ _ _ rfl) (by simp [Value.oneCell']) (by decide) (by unfold maxLen; omega) (by omega) (by simp; omega) (wr.heap.size + 1) (by simp) ?_
          intro gg cap5 x5 own5 gr5 li5 lt5
          have kg5 : Kept (Value.slice ro es2.length rc).ownBlock.toList (wr.alloc (.cells #[.int .i64 (xa + n), .int .i64 (xb + n)] 39)) x5 := (Kept.refl _ _).drew.trans (grown_kept gr5)
          have q0 := kept_cell' (alloc_cell g0 (.cells #[.int .i64 (xa + n), .int .i64 (xb + n)] 39)) kg5 (by simpa using fun h => (unhide HNB _ h).1 rfl)
          have q1 := kept_cell' (alloc_cell g1 (.cells #[.int .i64 (xa + n), .int .i64 (xb + n)] 39)) kg5 (by simpa using fun h => (unhide HNB _ h).2.1 rfl)
          have q2 := kept_cell' (alloc_cell d0 (.cells #[.int .i64 (xa + n), .int .i64 (xb + n)] 39)) kg5 (by simpa using fun h => (unhide HNB _ h).2.2.1 rfl)
          have q3 := kept_cell' (alloc_cell d1 (.cells #[.int .i64 (xa + n), .int .i64 (xb + n)] 39)) kg5 (by simpa using fun h => (unhide HNB _ h).2.2.1 rfl)
          have q4 := kept_cell' (alloc_cell o1 (.cells #[.int .i64 (xa + n), .int .i64 (xb + n)] 39)) kg5 (by simpa using fun h => (unhide HNB _ h).2.2.2 rfl)
          have q5 := kept_free' (alloc_cell o1 (.cells #[.int .i64 (xa + n), .int .i64 (xb + n)] 39)) (kept_free o1 f1 ((Kept.refl [] wr).alloc (.cells #[.int .i64 (xa + n), .int .i64 (xb + n)] 39))) kg5 (by simpa using fun h => (unhide HNB _ h).2.2.2 rfl)
          change K (Act.put _ (some 45) _) _
          refine hK.out _ _ ⟨q0, q1, q2, q3⟩ (fun hHeld => ?_)
          clear hK K
          simp only [Act.put, List.setIfInBounds_toArray, List.set_cons_zero, List.set_cons_succ]
          refine take_on 23 46 (v := ?_) rfl rfl (by kernel_rfl) (by kernel_rfl) (by kernel_rfl) (fun _ _ _ h => h) (by kernel_rfl) (by intro w hSw; (try dsimp only at hSw); go_simp; first | done | with_reducible rfl) (by assumption) ?_
          simp only [Act.put, List.setIfInBounds_toArray, List.set_cons_zero, List.set_cons_succ]
          refine wpAnyH_ready (rs := [24]) (by kernel_rfl) (by simp) ?_
          refine AllReadyH.cons rfl (fun K hK => ?_) AllReadyH.nil
          go_simp
          refine hK.out _ _ ⟨by rw [cell_set_ne n25]; assumption, by rw [cell_set_ne n35]; assumption, by rw [cell_set_ne ne5]; assumption, by rw [cell_set_ne ne5]; assumption⟩ (fun hHeld => ?_)
          clear hK K
          refine wpAnyH_done (by kernel_rfl) ?_ _
          have HNX := hide (unhide HNEXT x5 gg cap5 own5 ⟨gr5.os, gr5.tape, gr5.output, gr5.size, gr5.block⟩ li5)
          clear kg5 own5 gr5 li5 lt5 q0 q1 q2 q3 q4 q5
          go_wp2
          go_roundw
          case rel => exact ⟨k + 1, _, _, _, by omega, by go_num, unhide HNX⟩
          case measure => simp [intOf]; omega
      · have HFS := hide (show es2 = besideE n es hs by rw [(unhide hh).2, List.take_of_length_le (by omega)]; rfl)
        have o0 := (unhide hh).1.o0; have o1 := (unhide hh).1.o1
        have r0 := (unhide hh).1.r0; have r1 := (unhide hh).1.r1; have e0 := (unhide hh).1.e0; have e1 := (unhide hh).1.e1
        have hB3 := (unhide hh).1.B0
        have ks : Kept [w.heap.size + 2] wr ((wr.setCell ⟨w.heap.size + 2, 0, none⟩ (.int .i64 (n + m))).setCell ⟨w.heap.size + 2, 1, none⟩ (.slice ro es2.length rc)) := ((Kept.refl _ _).setCell (Or.inl (by simp)) _).setCell (Or.inl (by simp)) _
        have hat := (unhide hh).1.own.at'
        have HT := hide (show EdgesAt ((wr.setCell ⟨w.heap.size + 2, 0, none⟩ (.int .i64 (n + m))).setCell ⟨w.heap.size + 2, 1, none⟩ (.slice ro es2.length rc)) (.slice ro es2.length rc) es2 ∧ FreshAt w.heap.size (.slice ro es2.length rc) ∧ Kept [] w ((wr.setCell ⟨w.heap.size + 2, 0, none⟩ (.int .i64 (n + m))).setCell ⟨w.heap.size + 2, 1, none⟩ (.slice ro es2.length rc)) from
          ⟨hat.1.keptAt ks (fun a x y e => by have := hat.2 a x y e; simp; omega), fun a x y e => by have := hat.2 a x y e; omega, (unhide hh).1.kept.trans' ks (by simp)⟩)
        clear hat ks hB3
        go_wp2
        refine bodyPost_ret (v := gv (n + m) (.slice ro es2.length rc)) (by simp [results, Try.results18, go_sem, r0, r1]) rfl ?_
        first | exact ⟨_, rfl, by rw [← unhide HFS]; exact (unhide HT).1, (unhide HT).2⟩ | exact ⟨_, by rw [← unhide HFS]; exact (unhide HT).1, (unhide HT).2⟩
end Go.Proofs.Ytfgobegkdagknaa

namespace Go.Proofs.Ytfgobegkdagknaa
open Go.RowKit

/-- A graph in a variable, its edges beside. -/
structure GVar (w : World) (p : Nat) (n : Int) (v : Value) (es : List E) : Prop where
  a : w.cell? ⟨p, 0, none⟩ = some (.int .i64 n)
  b : w.cell? ⟨p, 1, none⟩ = some v
  e : EdgesAt w v es
theorem GVar.kept {w w' : World} {p : Nat} {n : Int} {v : Value} {es : List E} (h : GVar w p n v es) (k : Kept [] w w') : GVar w' p n v es := ⟨kept_cell h.a k, kept_cell h.b k, h.e.kept k⟩
theorem GVar.new {w : World} {n : Int} {v : Value} {es : List E} (h : EdgesAt w v es) (t : TypeId) : GVar (w.alloc (.cells #[.int .i64 n, v] t)) w.heap.size n v es :=
  ⟨(box2 (Kept.refl [] _) (by simp)).1, (box2 (Kept.refl [] _) (by simp)).2, h.kept ((Kept.refl [] w).alloc _)⟩

end Go.Proofs.Ytfgobegkdagknaa
