/- garlandplay.Long: a ring with chords. garlandplay.Some; a graph in a variable. -/
import Derived.Test.YtfilhbkenedchaaSingleLabels10
import Derived.Test.YtfilhbkenedchaaSingleLabels8
import Derived.Test.YtfilhbkenedchaaSingleLabels9
import Derived.Deep.RegionLaw
import Derived.Maps.AppendAt
import Derived.Test.YtfilhbkenedchaaSingleLabels6
namespace Go.Proofs.Ytfilhbkenedchaa
open Go.RowKit

theorem add_has {n : Int} {es : List E} {a b : Int} (hr : rightB n es = true) (hl : es.length < 65536) (ha : 0 ≤ a ∧ a < n) (hb : 0 ≤ b ∧ b < n) (hab : a ≠ b) (h : addErr n es a b ≠ 0) : trn a b ∈ es := by
  unfold addErr at h
  rw [if_neg (by rw [hr]; simp), if_neg (by omega), if_neg hab] at h
  refine Classical.byContradiction fun c => h ?_
  rw [if_neg c, if_neg (by omega)]
/-- The edges of a ring. -/
def ringE (N v : Nat) : E := ((v : Int), (((v + 1) % N : Nat) : Int))
def ringL (N k : Nat) : List E := (List.range k).map (ringE N)
theorem ringL_len (N k : Nat) : (ringL N k).length = k := by simp [ringL]
theorem ringL_succ (N k : Nat) : ringL N (k + 1) = ringL N k ++ [ringE N k] := by unfold ringL; rw [List.range_succ, List.map_append]; rfl
/-- All that lies ahead of i is in, as far as it may be. -/
def PutAll (N : Nat) (L es : List E) (i : Nat) : Prop := ∀ j, j < i → (0 ≤ (at_ L j).1 ∧ (at_ L j).1 < (N : Int)) → (0 ≤ (at_ L j).2 ∧ (at_ L j).2 < (N : Int)) → (at_ L j).1 ≠ (at_ L j).2 → trn (at_ L j).1 (at_ L j).2 ∈ es
theorem PutAll.yes {N : Nat} {L es : List E} {i : Nat} (h : PutAll N L es i) {a b : Int} (ha : eA L i = a) (hb : eB L i = b) : PutAll N L (insE es (trn a b)) (i + 1) := fun j hj h1 h2 h3 => by
  by_cases e : j = i
  · subst e
    subst ha hb
    exact insE_mem.2 (Or.inl rfl)
  · exact insE_mem.2 (Or.inr (h j (by omega) h1 h2 h3))
theorem PutAll.no {N : Nat} {L es : List E} {i : Nat} (h : PutAll N L es i) (hr : rightB (N : Int) es = true) (hl : es.length < 65536) {a b : Int} (ha : eA L i = a) (hb : eB L i = b) (hc : addErr (N : Int) es a b ≠ 0) : PutAll N L es (i + 1) := fun j hj h1 h2 h3 => by
  by_cases e : j = i
  · subst e
    subst ha hb
    exact add_has hr hl h1 h2 h3 hc
  · exact h j (by omega) h1 h2 h3

set_option maxRecDepth 20000 in
set_option maxHeartbeats 8000000 in
theorem long_any (w : World) (n step chords : Int) : Calls Try.prog 23 #[.int .i64 n, .int .i64 step, .int .i64 chords] w fun e w' => ∃ (N : Nat) (r : Value) (es : List E), e = .returned (gv N r) ∧ EdgesAt w' r es ∧ rightB N es = true ∧ 3 ≤ N ∧ N ≤ 302 ∧ (es.length : Int) ≤ 400 ∧ (∀ v : Nat, v < N → trn (v : Int) (((v + 1) % N : Nat) : Int) ∈ es) ∧ FreshAt w.heap.size r ∧ Kept [] w w' := by
  obtain ⟨ii, hi, hz0, hz1, hz2⟩ := info_parts infoEdge
  have m1 := mod_small n 299 (by omega) (by omega)
  rw [show (299 : Int) + 1 = 300 by rfl] at m1
  obtain ⟨N0, hN0⟩ : ∃ N0 : Nat, wrap64 ((IntKind.u64.wrap n).tmod 300) = (N0 : Int) := ⟨(wrap64 ((IntKind.u64.wrap n).tmod 300)).toNat, by omega⟩
  rw [hN0] at m1
  have m2 := mod_small chords 59 (by omega) (by omega)
  rw [show (59 : Int) + 1 = 60 by rfl] at m2
  obtain ⟨C, hC⟩ : ∃ C : Nat, wrap64 ((IntKind.u64.wrap chords).tmod 60) = (C : Int) := ⟨(wrap64 ((IntKind.u64.wrap chords).tmod 60)).toNat, by omega⟩
  rw [hC] at m2
  have hw3 : IntKind.i64.wrap (3 + (N0 : Int)) = ((3 + N0 : Nat) : Int) := by rw [IntWalk.i64_left, IntWalk.wrap64_in _ (by omega)]; omega
  have hw3' : wrap64 (3 + (N0 : Int)) = ((3 + N0 : Nat) : Int) := by rw [IntWalk.wrap64_in _ (by omega)]; omega
  go_enter Try.func23, Try.ntmps23
  go_wp2_with fail
  obtain ⟨N, hN⟩ : ∃ N : Nat, 3 + (N0 : Int) = (N : Int) := ⟨3 + N0, by omega⟩
  have hN3 : 3 ≤ N := by omega
  have hN302 : N ≤ 302 := by omega
  have m3 : 0 ≤ wrap64 (2 + wrap64 ((IntKind.u64.wrap step).tmod (3 + (N0 : Int)))) ∧ wrap64 (2 + wrap64 ((IntKind.u64.wrap step).tmod (3 + (N0 : Int)))) ≤ 400 := by
    have h := mod_small step (2 + (N0 : Int)) (by omega) (by omega)
    rw [show 2 + (N0 : Int) + 1 = 3 + (N0 : Int) by omega] at h
    rw [IntWalk.wrap64_in (2 + _) (by omega)]
    omega
  obtain ⟨S, hS⟩ : ∃ S : Nat, wrap64 (2 + wrap64 ((IntKind.u64.wrap step).tmod (3 + (N0 : Int)))) = (S : Int) := ⟨(wrap64 (2 + wrap64 ((IntKind.u64.wrap step).tmod (3 + (N0 : Int))))).toNat, by omega⟩
  rw [hS] at m3
  have MS := hide (Mr.start w (N : Int) 25 25)
  simp only [hS]
  simp only [hN]
  clear hw3 hw3' hN0 hS hN m1
  have KW0 := hide ((((Kept.refl [] w).alloc (.cells #[.int .i64 0, .slice none 0 0] 25)).alloc (.cells #[.int .i64 (N : Int), .slice none 0 0] 25)))
  have hW0 : ((w.alloc (.cells #[.int .i64 0, .slice none 0 0] 25)).alloc (.cells #[.int .i64 (N : Int), .slice none 0 0] 25)).heap.size = w.heap.size + 2 := by simp
  generalize (w.alloc (.cells #[.int .i64 0, .slice none 0 0] 25)).alloc (.cells #[.int .i64 (N : Int), .slice none 0 0] 25) = W0 at *
  have HW0 := hide hW0
  clear hW0
  go_loopw [7, 9] (fun lv vv wr => ∃ (k : Nat), k ≤ N ∧ vv = .int .i64 k ∧ wr.ownsRow W0.heap.size 49 2 lv k (flatE (ringL N k)) ∧ Hid (Kept [] W0 wr)) (fun _ vv _ => N - (intOf vv).toNat)
  case atStart => exact ⟨0, Nat.zero_le _, rfl, ⟨rfl, Or.inl ⟨rfl, rfl⟩⟩, Kept.refl _ _⟩
  case round =>
    obtain ⟨k, hk, rfl, hown, hh⟩ := hrel
    by_cases hlt : k < N
    · have hk1 : IntKind.i64.wrap ((k : Int) + 1) = (k : Int) + 1 := by rw [IntWalk.i64_left, IntWalk.wrap64_in _ (by omega)]
      have hk2 : ((k : Int) + 1).tmod (N : Int) = (((k + 1) % N : Nat) : Int) := by rw [show (k : Int) + 1 = ((k + 1 : Nat) : Int) by omega]; rfl
      have hk3 : IntKind.i64.wrap (((k : Int) + 1).tmod (N : Int)) = (((k + 1) % N : Nat) : Int) := by
        rw [hk2, IntWalk.i64_left, IntWalk.wrap64_in _ (by have := Nat.mod_lt (k + 1) (show 0 < N by omega); omega)]
      have hnz : ((N : Int) == 0) = false := by simp; omega
      have hnz2 : ¬ (N : Int) = 0 := by omega
      have HST := hide (ringL_succ N k)
      unfold ringE at HST
      obtain ⟨lo, lc, rfl⟩ := own_formM hown
      have t0 : (0 : Int) ≤ (k : Int) := by omega
      have t1 : (k : Int) < (N : Int) := by omega
      have hws := (unhide hh).size
      generalize ((k + 1) % N : Nat) = y at *
      go_wp2_with (first | (at_builtin; refine wpList_append_src rfl (.tmp 33) (.tmp 40) 23 rfl W0.heap.size 49 ii (ev 0 0) 2 16 Try.underlying23 hi hz0 hz1 hz2 rfl (by decide) (.slice lo k lc) _ _ rfl (hown.alloc _) _ 1 [.int .i64 (k : Int), .int .i64 (y : Int)] rfl (EdgesAt.src (edge_new _ (k : Int) (y : Int) 49 1 _ (Nat.le_refl _) rfl)) (by unfold maxLen; omega) (by omega) (by simp; omega) ?_; intro v5 w5 own5 g5; have K5 : Kept [] W0 w5 := Kept.grown ((unhide hh).alloc _) g5 (fun q hq => Or.inr (own_block hown q hq))))
      go_roundw
      case rel => exact ⟨k + 1, by omega, by go_num, by rw [unhide HST, flatE_app]; exact own5, K5⟩
      case measure => simp [intOf]; omega
    · have e : k = N := by omega
      subst e
      obtain ⟨lo, lc, rfl⟩ := own_formM hown
      have HRG := hide (show ∀ v : Nat, v < k → ringE k v ∈ ringL k k from fun v hv => List.mem_map.2 ⟨v, List.mem_range.2 hv, rfl⟩)
      have HLL := hide (ringL_len k k)
      generalize ringL k k = L0 at *
      have hmw : IntKind.i64.wrap (C : Int) = (C : Int) := by rw [IntWalk.i64_left, IntWalk.wrap64_in _ (by omega)]
      go_wp2
      go_loopw [7, 10] (fun lv vv wr => ∃ (j : Nat) (L : List E), j ≤ 60 ∧ vv = .int .i64 j ∧ wr.ownsRow W0.heap.size 49 2 lv L.length (flatE L) ∧ L.length ≤ 302 + j ∧ Hid ((∀ v : Nat, v < k → ringE k v ∈ L) ∧ Kept [] W0 wr)) (fun _ vv _ => C - (intOf vv).toNat)
      case atStart => exact ⟨0, L0, by omega, rfl, by rw [unhide HLL]; exact hown, by rw [unhide HLL]; omega, unhide HRG, unhide hh⟩
      case round =>
        clear HRG HLL hown hh
        obtain ⟨j, L, hj, rfl, hown, hLl, hh⟩ := hrel
        obtain ⟨lo, lc, rfl⟩ := own_formM hown
        by_cases hlt : j < C
        · have q0 : IntKind.i64.wrap ((j : Int) * 7) = (j : Int) * 7 := by rw [IntWalk.i64_left, IntWalk.wrap64_in _ (by omega)]
          have q1 : IntKind.i64.wrap ((j : Int) * 7 + (S : Int)) = (j : Int) * 7 + (S : Int) := by rw [IntWalk.i64_left, IntWalk.wrap64_in _ (by omega)]
          have a0 := Int.tmod_nonneg (k : Int) (show 0 ≤ (j : Int) * 7 by omega)
          have a1 := Int.tmod_lt_of_pos ((j : Int) * 7) (show (0 : Int) < (k : Int) by omega)
          have b0 := Int.tmod_nonneg (k : Int) (show 0 ≤ (j : Int) * 7 + (S : Int) by omega)
          have b1 := Int.tmod_lt_of_pos ((j : Int) * 7 + (S : Int)) (show (0 : Int) < (k : Int) by omega)
          have q2 : IntKind.i64.wrap (((j : Int) * 7).tmod (k : Int)) = ((j : Int) * 7).tmod (k : Int) := by rw [IntWalk.i64_left, IntWalk.wrap64_in _ (by omega)]
          have q3 : IntKind.i64.wrap (((j : Int) * 7 + (S : Int)).tmod (k : Int)) = ((j : Int) * 7 + (S : Int)).tmod (k : Int) := by rw [IntWalk.i64_left, IntWalk.wrap64_in _ (by omega)]
          have hnz : ((k : Int) == 0) = false := by simp; omega
          have hnz2 : ¬ (k : Int) = 0 := by omega
          have hnz3 : ¬ k = 0 := by omega
          have t0 : (0 : Int) ≤ (j : Int) := by omega
          have t1 : (j : Int) < (C : Int) := by omega
          have hws := (unhide hh).2.size
          have HH := hide (unhide hh)
          obtain ⟨x, hx⟩ : ∃ x, ((j : Int) * 7).tmod (k : Int) = x := ⟨_, rfl⟩
          obtain ⟨y, hy⟩ : ∃ y, ((j : Int) * 7 + (S : Int)).tmod (k : Int) = y := ⟨_, rfl⟩
          rw [hx] at q2
          rw [hy] at q3
          obtain ⟨M, hM⟩ : ∃ M, L.length = M := ⟨_, rfl⟩
          have HM := hide hM
          rw [hM] at hown hLl ⊢
          clear a0 a1 b0 b1 hh hM
          go_wp2_with fail
          go_region_law (refine step_append_src (by rfl) (.tmp 50) (.tmp 62) 23 (by rfl) W0.heap.size 49 ii (ev 0 0) 2 16 Try.underlying23 hi hz0 hz1 hz2 (by rfl) (by decide) (.slice lo M lc) _ _ (by rfl) (own_keep hown (kept_grown (by repeat' first | exact Kept.refl [] wr | apply Kept.alloc | apply Kept.drew)) (by simp)) _ 1 [.int .i64 x, .int .i64 y] (by rfl) (EdgesAt.src (edge_new _ x y 49 1 _ (Nat.le_refl _) rfl)) (by unfold maxLen; omega) (by omega) (by simp; omega) ?_; intro v5 w5 own5 g5; have K5 : Kept [] W0 w5 := Kept.grown (by repeat' first | exact (unhide HH).2 | apply Kept.alloc | apply Kept.drew) g5 (fun q hq => Or.inr (own_block hown q hq)))
          all_goals
            go_wp2
            go_roundw
            case rel => exact ⟨j + 1, L ++ [(x, y)], by omega, by go_num, by rw [List.length_append, flatE_app, unhide HM]; exact own5, by rw [List.length_append, unhide HM]; simp; omega, fun v hv => List.mem_append_left _ ((unhide HH).1 v hv), K5⟩
            case measure => simp [intOf]; omega
        · have HL := hide (OwnE.at' hown)
          have HIN := hide (unhide hh).1
          have MW := hide ((unhide MS).go (unhide hh).2)
          have HR0 := hide (show rightB (k : Int) [] = true by unfold rightB; simp [chk]; omega)
          obtain ⟨M, hM⟩ : ∃ M, L.length = M := ⟨_, rfl⟩
          have HM := hide hM
          rw [hM] at hLl ⊢
          have hm' : (M : Int) ≤ 9223372036854775807 := by omega
          clear hown hh hM
          go_wp2
          clear hC
          go_loopw [11] (fun vv wr => ∃ (i : Nat) (r : Value) (es : List E), i ≤ M ∧ vv = .int .i64 i ∧ es.length ≤ i ∧ Hid (Mr w (k : Int) r es wr ∧ rightB (k : Int) es = true ∧ PutAll k L es i ∧ EdgesAt wr (.slice lo M lc) L)) (fun vv _ => M - (intOf vv).toNat)
          case atStart => exact ⟨0, _, [], by omega, rfl, by simp, unhide MW, unhide HR0, fun j hj => by omega, by have := (unhide HL).1; rw [unhide HM] at this; exact this⟩
          case round =>
            have HFL := hide (show FreshAt (w.heap.size + 2) (.slice lo M lc) from fun a n c e => by have h1 := (unhide HL).2; rw [unhide HM] at h1; have := h1 a n c e; have := unhide HW0; omega)
            clear HL MW HR0 MS KW0
            obtain ⟨i, r, es, hi, rfl, hle, hh⟩ := hrel
            obtain ⟨ro, rc, rfl, _⟩ := (unhide hh).1.at'.shape
            have c0 := (unhide hh).1.g0; have c1 := (unhide hh).1.g1
            by_cases hlt : i < M
            · obtain ⟨ao2, cap2, hv2, _, _, hin2⟩ := (unhide hh).2.2.2.shape
              obtain ⟨g, o, he2, hin⟩ := hin2 (by have := unhide HM; omega)
              have hao : lo = some ⟨g, o, none⟩ := by simp at hv2; rw [hv2.1, he2]
              subst hao
              have d0 := hin.a i (by have := unhide HM; omega)
              have d1 := hin.b i (by have := unhide HM; omega)
              obtain ⟨a, ha⟩ : ∃ a, eA L i = a := ⟨_, rfl⟩
              obtain ⟨b, hb⟩ : ∃ b, eB L i = b := ⟨_, rfl⟩
              rw [ha] at d0
              rw [hb] at d1
              have HAB := hide (And.intro ha hb)
              have HA := hide (show ∀ W, Kept [] wr W → Calls Try.prog 28 #[gv k (.slice ro es.length rc), .int .i64 a, .int .i64 b] W fun e w' => ∃ c nn ee, Answers W w' e nn ee c ∧ Hid ((c = 0 → ee.length = es.length + 1 ∧ rightB (k : Int) ee = true ∧ nn = (k : Int) ∧ PutAll k L ee (i + 1)) ∧ (c ≠ 0 → PutAll k L es (i + 1))) from fun W k' => (radd_any (n := (k : Int)) ((unhide hh).1.at'.kept k') a b).mono fun e w' h => ⟨_, _, _, h, ⟨fun hz => by
                unfold addE addN; rw [if_pos hz, if_pos hz]; exact ⟨insE_len, ins_right hz, rfl, (unhide hh).2.2.1.yes ha hb⟩, fun hz => (unhide hh).2.2.1.no (unhide hh).2.1 (by omega) ha hb hz⟩⟩)
              have hc0 := lt_of_cell c0
              have hd0 := lt_of_cell d0
              have hgf := unhide HFL _ _ _ rfl
              simp only at hgf
              have i0 : (0 : Int) ≤ (i : Int) := by omega
              have i1 : (i : Int) < (M : Int) := by omega
              clear hin hin2 hv2 he2 ha hb
              go_wp2_with fail
              go_region_held3 (fun W => W.cell? ⟨w.heap.size + 1, 0, none⟩ = some (.int .i64 (k : Int)) ∧ W.cell? ⟨w.heap.size + 1, 1, none⟩ = some (.slice ro es.length rc) ∧ W.cell? ⟨g, o + i * 2, none⟩ = some (.int .i64 a) ∧ W.cell? ⟨g, o + i * 2 + 1, none⟩ = some (.int .i64 b)) (first | exact ⟨kept_cell c0 K2, kept_cell c1 K2, kept_cell d0 K2, kept_cell d1 K2⟩ | exact ⟨(cell_set2 (by omega)).trans (kept_cell c0 K2), (cell_set2 (by omega)).trans (kept_cell c1 K2), (cell_set2 (by omega)).trans (kept_cell d0 K2), (cell_set2 (by omega)).trans (kept_cell d1 K2)⟩ | exact ⟨alloc_cell (kept_cell c0 K2) _, alloc_cell (kept_cell c1 K2) _, alloc_cell (kept_cell d0 K2) _, alloc_cell (kept_cell d1 K2) _⟩ | go_keep)
                (first | (go_at_call 28; refine (unhide HA _ (by repeat' first | exact Kept.refl _ _ | apply Kept.drew | apply Kept.alloc)).mono ?_; rintro e w2 ⟨c, nn, ee, ⟨r2, rfl, hr2, hf2, k2⟩, HST⟩; obtain ⟨so, sm, sc, rfl⟩ := hr2.form; have kz := (Kept.refl [] (wr.alloc (.cells #[.int .i64 0, .slice none 0 0] 25))).drew.trans k2; obtain ⟨z0, z1⟩ := box2 kz (by simp); obtain ⟨y0, y1⟩ := box2f kz; have K2 : Kept [] wr w2 := ((Kept.refl [] wr).alloc _).trans kz) | (go_at_call 28; refine (unhide HA _ (by repeat' first | exact Kept.refl _ _ | apply Kept.drew | apply Kept.alloc)).mono ?_; rintro e w2 ⟨c, nn, ee, ⟨r2, rfl, hr2, hf2, k2⟩, HST⟩; obtain ⟨so, sm, sc, rfl⟩ := hr2.form; have K2 : Kept [] wr w2 := (Kept.refl [] wr).drew.trans k2))
              · have M3 := (unhide hh).1.go (K2.alloc (.cells #[.int .i64 nn, .slice so sm sc] 25))
                obtain ⟨v0, v1⟩ := box2 (Kept.refl [] (w2.alloc (.cells #[.int .i64 nn, .slice so sm sc] 25))) (by simp)
                have HE3 := hide ((unhide hh).2.2.2.kept (K2.alloc (.cells #[.int .i64 nn, .slice so sm sc] 25)))
                have hr3 := hr2.kept ((Kept.refl [] w2).alloc (.cells #[.int .i64 nn, .slice so sm sc] 25))
                have hf3 : FreshAt (w.heap.size + 2) (.slice so sm sc) := fun a x y e => Nat.le_trans hc0 (hf2 a x y e)
                have nP : w2.heap.size ≠ w.heap.size + 1 := by have := K2.size; omega
                clear k2 K2 hr2 hf2 c0 c1 d0 d1
                generalize w2.alloc (.cells #[.int .i64 nn, .slice so sm sc] 25) = w3 at *
                generalize w2.heap.size = pp at *
                have HM3 := hide M3
                have HR3 := hide hr3
                have HF3 := hide hf3
                have s0 := M3.g0; have s1 := M3.g1; have t0 := M3.f0; have t1 := M3.f1
                clear M3 hr3 hf3 hc0 hd0
                by_cases hcz : c = 0
                · have hq : (c == 0) = true := by simpa using hcz
                  obtain ⟨hl2, hr2', hnn, hpa⟩ := (unhide HST).1 hcz
                  subst hnn
                  have HL2 := hide hl2
                  have HRR := hide (And.intro hr2' hpa)
                  clear hcz hl2 hr2' hpa
                  go_wp2
                  go_roundw
                  case rel =>
                    refine ⟨i + 1, .slice so sm sc, ee, by omega, by go_num, by rw [unhide HL2]; omega, ?_, (unhide HRR).1, (unhide HRR).2, ?_⟩
                    · exact (unhide HM3).put (unhide HR3) (unhide HF3)
                    · exact (unhide HE3).keptAt (((Kept.refl [w.heap.size + 1] _).setCell (Or.inl (by simp)) _).setCell (Or.inl (by simp)) _) (fun a n c e => by have := unhide HFL a n c e; simp; omega)
                  case measure => simp [intOf]; omega
                · have hq : (c == 0) = false := by simpa using hcz
                  have HNO := hide ((unhide HST).2 hcz)
                  clear hcz
                  go_wp2
                  go_roundw
                  case rel => exact ⟨i + 1, _, es, by omega, by go_num, by omega, unhide HM3, (unhide hh).2.1, unhide HNO, unhide HE3⟩
                  case measure => simp [intOf]; omega
              · have kS : Kept [wr.heap.size] w2 ((w2.setCell ⟨wr.heap.size, 0, none⟩ (.int .i64 nn)).setCell ⟨wr.heap.size, 1, none⟩ (.slice so sm sc)) := ((Kept.refl _ _).setCell (Or.inl (by simp)) _).setCell (Or.inl (by simp)) _
                have kA : Kept [] wr ((w2.setCell ⟨wr.heap.size, 0, none⟩ (.int .i64 nn)).setCell ⟨wr.heap.size, 1, none⟩ (.slice so sm sc)) := K2.trans' kS (by simp)
                have M3 := (unhide hh).1.go kA
                have v0 : ((w2.setCell ⟨wr.heap.size, 0, none⟩ (.int .i64 nn)).setCell ⟨wr.heap.size, 1, none⟩ (.slice so sm sc)).cell? ⟨wr.heap.size, 0, none⟩ = some (.int .i64 nn) := by go_simp
                have v1 : ((w2.setCell ⟨wr.heap.size, 0, none⟩ (.int .i64 nn)).setCell ⟨wr.heap.size, 1, none⟩ (.slice so sm sc)).cell? ⟨wr.heap.size, 1, none⟩ = some (.slice so sm sc) := by go_simp
                have HE3 := hide ((unhide hh).2.2.2.kept kA)
                have hr3 := hr2.keptAt kS (fun a x y e => by have h2 := hf2 a x y e; have h3 : (wr.alloc (.cells #[.int .i64 0, .slice none 0 0] 25)).heap.size ≤ a.block := h2; simp at h3 ⊢; omega)
                have hf3 : FreshAt (w.heap.size + 2) (.slice so sm sc) := fun a x y e => by have h2 := hf2 a x y e; have h3 : (wr.alloc (.cells #[.int .i64 0, .slice none 0 0] 25)).heap.size ≤ a.block := h2; simp at h3; omega
                have nP : wr.heap.size ≠ w.heap.size + 1 := by omega
                clear k2 kz K2 hr2 hf2 c0 c1 d0 d1 z0 z1 y0 y1 kS kA
                generalize (w2.setCell ⟨wr.heap.size, 0, none⟩ (.int .i64 nn)).setCell ⟨wr.heap.size, 1, none⟩ (.slice so sm sc) = w3 at *
                have HM3 := hide M3
                have HR3 := hide hr3
                have HF3 := hide hf3
                have s0 := M3.g0; have s1 := M3.g1; have t0 := M3.f0; have t1 := M3.f1
                clear M3 hr3 hf3 hc0 hd0
                by_cases hcz : c = 0
                · have hq : (c == 0) = true := by simpa using hcz
                  obtain ⟨hl2, hr2', hnn, hpa⟩ := (unhide HST).1 hcz
                  subst hnn
                  have HL2 := hide hl2
                  have HRR := hide (And.intro hr2' hpa)
                  clear hcz hl2 hr2' hpa
                  go_wp2
                  go_roundw
                  case rel =>
                    refine ⟨i + 1, .slice so sm sc, ee, by omega, by go_num, by rw [unhide HL2]; omega, ?_, (unhide HRR).1, (unhide HRR).2, ?_⟩
                    · exact (unhide HM3).put (unhide HR3) (unhide HF3)
                    · exact (unhide HE3).keptAt (((Kept.refl [w.heap.size + 1] _).setCell (Or.inl (by simp)) _).setCell (Or.inl (by simp)) _) (fun a n c e => by have := unhide HFL a n c e; simp; omega)
                  case measure => simp [intOf]; omega
                · have hq : (c == 0) = false := by simpa using hcz
                  have HNO := hide ((unhide HST).2 hcz)
                  clear hcz
                  go_wp2
                  go_roundw
                  case rel => exact ⟨i + 1, _, es, by omega, by go_num, by omega, unhide HM3, (unhide hh).2.1, unhide HNO, unhide HE3⟩
                  case measure => simp [intOf]; omega
            · have e : i = M := by omega
              have r0 := (unhide hh).1.rs.r0; have r1 := (unhide hh).1.rs.r1; have f0 := (unhide hh).1.rs.f0; have f1 := (unhide hh).1.rs.f1
              have HT := hide ((unhide hh).1.rs.told (m := (k : Int)) (unhide hh).1.at' (fun a x y e => by have := (unhide hh).1.fresh a x y e; omega))
              have HE := hide (show rightB (k : Int) es = true ∧ ∀ v : Nat, v < k → trn (v : Int) (((v + 1) % k : Nat) : Int) ∈ es from ⟨(unhide hh).2.1, fun v hv => by
                obtain ⟨j, hj, he⟩ := List.getElem_of_mem (unhide HIN v hv)
                have hp := (unhide hh).2.2.1 j (by have := unhide HM; omega)
                rw [← at_elem hj, he] at hp
                unfold ringE at hp
                have hm := Nat.mod_lt (v + 1) (show 0 < k by omega)
                refine hp (by simp only; omega) (by simp only; omega) ?_
                simp only
                intro e
                have e2 : v = (v + 1) % k := by omega
                by_cases c : v + 1 < k
                · rw [Nat.mod_eq_of_lt c] at e2; omega
                · have : v + 1 = k := by omega
                  rw [this, Nat.mod_self] at e2; omega⟩)
              have HLE := hide (show (es.length : Int) ≤ 400 by omega)
              have HNN := hide (And.intro hN3 hN302)
              clear e
              go_wp2
              all_goals (exact bodyPost_ret (v := gv k (.slice ro es.length rc)) (by simp [results, Try.results23, go_sem, r0, r1]) rfl ⟨k, .slice ro es.length rc, es, rfl, (unhide HT).1, (unhide HE).1, (unhide HNN).1, (unhide HNN).2, unhide HLE, (unhide HE).2, (unhide HT).2⟩)
end Go.Proofs.Ytfilhbkenedchaa

namespace Go.Proofs.Ytfilhbkenedchaa
open Go.RowKit

/-- A graph in a variable, its edges beside. -/
structure GVar (w : World) (p : Nat) (n : Int) (v : Value) (es : List E) : Prop where
  a : w.cell? ⟨p, 0, none⟩ = some (.int .i64 n)
  b : w.cell? ⟨p, 1, none⟩ = some v
  e : EdgesAt w v es
theorem GVar.kept {w w' : World} {p : Nat} {n : Int} {v : Value} {es : List E} (h : GVar w p n v es) (k : Kept [] w w') : GVar w' p n v es := ⟨kept_cell h.a k, kept_cell h.b k, h.e.kept k⟩
theorem GVar.new {w : World} {n : Int} {v : Value} {es : List E} (h : EdgesAt w v es) (t : TypeId) : GVar (w.alloc (.cells #[.int .i64 n, v] t)) w.heap.size n v es :=
  ⟨(box2 (Kept.refl [] _) (by simp)).1, (box2 (Kept.refl [] _) (by simp)).2, h.kept ((Kept.refl [] w).alloc _)⟩

theorem GVar.put {w : World} {p : Nat} {n n' : Int} {v v' : Value} {es fs : List E} (h : GVar w p n v es) (he : EdgesAt w v' fs) (hf : ∀ a x y, v' = .slice (some a) x y → a.block ≠ p) : GVar ((w.setCell ⟨p, 0, none⟩ (.int .i64 n')).setCell ⟨p, 1, none⟩ v') p n' v' fs := by
  have a := h.a; have b := h.b
  refine ⟨by go_simp, by go_simp, he.keptAt (bs := [p]) (((Kept.refl _ _).setCell (Or.inl (by simp)) _).setCell (Or.inl (by simp)) _) (fun a x y e => by have := hf a x y e; simpa using this)⟩

end Go.Proofs.Ytfilhbkenedchaa
