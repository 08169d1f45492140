/- garlandplay.Long: a ring with chords. A ring with a stem, and an end behind it: plain mathematics. garlandplay.Cycle: a ring. -/
import Derived.Test.YtfilhbkenedchaaSingleStems10
import Derived.Test.YtfilhbkenedchaaSingleStems8
import Derived.Test.YtfilhbkenedchaaSingleStems9
import Derived.Deep.RegionLaw
import Derived.Maps.AppendAt
import Derived.Test.YtfilhbkenedchaaSingleStems19
namespace Go.Proofs.Ytfilhbkenedchaa
open Go.RowKit

theorem add_has {n : Int} {es : List E} {a b : Int} (hr : rightB n es = true) (hl : es.length < 65536) (ha : 0 ≤ a ∧ a < n) (hb : 0 ≤ b ∧ b < n) (hab : a ≠ b) (h : addErr n es a b ≠ 0) : trn a b ∈ es := by
  unfold addErr at h
  rw [if_neg (by rw [hr]; simp), if_neg (by omega), if_neg hab] at h
  refine Classical.byContradiction fun c => h ?_
  rw [if_neg c, if_neg (by omega)]
/-- The edges of a ring. -/
def ringE (N v : Nat) : E := ((v : Int), (((v + 1) % N : Nat) : Int))
def ringL (N k : Nat) : List E := (List.range k).map (ringE N)
theorem ringL_len (N k : Nat) : (ringL N k).length = k := by simp [ringL]
theorem ringL_succ (N k : Nat) : ringL N (k + 1) = ringL N k ++ [ringE N k] := by unfold ringL; rw [List.range_succ, List.map_append]; rfl
/-- All that lies ahead of i is in, as far as it may be. -/
def PutAll (N : Nat) (L es : List E) (i : Nat) : Prop := ∀ j, j < i → (0 ≤ (at_ L j).1 ∧ (at_ L j).1 < (N : Int)) → (0 ≤ (at_ L j).2 ∧ (at_ L j).2 < (N : Int)) → (at_ L j).1 ≠ (at_ L j).2 → trn (at_ L j).1 (at_ L j).2 ∈ es
theorem PutAll.yes {N : Nat} {L es : List E} {i : Nat} (h : PutAll N L es i) {a b : Int} (ha : eA L i = a) (hb : eB L i = b) : PutAll N L (insE es (trn a b)) (i + 1) := fun j hj h1 h2 h3 => by
  by_cases e : j = i
  · subst e
    subst ha hb
    exact insE_mem.2 (Or.inl rfl)
  · exact insE_mem.2 (Or.inr (h j (by omega) h1 h2 h3))
theorem PutAll.no {N : Nat} {L es : List E} {i : Nat} (h : PutAll N L es i) (hr : rightB (N : Int) es = true) (hl : es.length < 65536) {a b : Int} (ha : eA L i = a) (hb : eB L i = b) (hc : addErr (N : Int) es a b ≠ 0) : PutAll N L es (i + 1) := fun j hj h1 h2 h3 => by
  by_cases e : j = i
  · subst e
    subst ha hb
    exact add_has hr hl h1 h2 h3 hc
  · exact h j (by omega) h1 h2 h3

set_option maxRecDepth 20000 in
set_option maxHeartbeats 8000000 in
theorem long_any (w : World) (n step chords : Int) : Calls Try.prog 23 #[.int .i64 n, .int .i64 step, .int .i64 chords] w fun e w' => ∃ (N : Nat) (r : Value) (es : List E), e = .returned (gv N r) ∧ EdgesAt w' r es ∧ rightB N es = true ∧ 3 ≤ N ∧ N ≤ 302 ∧ (es.length : Int) ≤ 400 ∧ (∀ v : Nat, v < N → trn (v : Int) (((v + 1) % N : Nat) : Int) ∈ es) ∧ FreshAt w.heap.size r ∧ Kept [] w w' := by
  obtain ⟨ii, hi, hz0, hz1, hz2⟩ := info_parts infoEdge
  have m1 := mod_small n 299 (by omega) (by omega)
  rw [show (299 : Int) + 1 = 300 by rfl] at m1
  obtain ⟨N0, hN0⟩ : ∃ N0 : Nat, wrap64 ((IntKind.u64.wrap n).tmod 300) = (N0 : Int) := ⟨(wrap64 ((IntKind.u64.wrap n).tmod 300)).toNat, by omega⟩
  rw [hN0] at m1
  have m2 := mod_small chords 59 (by omega) (by omega)
  rw [show (59 : Int) + 1 = 60 by rfl] at m2
  obtain ⟨C, hC⟩ : ∃ C : Nat, wrap64 ((IntKind.u64.wrap chords).tmod 60) = (C : Int) := ⟨(wrap64 ((IntKind.u64.wrap chords).tmod 60)).toNat, by omega⟩
  rw [hC] at m2
  have hw3 : IntKind.i64.wrap (3 + (N0 : Int)) = ((3 + N0 : Nat) : Int) := by rw [IntWalk.i64_left, IntWalk.wrap64_in _ (by omega)]; omega
  have hw3' : wrap64 (3 + (N0 : Int)) = ((3 + N0 : Nat) : Int) := by rw [IntWalk.wrap64_in _ (by omega)]; omega
  go_enter Try.func23, Try.ntmps23
  go_wp2_with fail
  obtain ⟨N, hN⟩ : ∃ N : Nat, 3 + (N0 : Int) = (N : Int) := ⟨3 + N0, by omega⟩
  have hN3 : 3 ≤ N := by omega
  have hN302 : N ≤ 302 := by omega
  have m3 : 0 ≤ wrap64 (2 + wrap64 ((IntKind.u64.wrap step).tmod (3 + (N0 : Int)))) ∧ wrap64 (2 + wrap64 ((IntKind.u64.wrap step).tmod (3 + (N0 : Int)))) ≤ 400 := by
    have h := mod_small step (2 + (N0 : Int)) (by omega) (by omega)
    rw [show 2 + (N0 : Int) + 1 = 3 + (N0 : Int) by omega] at h
    rw [IntWalk.wrap64_in (2 + _) (by omega)]
    omega
  obtain ⟨S, hS⟩ : ∃ S : Nat, wrap64 (2 + wrap64 ((IntKind.u64.wrap step).tmod (3 + (N0 : Int)))) = (S : Int) := ⟨(wrap64 (2 + wrap64 ((IntKind.u64.wrap step).tmod (3 + (N0 : Int))))).toNat, by omega⟩
  rw [hS] at m3
  have MS := hide (Mr.start w (N : Int) 25 25)
  simp only [hS]
  simp only [hN]
  clear hw3 hw3' hN0 hS hN m1
  have KW0 := hide ((((Kept.refl [] w).alloc (.cells #[.int .i64 0, .slice none 0 0] 25)).alloc (.cells #[.int .i64 (N : Int), .slice none 0 0] 25)))
  have hW0 : ((w.alloc (.cells #[.int .i64 0, .slice none 0 0] 25)).alloc (.cells #[.int .i64 (N : Int), .slice none 0 0] 25)).heap.size = w.heap.size + 2 := by simp
  generalize (w.alloc (.cells #[.int .i64 0, .slice none 0 0] 25)).alloc (.cells #[.int .i64 (N : Int), .slice none 0 0] 25) = W0 at *
  have HW0 := hide hW0
  clear hW0
  go_loopw [7, 9] (fun lv vv wr => ∃ (k : Nat), k ≤ N ∧ vv = .int .i64 k ∧ wr.ownsRow W0.heap.size 49 2 lv k (flatE (ringL N k)) ∧ Hid (Kept [] W0 wr)) (fun _ vv _ => N - (intOf vv).toNat)
  case atStart => exact ⟨0, Nat.zero_le _, rfl, ⟨rfl, Or.inl ⟨rfl, rfl⟩⟩, Kept.refl _ _⟩
  case round =>
    obtain ⟨k, hk, rfl, hown, hh⟩ := hrel
    by_cases hlt : k < N
    · have hk1 : IntKind.i64.wrap ((k : Int) + 1) = (k : Int) + 1 := by rw [IntWalk.i64_left, IntWalk.wrap64_in _ (by omega)]
      have hk2 : ((k : Int) + 1).tmod (N : Int) = (((k + 1) % N : Nat) : Int) := by rw [show (k : Int) + 1 = ((k + 1 : Nat) : Int) by omega]; rfl
      have hk3 : IntKind.i64.wrap (((k : Int) + 1).tmod (N : Int)) = (((k + 1) % N : Nat) : Int) := by
        rw [hk2, IntWalk.i64_left, IntWalk.wrap64_in _ (by have := Nat.mod_lt (k + 1) (show 0 < N by omega); omega)]
      have hnz : ((N : Int) == 0) = false := by simp; omega
      have hnz2 : ¬ (N : Int) = 0 := by omega
      have HST := hide (ringL_succ N k)
      unfold ringE at HST
      obtain ⟨lo, lc, rfl⟩ := own_formM hown
      have t0 : (0 : Int) ≤ (k : Int) := by omega
      have t1 : (k : Int) < (N : Int) := by omega
      have hws := (unhide hh).size
      generalize ((k + 1) % N : Nat) = y at *
      go_wp2_with (first | (at_builtin; refine wpList_append_src rfl (.tmp 33) (.tmp 40) 23 rfl W0.heap.size 49 ii (ev 0 0) 2 16 Try.underlying23 hi hz0 hz1 hz2 rfl (by decide) (.slice lo k lc) _ _ rfl (hown.alloc _) _ 1 [.int .i64 (k : Int), .int .i64 (y : Int)] rfl (EdgesAt.src (edge_new _ (k : Int) (y : Int) 49 1 _ (Nat.le_refl _) rfl)) (by unfold maxLen; omega) (by omega) (by simp; omega) ?_; intro v5 w5 own5 g5; have K5 : Kept [] W0 w5 := Kept.grown ((unhide hh).alloc _) g5 (fun q hq => Or.inr (own_block hown q hq))))
      go_roundw
      case rel => exact ⟨k + 1, by omega, by go_num, by rw [unhide HST, flatE_app]; exact own5, K5⟩
      case measure => simp [intOf]; omega
    · have e : k = N := by omega
      subst e
      obtain ⟨lo, lc, rfl⟩ := own_formM hown
      have HRG := hide (show ∀ v : Nat, v < k → ringE k v ∈ ringL k k from fun v hv => List.mem_map.2 ⟨v, List.mem_range.2 hv, rfl⟩)
      have HLL := hide (ringL_len k k)
      generalize ringL k k = L0 at *
      have hmw : IntKind.i64.wrap (C : Int) = (C : Int) := by rw [IntWalk.i64_left, IntWalk.wrap64_in _ (by omega)]
      go_wp2
      go_loopw [7, 10] (fun lv vv wr => ∃ (j : Nat) (L : List E), j ≤ 60 ∧ vv = .int .i64 j ∧ wr.ownsRow W0.heap.size 49 2 lv L.length (flatE L) ∧ L.length ≤ 302 + j ∧ Hid ((∀ v : Nat, v < k → ringE k v ∈ L) ∧ Kept [] W0 wr)) (fun _ vv _ => C - (intOf vv).toNat)
      case atStart => exact ⟨0, L0, by omega, rfl, by rw [unhide HLL]; exact hown, by rw [unhide HLL]; omega, unhide HRG, unhide hh⟩
      case round =>
        clear HRG HLL hown hh
        obtain ⟨j, L, hj, rfl, hown, hLl, hh⟩ := hrel
        obtain ⟨lo, lc, rfl⟩ := own_formM hown
        by_cases hlt : j < C
        · have q0 : IntKind.i64.wrap ((j : Int) * 7) = (j : Int) * 7 := by rw [IntWalk.i64_left, IntWalk.wrap64_in _ (by omega)]
          have q1 : IntKind.i64.wrap ((j : Int) * 7 + (S : Int)) = (j : Int) * 7 + (S : Int) := by rw [IntWalk.i64_left, IntWalk.wrap64_in _ (by omega)]
          have a0 := Int.tmod_nonneg (k : Int) (show 0 ≤ (j : Int) * 7 by omega)
          have a1 := Int.tmod_lt_of_pos ((j : Int) * 7) (show (0 : Int) < (k : Int) by omega)
          have b0 := Int.tmod_nonneg (k : Int) (show 0 ≤ (j : Int) * 7 + (S : Int) by omega)
          have b1 := Int.tmod_lt_of_pos ((j : Int) * 7 + (S : Int)) (show (0 : Int) < (k : Int) by omega)
          have q2 : IntKind.i64.wrap (((j : Int) * 7).tmod (k : Int)) = ((j : Int) * 7).tmod (k : Int) := by rw [IntWalk.i64_left, IntWalk.wrap64_in _ (by omega)]
          have q3 : IntKind.i64.wrap (((j : Int) * 7 + (S : Int)).tmod (k : Int)) = ((j : Int) * 7 + (S : Int)).tmod (k : Int) := by rw [IntWalk.i64_left, IntWalk.wrap64_in _ (by omega)]
          have hnz : ((k : Int) == 0) = false := by simp; omega
          have hnz2 : ¬ (k : Int) = 0 := by omega
          have hnz3 : ¬ k = 0 := by omega
          have t0 : (0 : Int) ≤ (j : Int) := by omega
          have t1 : (j : Int) < (C : Int) := by omega
          have hws := (unhide hh).2.size
          have HH := hide (unhide hh)
          obtain ⟨x, hx⟩ : ∃ x, ((j : Int) * 7).tmod (k : Int) = x := ⟨_, rfl⟩
          obtain ⟨y, hy⟩ : ∃ y, ((j : Int) * 7 + (S : Int)).tmod (k : Int) = y := ⟨_, rfl⟩
          rw [hx] at q2
          rw [hy] at q3
          obtain ⟨M, hM⟩ : ∃ M, L.length = M := ⟨_, rfl⟩
          have HM := hide hM
          rw [hM] at hown hLl ⊢
          clear a0 a1 b0 b1 hh hM
          go_wp2_with fail
          go_region_law (refine step_append_src (by rfl) (.tmp 50) (.tmp 62) 23 (by rfl) W0.heap.size 49 ii (ev 0 0) 2 16 Try.underlying23 hi hz0 hz1 hz2 (by rfl) (by decide) (.slice lo M lc) _ _ (by rfl) (own_keep hown (kept_grown (by repeat' first | exact Kept.refl [] wr | apply Kept.alloc | apply Kept.drew)) (by simp)) _ 1 [.int .i64 x, .int .i64 y] (by rfl) (EdgesAt.src (edge_new _ x y 49 1 _ (Nat.le_refl _) rfl)) (by unfold maxLen; omega) (by omega) (by simp; omega) ?_; intro v5 w5 own5 g5; have K5 : Kept [] W0 w5 := Kept.grown (by repeat' first | exact (unhide HH).2 | apply Kept.alloc | apply Kept.drew) g5 (fun q hq => Or.inr (own_block hown q hq)))
          all_goals
            go_wp2
            go_roundw
            case rel => exact ⟨j + 1, L ++ [(x, y)], by omega, by go_num, by rw [List.length_append, flatE_app, unhide HM]; exact own5, by rw [List.length_append, unhide HM]; simp; omega, fun v hv => List.mem_append_left _ ((unhide HH).1 v hv), K5⟩
            case measure => simp [intOf]; omega
        · have HL := hide (OwnE.at' hown)
          have HIN := hide (unhide hh).1
          have MW := hide ((unhide MS).go (unhide hh).2)
          have HR0 := hide (show rightB (k : Int) [] = true by unfold rightB; simp [chk]; omega)
          obtain ⟨M, hM⟩ : ∃ M, L.length = M := ⟨_, rfl⟩
          have HM := hide hM
          rw [hM] at hLl ⊢
          have hm' : (M : Int) ≤ 9223372036854775807 := by omega
          clear hown hh hM
          go_wp2
          clear hC
          go_loopw [11] (fun vv wr => ∃ (i : Nat) (r : Value) (es : List E), i ≤ M ∧ vv = .int .i64 i ∧ es.length ≤ i ∧ Hid (Mr w (k : Int) r es wr ∧ rightB (k : Int) es = true ∧ PutAll k L es i ∧ EdgesAt wr (.slice lo M lc) L)) (fun vv _ => M - (intOf vv).toNat)
          case atStart => exact ⟨0, _, [], by omega, rfl, by simp, unhide MW, unhide HR0, fun j hj => by omega, by have := (unhide HL).1; rw [unhide HM] at this; exact this⟩
          case round =>
            have HFL := hide (show FreshAt (w.heap.size + 2) (.slice lo M lc) from fun a n c e => by have h1 := (unhide HL).2; rw [unhide HM] at h1; have := h1 a n c e; have := unhide HW0; omega)
            clear HL MW HR0 MS KW0
            obtain ⟨i, r, es, hi, rfl, hle, hh⟩ := hrel
            obtain ⟨ro, rc, rfl, _⟩ := (unhide hh).1.at'.shape
            have c0 := (unhide hh).1.g0; have c1 := (unhide hh).1.g1
            by_cases hlt : i < M
            · obtain ⟨ao2, cap2, hv2, _, _, hin2⟩ := (unhide hh).2.2.2.shape
              obtain ⟨g, o, he2, hin⟩ := hin2 (by have := unhide HM; omega)
              have hao : lo = some ⟨g, o, none⟩ := by simp at hv2; rw [hv2.1, he2]
              subst hao
              have d0 := hin.a i (by have := unhide HM; omega)
              have d1 := hin.b i (by have := unhide HM; omega)
              obtain ⟨a, ha⟩ : ∃ a, eA L i = a := ⟨_, rfl⟩
              obtain ⟨b, hb⟩ : ∃ b, eB L i = b := ⟨_, rfl⟩
              rw [ha] at d0
              rw [hb] at d1
              have HAB := hide (And.intro ha hb)
              have HA := hide (show ∀ W, Kept [] wr W → Calls Try.prog 28 #[gv k (.slice ro es.length rc), .int .i64 a, .int .i64 b] W fun e w' => ∃ c nn ee, Answers W w' e nn ee c ∧ Hid ((c = 0 → ee.length = es.length + 1 ∧ rightB (k : Int) ee = true ∧ nn = (k : Int) ∧ PutAll k L ee (i + 1)) ∧ (c ≠ 0 → PutAll k L es (i + 1))) from fun W k' => (radd_any (n := (k : Int)) ((unhide hh).1.at'.kept k') a b).mono fun e w' h => ⟨_, _, _, h, ⟨fun hz => by
                unfold addE addN; rw [if_pos hz, if_pos hz]; exact ⟨insE_len, ins_right hz, rfl, (unhide hh).2.2.1.yes ha hb⟩, fun hz => (unhide hh).2.2.1.no (unhide hh).2.1 (by omega) ha hb hz⟩⟩)
              have hc0 := lt_of_cell c0
              have hd0 := lt_of_cell d0
              have hgf := unhide HFL _ _ _ rfl
              simp only at hgf
              have i0 : (0 : Int) ≤ (i : Int) := by omega
              have i1 : (i : Int) < (M : Int) := by omega
              clear hin hin2 hv2 he2 ha hb
              go_wp2_with fail
              go_region_held3 (fun W => W.cell? ⟨w.heap.size + 1, 0, none⟩ = some (.int .i64 (k : Int)) ∧ W.cell? ⟨w.heap.size + 1, 1, none⟩ = some (.slice ro es.length rc) ∧ W.cell? ⟨g, o + i * 2, none⟩ = some (.int .i64 a) ∧ W.cell? ⟨g, o + i * 2 + 1, none⟩ = some (.int .i64 b)) (first | exact ⟨kept_cell c0 K2, kept_cell c1 K2, kept_cell d0 K2, kept_cell d1 K2⟩ | exact ⟨(cell_set2 (by omega)).trans (kept_cell c0 K2), (cell_set2 (by omega)).trans (kept_cell c1 K2), (cell_set2 (by omega)).trans (kept_cell d0 K2), (cell_set2 (by omega)).trans (kept_cell d1 K2)⟩ | exact ⟨alloc_cell (kept_cell c0 K2) _, alloc_cell (kept_cell c1 K2) _, alloc_cell (kept_cell d0 K2) _, alloc_cell (kept_cell d1 K2) _⟩ | go_keep)
                (first | (go_at_call 28; refine (unhide HA _ (by repeat' first | exact Kept.refl _ _ | apply Kept.drew | apply Kept.alloc)).mono ?_; rintro e w2 ⟨c, nn, ee, ⟨r2, rfl, hr2, hf2, k2⟩, HST⟩; obtain ⟨so, sm, sc, rfl⟩ := hr2.form; have kz := (Kept.refl [] (wr.alloc (.cells #[.int .i64 0, .slice none 0 0] 25))).drew.trans k2; obtain ⟨z0, z1⟩ := box2 kz (by simp); obtain ⟨y0, y1⟩ := box2f kz; have K2 : Kept [] wr w2 := ((Kept.refl [] wr).alloc _).trans kz) | (go_at_call 28; refine (unhide HA _ (by repeat' first | exact Kept.refl _ _ | apply Kept.drew | apply Kept.alloc)).mono ?_; rintro e w2 ⟨c, nn, ee, ⟨r2, rfl, hr2, hf2, k2⟩, HST⟩; obtain ⟨so, sm, sc, rfl⟩ := hr2.form; have K2 : Kept [] wr w2 := (Kept.refl [] wr).drew.trans k2))
              · have M3 := (unhide hh).1.go (K2.alloc (.cells #[.int .i64 nn, .slice so sm sc] 25))
                obtain ⟨v0, v1⟩ := box2 (Kept.refl [] (w2.alloc (.cells #[.int .i64 nn, .slice so sm sc] 25))) (by simp)
                have HE3 := hide ((unhide hh).2.2.2.kept (K2.alloc (.cells #[.int .i64 nn, .slice so sm sc] 25)))
                have hr3 := hr2.kept ((Kept.refl [] w2).alloc (.cells #[.int .i64 nn, .slice so sm sc] 25))
                have hf3 : FreshAt (w.heap.size + 2) (.slice so sm sc) := fun a x y e => Nat.le_trans hc0 (hf2 a x y e)
                have nP : w2.heap.size ≠ w.heap.size + 1 := by have := K2.size; omega
                clear k2 K2 hr2 hf2 c0 c1 d0 d1
                generalize w2.alloc (.cells #[.int .i64 nn, .slice so sm sc] 25) = w3 at *
                generalize w2.heap.size = pp at *
                have HM3 := hide M3
                have HR3 := hide hr3
                have HF3 := hide hf3
                have s0 := M3.g0; have s1 := M3.g1; have t0 := M3.f0; have t1 := M3.f1
                clear M3 hr3 hf3 hc0 hd0
                by_cases hcz : c = 0
                · have hq : (c == 0) = true := by simpa using hcz
                  obtain ⟨hl2, hr2', hnn, hpa⟩ := (unhide HST).1 hcz
                  subst hnn
                  have HL2 := hide hl2
                  have HRR := hide (And.intro hr2' hpa)
                  clear hcz hl2 hr2' hpa
                  go_wp2
                  go_roundw
                  case rel =>
                    refine ⟨i + 1, .slice so sm sc, ee, by omega, by go_num, by rw [unhide HL2]; omega, ?_, (unhide HRR).1, (unhide HRR).2, ?_⟩
                    · exact (unhide HM3).put (unhide HR3) (unhide HF3)
                    · exact (unhide HE3).keptAt (((Kept.refl [w.heap.size + 1] _).setCell (Or.inl (by simp)) _).setCell (Or.inl (by simp)) _) (fun a n c e => by have := unhide HFL a n c e; simp; omega)
                  case measure => simp [intOf]; omega
                · have hq : (c == 0) = false := by simpa using hcz
                  have HNO := hide ((unhide HST).2 hcz)
                  clear hcz
                  go_wp2
                  go_roundw
                  case rel => exact ⟨i + 1, _, es, by omega, by go_num, by omega, unhide HM3, (unhide hh).2.1, unhide HNO, unhide HE3⟩
                  case measure => simp [intOf]; omega
              · have kS : Kept [wr.heap.size] w2 ((w2.setCell ⟨wr.heap.size, 0, none⟩ (.int .i64 nn)).setCell ⟨wr.heap.size, 1, none⟩ (.slice so sm sc)) := ((Kept.refl _ _).setCell (Or.inl (by simp)) _).setCell (Or.inl (by simp)) _
                have kA : Kept [] wr ((w2.setCell ⟨wr.heap.size, 0, none⟩ (.int .i64 nn)).setCell ⟨wr.heap.size, 1, none⟩ (.slice so sm sc)) := K2.trans' kS (by simp)
                have M3 := (unhide hh).1.go kA
                have v0 : ((w2.setCell ⟨wr.heap.size, 0, none⟩ (.int .i64 nn)).setCell ⟨wr.heap.size, 1, none⟩ (.slice so sm sc)).cell? ⟨wr.heap.size, 0, none⟩ = some (.int .i64 nn) := by go_simp
                have v1 : ((w2.setCell ⟨wr.heap.size, 0, none⟩ (.int .i64 nn)).setCell ⟨wr.heap.size, 1, none⟩ (.slice so sm sc)).cell? ⟨wr.heap.size, 1, none⟩ = some (.slice so sm sc) := by go_simp
                have HE3 := hide ((unhide hh).2.2.2.kept kA)
                have hr3 := hr2.keptAt kS (fun a x y e => by have h2 := hf2 a x y e; have h3 : (wr.alloc (.cells #[.int .i64 0, .slice none 0 0] 25)).heap.size ≤ a.block := h2; simp at h3 ⊢; omega)
                have hf3 : FreshAt (w.heap.size + 2) (.slice so sm sc) := fun a x y e => by have h2 := hf2 a x y e; have h3 : (wr.alloc (.cells #[.int .i64 0, .slice none 0 0] 25)).heap.size ≤ a.block := h2; simp at h3; omega
                have nP : wr.heap.size ≠ w.heap.size + 1 := by omega
                clear k2 kz K2 hr2 hf2 c0 c1 d0 d1 z0 z1 y0 y1 kS kA
                generalize (w2.setCell ⟨wr.heap.size, 0, none⟩ (.int .i64 nn)).setCell ⟨wr.heap.size, 1, none⟩ (.slice so sm sc) = w3 at *
                have HM3 := hide M3
                have HR3 := hide hr3
                have HF3 := hide hf3
                have s0 := M3.g0; have s1 := M3.g1; have t0 := M3.f0; have t1 := M3.f1
                clear M3 hr3 hf3 hc0 hd0
                by_cases hcz : c = 0
                · have hq : (c == 0) = true := by simpa using hcz
                  obtain ⟨hl2, hr2', hnn, hpa⟩ := (unhide HST).1 hcz
                  subst hnn
                  have HL2 := hide hl2
                  have HRR := hide (And.intro hr2' hpa)
                  clear hcz hl2 hr2' hpa
                  go_wp2
                  go_roundw
                  case rel =>
                    refine ⟨i + 1, .slice so sm sc, ee, by omega, by go_num, by rw [unhide HL2]; omega, ?_, (unhide HRR).1, (unhide HRR).2, ?_⟩
                    · exact (unhide HM3).put (unhide HR3) (unhide HF3)
                    · exact (unhide HE3).keptAt (((Kept.refl [w.heap.size + 1] _).setCell (Or.inl (by simp)) _).setCell (Or.inl (by simp)) _) (fun a n c e => by have := unhide HFL a n c e; simp; omega)
                  case measure => simp [intOf]; omega
                · have hq : (c == 0) = false := by simpa using hcz
                  have HNO := hide ((unhide HST).2 hcz)
                  clear hcz
                  go_wp2
                  go_roundw
                  case rel => exact ⟨i + 1, _, es, by omega, by go_num, by omega, unhide HM3, (unhide hh).2.1, unhide HNO, unhide HE3⟩
                  case measure => simp [intOf]; omega
            · have e : i = M := by omega
              have r0 := (unhide hh).1.rs.r0; have r1 := (unhide hh).1.rs.r1; have f0 := (unhide hh).1.rs.f0; have f1 := (unhide hh).1.rs.f1
              have HT := hide ((unhide hh).1.rs.told (m := (k : Int)) (unhide hh).1.at' (fun a x y e => by have := (unhide hh).1.fresh a x y e; omega))
              have HE := hide (show rightB (k : Int) es = true ∧ ∀ v : Nat, v < k → trn (v : Int) (((v + 1) % k : Nat) : Int) ∈ es from ⟨(unhide hh).2.1, fun v hv => by
                obtain ⟨j, hj, he⟩ := List.getElem_of_mem (unhide HIN v hv)
                have hp := (unhide hh).2.2.1 j (by have := unhide HM; omega)
                rw [← at_elem hj, he] at hp
                unfold ringE at hp
                have hm := Nat.mod_lt (v + 1) (show 0 < k by omega)
                refine hp (by simp only; omega) (by simp only; omega) ?_
                simp only
                intro e
                have e2 : v = (v + 1) % k := by omega
                by_cases c : v + 1 < k
                · rw [Nat.mod_eq_of_lt c] at e2; omega
                · have : v + 1 = k := by omega
                  rw [this, Nat.mod_self] at e2; omega⟩)
              have HLE := hide (show (es.length : Int) ≤ 400 by omega)
              have HNN := hide (And.intro hN3 hN302)
              clear e
              go_wp2
              all_goals (exact bodyPost_ret (v := gv k (.slice ro es.length rc)) (by simp [results, Try.results23, go_sem, r0, r1]) rfl ⟨k, .slice ro es.length rc, es, rfl, (unhide HT).1, (unhide HE).1, (unhide HNN).1, (unhide HNN).2, unhide HLE, (unhide HE).2, (unhide HT).2⟩)
end Go.Proofs.Ytfilhbkenedchaa

namespace Go.Proofs.Ytfilhbkenedchaa

/-- The i-th vertex of the stem; 0 is the ring's. -/
def stV (n i : Nat) : Nat := if i = 0 then 0 else n + i - 1
/-- The mate of u, when k vertices of the stem are there. -/
def stF (n k u : Nat) : Int :=
  if u = 0 then (if k = 0 then -1 else (n : Int))
  else if u < n then (if u % 2 = 1 then ((u + 1 : Nat) : Int) else ((u - 1 : Nat) : Int))
  else if (u - n + 1) % 2 = 1 then ((stV n (u - n) : Nat) : Int) else if u - n + 1 < k then ((u + 1 : Nat) : Int) else -1
/-- While the ring's are laid: those ahead of v have theirs. -/
def rgF (v u : Nat) : Int := if 1 ≤ u ∧ u < v then (if u % 2 = 1 then ((u + 1 : Nat) : Int) else ((u - 1 : Nat) : Int)) else -1
def rowL (L : Nat) (f : Nat → Int) : List Int := (List.range L).map f
theorem rowL_len (L : Nat) (f : Nat → Int) : (rowL L f).length = L := by simp [rowL]
theorem rowL_at {L u : Nat} {f : Nat → Int} (h : u < L) : (rowL L f).getD u 0 = f u := by simp [rowL, List.getD, h]
theorem rowL_snoc (L : Nat) (f : Nat → Int) : rowL (L + 1) f = rowL L f ++ [f L] := by unfold rowL; rw [List.range_succ, List.map_append]; rfl
theorem rowL_eq {L : Nat} {f : Nat → Int} {xs : List Int} (hl : xs.length = L) (h : ∀ u, u < L → xs.getD u 0 = f u) : xs = rowL L f := by
  refine list_ext (by rw [hl, rowL_len]) (fun u hu => ?_)
  rw [hl] at hu
  rw [h u hu, rowL_at hu]
theorem rowL_congr {L : Nat} {f g : Nat → Int} (h : ∀ u, u < L → f u = g u) : rowL L f = rowL L g := rowL_eq (rowL_len L f) (fun u hu => by rw [rowL_at hu]; exact h u hu)
theorem set_at {xs : List Int} {i u : Nat} {x : Int} (hu : u < xs.length) : (xs.set i x).getD u 0 = if u = i then x else xs.getD u 0 := by
  by_cases e : u = i
  · subst e; simp [List.getD, hu]
  · rw [if_neg e]; simp [List.getD, List.getElem?_set_ne (Ne.symm e)]
/-- Two of the ring more. -/
theorem rg_step {n v : Nat} (hv : v % 2 = 1) (h : v + 1 < n) : ((rowL n (rgF v)).set v ((v + 1 : Nat) : Int)).set (v + 1) ((v : Nat) : Int) = rowL n (rgF (v + 2)) := by
  refine rowL_eq (by simp [rowL_len]) (fun u hu => ?_)
  rw [set_at (by simp [rowL_len]; exact hu), set_at (by rw [rowL_len]; exact hu), rowL_at hu]
  unfold rgF
  by_cases c : u = v + 1
  · subst c
    rw [if_pos rfl, if_pos (by omega), if_neg (by omega)]
    rfl
  · rw [if_neg c]
    by_cases d : u = v
    · subst d
      rw [if_pos rfl, if_pos (by omega), if_pos hv]
    · rw [if_neg d]
      by_cases e : 1 ≤ u ∧ u < v
      · rw [if_pos e, if_pos (show 1 ≤ u ∧ u < v + 2 by omega)]
      · rw [if_neg e, if_neg (by omega)]
theorem rg_first (n : Nat) : rowL n (rgF 1) = List.replicate n (-1) := by
  refine list_ext (by simp [rowL]) (fun u hu => ?_)
  rw [rowL_len] at hu
  rw [rowL_at hu]
  unfold rgF
  rw [if_neg (by omega)]
  simp [List.getD, hu]
theorem rg_last {n : Nat} : rowL n (rgF n) = rowL (n + 0) (stF n 0) := by
  refine rowL_congr (fun u hu => ?_)
  unfold rgF stF
  by_cases c : u = 0
  · rw [if_neg (by omega), if_pos c, if_pos rfl]
  · rw [if_pos (by omega), if_neg c, if_pos hu]
/-- One of the stem more: one without a mate behind an odd number of them .. -/
theorem st_odd {n k : Nat} (hn : 1 ≤ n) (hk : k % 2 = 1) : rowL (n + k) (stF n k) ++ [-1] = rowL (n + (k + 1)) (stF n (k + 1)) := by
  rw [show n + (k + 1) = n + k + 1 by omega, rowL_snoc]
  have h1 : rowL (n + k) (stF n k) = rowL (n + k) (stF n (k + 1)) := rowL_congr (fun u hu => by
    unfold stF
    by_cases c : u = 0
    · rw [if_pos c, if_pos c, if_neg (by omega), if_neg (by omega)]
    · rw [if_neg c, if_neg c]
      by_cases d : u < n
      · rw [if_pos d, if_pos d]
      · rw [if_neg d, if_neg d]
        by_cases e : (u - n + 1) % 2 = 1
        · rw [if_pos e, if_pos e]
        · rw [if_neg e, if_neg e, if_pos (by omega), if_pos (by omega)])
  have h2 : stF n (k + 1) (n + k) = -1 := by
    unfold stF
    rw [if_neg (by omega), if_neg (by omega), if_neg (by omega), if_neg (by omega)]
  rw [h1, h2]
/-- .. the mate of the one ahead of it behind an even number. -/
theorem st_even {n k : Nat} (hn : 1 ≤ n) (hk : k % 2 = 0) : (((rowL (n + k) (stF n k) ++ [-1]).set (stV n k) ((n + k : Nat) : Int)).set (n + k) ((stV n k : Nat) : Int)) = rowL (n + (k + 1)) (stF n (k + 1)) := by
  have hl : (rowL (n + k) (stF n k) ++ [-1]).length = n + k + 1 := by simp [rowL_len]
  refine rowL_eq (by rw [List.length_set, List.length_set, hl]; omega) (fun u hu => ?_)
  rw [set_at (by rw [List.length_set, hl]; omega), set_at (by rw [hl]; omega)]
  have hv : stV n k < n + k := by unfold stV; split <;> omega
  by_cases c : u = n + k
  · subst c
    rw [if_pos rfl]
    unfold stF
    rw [if_neg (by omega), if_neg (by omega), if_pos (by omega), show n + k - n = k by omega]
  · rw [if_neg c]
    have hgd : (rowL (n + k) (stF n k) ++ [-1]).getD u 0 = stF n k u := by
      rw [List.getD_eq_getElem?_getD, List.getElem?_append_left (by rw [rowL_len]; omega), ← List.getD_eq_getElem?_getD, rowL_at (by omega)]
    by_cases d : u = stV n k
    · rw [if_pos d]
      subst d
      unfold stV stF
      by_cases e : k = 0
      · subst e
        simp
      · simp only [if_neg e]
        rw [if_neg (by omega), if_neg (by omega), if_neg (by omega), if_pos (by omega)]
        congr 1
        omega
    · rw [if_neg d, hgd]
      unfold stF
      by_cases c0 : u = 0
      · have : ¬ k = 0 := fun e => d (by unfold stV; rw [if_pos e]; exact c0)
        rw [if_pos c0, if_pos c0, if_neg this, if_neg (by omega)]
      · rw [if_neg c0, if_neg c0]
        by_cases c1 : u < n
        · rw [if_pos c1, if_pos c1]
        · rw [if_neg c1, if_neg c1]
          by_cases c2 : (u - n + 1) % 2 = 1
          · rw [if_pos c2, if_pos c2]
          · rw [if_neg c2, if_neg c2]
            have hlt : u - n + 1 < k := by
              refine Classical.byContradiction fun hno => d ?_
              unfold stV
              rw [if_neg (by omega)]
              omega
            rw [if_pos hlt, if_pos (by omega)]
/-- The graph: a ring of n (odd), a stem of s (even), an end behind one of the ring. -/
structure StemG (n s out : Nat) (es : List E) : Prop where
  n3 : 3 ≤ n
  no : n % 2 = 1
  se : s % 2 = 0
  o1 : 1 ≤ out
  on : out < n
  right : rightB ((n + s + 1 : Nat) : Int) es = true
  ring : ∀ v : Nat, v < n → trn (v : Int) (((v + 1) % n : Nat) : Int) ∈ es
  stem : ∀ i, i < s → trn ((stV n i : Nat) : Int) ((stV n (i + 1) : Nat) : Int) ∈ es
  last : trn (out : Int) ((n + s : Nat) : Int) ∈ es
/-- The mates that are handed in. -/
def stM (n s : Nat) : List Int := rowL (n + s) (stF n s) ++ [-1]
theorem stM_len (n s : Nat) : (stM n s).length = n + s + 1 := by simp [stM, rowL_len]
theorem stM_at {n s u : Nat} (h : u < n + s) : (stM n s).getD u 0 = stF n s u := by
  unfold stM
  rw [List.getD_eq_getElem?_getD, List.getElem?_append_left (by rw [rowL_len]; omega), ← List.getD_eq_getElem?_getD, rowL_at h]
theorem stM_end (n s : Nat) : (stM n s).getD (n + s) 0 = -1 := by
  unfold stM
  rw [List.getD_eq_getElem?_getD, List.getElem?_append_right (by rw [rowL_len]; omega), rowL_len]
  simp
theorem StemG.next {n s out : Nat} {es : List E} (h : StemG n s out es) {v : Nat} (hv : v + 1 < n) : trn (v : Int) ((v + 1 : Nat) : Int) ∈ es := by
  have := h.ring v (by omega)
  rwa [Nat.mod_eq_of_lt hv] at this
theorem StemG.mate {n s out : Nat} {es : List E} (h : StemG n s out es) : mateB ((n + s + 1 : Nat) : Int) es (stM n s) = true := by
  have h3 := h.n3; have hno := h.no; have hse := h.se
  refine mate_of h.right (by rw [stM_len]) (fun v hv => ?_)
  rw [stM_len] at hv
  have key : ∀ a b : Nat, a < n + s → b < n + s → stF n s a = (b : Int) → stF n s b = (a : Int) → trn (a : Int) (b : Int) ∈ es → wellAt es (stM n s) a = true := fun a b ha hb h1 h2 h3 => by
    refine well_iff.2 (Or.inr ?_)
    rw [stM_at ha, h1, Int.toNat_natCast, stM_at hb]
    exact ⟨h3, h2⟩
  by_cases c : v = n + s
  · subst c; exact well_iff.2 (Or.inl (stM_end n s))
  · by_cases c0 : v = 0
    · subst c0
      by_cases cs : s = 0
      · refine well_iff.2 (Or.inl ?_)
        rw [stM_at (by omega)]
        unfold stF
        rw [if_pos rfl, if_pos cs]
      · refine key 0 n (by omega) (by omega) (by unfold stF; rw [if_pos rfl, if_neg cs]) ?_ ?_
        · unfold stF stV
          rw [if_neg (by omega), if_neg (by omega), if_pos (by omega), if_pos (by omega)]
        · have := h.stem 0 (by omega)
          unfold stV at this
          simpa using this
    · by_cases c1 : v < n
      · by_cases c2 : v % 2 = 1
        · refine key v (v + 1) (by omega) (by omega) ?_ ?_ (h.next (by omega))
          · unfold stF; rw [if_neg c0, if_pos c1, if_pos c2]
          · unfold stF; rw [if_neg (by omega), if_pos (by omega), if_neg (by omega)]; congr 1
        · refine key v (v - 1) (by omega) (by omega) ?_ ?_ ?_
          · unfold stF; rw [if_neg c0, if_pos c1, if_neg c2]
          · unfold stF; rw [if_neg (by omega), if_pos (by omega), if_pos (by omega)]; congr 1; omega
          · have := h.next (v := v - 1) (by omega)
            rw [show v - 1 + 1 = v by omega] at this
            rw [trn_comm]; exact this
      · obtain ⟨i, rfl⟩ : ∃ i, v = n + i := ⟨v - n, by omega⟩
        have e1 : n + i - n + 1 = i + 1 := by omega
        have e2 : n + i - n = i := by omega
        have hst := fun j (hj : j < s) => h.stem j hj
        unfold stV at hst
        by_cases c2 : (i + 1) % 2 = 1
        · by_cases ci : i = 0
          · subst ci
            refine key (n + 0) 0 (by omega) (by omega) ?_ ?_ ?_
            · unfold stF stV; rw [if_neg (by omega), if_neg (by omega), e1, if_pos (by omega), e2, if_pos rfl]
            · unfold stF; rw [if_pos rfl, if_neg (by omega)]; rfl
            · have := hst 0 (by omega)
              simp at this
              rw [trn_comm]
              simpa using this
          · refine key (n + i) (n + i - 1) (by omega) (by omega) ?_ ?_ ?_
            · unfold stF stV; rw [if_neg (by omega), if_neg (by omega), e1, if_pos c2, e2, if_neg ci]
            · unfold stF
              rw [if_neg (by omega), if_neg (by omega), if_neg (by omega), if_pos (by omega)]
              congr 1; omega
            · have := hst i (by omega)
              rw [if_neg ci, if_neg (by omega), show n + (i + 1) - 1 = n + i by omega] at this
              rw [trn_comm]; exact this
        · by_cases c3 : i + 1 < s
          · refine key (n + i) (n + i + 1) (by omega) (by omega) ?_ ?_ ?_
            · unfold stF; rw [if_neg (by omega), if_neg (by omega), e1, if_neg c2, if_pos c3]
            · unfold stF stV
              rw [if_neg (by omega), if_neg (by omega), if_pos (by omega), if_neg (by omega)]
              congr 1; omega
            · have := hst (i + 1) (by omega)
              rw [if_neg (by omega), if_neg (by omega), show n + (i + 1) - 1 = n + i by omega, show n + (i + 1 + 1) - 1 = n + i + 1 by omega] at this
              exact this
          · refine well_iff.2 (Or.inl ?_)
            rw [stM_at (by omega)]
            unfold stF
            rw [if_neg (by omega), if_neg (by omega), e1, if_neg c2, if_neg c3]
/-- Everyone has a mate: round the ring the other way. -/
def alF (n s out u : Nat) : Nat :=
  if u = n + s then out else if u = out then n + s
  else if u < n then
    (if out % 2 = 0 then (if u < out then (if u % 2 = 0 then u + 1 else u - 1) else if u % 2 = 1 then u + 1 else u - 1)
    else (if u = 0 then n - 1 else if u = n - 1 then 0 else if u < out then (if u % 2 = 1 then u + 1 else u - 1) else if u % 2 = 0 then u + 1 else u - 1))
  else if (u - n) % 2 = 0 then u + 1 else u - 1
set_option maxHeartbeats 4000000 in
theorem StemG.perfect {n s out : Nat} {es : List E} (h : StemG n s out es) : ∃ y, mateB ((n + s + 1 : Nat) : Int) es y = true ∧ 2 * (edgesM y y.length).length = n + s + 1 := by
  have h3 := h.n3; have hno := h.no; have hse := h.se; have ho1 := h.o1; have hon := h.on
  have hnext := fun v (hv : v + 1 < n) => h.next (v := v) hv
  have hclose : trn ((n - 1 : Nat) : Int) ((0 : Nat) : Int) ∈ es := by
    have := h.ring (n - 1) (by omega)
    rw [show n - 1 + 1 = n by omega, Nat.mod_self] at this
    exact this
  have hstem : ∀ i, i + 1 < s → trn ((n + i : Nat) : Int) ((n + i + 1 : Nat) : Int) ∈ es := fun i hi => by
    have := h.stem (i + 1) (by omega)
    unfold stV at this
    rw [if_neg (by omega), if_neg (by omega), show n + (i + 1) - 1 = n + i by omega, show n + (i + 1 + 1) - 1 = n + i + 1 by omega] at this
    exact this
  have hlt : ∀ u, u < n + s + 1 → alF n s out u < n + s + 1 := fun u hu => by
    unfold alF
    repeat' split
    all_goals omega
  have hback : ∀ u, u < n + s + 1 → alF n s out (alF n s out u) = u := fun u hu => by
    have hz : alF n s out (n + s) = out := by unfold alF; rw [if_pos rfl]
    have ho : alF n s out out = n + s := by unfold alF; rw [if_neg (by omega), if_pos rfl]
    by_cases c : u = n + s
    · rw [c, hz, ho]
    · by_cases d : u = out
      · rw [d, ho, hz]
      · have e : ∀ x, alF n s out u = x → x ≠ n + s → x ≠ out → (if x < n then (if out % 2 = 0 then (if x < out then (if x % 2 = 0 then x + 1 else x - 1) else if x % 2 = 1 then x + 1 else x - 1) else (if x = 0 then n - 1 else if x = n - 1 then 0 else if x < out then (if x % 2 = 1 then x + 1 else x - 1) else if x % 2 = 0 then x + 1 else x - 1)) else if (x - n) % 2 = 0 then x + 1 else x - 1) = u → alF n s out (alF n s out u) = u := fun x h1 h2 h3 h4 => by
          rw [h1]; unfold alF; rw [if_neg h2, if_neg h3]; exact h4
        have hx : alF n s out u = if u < n then (if out % 2 = 0 then (if u < out then (if u % 2 = 0 then u + 1 else u - 1) else if u % 2 = 1 then u + 1 else u - 1) else (if u = 0 then n - 1 else if u = n - 1 then 0 else if u < out then (if u % 2 = 1 then u + 1 else u - 1) else if u % 2 = 0 then u + 1 else u - 1)) else if (u - n) % 2 = 0 then u + 1 else u - 1 := by unfold alF; rw [if_neg c, if_neg d]
        have go : ∀ x, (if u < n then (if out % 2 = 0 then (if u < out then (if u % 2 = 0 then u + 1 else u - 1) else if u % 2 = 1 then u + 1 else u - 1) else (if u = 0 then n - 1 else if u = n - 1 then 0 else if u < out then (if u % 2 = 1 then u + 1 else u - 1) else if u % 2 = 0 then u + 1 else u - 1)) else if (u - n) % 2 = 0 then u + 1 else u - 1) = x → alF n s out (alF n s out u) = u := fun x hxx => by
          have h1 : alF n s out u = x := hx.trans hxx
          clear hx
          by_cases c1 : u < n
          · rw [if_pos c1] at hxx
            by_cases c2 : out % 2 = 0
            · rw [if_pos c2] at hxx
              by_cases c3 : u < out
              · rw [if_pos c3] at hxx
                by_cases c4 : u % 2 = 0
                · rw [if_pos c4] at hxx
                  subst hxx
                  exact e _ h1 (by omega) (by omega) (by rw [if_pos (by omega), if_pos c2, if_pos (by omega), if_neg (by omega)]; omega)
                · rw [if_neg c4] at hxx
                  subst hxx
                  exact e _ h1 (by omega) (by omega) (by rw [if_pos (by omega), if_pos c2, if_pos (by omega), if_pos (by omega)]; omega)
              · rw [if_neg c3] at hxx
                by_cases c4 : u % 2 = 1
                · rw [if_pos c4] at hxx
                  subst hxx
                  exact e _ h1 (by omega) (by omega) (by rw [if_pos (by omega), if_pos c2, if_neg (by omega), if_neg (by omega)]; omega)
                · rw [if_neg c4] at hxx
                  subst hxx
                  exact e _ h1 (by omega) (by omega) (by rw [if_pos (by omega), if_pos c2, if_neg (by omega), if_pos (by omega)]; omega)
            · rw [if_neg c2] at hxx
              by_cases c0 : u = 0
              · rw [if_pos c0] at hxx
                subst hxx
                exact e _ h1 (by omega) (by omega) (by rw [if_pos (by omega), if_neg c2, if_neg (by omega), if_pos rfl]; omega)
              · rw [if_neg c0] at hxx
                by_cases c9 : u = n - 1
                · rw [if_pos c9] at hxx
                  subst hxx
                  exact e _ h1 (by omega) (by omega) (by rw [if_pos (by omega), if_neg c2, if_pos rfl]; omega)
                · rw [if_neg c9] at hxx
                  by_cases c3 : u < out
                  · rw [if_pos c3] at hxx
                    by_cases c4 : u % 2 = 1
                    · rw [if_pos c4] at hxx
                      subst hxx
                      exact e _ h1 (by omega) (by omega) (by rw [if_pos (by omega), if_neg c2, if_neg (by omega), if_neg (by omega), if_pos (by omega), if_neg (by omega)]; omega)
                    · rw [if_neg c4] at hxx
                      subst hxx
                      exact e _ h1 (by omega) (by omega) (by rw [if_pos (by omega), if_neg c2, if_neg (by omega), if_neg (by omega), if_pos (by omega), if_pos (by omega)]; omega)
                  · rw [if_neg c3] at hxx
                    by_cases c4 : u % 2 = 0
                    · rw [if_pos c4] at hxx
                      subst hxx
                      exact e _ h1 (by omega) (by omega) (by rw [if_pos (by omega), if_neg c2, if_neg (by omega), if_neg (by omega), if_neg (by omega), if_neg (by omega)]; omega)
                    · rw [if_neg c4] at hxx
                      subst hxx
                      exact e _ h1 (by omega) (by omega) (by rw [if_pos (by omega), if_neg c2, if_neg (by omega), if_neg (by omega), if_neg (by omega), if_pos (by omega)]; omega)
          · rw [if_neg c1] at hxx
            by_cases c4 : (u - n) % 2 = 0
            · rw [if_pos c4] at hxx
              subst hxx
              exact e _ h1 (by omega) (by omega) (by rw [if_neg (by omega), if_neg (by omega)]; omega)
            · rw [if_neg c4] at hxx
              subst hxx
              exact e _ h1 (by omega) (by omega) (by rw [if_neg (by omega), if_pos (by omega)]; omega)
        exact go _ rfl
  have hadj : ∀ u, u < n + s + 1 → trn (u : Int) ((alF n s out u : Nat) : Int) ∈ es := fun u hu => by
    have up : ∀ x, x + 1 < n → trn (x : Int) ((x + 1 : Nat) : Int) ∈ es := hnext
    have dn : ∀ x, 1 ≤ x → x < n → trn (x : Int) ((x - 1 : Nat) : Int) ∈ es := fun x h1 h2 => by
      have := hnext (x - 1) (by omega)
      rw [show x - 1 + 1 = x by omega] at this
      rw [trn_comm]; exact this
    unfold alF
    by_cases c : u = n + s
    · rw [if_pos c, c, trn_comm]; exact h.last
    · rw [if_neg c]
      by_cases d : u = out
      · rw [if_pos d, d]; exact h.last
      · rw [if_neg d]
        by_cases c1 : u < n
        · rw [if_pos c1]
          by_cases c2 : out % 2 = 0
          · rw [if_pos c2]
            by_cases c3 : u < out
            · rw [if_pos c3]
              by_cases c4 : u % 2 = 0
              · rw [if_pos c4]; exact up u (by omega)
              · rw [if_neg c4]; exact dn u (by omega) c1
            · rw [if_neg c3]
              by_cases c4 : u % 2 = 1
              · rw [if_pos c4]; exact up u (by omega)
              · rw [if_neg c4]; exact dn u (by omega) c1
          · rw [if_neg c2]
            by_cases c0 : u = 0
            · rw [if_pos c0, c0, trn_comm]; exact hclose
            · rw [if_neg c0]
              by_cases c9 : u = n - 1
              · rw [if_pos c9, c9]; exact hclose
              · rw [if_neg c9]
                by_cases c3 : u < out
                · rw [if_pos c3]
                  by_cases c4 : u % 2 = 1
                  · rw [if_pos c4]; exact up u (by omega)
                  · rw [if_neg c4]; exact dn u (by omega) c1
                · rw [if_neg c3]
                  by_cases c4 : u % 2 = 0
                  · rw [if_pos c4]; exact up u (by omega)
                  · rw [if_neg c4]; exact dn u (by omega) c1
        · rw [if_neg c1]
          by_cases c4 : (u - n) % 2 = 0
          · rw [if_pos c4]
            have := hstem (u - n) (by omega)
            rwa [show n + (u - n) = u by omega] at this
          · rw [if_neg c4]
            have := hstem (u - n - 1) (by omega)
            rw [show n + (u - n - 1) = u - 1 by omega, show u - 1 + 1 = u by omega] at this
            rw [trn_comm]; exact this
  have hyl : (rowL (n + s + 1) fun u => ((alF n s out u : Nat) : Int)).length = n + s + 1 := rowL_len _ _
  have hm : mateB ((n + s + 1 : Nat) : Int) es (rowL (n + s + 1) fun u => ((alF n s out u : Nat) : Int)) = true := mate_of h.right (by rw [hyl]) (fun v hv => by
    rw [hyl] at hv
    refine well_iff.2 (Or.inr ?_)
    rw [rowL_at hv, Int.toNat_natCast, rowL_at (hlt v hv), hback v hv]
    exact ⟨hadj v hv, rfl⟩)
  refine ⟨_, hm, ?_⟩
  have hb := (mate_back hm).2
  have hf : freesM (rowL (n + s + 1) fun u => ((alF n s out u : Nat) : Int)) (rowL (n + s + 1) fun u => ((alF n s out u : Nat) : Int)).length = [] := by
    refine List.eq_nil_iff_forall_not_mem.2 (fun x hx => ?_)
    obtain ⟨v, hv, h1, _⟩ := mem_freesM.1 hx
    rw [hyl] at hv
    rw [rowL_at hv] at h1
    omega
  rw [hf] at hb
  rw [hyl] at hb ⊢
  simpa using hb
/-- So there is a path that augments. -/
theorem StemG.aug {n s out : Nat} {es : List E} (h : StemG n s out es) {p l : List Int} (hp : PathPost ((n + s + 1 : Nat) : Int) es (stM n s) p l) : Aug ((n + s + 1 : Nat) : Int) es (stM n s) p := by
  rcases hp.2 (pathErr_ok h.mate) with ⟨ha, _⟩ | ⟨_, _, ev, od, B, hs, _⟩
  · exact ha
  · exfalso
    rw [Int.toNat_natCast] at hs
    obtain ⟨y, h1, h2⟩ := h.perfect
    have := hs.largest h1
    have hb := (mate_back h.mate).2
    have hf : ((n + s : Nat) : Int) ∈ freesM (stM n s) (stM n s).length := mem_freesM.2 ⟨n + s, by rw [stM_len]; omega, stM_end n s, rfl⟩
    have := List.length_pos_of_mem hf
    rw [stM_len] at *
    omega
end Go.Proofs.Ytfilhbkenedchaa

namespace Go.Proofs.Ytfilhbkenedchaa
open Go.RowKit

theorem ringL_at {N i : Nat} (h : i < N) : at_ (ringL N N) i = ringE N i := by
  rw [← at_elem (by rw [ringL_len]; exact h)]
  simp [ringL]
theorem ring_all {N : Nat} {es : List E} (h3 : 3 ≤ N) (h : PutAll N (ringL N N) es N) : ∀ v : Nat, v < N → trn (v : Int) (((v + 1) % N : Nat) : Int) ∈ es := fun v hv => by
  have hp := h v hv
  rw [ringL_at hv] at hp
  unfold ringE at hp
  have hm := Nat.mod_lt (v + 1) (show 0 < N by omega)
  refine hp (by simp only; omega) (by simp only; omega) ?_
  simp only
  intro e
  have e2 : v = (v + 1) % N := by omega
  by_cases c : v + 1 < N
  · rw [Nat.mod_eq_of_lt c] at e2; omega
  · have : v + 1 = N := by omega
    rw [this, Nat.mod_self] at e2; omega

set_option maxRecDepth 20000 in
set_option maxHeartbeats 8000000 in
theorem cycle_any (w : World) (N : Nat) (hN3 : 3 ≤ N) (hN : N ≤ 300) : Calls Try.prog 24 #[.int .i64 (N : Int)] w fun e w' => ∃ (r : Value) (es : List E), e = .returned (gv N r) ∧ EdgesAt w' r es ∧ rightB N es = true ∧ es.length ≤ N ∧ (∀ v : Nat, v < N → trn (v : Int) (((v + 1) % N : Nat) : Int) ∈ es) ∧ FreshAt w.heap.size r ∧ Kept [] w w' := by
  go_enter Try.func24, Try.ntmps24
  go_wp2_with fail
  have MS := hide (Mr.start w (N : Int) 25 25)
  have HR0 := hide (show rightB (N : Int) [] = true by unfold rightB; simp [chk]; omega)
  go_loopw [4] (fun vv wr => ∃ (i : Nat) (r : Value) (es : List E), i ≤ N ∧ vv = .int .i64 i ∧ es.length ≤ i ∧ Hid (Mr w (N : Int) r es wr ∧ rightB (N : Int) es = true ∧ PutAll N (ringL N N) es i)) (fun vv _ => N - (intOf vv).toNat)
  case atStart => exact ⟨0, _, [], by omega, rfl, by simp, unhide MS, unhide HR0, fun j hj => by omega⟩
  case round =>
    clear MS HR0
    obtain ⟨i, r, es, hi, rfl, hle, hh⟩ := hrel
    obtain ⟨ro, rc, rfl, _⟩ := (unhide hh).1.at'.shape
    have c0 := (unhide hh).1.g0; have c1 := (unhide hh).1.g1
    by_cases hlt : i < N
    · have hk1 : IntKind.i64.wrap ((i : Int) + 1) = (i : Int) + 1 := by rw [IntWalk.i64_left, IntWalk.wrap64_in _ (by omega)]
      have hk2 : ((i : Int) + 1).tmod (N : Int) = (((i + 1) % N : Nat) : Int) := by rw [show (i : Int) + 1 = ((i + 1 : Nat) : Int) by omega]; rfl
      have hk3 : IntKind.i64.wrap (((i : Int) + 1).tmod (N : Int)) = (((i + 1) % N : Nat) : Int) := by
        rw [hk2, IntWalk.i64_left, IntWalk.wrap64_in _ (by have := Nat.mod_lt (i + 1) (show 0 < N by omega); omega)]
      have hnz : ((N : Int) == 0) = false := by simp; omega
      have hnz2 : ¬ (N : Int) = 0 := by omega
      have hnz3 : ¬ N = 0 := by omega
      have HAT := hide (ringL_at hlt)
      unfold ringE at HAT
      have HAB := hide (show eA (ringL N N) i = (i : Int) ∧ eB (ringL N N) i = (((i + 1) % N : Nat) : Int) from by
        have h := unhide HAT
        unfold at_ at h
        exact ⟨congrArg Prod.fst h, congrArg Prod.snd h⟩)
      have HA := hide (show ∀ W, Kept [] wr W → Calls Try.prog 28 #[gv N (.slice ro es.length rc), .int .i64 (i : Int), .int .i64 (((i + 1) % N : Nat) : Int)] W fun e w' => ∃ c nn ee, Answers W w' e nn ee c ∧ Hid ((c = 0 → ee.length = es.length + 1 ∧ rightB (N : Int) ee = true ∧ nn = (N : Int) ∧ PutAll N (ringL N N) ee (i + 1)) ∧ (c ≠ 0 → PutAll N (ringL N N) es (i + 1))) from fun W k' => (radd_any (n := (N : Int)) ((unhide hh).1.at'.kept k') _ _).mono fun e w' h => ⟨_, _, _, h, ⟨fun hz => by
        unfold addE addN; rw [if_pos hz, if_pos hz]; exact ⟨insE_len, ins_right hz, rfl, (unhide hh).2.2.yes (unhide HAB).1 (unhide HAB).2⟩, fun hz => (unhide hh).2.2.no (unhide hh).2.1 (by omega) (unhide HAB).1 (unhide HAB).2 hz⟩⟩)
      have hc0 := lt_of_cell c0
      have i0 : (0 : Int) ≤ (i : Int) := by omega
      generalize ((i + 1) % N : Nat) = y at *
      clear HAT HAB
      go_wp2_with fail
      go_region_held3 (fun W => W.cell? ⟨w.heap.size + 1, 0, none⟩ = some (.int .i64 (N : Int)) ∧ W.cell? ⟨w.heap.size + 1, 1, none⟩ = some (.slice ro es.length rc)) (first | exact ⟨kept_cell c0 K2, kept_cell c1 K2⟩ | exact ⟨(cell_set2 (by omega)).trans (kept_cell c0 K2), (cell_set2 (by omega)).trans (kept_cell c1 K2)⟩ | exact ⟨alloc_cell (kept_cell c0 K2) _, alloc_cell (kept_cell c1 K2) _⟩ | go_keep)
        (first | (go_at_call 28; refine (unhide HA _ (by repeat' first | exact Kept.refl _ _ | apply Kept.drew | apply Kept.alloc)).mono ?_; rintro e w2 ⟨c, nn, ee, ⟨r2, rfl, hr2, hf2, k2⟩, HST⟩; obtain ⟨so, sm, sc, rfl⟩ := hr2.form; have kz := (Kept.refl [] (wr.alloc (.cells #[.int .i64 0, .slice none 0 0] 25))).drew.trans k2; obtain ⟨z0, z1⟩ := box2 kz (by simp); obtain ⟨y0, y1⟩ := box2f kz; have K2 : Kept [] wr w2 := ((Kept.refl [] wr).alloc _).trans kz) | (go_at_call 28; refine (unhide HA _ (by repeat' first | exact Kept.refl _ _ | apply Kept.drew | apply Kept.alloc)).mono ?_; rintro e w2 ⟨c, nn, ee, ⟨r2, rfl, hr2, hf2, k2⟩, HST⟩; obtain ⟨so, sm, sc, rfl⟩ := hr2.form; have K2 : Kept [] wr w2 := (Kept.refl [] wr).drew.trans k2))
      · have M3 := (unhide hh).1.go (K2.alloc (.cells #[.int .i64 nn, .slice so sm sc] 25))
        obtain ⟨v0, v1⟩ := box2 (Kept.refl [] (w2.alloc (.cells #[.int .i64 nn, .slice so sm sc] 25))) (by simp)
        have hr3 := hr2.kept ((Kept.refl [] w2).alloc (.cells #[.int .i64 nn, .slice so sm sc] 25))
        have hf3 : FreshAt (w.heap.size + 2) (.slice so sm sc) := fun a x y e => Nat.le_trans hc0 (hf2 a x y e)
        have nP : w2.heap.size ≠ w.heap.size + 1 := by have := K2.size; omega
        clear k2 K2 hr2 hf2 c0 c1
        generalize w2.alloc (.cells #[.int .i64 nn, .slice so sm sc] 25) = w3 at *
        generalize w2.heap.size = pp at *
        have HM3 := hide M3
        have HR3 := hide hr3
        have HF3 := hide hf3
        have s0 := M3.g0; have s1 := M3.g1; have t0 := M3.f0; have t1 := M3.f1
        clear M3 hr3 hf3 hc0
        by_cases hcz : c = 0
        · have hq : (c == 0) = true := by simpa using hcz
          obtain ⟨hl2, hr2', hnn, hpa⟩ := (unhide HST).1 hcz
          subst hnn
          have HL2 := hide hl2
          have HRR := hide (And.intro hr2' hpa)
          clear hcz hl2 hr2' hpa
          go_wp2
          go_roundw
          case rel =>
            refine ⟨i + 1, .slice so sm sc, ee, by omega, by go_num, by rw [unhide HL2]; omega, ?_, (unhide HRR).1, (unhide HRR).2⟩
            exact (unhide HM3).put (unhide HR3) (unhide HF3)
          case measure => simp [intOf]; omega
        · have hq : (c == 0) = false := by simpa using hcz
          have HNO := hide ((unhide HST).2 hcz)
          clear hcz
          go_wp2
          go_roundw
          case rel => exact ⟨i + 1, _, es, by omega, by go_num, by omega, unhide HM3, (unhide hh).2.1, unhide HNO⟩
          case measure => simp [intOf]; omega
      · have kS : Kept [wr.heap.size] w2 ((w2.setCell ⟨wr.heap.size, 0, none⟩ (.int .i64 nn)).setCell ⟨wr.heap.size, 1, none⟩ (.slice so sm sc)) := ((Kept.refl _ _).setCell (Or.inl (by simp)) _).setCell (Or.inl (by simp)) _
        have kA : Kept [] wr ((w2.setCell ⟨wr.heap.size, 0, none⟩ (.int .i64 nn)).setCell ⟨wr.heap.size, 1, none⟩ (.slice so sm sc)) := K2.trans' kS (by simp)
        have M3 := (unhide hh).1.go kA
        have v0 : ((w2.setCell ⟨wr.heap.size, 0, none⟩ (.int .i64 nn)).setCell ⟨wr.heap.size, 1, none⟩ (.slice so sm sc)).cell? ⟨wr.heap.size, 0, none⟩ = some (.int .i64 nn) := by go_simp
        have v1 : ((w2.setCell ⟨wr.heap.size, 0, none⟩ (.int .i64 nn)).setCell ⟨wr.heap.size, 1, none⟩ (.slice so sm sc)).cell? ⟨wr.heap.size, 1, none⟩ = some (.slice so sm sc) := by go_simp
        have hr3 := hr2.keptAt kS (fun a x y e => by have h2 := hf2 a x y e; have h3 : (wr.alloc (.cells #[.int .i64 0, .slice none 0 0] 25)).heap.size ≤ a.block := h2; simp at h3 ⊢; omega)
        have hf3 : FreshAt (w.heap.size + 2) (.slice so sm sc) := fun a x y e => by have h2 := hf2 a x y e; have h3 : (wr.alloc (.cells #[.int .i64 0, .slice none 0 0] 25)).heap.size ≤ a.block := h2; simp at h3; omega
        have nP : wr.heap.size ≠ w.heap.size + 1 := by omega
        clear k2 kz K2 hr2 hf2 c0 c1 z0 z1 y0 y1 kS kA
        generalize (w2.setCell ⟨wr.heap.size, 0, none⟩ (.int .i64 nn)).setCell ⟨wr.heap.size, 1, none⟩ (.slice so sm sc) = w3 at *
        have HM3 := hide M3
        have HR3 := hide hr3
        have HF3 := hide hf3
        have s0 := M3.g0; have s1 := M3.g1; have t0 := M3.f0; have t1 := M3.f1
        clear M3 hr3 hf3 hc0
        by_cases hcz : c = 0
        · have hq : (c == 0) = true := by simpa using hcz
          obtain ⟨hl2, hr2', hnn, hpa⟩ := (unhide HST).1 hcz
          subst hnn
          have HL2 := hide hl2
          have HRR := hide (And.intro hr2' hpa)
          clear hcz hl2 hr2' hpa
          go_wp2
          go_roundw
          case rel =>
            refine ⟨i + 1, .slice so sm sc, ee, by omega, by go_num, by rw [unhide HL2]; omega, ?_, (unhide HRR).1, (unhide HRR).2⟩
            exact (unhide HM3).put (unhide HR3) (unhide HF3)
          case measure => simp [intOf]; omega
        · have hq : (c == 0) = false := by simpa using hcz
          have HNO := hide ((unhide HST).2 hcz)
          clear hcz
          go_wp2
          go_roundw
          case rel => exact ⟨i + 1, _, es, by omega, by go_num, by omega, unhide HM3, (unhide hh).2.1, unhide HNO⟩
          case measure => simp [intOf]; omega
    · have e : i = N := by omega
      have r0 := (unhide hh).1.rs.r0; have r1 := (unhide hh).1.rs.r1; have f0 := (unhide hh).1.rs.f0; have f1 := (unhide hh).1.rs.f1
      have HT := hide ((unhide hh).1.rs.told (m := (N : Int)) (unhide hh).1.at' (fun a x y e => by have := (unhide hh).1.fresh a x y e; omega))
      have HE := hide (show rightB (N : Int) es = true ∧ ∀ v : Nat, v < N → trn (v : Int) (((v + 1) % N : Nat) : Int) ∈ es from ⟨(unhide hh).2.1, by have h := (unhide hh).2.2; rw [e] at h; exact ring_all hN3 h⟩)
      have HLE := hide (show es.length ≤ N by omega)
      clear e
      go_wp2
      all_goals (exact bodyPost_ret (v := gv N (.slice ro es.length rc)) (by simp [results, Try.results24, go_sem, r0, r1]) rfl ⟨.slice ro es.length rc, es, rfl, (unhide HT).1, (unhide HE).1, unhide HLE, (unhide HE).2, (unhide HT).2⟩)
end Go.Proofs.Ytfilhbkenedchaa
