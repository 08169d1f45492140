/- PiecesEach: the walk. -/
import Derived.Test.YtpebakgdnkjjeaaDoorLawParity
namespace Go.Proofs.YtpebakgdnkjjeaaDoor
open Go.RowKit

/-- Which piece each vertex is in, up to the k-th of the i-th. -/
structure Mark (L : List (List Int)) (i k : Nat) (f : Nat → Int) : Prop where
  old : ∀ j, j < i → ∀ v : Nat, (v : Int) ∈ L.getD j [] → f v = (j : Int) + 1
  cur : ∀ v : Nat, (v : Int) ∈ (L.getD i []).take k → f v = (i : Int) + 1
  zero : ∀ v : Nat, (∀ j, j < i → (v : Int) ∉ L.getD j []) → (v : Int) ∉ (L.getD i []).take k → f v = 0
theorem Mark.start (L : List (List Int)) : Mark L 0 0 (fun _ => 0) := ⟨fun j h => by omega, by simp, fun _ _ _ => rfl⟩
theorem getD_inL {L : List (List Int)} {i : Nat} (h : i < L.length) : L.getD i [] ∈ L := by simp [List.getD, h]
theorem IsPieces.apart {es : List E} {S : Int → Prop} {L : List (List Int)} (h : IsPieces es S L) {i j : Nat} (hij : j < i) (hi : i < L.length) {x : Int} (h1 : x ∈ L.getD j []) (h2 : x ∈ L.getD i []) : False := by
  have hj : j < L.length := by omega
  have m1 := getD_inL hj
  have m2 := getD_inL hi
  have e : L.getD j [] = L.getD i [] := rising_eq (h.rise _ m1) (h.rise _ m2) (fun z => by rw [(h.cls _ m1 x h1).2 z, (h.cls _ m2 x h2).2 z])
  have := (List.pairwise_iff_getElem.1 h.heads) j i hj hi hij
  simp only [List.getD, hj, hi, List.getElem?_eq_getElem, Option.getD_some] at e
  rw [e] at this
  exact Int.lt_irrefl _ this
theorem not_in_take {l : List Int} (h : l.Nodup) {k : Nat} (hk : k < l.length) : l.getD k 0 ∉ l.take k := by
  intro hm
  obtain ⟨j, hj, e⟩ := List.getElem_of_mem hm
  simp at hj
  rw [List.getElem_take] at e
  rw [getD_elem hk] at e
  have := (List.getElem_inj h).1 e
  omega
theorem Mark.fresh {es : List E} {S : Int → Prop} {L : List (List Int)} {i k : Nat} {f : Nat → Int} (h : Mark L i k f) (hp : IsPieces es S L) (hi : i < L.length) (hk : k < (L.getD i []).length) {v : Nat} (hv : (L.getD i []).getD k 0 = (v : Int)) : f v = 0 := by
  refine h.zero v (fun j hj hm => ?_) ?_
  · exact hp.apart hj hi hm (by rw [← hv]; exact getD_mem hk)
  · rw [← hv]; exact not_in_take (pair_irr (hp.rise _ (getD_inL hi))) hk
theorem Mark.set {es : List E} {S : Int → Prop} {L : List (List Int)} {i k : Nat} {f : Nat → Int} (h : Mark L i k f) (hp : IsPieces es S L) (hi : i < L.length) (hk : k < (L.getD i []).length) {v : Nat} (hv : (L.getD i []).getD k 0 = (v : Int)) : Mark L i (k + 1) (fun u => if u = v then (i : Int) + 1 else f u) := by
  have ht : (L.getD i []).take (k + 1) = (L.getD i []).take k ++ [(v : Int)] := by rw [List.take_succ_eq_append_getElem hk, ← hv, getD_elem hk]
  refine ⟨fun j hj u hu => ?_, fun u hu => ?_, fun u h1 h2 => ?_⟩
  · have : ¬ u = v := fun e => by subst e; exact hp.apart hj hi hu (by rw [← hv]; exact getD_mem hk)
    rw [if_neg this]; exact h.old j hj u hu
  · by_cases e : u = v
    · rw [if_pos e]
    · rw [if_neg e]
      rw [ht] at hu
      rcases List.mem_append.1 hu with hu | hu
      · exact h.cur u hu
      · simp at hu; exact absurd (by omega) e
  · rw [ht] at h2
    have e : ¬ u = v := fun e => h2 (by simp [e])
    rw [if_neg e]
    exact h.zero u h1 (fun hm => h2 (List.mem_append_left _ hm))
theorem Mark.next {L : List (List Int)} {i k : Nat} {f : Nat → Int} (h : Mark L i k f) (hk : (L.getD i []).length ≤ k) : Mark L (i + 1) 0 f := by
  have ht : (L.getD i []).take k = L.getD i [] := List.take_of_length_le hk
  refine ⟨fun j hj v hv => ?_, by simp, fun v h1 _ => ?_⟩
  · by_cases e : j = i
    · subst e; exact h.cur v (by rw [ht]; exact hv)
    · exact h.old j (by omega) v hv
  · exact h.zero v (fun j hj => h1 j (by omega)) (by rw [ht]; exact h1 i (by omega))
theorem Mark.alive {es : List E} {N : Nat} {xs : List Int} {L : List (List Int)} {f : Nat → Int} (h : Mark L L.length 0 f) (hp : IsPieces es (Alive (N : Int) xs) L) {v : Nat} (hv : v < N) : (f v == 0) = decide ((v : Int) ∈ xs) := by
  by_cases hm : (v : Int) ∈ xs
  · have : f v = 0 := h.zero v (fun j hj hmj => ((hp.cls _ (getD_inL hj) _ hmj).1).2 hm) (by simp)
    simp [this, hm]
  · obtain ⟨l, hl, hvl⟩ := hp.all (v : Int) ⟨⟨by omega, by omega⟩, hm⟩
    obtain ⟨j, hj, e⟩ := List.getElem_of_mem hl
    have := h.old j hj v (by simp [List.getD, hj, e, hvl])
    simp [hm]; omega
theorem Mark.edge {es : List E} {N : Nat} {xs : List Int} {L : List (List Int)} {f : Nat → Int} (h : Mark L L.length 0 f) (hp : IsPieces es (Alive (N : Int) xs) L) {a b : Nat} (hab : ((a : Int), (b : Int)) ∈ es) (ha : a < N) (hb : b < N) (h1 : 0 < f a) (h2 : 0 < f b) : f a = f b := by
  have n1 : (a : Int) ∉ xs := fun hm => by have := h.alive hp ha; simp [hm] at this; omega
  have n2 : (b : Int) ∉ xs := fun hm => by have := h.alive hp hb; simp [hm] at this; omega
  obtain ⟨l, hl, hal⟩ := hp.all (a : Int) ⟨⟨by omega, by omega⟩, n1⟩
  obtain ⟨j, hj, e⟩ := List.getElem_of_mem hl
  have hbl : (b : Int) ∈ l := ((hp.cls l hl _ hal).2 _).2 ((Reach.refl (hp.cls l hl _ hal).1).step (Or.inl hab) ⟨⟨by omega, by omega⟩, n2⟩)
  rw [h.old j hj a (by simp [List.getD, hj, e, hal]), h.old j hj b (by simp [List.getD, hj, e, hbl])]

theorem make_ints (N : Nat) (hN : N ≤ 100000) (W : World) : (Instr.makeSlice 25 (.int .i64 (N : Int)) (.int .i64 (N : Int))).run Tryd.prog W = .ok (.slice (some ⟨W.heap.size, 0, none⟩) N N) (W.alloc (.cells (madeCells #[.int .i64 0] N) 3)) := by
  obtain ⟨i, hi, hz0, hz1, hz2⟩ := info_parts infoInt
  have := run_make (P := Tryd.prog) W 25 3 i (.int .i64 0) Tryd.underlying25 hi hz0 .i64 .i64 (N : Int) (N : Int) (by omega) (by omega) (by rw [hz2]; omega) (by omega)
  rw [this, hz1]
  simp [Value.cells]
/-- A row of numbers of the call's own. -/
structure OfAt (w : World) (g N : Nat) (f : Nat → Int) : Prop where
  cell : ∀ v, v < N → w.cell? ⟨g, v, none⟩ = some (.int .i64 (f v))
  free : ∀ v, w.frozen? ⟨g, v, none⟩ = false
  lt : g < w.heap.size
theorem OfAt.start (W : World) (N : Nat) : OfAt (W.alloc (.cells (madeCells #[.int .i64 0] N) 3)) W.heap.size N (fun _ => 0) :=
  ⟨fun v hv => by rw [cell_of_block (new_block W _)]; simp [madeCells, hv, Nat.mod_one], fun v => by simp only [World.frozen?, new_block W (.cells (madeCells #[.int .i64 0] N) 3)]; rfl, by simp⟩
theorem OfAt.kept {w w' : World} {g N : Nat} {f : Nat → Int} (h : OfAt w g N f) (k : Kept [] w w') : OfAt w' g N f :=
  ⟨fun v hv => kept_cell (h.cell v hv) k, fun v => by rw [k.frozen h.lt (by simp)]; exact h.free v, Nat.lt_of_lt_of_le h.lt k.size⟩
theorem OfAt.set {w : World} {g N v : Nat} {f : Nat → Int} (h : OfAt w g N f) (hv : v < N) (y : Int) : OfAt (w.setCell ⟨g, v, none⟩ (.int .i64 y)) g N (fun u => if u = v then y else f u) := by
  refine ⟨fun u hu => ?_, fun u => by rw [frozen_set]; exact h.free u, by simpa [World.setCell] using h.lt⟩
  by_cases e : u = v
  · subst e; simp only [if_true]; exact cell_set_eq (h.cell u hu)
  · simp only [e, if_false]; rw [cell_set_off e]; exact h.cell u hu

set_option maxRecDepth 20000 in
set_option maxHeartbeats 8000000 in
theorem each_walk {w : World} {v : Value} {xs : List Int} (n : Int) (h : IntsAt w v xs) (x : Int) (hT : Tab w) : Calls Tryd.prog 4 #[.int .i64 n, v, .int .u64 x] w fun e w' => e = .returned (.bool true) ∧ Kept [] w w' := by
  have HS := hide (small_any h n 30 60 (by omega) (by omega) (by omega) (by omega))
  have HTT := hide (fun W (k : Kept [] w W) => hT.kept k (by simp))
  clear h hT
  go_enter Tryd.func4, Tryd.ntmps4
  go_wp2_with fail
  refine (unhide HS).mono ?_
  rintro e w1 ⟨N, r, es, rfl, hr, hright, hNV, hel, _, k1⟩
  obtain ⟨ao, cap, rfl, _⟩ := hr.shape
  obtain ⟨M, rfl⟩ := Int.eq_ofNat_of_zero_le (right_rise hright).1
  have G1 := hide (GVar.new (n := (M : Int)) hr 24)
  have K1 := hide (k1.alloc (.cells #[.int .i64 (M : Int), .slice ao es.length cap] 24))
  have HRT := hide hright
  have ga := (unhide G1).a; have gb := (unhide G1).b
  clear hr hright k1
  go_wp2_with fail
  generalize hW1 : w1.alloc (.cells #[.int .i64 (M : Int), .slice ao es.length cap] 24) = W1 at *
  generalize w1.heap.size = p0 at *
  clear hW1
  refine (some_any W1 M (.slice ao es.length cap) x).mono ?_
  rintro e w2 ⟨r2, ys, rfl, hy, hrise, hyb, hyl, _, k2⟩
  obtain ⟨yo, yc, rfl, _⟩ := hy.shape
  have G2 := hide ((unhide G1).kept k2)
  have K2 := hide ((unhide K1).trans k2)
  have HWO := hide (without_any (n := (M : Int)) (unhide G2).e hy (unhide HTT _ (unhide K2)))
  have HY2 := hide hy
  clear ga gb hy hrise hyb k2
  have ga := (unhide G2).a; have gb := (unhide G2).b
  go_wp2_with fail
  refine (unhide HWO).mono ?_
  rintro e w3 ⟨r3, L, rfl, hl, hp, _, k3⟩
  have HP := hide (hp (unhide HRT))
  have hLl := (show Pieces (M : Int) es ys L from ⟨hp, fun h => by rw [unhide HRT] at h; cases h⟩).len
  obtain ⟨lo, lc, rfl, _⟩ := hl.shape
  have G3 := hide ((unhide G2).kept k3)
  have K3 := hide ((unhide K2).trans k3)
  have HAW := hide (pawake_any (unhide HTT _ (unhide K3)))
  have HY3 := hide ((unhide HY2).kept k3)
  have HL3 := hide hl
  clear ga gb hp k3 hl
  have ga := (unhide G3).a; have gb := (unhide G3).b
  go_wp2_with fail
  refine (unhide HAW).mono ?_
  rintro e w4 ⟨rfl, k4⟩
  have G4 := hide ((unhide G3).kept k4)
  have K4 := hide ((unhide K3).trans k4)
  have HY4 := hide (fun W (k : Kept [] w4 W) => ((unhide HY3).kept k4).kept k)
  have HL4 := hide (fun W (k : Kept [] w4 W) => ((unhide HL3).kept k4).kept k)
  have HG4 := hide (fun W (k : Kept [] w4 W) => (unhide G4).kept k)
  clear ga gb k4
  have ga := (unhide G4).a; have gb := (unhide G4).b
  have hmk := make_ints M (by omega)
  have HOF := hide (OfAt.start w4 M)
  have HKA := hide ((Kept.refl [] w4).alloc (.cells (madeCells #[.int .i64 0] M) 3))
  go_wp2
  clear hmk ga gb
  obtain ⟨go, hgo⟩ : ∃ go, go = w4.heap.size := ⟨_, rfl⟩
  rw [← hgo] at HOF
  have HGO := hide (show w4.heap.size ≤ go by omega)
  rw [← hgo]
  clear hgo
  go_loopw [11] (fun ii wr => ∃ (i : Nat) (f : Nat → Int), i ≤ L.length ∧ ii = .int .i64 i ∧ Hid (Kept [] w4 wr ∧ OfAt wr go M f ∧ Mark L i 0 f)) (fun ii _ => L.length - (intOf ii).toNat)
  case atStart => exact ⟨0, _, Nat.zero_le _, rfl, unhide HKA, unhide HOF, Mark.start L⟩
  case round =>
    obtain ⟨i, f, hi, rfl, hh⟩ := hrel
    by_cases hlt : i < L.length
    · obtain ⟨lo2, _, hv2, _, hin2⟩ := (unhide HL4 _ (Kept.refl [] w4)).shape
      obtain ⟨lg, lof, he2, hc2⟩ := hin2 (by omega)
      have hlo : lo = some ⟨lg, lof, none⟩ := by simp at hv2; rw [hv2.1, he2]
      subst hlo
      obtain ⟨u, hu4, hiu4⟩ := hc2 i hlt
      have HU4 := hide hu4
      have hu := kept_cell hu4 (unhide hh).1
      have hiu := hiu4.kept (unhide hh).1
      clear hu4
      have hne : 0 < (L.getD i []).length := List.length_pos_iff.2 ((unhide HP).ne _ (getD_inL hlt))
      obtain ⟨uo, uc, rfl, hum, hun⟩ := hiu.shape
      obtain ⟨ug, uof, rfl, hcell⟩ := hun hne
      have d0 := hcell 0 hne
      simp only [Nat.add_zero] at d0
      have HIU4 := hide hiu4
      have hri : risesB (L.getD i []) = true := by unfold risesB; exact decide_eq_true ((unhide HP).rise _ (getD_inL hlt))
      clear hiu4
      have humI : ((L.getD i []).length : Int) ≤ 9223372036854775807 := by unfold maxLen at hum; omega
      have HRI := hide (show ∀ q, Calls Tryd.prog 19 #[.slice (some ⟨ug, uof, none⟩) (L.getD i []).length uc] (wr.drewN q) fun e w' => e = .returned (.bool true) ∧ ∃ m, w' = (wr.drewN q).drewN m from fun q => (rises_any (hiu.kept ((Kept.refl [] wr).drewN q))).mono fun e w' ⟨h1, h2⟩ => ⟨by rw [h1, hri], h2⟩)
      have hq0 : (((L.getD i []).length : Int) == 0) = false := by rw [beq_eq_false_iff_ne]; omega
      have i0 : (0 : Int) ≤ (i : Int) := by omega
      have i1 : (i : Int) < (L.length : Int) := by omega
      have n0 : (0 : Int) < ((L.getD i []).length : Int) := by omega
      have HHD := hide (fun j (hj : j < i) => (List.pairwise_iff_getElem.1 (unhide HP).heads) j i (by omega) hlt hj)
      have HBD := hide (show ∀ k, k < (L.getD i []).length → Alive (M : Int) ys ((L.getD i []).getD k 0) from fun k hk => ((unhide HP).cls _ (getD_inL hlt) _ (getD_mem hk)).1)
      clear hun hcell hum hv2 hin2 he2 hiu hri
      by_cases hi0 : i = 0
      · have hd : decide ((0 : Int) < (i : Int)) = false := by simp; omega
        have hd2 : decide (0 < i) = false := by simp; omega
        have HI0 := hide hi0
        clear hi0 hc2
        generalize hLi : (L.getD i []).length = len at *
        have HLI := hide hLi
        clear hLi
        go_wp2_with fail
        go_quiet ((go_at_call 19; exact Calls.quiet_of (unhide HRI _)))
        go_wp2
        clear hu d0
        go_loopw [12] (fun kk wt => ∃ (k : Nat) (f : Nat → Int), k ≤ len ∧ kk = .int .i64 k ∧ Hid (Kept [] w4 wt ∧ OfAt wt go M f ∧ Mark L i k f)) (fun kk _ => len - (intOf kk).toNat)
        case atStart => exact ⟨0, f, Nat.zero_le _, rfl, (unhide hh).1.drewN nq, (unhide hh).2.1.kept ((Kept.refl [] wr).drewN nq), (unhide hh).2.2⟩
        case round =>
          obtain ⟨k, f2, hk, rfl, h2⟩ := hrel
          have cu := kept_cell (unhide HU4) (unhide h2).1
          by_cases hkl : k < len
          · obtain ⟨_, _, hv5, _, hin5⟩ := ((unhide HIU4).kept (unhide h2).1).shape
            obtain ⟨g5, o5, he5, hc5⟩ := hin5 (by rw [unhide HLI]; omega)
            have e5 : g5 = ug ∧ o5 = uof := by simp at hv5; have := hv5.1; rw [he5] at this; simp at this; exact ⟨this.1.symm, this.2.symm⟩
            obtain ⟨rfl, rfl⟩ := e5
            have d5 := hc5 k (by rw [unhide HLI]; exact hkl)
            have hal := unhide HBD k hkl
            obtain ⟨vn, hvn⟩ := Int.eq_ofNat_of_zero_le hal.1.1
            have hvM : vn < M := by have := hal.1.2; omega
            have hf0 := (unhide h2).2.2.fresh (unhide HP) hlt (by rw [unhide HLI]; exact hkl) hvn
            have HMS := hide ((unhide h2).2.2.set (unhide HP) hlt (by rw [unhide HLI]; exact hkl) hvn)
            have HOS := hide ((unhide h2).2.1.set hvM (((i : Nat) : Int) + 1))
            have oc := (unhide h2).2.1.cell vn hvM
            have ofz := (unhide h2).2.1.free vn
            rw [hf0] at oc
            rw [hvn] at d5 hal
            have HIN := hide (show Calls Tryd.prog 20 #[.slice yo ys.length yc, .int .i64 (vn : Int)] wr fun e w' => e = .returned (.bool false) ∧ w' = wr from (in_any (unhide HY4 _ (unhide h2).1) (vn : Int)).mono fun e w' ⟨a1, a2⟩ => ⟨by rw [a1]; simp [hal.2], a2⟩)
            have HKS := hide ((unhide h2).1.setCell (p := ⟨go, vn, none⟩) (Or.inr (unhide HGO)) (.int .i64 (((i : Nat) : Int) + 1)))
            have ga := (unhide HG4 _ (unhide h2).1).a
            have v0 : (0 : Int) ≤ (vn : Int) := by omega
            have v1 : (vn : Int) < (M : Int) := by omega
            have kk0 : (0 : Int) ≤ (k : Int) := by omega
            have kk1 : (k : Int) < (len : Int) := by omega
            clear hal hvn hf0 hc5 hin5 hv5 he5
            go_wp2_with fail
            refine (unhide HIN).mono ?_
            rintro e w5 ⟨rfl, rfl⟩
            go_wp2
            go_roundw
            case rel => exact ⟨k + 1, _, by omega, by go_num, unhide HKS, unhide HOS, unhide HMS⟩
            case measure => simp [intOf]; omega
          · have HMN := hide ((unhide h2).2.2.next (by rw [unhide HLI]; omega))
            go_wp2
            go_roundw
            case rel => exact ⟨i + 1, f2, by omega, by go_num, (unhide h2).1, (unhide h2).2.1, unhide HMN⟩
            case measure => simp [intOf]; omega
      · obtain ⟨j, rfl⟩ : ∃ j, i = j + 1 := ⟨i - 1, by omega⟩
        obtain ⟨u2, hu24, hiu24⟩ := hc2 j (by omega)
        have hu2 := kept_cell hu24 (unhide hh).1
        have hiu2 := hiu24.kept (unhide hh).1
        clear hu24 hiu24
        have hne2 : 0 < (L.getD j []).length := List.length_pos_iff.2 ((unhide HP).ne _ (getD_inL (by omega)))
        obtain ⟨uo2, uc2, rfl, hum2, hun2⟩ := hiu2.shape
        obtain ⟨ug2, uof2, rfl, hcell2⟩ := hun2 hne2
        have d2 := hcell2 0 hne2
        simp only [Nat.add_zero] at d2
        have n2 : (0 : Int) < ((L.getD j []).length : Int) := by omega
        have hle : ¬ (L.getD (j + 1) []).getD 0 0 ≤ (L.getD j []).getD 0 0 := by
          have := unhide HHD j (by omega)
          have e1 : L.getD (j + 1) [] = L[j + 1] := by simp [List.getD, hlt]
          have hj2 : j < L.length := by omega
          have e2 : L.getD j [] = L[j] := by simp [List.getD, hj2]
          rw [e1, e2]
          have h1 : ∀ l : List Int, l.getD 0 0 = l.headD 0 := fun l => by cases l <;> rfl
          rw [h1, h1]; omega
        have hwr : IntKind.i64.wrap ((j : Int) + 1 - 1) = (j : Int) := by rw [IntWalk.i64_left, IntWalk.wrap64_in _ (by omega)]; omega
        have hwr2 : IntKind.i64.wrap (j : Int) = (j : Int) := by rw [IntWalk.i64_left, IntWalk.wrap64_in _ (by omega)]
        have hj0 : (0 : Int) ≤ (j : Int) := by omega
        have hj1 : (j : Int) < (L.length : Int) := by omega
        clear hiu2 hun2 hcell2 hum2 hi0 hc2
        generalize (L.getD (j + 1) []).getD 0 0 = x0 at *
        generalize (L.getD j []).getD 0 0 = y0 at *
        have hle2 : decide (x0 ≤ y0) = false := by simpa using hle
        generalize hLi : (L.getD (j + 1) []).length = len at *
        generalize (L.getD j []).length = len2 at *
        have HLI := hide hLi
        clear hLi
        go_wp2_with fail
        go_quiet ((go_at_call 19; exact Calls.quiet_of (unhide HRI _)))
        go_wp2
        clear hu d0
        go_loopw [12] (fun kk wt => ∃ (k : Nat) (f : Nat → Int), k ≤ len ∧ kk = .int .i64 k ∧ Hid (Kept [] w4 wt ∧ OfAt wt go M f ∧ Mark L (j + 1) k f)) (fun kk _ => len - (intOf kk).toNat)
        case atStart => exact ⟨0, f, Nat.zero_le _, rfl, (unhide hh).1.drewN nq, (unhide hh).2.1.kept ((Kept.refl [] wr).drewN nq), (unhide hh).2.2⟩
        case round =>
          obtain ⟨k, f2, hk, rfl, h2⟩ := hrel
          have cu := kept_cell (unhide HU4) (unhide h2).1
          by_cases hkl : k < len
          · obtain ⟨_, _, hv5, _, hin5⟩ := ((unhide HIU4).kept (unhide h2).1).shape
            obtain ⟨g5, o5, he5, hc5⟩ := hin5 (by rw [unhide HLI]; omega)
            have e5 : g5 = ug ∧ o5 = uof := by simp at hv5; have := hv5.1; rw [he5] at this; simp at this; exact ⟨this.1.symm, this.2.symm⟩
            obtain ⟨rfl, rfl⟩ := e5
            have d5 := hc5 k (by rw [unhide HLI]; exact hkl)
            have hal := unhide HBD k hkl
            obtain ⟨vn, hvn⟩ := Int.eq_ofNat_of_zero_le hal.1.1
            have hvM : vn < M := by have := hal.1.2; omega
            have hf0 := (unhide h2).2.2.fresh (unhide HP) hlt (by rw [unhide HLI]; exact hkl) hvn
            have HMS := hide ((unhide h2).2.2.set (unhide HP) hlt (by rw [unhide HLI]; exact hkl) hvn)
            have HOS := hide ((unhide h2).2.1.set hvM ((((j + 1) : Nat) : Int) + 1))
            have oc := (unhide h2).2.1.cell vn hvM
            have ofz := (unhide h2).2.1.free vn
            rw [hf0] at oc
            rw [hvn] at d5 hal
            have HIN := hide (show Calls Tryd.prog 20 #[.slice yo ys.length yc, .int .i64 (vn : Int)] wr fun e w' => e = .returned (.bool false) ∧ w' = wr from (in_any (unhide HY4 _ (unhide h2).1) (vn : Int)).mono fun e w' ⟨a1, a2⟩ => ⟨by rw [a1]; simp [hal.2], a2⟩)
            have HKS := hide ((unhide h2).1.setCell (p := ⟨go, vn, none⟩) (Or.inr (unhide HGO)) (.int .i64 ((((j + 1) : Nat) : Int) + 1)))
            have ga := (unhide HG4 _ (unhide h2).1).a
            have v0 : (0 : Int) ≤ (vn : Int) := by omega
            have v1 : (vn : Int) < (M : Int) := by omega
            have kk0 : (0 : Int) ≤ (k : Int) := by omega
            have kk1 : (k : Int) < (len : Int) := by omega
            clear hal hvn hf0 hc5 hin5 hv5 he5
            go_wp2_with fail
            refine (unhide HIN).mono ?_
            rintro e w5 ⟨rfl, rfl⟩
            go_wp2
            go_roundw
            case rel => exact ⟨k + 1, _, by omega, by go_num, unhide HKS, unhide HOS, unhide HMS⟩
            case measure => simp [intOf]; omega
          · have HMN := hide ((unhide h2).2.2.next (by rw [unhide HLI]; omega))
            go_wp2
            go_roundw
            case rel => exact ⟨(j + 1) + 1, f2, by omega, by go_num, (unhide h2).1, (unhide h2).2.1, unhide HMN⟩
            case measure => simp [intOf]; omega
    · have HMF := hide (show Mark L L.length 0 f by have := (unhide hh).2.2; rwa [show i = L.length by omega] at this)
      go_wp2
      go_loopw [14] (fun vv wt => ∃ (k : Nat), k ≤ M ∧ vv = .int .i64 k ∧ Hid (Kept [] w4 wt ∧ OfAt wt go M f)) (fun vv _ => M - (intOf vv).toNat)
      case atStart => exact ⟨0, Nat.zero_le _, rfl, (unhide hh).1, (unhide hh).2.1⟩
      case round =>
        obtain ⟨k, hk, rfl, h2⟩ := hrel
        have ga := (unhide HG4 _ (unhide h2).1).a
        by_cases hkl : k < M
        · have oc := (unhide h2).2.cell k hkl
          have hal := (unhide HMF).alive (unhide HP) hkl
          have HIN := hide (show ∀ q, Calls Tryd.prog 20 #[.slice yo ys.length yc, .int .i64 (k : Int)] (wr.drewN q) fun e w' => e = .returned (.bool (f k == 0)) ∧ w' = wr.drewN q from fun q => (in_any (unhide HY4 _ ((unhide h2).1.drewN q)) (k : Int)).mono fun e w' ⟨a1, a2⟩ => ⟨by rw [a1, hal], a2⟩)
          have kk0 : (0 : Int) ≤ (k : Int) := by omega
          have kk1 : (k : Int) < (M : Int) := by omega
          clear hal
          generalize f k = fk at *
          have hbq : ((fk == 0) != (fk == 0)) = false := by simp
          go_wp2_with fail
          go_quiet ((go_at_call 20; exact Calls.quiet_of_same (unhide HIN _)))
          go_wp2
          go_roundw
          case rel => exact ⟨k + 1, by omega, by go_num, (unhide h2).1.drewN nq, (unhide h2).2.kept ((Kept.refl [] wr).drewN nq)⟩
          case measure => simp [intOf]; omega
        · go_wp2
          go_loopw [15] (fun ee wt => ∃ (k : Nat), k ≤ es.length ∧ ee = .int .i64 k ∧ Hid (Kept [] w4 wt ∧ OfAt wt go M f)) (fun ee _ => es.length - (intOf ee).toNat)
          case atStart => exact ⟨0, Nat.zero_le _, rfl, unhide h2⟩
          case round =>
            obtain ⟨t, ht, rfl, h3⟩ := hrel
            clear ga
            have ga := (unhide HG4 _ (unhide h3).1).a
            have gb := (unhide HG4 _ (unhide h3).1).b
            by_cases htl : t < es.length
            · obtain ⟨ao2, _, hv2, _, _, hin2⟩ := (unhide HG4 _ (unhide h3).1).e.shape
              obtain ⟨eg, eo, he2, hin⟩ := hin2 (by omega)
              have hao : ao = some ⟨eg, eo, none⟩ := by simp at hv2; rw [hv2.1, he2]
              subst hao
              have d0 := hin.a t htl; have d1 := hin.b t htl
              have hmem := at_mem htl
              have ok := okE_iff.1 ((right_rise (unhide HRT)).2.2.2.2 _ hmem)
              unfold at_ at ok hmem
              simp only at ok
              obtain ⟨an, ha⟩ := Int.eq_ofNat_of_zero_le ok.1
              obtain ⟨bn, hb⟩ := Int.eq_ofNat_of_zero_le (show 0 ≤ eB es t by omega)
              rw [ha, hb] at ok hmem
              rw [ha] at d0; rw [hb] at d1
              have oa := (unhide h3).2.cell an (by omega)
              have ob := (unhide h3).2.cell bn (by omega)
              have heq := (unhide HMF).edge (unhide HP) hmem (by omega) (by omega)
              have a0 : (0 : Int) ≤ (an : Int) := by omega
              have a1 : (an : Int) < (M : Int) := by omega
              have b0 : (0 : Int) ≤ (bn : Int) := by omega
              have b1 : (bn : Int) < (M : Int) := by omega
              have t0 : (0 : Int) ≤ (t : Int) := by omega
              have t1 : (t : Int) < (es.length : Int) := by omega
              have HEQ := hide heq
              clear heq ok hmem hin hin2 hv2 he2 ha hb
              generalize f an = fa at *
              generalize f bn = fb at *
              by_cases hp1 : 0 < fa ∧ 0 < fb
              · have e := unhide HEQ hp1.1 hp1.2
                obtain ⟨p1, p2⟩ := hp1
                subst e
                have hnq : (fa != fa) = false := by simp
                go_wp2_with fail
                go_quiet (fail)
                go_wp2
                go_roundw
                case rel => exact ⟨t + 1, by omega, by go_num, (unhide h3).1.drewN nq, (unhide h3).2.kept ((Kept.refl [] wr).drewN nq)⟩
                case measure => simp [intOf]; omega
              · have HNP := hide hp1
                clear hp1
                go_wp2_with fail
                go_quiet (fail)
                go_wp2
                all_goals first
                  | (exfalso; have hp1 := unhide HNP; omega)
                  | (go_roundw
                     case rel => exact ⟨t + 1, by omega, by go_num, (unhide h3).1.drewN nq, (unhide h3).2.kept ((Kept.refl [] wr).drewN nq)⟩
                     case measure => simp [intOf]; omega)
            · go_wp2
              go_ret
              exact ⟨rfl, (unhide K4).trans (unhide h3).1⟩
theorem each_law (w : World) (n : Int) (_ : InI n) (v : Value) (xs : List Int) (h : IntsAt w v xs) (x : Int) (hT : Tab w) : Calls Tryd.prog 4 #[.int .i64 n, v, .int .u64 x] w fun e w' => e = .returned (.bool true) ∧ Kept [] w w' := each_walk n h x hT
end Go.Proofs.YtpebakgdnkjjeaaDoor
