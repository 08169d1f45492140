/- Pairs in memory; numbers that a law draws. How pairs are read. JoinPlays: its walk. -/
import Derived.Test.YthncoddcpjpblaaJoinPlays15
import Derived.Test.YthncoddcpjpblaaJoinPlays8
import Derived.Test.YthncoddcpjpblaaJoinPlays2
import Derived.Deep.RegionHeld3
import Derived.Test.YthncoddcpjpblaaJoinPlays5
namespace Go.Proofs.Ythncoddcpjpblaa
open Go.RowKit

/-- A slice of pairs with labels: three cells each. -/
def PairsAt (w : World) (v : Value) (n : Nat) (qa qb ql : Nat → Int) : Prop :=
  ∃ ao cap, v = .slice ao n cap ∧ n ≤ maxLen ∧ (0 < n → ∃ g o, ao = some ⟨g, o, none⟩ ∧ ∀ i, i < n → w.cell? ⟨g, o + i * 3, none⟩ = some (.int .i64 (qa i)) ∧ w.cell? ⟨g, o + i * 3 + 1, none⟩ = some (.int .i64 (qb i)) ∧ w.cell? ⟨g, o + i * 3 + 2, none⟩ = some (.int .i64 (ql i)))
theorem PairsAt.kept {w w' : World} {v : Value} {n : Nat} {qa qb ql : Nat → Int} (h : PairsAt w v n qa qb ql) (k : Kept [] w w') : PairsAt w' v n qa qb ql := by
  obtain ⟨ao, cap, rfl, hm, hc⟩ := h
  refine ⟨ao, cap, rfl, hm, fun h0 => ?_⟩
  obtain ⟨g, o, rfl, hh⟩ := hc h0
  exact ⟨g, o, rfl, fun i hi => ⟨kept_cell (hh i hi).1 k, kept_cell (hh i hi).2.1 k, kept_cell (hh i hi).2.2 k⟩⟩
theorem mod_at (n V : Int) (h0 : 0 < V) (h1 : V ≤ 4096) : ∃ N : Nat, (N : Int) < V ∧ wrap64 ((IntKind.u64.wrap n).tmod V) = (N : Int) := by
  have h2 := u64_nonneg n
  have h3 : 0 ≤ (IntKind.u64.wrap n).tmod V := Int.tmod_nonneg _ h2
  have h4 : (IntKind.u64.wrap n).tmod V < V := Int.tmod_lt_of_pos _ h0
  refine ⟨((IntKind.u64.wrap n).tmod V).toNat, by omega, ?_⟩
  rw [IntWalk.wrap64_in _ (by omega)]
  omega
theorem box3 {w w' : World} {x y z : Value} {T : TypeId} (k : Kept [] (w.alloc (.cells #[x, y, z] T)) w') : w'.cell? ⟨w.heap.size, 0, none⟩ = some x ∧ w'.cell? ⟨w.heap.size, 1, none⟩ = some y ∧ w'.cell? ⟨w.heap.size, 2, none⟩ = some z :=
  ⟨kept_cell (by rw [cell_of_block (new_block w _)]; rfl) k, kept_cell (by rw [cell_of_block (new_block w _)]; rfl) k, kept_cell (by rw [cell_of_block (new_block w _)]; rfl) k⟩
/-- How many sets the reference tells. -/
theorem jrcount_any {w : World} {p ga gb n : Nat} {L B : Nat → Nat} (h : RJ w p ga gb n L B) :
    Calls Try.prog 12 #[.pointer (some ⟨p, 0, none⟩)] w fun e w' => ∃ so sc, e = .returned (.slice so (cntL n L) sc) ∧ Kept [] w w' :=
  (jrsets_any h).mono fun e w' ⟨r, e1, h1, h2⟩ => by
    obtain ⟨so, sc, rfl, _⟩ := h1.shape
    rw [setsL_len] at e1
    exact ⟨so, sc, e1, h2⟩
/-- Both joins, alike, in blocks of their own, apart. -/
structure Both (W w : World) (T p g q ga gb n : Nat) (L B : Nat → Nat) : Prop where
  j : JAt w p g n L B
  r : RJ w q ga gb n L B
  k : Kept [] W w
structure Places (W : World) (T p g q ga gb : Nat) : Prop where
  p : W.heap.size ≤ p ∧ p < T
  g : W.heap.size ≤ g ∧ g < T
  q : W.heap.size ≤ q ∧ T ≤ q
  a : W.heap.size ≤ ga ∧ T ≤ ga
  b : W.heap.size ≤ gb ∧ T ≤ gb
end Go.Proofs.Ythncoddcpjpblaa

namespace Go.Proofs.Ythncoddcpjpblaa
open Go.ChangeShapes Go.WideShapes Go.ChangeAt Go.RowKit

theorem cellsPair : Try.prog.cellsOf 30 = 3 := by kernel_rfl
set_option maxRecDepth 200000 in
theorem pairs_arg {H : Type} {enc : TypeId × Value → H} {W : World} {base : Nat} {v : Value} {d : DataW H} {p : List MemPlace} (hv : Value.okWide Try.prog W .any base 22 v) (h : DataW.Trod enc Try.prog W 0 (fun _ => true) true 22 v d p) : ∃ (len : Nat) (qa qb ql : Nat → Int), PairsAt W v len qa qb ql := by
  obtain ⟨ao, len, cap, rfl⟩ := okWide_slice Try.underlying22 hv
  obtain ⟨fuel, hf0⟩ := h
  have hf : DataW.trod enc Try.prog W 0 (fun _ => true) true fuel 22 [.slice ao len cap] = some (d, p) := by simpa [Value.cells] using hf0
  rcases Go.Deep.open_slice Try.underlying22 hf with ⟨hcs, _⟩ | ⟨a, len', cap', m, n, D, Pl, hcs, _, hl, hm, hmm, _, hel⟩
  · simp at hcs
    obtain ⟨rfl, rfl, rfl⟩ := hcs
    exact ⟨0, fun _ => 0, fun _ => 0, fun _ => 0, none, 0, rfl, Nat.zero_le _, fun h => by simp at h⟩
  · simp at hcs
    obtain ⟨rfl, rfl, rfl⟩ := hcs
    simp at hmm
    subst hmm
    have each : ∀ i, i < len → ∃ q : Int × Int × Int, W.cell? (a.add (i * 3)) = some (.int .i64 q.1) ∧ W.cell? (a.add (i * 3 + 1)) = some (.int .i64 q.2.1) ∧ W.cell? (a.add (i * 3 + 2)) = some (.int .i64 q.2.2) := by
      intro i hi
      obtain ⟨cs', h1, h2⟩ := hel i (by omega)
      rw [cellsPair] at h1
      obtain ⟨_, hlen, hcell⟩ := World.cells?_some h1
      obtain ⟨xs, k, hk, hxy, _, hxl, hfl⟩ := DataW.trod_struct Try.underlying30 h2
      match xs, hxl, cs', hlen with
      | [y0, y1, y2], _, [v0, v1, v2], _ =>
        have g0 := hfl 0 _ rfl
        have g1 := hfl 1 _ rfl
        have g2 := hfl 2 _ rfl
        simp [cellsInt] at g0 g1 g2
        have e0 := hcell 0 (by omega)
        have e1 := hcell 1 (by omega)
        have e2 := hcell 2 (by omega)
        rw [Go.Deep.add_add] at e0 e1 e2
        obtain ⟨a0, c0, _, _⟩ := DataW.trod_int Try.underlying3 g0
        obtain ⟨a1, c1, _, _⟩ := DataW.trod_int Try.underlying3 g1
        obtain ⟨a2, c2, _, _⟩ := DataW.trod_int Try.underlying3 g2
        simp at c0 c1 c2
        subst c0 c1 c2
        exact ⟨(a0, a1, a2), by simpa using e0, by simpa using e1, by simpa using e2⟩
    have inh : Inhabited (Int × Int × Int) := ⟨(0, 0, 0)⟩
    obtain ⟨q, hq⟩ := Go.Deep.choose_lt each
    refine ⟨len, fun i => (q i).1, fun i => (q i).2.1, fun i => (q i).2.2, some a, _, rfl, by omega, fun h0 => ?_⟩
    have hsp : a.spot = none := by
      have := World.cell?_spot (hq 0 h0).1
      simpa [Addr.add] using this
    obtain ⟨g, o, sp⟩ := a
    simp at hsp
    subst hsp
    have pl : ∀ j, (⟨g, o, none⟩ : Addr).add j = ⟨g, o + j, none⟩ := fun j => Go.WideShapes.add_plain ..
    refine ⟨g, o, rfl, fun i hi => ?_⟩
    obtain ⟨b0, b1, b2⟩ := hq i hi
    rw [pl] at b0 b1 b2
    exact ⟨b0, by rw [Nat.add_assoc]; exact b1, by rw [Nat.add_assoc]; exact b2⟩
end Go.Proofs.Ythncoddcpjpblaa

namespace Go.Proofs.Ythncoddcpjpblaa
open Go.RowKit

set_option maxRecDepth 20000 in
set_option maxHeartbeats 16000000 in
theorem joinPlays_walk (w : World) (n0 : Int) (_ : InI n0) (v : Value) (len : Nat) (qa qb ql : Nat → Int) (hl : PairsAt w v len qa qb ql) (a : Int) (_ : InI a) (b : Int) (_ : InI b) :
    Calls Try.prog 3 #[.int .i64 n0, v, .int .i64 a, .int .i64 b] w fun e w' => e = .returned (.bool true) ∧ Kept [] w w' := by
  obtain ⟨ao, cap, rfl, hm, _⟩ := id hl
  obtain ⟨N, hN, hNe⟩ := mod_at n0 60 (by decide) (by decide)
  have H1 := hide (fun W => jnew_any W (N : Int))
  have H2 := hide (fun W => jrnew_any W N (by omega))
  have HN := hide (show newN (N : Int) = N by unfold newN; omega)
  have HA := hide (fun W => jawake_any W)
  have HL := hide (fun W (k : Kept [] w W) => hl.kept k)
  have hmI : (len : Int) ≤ 9223372036854775807 := by unfold maxLen at hm; omega
  clear hl hm
  go_enter Try.func3, Try.ntmps3
  go_wp2_with fail
  rw [hNe]
  clear hNe
  refine (unhide H1 _).mono ?_
  rintro e w1 ⟨p, g, rfl, hj, hp, hg, k1⟩
  rw [unhide HN] at hj
  have HJ := hide hj
  have hgl : g < w1.heap.size := by obtain ⟨_, _, _, _, _, _, h, _⟩ := hj.nodes; exact h.lt
  have hpl := lt_of_cell hj.c0
  have K1 := hide k1
  clear hj H1
  go_wp2_with fail
  refine (unhide H2 _).mono ?_
  rintro e w2 ⟨q, ga, gb, rfl, hr, hq, hga, hgb, k2⟩
  have hsz := k1.size
  have PL := hide (show Places w w1.heap.size p g q ga gb from ⟨⟨hp, hpl⟩, ⟨hg, hgl⟩, ⟨by omega, hq⟩, ⟨by omega, hga⟩, ⟨by omega, hgb⟩⟩)
  have HB2 := hide (show Both w w2 w1.heap.size p g q ga gb N (fun k => k) (fun k => k) from ⟨(unhide HJ).kept (bs := []) k2 (by simp) (by simp), hr, k1.trans k2⟩)
  clear hr hq hga hgb k2 k1 hp hg hgl hpl hsz K1 HJ H2
  generalize w1.heap.size = T at *
  go_wp2_with fail
  refine (unhide HA _).mono ?_
  rintro e w3 ⟨rfl, k3⟩
  have HB3 := hide (show Both w w3 T p g q ga gb N (fun k => k) (fun k => k) from ⟨(unhide HB2).j.kept (bs := []) k3 (by simp) (by simp), (unhide HB2).r.kept (bs := []) k3 (by simp) (by simp) (by simp), (unhide HB2).k.trans k3⟩)
  clear k3 HB2 HA
  go_wp2
  go_loopw [11] (fun c wr => ∃ (k : Nat) (L B : Nat → Nat), k ≤ len ∧ c = .int .i64 k ∧ Hid (Both w wr T p g q ga gb N L B)) (fun c _ => len - (intOf c).toNat)
  case atStart => exact ⟨0, _, _, Nat.zero_le _, rfl, unhide HB3⟩
  case round =>
    obtain ⟨k, L, B, hk, rfl, hh⟩ := hrel
    clear HB3
    by_cases hlt : k < len ∧ k < 60
    · obtain ⟨hlt1, hlt2⟩ := hlt
      obtain ⟨ao2, cap2, hv2, _, hin2⟩ := unhide HL _ (unhide hh).k
      obtain ⟨eg, eo, he2, hin⟩ := hin2 (by omega)
      have hao : ao = some ⟨eg, eo, none⟩ := by simp at hv2; rw [hv2.1, he2]
      subst hao
      obtain ⟨d0, d1, d2⟩ := hin k hlt1
      have t0 : (0 : Int) ≤ (k : Int) := by omega
      have t1 : (k : Int) < (len : Int) := by omega
      have t2 : (k : Int) < 60 := by omega
      generalize qa k = xa at *
      generalize qb k = xb at *
      generalize ql k = xl at *
      clear hin hin2 hv2 he2
      have KB := (Kept.refl [] wr).alloc (.cells #[.int .i64 xa, .int .i64 xb, .int .i64 xl] 30)
      obtain ⟨e0, e1, e2⟩ := box3 (Kept.refl [] (wr.alloc (.cells #[.int .i64 xa, .int .i64 xb, .int .i64 xl] 30)))
      have HB0 := hide (show Both w (wr.alloc (.cells #[.int .i64 xa, .int .i64 xb, .int .i64 xl] 30)) T p g q ga gb N L B from ⟨(unhide hh).j.kept (bs := []) KB (by simp) (by simp), (unhide hh).r.kept (bs := []) KB (by simp) (by simp) (by simp), (unhide hh).k.trans KB⟩)
      have hpe : wr.heap.size ∉ [p, g] ∧ wr.heap.size ∉ [ga, gb] := by
        have h1 := lt_of_cell (unhide hh).j.c0
        have h2 : g < wr.heap.size := by obtain ⟨_, _, _, _, _, _, h, _⟩ := (unhide hh).j.nodes; exact h.lt
        have h3 := (unhide hh).r.la
        have h4 := (unhide hh).r.lb
        simp
        omega
      go_wp2_with fail
      clear d0 d1 d2
      generalize wr.alloc (.cells #[.int .i64 xa, .int .i64 xb, .int .i64 xl] 30) = W0 at *
      generalize wr.heap.size = pe at *
      have HU := hide (fun W (kk : Kept [] W0 W) => unite_any ((unhide HB0).j.kept kk (by simp) (by simp)) xa xb xl)
      have NP := hide (show p ∉ [ga, gb] ∧ g ∉ [ga, gb] ∧ q ∉ [p, g] ∧ ga ∉ [p, g] ∧ gb ∉ [p, g] from by
        obtain ⟨⟨_, h1⟩, ⟨_, h2⟩, ⟨_, h3⟩, ⟨_, h4⟩, ⟨_, h5⟩⟩ := unhide PL
        simp; omega)
      have HR := hide (fun W (kk : Kept [p, g] W0 W) => jrunite_any ((unhide HB0).r.kept kk (unhide NP).2.2.1 (unhide NP).2.2.2.1 (unhide NP).2.2.2.2) xa xb xl)
      have HW0 := hide (unhide HB0).k
      clear KB HB0 hh
      unfold RUPost at HR
      generalize hL2 : stepL N L xa xb xl = L2 at *
      generalize hB2 : stepB N L B xa xb xl = B2 at *
      generalize uniOK N L xa xb xl = u at *
      clear hL2 hB2
      have hcI : ((cntL N L2 : Nat) : Int) ≤ 9223372036854775807 := by have := cntL_le N L2; omega
      generalize hC : cntL N L2 = C at *
      have HC := hide hC
      clear hC
      cases u
      · go_region_held3 (fun W => W.cell? ⟨pe, 0, none⟩ = some (.int .i64 xa) ∧ W.cell? ⟨pe, 1, none⟩ = some (.int .i64 xb) ∧ W.cell? ⟨pe, 2, none⟩ = some (.int .i64 xl)) (first | exact ⟨kept_cell f0 k7, kept_cell f1 k7, kept_cell f2 k7⟩ | exact ⟨f0, f1, f2⟩ | exact ⟨kept_cell' e0 K2 hpe.1, kept_cell' e1 K2 hpe.1, kept_cell' e2 K2 hpe.1⟩ | go_keep)
          (first | (go_at_call 9; refine (unhide HU _ ((Kept.refl _ _).drew)).mono ?_; rintro e w4 ⟨rfl, hj4, k4⟩; have K2 := Kept.trans ((Kept.refl [p, g] W0).drew) k4)
                  | (go_at_call 10; refine (unhide HR _ K2).mono ?_; rintro e w5 ⟨rfl, hr5, k5⟩; have f0 := kept_cell' (kept_cell' e0 K2 hpe.1) k5 hpe.2; have f1 := kept_cell' (kept_cell' e1 K2 hpe.1) k5 hpe.2; have f2 := kept_cell' (kept_cell' e2 K2 hpe.1) k5 hpe.2; have hj5 := hj4.kept k5 (unhide NP).1 (unhide NP).2.1)
                  | (go_at_call 11; refine (jlen_any hj5.v).mono ?_; rintro e w6 ⟨rfl, rfl⟩)
                  | (go_at_call 12; refine (jrcount_any hr5).mono ?_; rintro e w7 ⟨so, sc, rfl, k7⟩))
        have HF := hide (show Both w w7 T p g q ga gb N L2 B2 from ⟨hj5.kept (bs := []) k7 (by simp) (by simp), hr5.kept (bs := []) k7 (by simp) (by simp) (by simp), (((unhide HW0).trans' K2 (fun i hi => by
          obtain ⟨⟨h1, _⟩, ⟨h2, _⟩, _⟩ := unhide PL
          simp at hi
          rcases hi with rfl | rfl <;> exact Or.inr (by assumption))).trans' k5 (fun i hi => by
          obtain ⟨_, _, _, ⟨h1, _⟩, ⟨h2, _⟩⟩ := unhide PL
          simp at hi
          rcases hi with rfl | rfl <;> exact Or.inr (by assumption))).trans k7⟩)
        clear hj5 hj4 hr5 k4 k5 k7 K2 f0 f1 f2 e0 e1 e2 HU HR
        go_wp2
        go_roundw
        case rel => exact ⟨k + 1, L2, B2, by omega, by go_num, unhide HF⟩
        case measure => simp [intOf]; omega
      · go_region_held3 (fun W => W.cell? ⟨pe, 0, none⟩ = some (.int .i64 xa) ∧ W.cell? ⟨pe, 1, none⟩ = some (.int .i64 xb) ∧ W.cell? ⟨pe, 2, none⟩ = some (.int .i64 xl)) (first | exact ⟨kept_cell f0 k7, kept_cell f1 k7, kept_cell f2 k7⟩ | exact ⟨f0, f1, f2⟩ | exact ⟨kept_cell' e0 K2 hpe.1, kept_cell' e1 K2 hpe.1, kept_cell' e2 K2 hpe.1⟩ | go_keep)
          (first | (go_at_call 9; refine (unhide HU _ ((Kept.refl _ _).drew)).mono ?_; rintro e w4 ⟨rfl, hj4, k4⟩; have K2 := Kept.trans ((Kept.refl [p, g] W0).drew) k4)
                  | (go_at_call 10; refine (unhide HR _ K2).mono ?_; rintro e w5 ⟨rfl, hr5, k5⟩; have f0 := kept_cell' (kept_cell' e0 K2 hpe.1) k5 hpe.2; have f1 := kept_cell' (kept_cell' e1 K2 hpe.1) k5 hpe.2; have f2 := kept_cell' (kept_cell' e2 K2 hpe.1) k5 hpe.2; have hj5 := hj4.kept k5 (unhide NP).1 (unhide NP).2.1)
                  | (go_at_call 11; refine (jlen_any hj5.v).mono ?_; rintro e w6 ⟨rfl, rfl⟩)
                  | (go_at_call 12; refine (jrcount_any hr5).mono ?_; rintro e w7 ⟨so, sc, rfl, k7⟩))
        have HF := hide (show Both w w7 T p g q ga gb N L2 B2 from ⟨hj5.kept (bs := []) k7 (by simp) (by simp), hr5.kept (bs := []) k7 (by simp) (by simp) (by simp), (((unhide HW0).trans' K2 (fun i hi => by
          obtain ⟨⟨h1, _⟩, ⟨h2, _⟩, _⟩ := unhide PL
          simp at hi
          rcases hi with rfl | rfl <;> exact Or.inr (by assumption))).trans' k5 (fun i hi => by
          obtain ⟨_, _, _, ⟨h1, _⟩, ⟨h2, _⟩⟩ := unhide PL
          simp at hi
          rcases hi with rfl | rfl <;> exact Or.inr (by assumption))).trans k7⟩)
        clear hj5 hj4 hr5 k4 k5 k7 K2 f0 f1 f2 e0 e1 e2 HU HR
        go_wp2
        go_roundw
        case rel => exact ⟨k + 1, L2, B2, by omega, by go_num, unhide HF⟩
        case measure => simp [intOf]; omega
    · have HB4 := hide (unhide hh)
      obtain ⟨W5, hW5⟩ : ∃ W5, W5 = wr := ⟨wr, rfl⟩
      subst hW5
      clear hh
      have HFJ := hide (fun x => find_any (unhide HB4).j.v x)
      have HFR := hide (fun x => jrfind_any (unhide HB4).r x)
      have HLJ := hide (fun x => label_any (unhide HB4).j.v x)
      have HLR := hide (fun x => jrlabel_any (unhide HB4).r x)
      by_cases h1 : k < len
      all_goals
        go_wp2
        go_loop [13] (fun c => ∃ m : Int, -1 ≤ m ∧ m ≤ (N : Int) + 1 ∧ c = .int .i64 m) (fun c => ((N : Int) + 2 - intOf c).toNat)
        case atStart => exact ⟨-1, by omega, by omega, rfl⟩
        case round =>
          obtain ⟨m, hm0, hm1, rfl⟩ := hrel
          by_cases hlt2 : m ≤ (N : Int)
          · have F1 := hide (unhide HFJ m)
            have F2 := hide (unhide HFR m)
            have F3 := hide (unhide HLJ m)
            have F4 := hide (unhide HLR m)
            generalize tellI N L m = y1 at *
            generalize tellI N B m = y2 at *
            go_wp2_with fail
            refine (unhide F1).mono ?_
            rintro e w' ⟨rfl, rfl⟩
            go_wp2_with fail
            refine (unhide F2).mono ?_
            rintro e w' ⟨rfl, rfl⟩
            go_wp2_with fail
            refine (unhide F3).mono ?_
            rintro e w' ⟨rfl, rfl⟩
            go_wp2_with fail
            refine (unhide F4).mono ?_
            rintro e w' ⟨rfl, rfl⟩
            go_wp2
            go_round
            case rel => exact ⟨m + 1, by omega, by omega, by go_num⟩
            case measure => simp [intOf]; omega
          · have HSJ := hide (jsets_any (unhide HB4).j)
            have HRS := hide (fun W (kk : Kept [] W5 W) => jrsets_any ((unhide HB4).r.kept kk (by simp) (by simp) (by simp)))
            have HSM := hide (fun W (kk : Kept [] W5 W) => jsame_any ((unhide HB4).j.kept kk (by simp) (by simp)).v a b)
            have HSR := hide (fun W (kk : Kept [] W5 W) => jrsame_any ((unhide HB4).r.kept kk (by simp) (by simp) (by simp)) a b)
            have HFA := hide (fun W (kk : Kept [] W5 W) => find_any ((unhide HB4).j.kept kk (by simp) (by simp)).v a)
            have HRA := hide (fun W (kk : Kept [] W5 W) => jrfind_any ((unhide HB4).r.kept kk (by simp) (by simp) (by simp)) a)
            have HKW := hide (unhide HB4).k
            clear HFJ HFR HLJ HLR HB4
            generalize sameN N L a b = sm at *
            generalize tellI N L a = ta at *
            generalize setsL N L = SL at *
            go_wp2_with fail
            refine (unhide HSJ).mono ?_
            rintro e w6 ⟨r6, rfl, l6, _, k6⟩
            have L6 := hide l6
            have K6 := hide k6
            clear l6 k6
            go_wp2_with fail
            refine (unhide HRS _ (unhide K6)).mono ?_
            rintro e w7 ⟨r7, rfl, l7, k7⟩
            have HLS := lists_any ((unhide L6).kept k7) l7
            rw [show decide (SL = SL) = true by simp] at HLS
            replace HLS := hide HLS
            have K7 := hide ((unhide K6).trans k7)
            clear l7 k7
            go_wp2_with fail
            refine (unhide HLS).mono ?_
            rintro e w8 ⟨rfl, m8, rfl⟩
            have K8 := hide ((unhide K7).drewN m8)
            generalize w7.drewN m8 = W8 at *
            go_wp2_with fail
            refine (unhide HSM _ (unhide K8)).mono ?_
            rintro e w' ⟨rfl, rfl⟩
            go_wp2_with fail
            refine (unhide HSR _ (unhide K8)).mono ?_
            rintro e w9 ⟨rfl, m9, rfl⟩
            have K9 := hide ((unhide K8).drewN m9)
            generalize w'.drewN m9 = W9 at *
            go_wp2_with fail
            refine (unhide HFA _ (unhide K9)).mono ?_
            rintro e w10 ⟨rfl, rfl⟩
            go_wp2_with fail
            refine (unhide HRA _ (unhide K9)).mono ?_
            rintro e w11 ⟨rfl, rfl⟩
            go_wp2
            go_ret
            exact ⟨rfl, (unhide HKW).trans (unhide K9)⟩
end Go.Proofs.Ythncoddcpjpblaa
