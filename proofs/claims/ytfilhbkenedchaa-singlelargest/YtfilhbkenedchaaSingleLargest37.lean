/- garlandref13.Table: of each set of vertices how many edges a largest matching within it has. garlandref13.Number: how many edges a largest matching has. garlandplay.Some; a graph in a variable. -/
import Derived.Test.YtfilhbkenedchaaSingleLargest36
import Derived.Test.YtfilhbkenedchaaSingleLargest10
import Derived.Test.YtfilhbkenedchaaSingleLargest9
import Derived.Test.YtfilhbkenedchaaSingleLargest32
import Derived.Laws.BitsLemmas
import Derived.BigRegion
import Derived.Test.YtfilhbkenedchaaSingleLargest6
namespace Go.Proofs.Ytfilhbkenedchaa
open Go.RowKit

/-- Who is joined with x, below the first k edges. -/
def adjK (es : List E) (k : Nat) (x y : Nat) : Bool := (es.take k).any fun e => (decide (e.1 = (x : Int)) && decide (e.2 = (y : Int))) || (decide (e.2 = (x : Int)) && decide (e.1 = (y : Int)))
theorem adjK_succ {es : List E} {k a b : Nat} (hk : k < es.length) (hA : eA es k = (a : Int)) (hB : eB es k = (b : Int)) (x y : Nat) : adjK es (k + 1) x y = (adjK es k x y || ((decide (a = x) && decide (b = y)) || (decide (b = x) && decide (a = y)))) := by
  unfold adjK
  rw [List.take_succ_eq_append_getElem hk, List.any_append, e_elem hk, hA, hB]
  simp only [List.any_cons, List.any_nil, Bool.or_false]
  congr 2 <;> congr 1 <;> (rw [Bool.eq_iff_iff]; simp only [decide_eq_true_eq]; omega)
theorem adjK_all {es : List E} {N : Nat} (hok : ∀ e ∈ es, okE (N : Int) e = true) {v w : Nat} (h : v < w) : adjK es es.length v w = decide (((v : Int), (w : Int)) ∈ es) := by
  unfold adjK
  rw [List.take_length, Bool.eq_iff_iff, List.any_eq_true, decide_eq_true_eq]
  constructor
  · rintro ⟨⟨x, y⟩, he, hc⟩
    simp only [Bool.or_eq_true, Bool.and_eq_true, decide_eq_true_eq] at hc
    have o := okE_iff.1 (hok _ he)
    simp only at o
    rcases hc with ⟨rfl, rfl⟩ | ⟨rfl, rfl⟩
    · exact he
    · omega
  · intro he
    exact ⟨_, he, by simp⟩
/-- What the row of neighbours holds. -/
def NearF (N : Nat) (es : List E) (k : Nat) (f : Nat → Int) : Prop := ∀ x, x < N → ∃ m : Nat, f x = (m : Int) ∧ m < 2 ^ N ∧ ∀ y, m.testBit y = adjK es k x y

theorem two_pow_le {N : Nat} (h : N ≤ 11) : 2 ^ N ≤ 2048 := by
  have := Nat.pow_le_pow_right (show 0 < 2 by decide) h
  exact this
theorem shl_one {w : Nat} (h : w ≤ 11) : IntKind.i64.wrap (1 * 2 ^ w) = ((2 ^ w : Nat) : Int) := by
  have := two_pow_le h
  rw [Int.one_mul, show ((2 : Int) ^ w) = ((2 ^ w : Nat) : Int) by simp]
  generalize 2 ^ w = p at *
  exact IntWalk.i64_in _ (by omega)
theorem pow64 {w p : Nat} (h : w ≤ 11) (hp : 2 ^ w = p) : wrap64 ((2 : Int) ^ w) = (p : Int) := by
  have := shl_one h
  rw [Int.one_mul, IntWalk.i64_left, hp] at this
  exact this
theorem NearF.next {N : Nat} {es : List E} {k x y mx my : Nat} {f : Nat → Int} (h : NearF N es k f) (hA : ∀ u z, adjK es (k + 1) u z = (adjK es k u z || ((decide (x = u) && decide (y = z)) || (decide (y = u) && decide (x = z))))) (hx : x < N) (hy : y < N) (hxy : ¬ x = y) (fx : f x = (mx : Int)) (fy : f y = (my : Int)) : NearF N es (k + 1) (fun u => if u = y then ((my ||| 2 ^ x : Nat) : Int) else (fun u => if u = x then ((mx ||| 2 ^ y : Nat) : Int) else f u) u) := fun u hu => by
  have px : 2 ^ x < 2 ^ N := Nat.pow_lt_pow_right (by decide) hx
  have py : 2 ^ y < 2 ^ N := Nat.pow_lt_pow_right (by decide) hy
  obtain ⟨m1, e1, l1, b1⟩ := h x hx
  obtain ⟨m2, e2, l2, b2⟩ := h y hy
  have : m1 = mx := by rw [fx] at e1; omega
  subst this
  have : m2 = my := by rw [fy] at e2; omega
  subst this
  by_cases c1 : u = y
  · subst c1
    refine ⟨m2 ||| 2 ^ x, by simp, Nat.or_lt_two_pow l2 px, fun z => ?_⟩
    rw [Nat.testBit_or, b2, Nat.testBit_two_pow, hA]
    simp [hxy]
  · by_cases c2 : u = x
    · subst c2
      refine ⟨m1 ||| 2 ^ y, by simp [c1], Nat.or_lt_two_pow l1 py, fun z => ?_⟩
      rw [Nat.testBit_or, b1, Nat.testBit_two_pow, hA]
      have : ¬ y = u := fun e => c1 e.symm
      simp [this]
    · obtain ⟨m, e, l, b⟩ := h u hu
      refine ⟨m, by simp [c1, c2, e], l, fun z => ?_⟩
      have q1 : ¬ x = u := fun e => c2 e.symm
      have q2 : ¬ y = u := fun e => c1 e.symm
      rw [b, hA]; simp [q1, q2]

set_option maxRecDepth 20000 in
set_option maxHeartbeats 8000000 in
theorem rTable_any {w : World} {N : Nat} {v : Value} {es : List E} (h : EdgesAt w v es) (hr : rightB (N : Int) es = true) (hN : N ≤ 11) : Calls Try.prog 36 #[gv N v] w fun e w' => ∃ r T, e = .returned r ∧ IntsAt w' r T ∧ T.length = 2 ^ N ∧ (∀ s, s < 2 ^ N → ∃ t : Nat, T.getD s 0 = (t : Int) ∧ IsNu es s.testBit t) ∧ Kept [] w w' := by
  obtain ⟨ao, cap, rfl, _, _, _⟩ := h.shape
  have KB := (Kept.refl [] w).alloc (.cells #[.int .i64 (N : Int), .slice ao es.length cap] 25)
  obtain ⟨b0, b1⟩ := box2 (Kept.refl [] (w.alloc (.cells #[.int .i64 (N : Int), .slice ao es.length cap] 25))) (by simp)
  have HV := hide (h.kept KB)
  have HKB := hide KB
  have HMK := make_ints N (by omega)
  have hsz : (w.alloc (.cells #[.int .i64 (N : Int), .slice ao es.length cap] 25)).heap.size = w.heap.size + 1 := by simp
  obtain ⟨_, _, hel, _, hok⟩ := right_rise hr
  have HOK := hide hok
  have hel' : (es.length : Int) ≤ 65536 := by omega
  have HP11 := hide (two_pow_le hN)
  clear h KB hr hok hel
  go_enter Try.func36, Try.ntmps36
  go_wp2_with fail
  generalize w.alloc (.cells #[.int .i64 (N : Int), .slice ao es.length cap] 25) = W1 at *
  go_wp2_with fail
  have HST := OfAt.start W1 N
  rw [hsz] at HST
  have HA0 := hide (show OfAt (W1.alloc (.cells (madeCells #[.int .i64 0] N) 3)) (w.heap.size + 1) N (fun _ => 0) ∧ NearF N es 0 (fun _ => 0) ∧ Kept [] W1 (W1.alloc (.cells (madeCells #[.int .i64 0] N) 3)) from ⟨HST, fun x _ => ⟨0, rfl, Nat.two_pow_pos N, fun y => by simp [adjK]⟩, (Kept.refl [] W1).alloc _⟩)
  clear HST
  go_loopw [4, 5, 6] (fun vv _ _ wr => ∃ (k : Nat) (f : Nat → Int), k ≤ es.length ∧ vv = .int .i64 k ∧ Hid (OfAt wr (w.heap.size + 1) N f ∧ NearF N es k f ∧ Kept [] W1 wr)) (fun vv _ _ _ => es.length - (intOf vv).toNat)
  case atStart => exact ⟨0, _, Nat.zero_le _, rfl, unhide HA0⟩
  case round =>
    clear HA0
    obtain ⟨k, f, hk, rfl, hh⟩ := hrel
    have c0 := kept_cell b0 (unhide hh).2.2
    have c1 := kept_cell b1 (unhide hh).2.2
    by_cases hlt : k < es.length
    · obtain ⟨ao2, cap2, hv2, _, _, hin2⟩ := ((unhide HV).kept (unhide hh).2.2).shape
      obtain ⟨g1, o1, he2, hin⟩ := hin2 (by omega)
      have hao : ao = some ⟨g1, o1, none⟩ := by simp at hv2; rw [hv2.1, he2]
      subst hao
      have a0 := hin.a k hlt
      have a1 := hin.b k hlt
      have ho := okE_iff.1 (unhide HOK _ (List.getElem_mem hlt))
      rw [e_elem hlt] at ho
      simp only at ho
      obtain ⟨x, hx⟩ : ∃ x : Nat, eA es k = (x : Int) := ⟨(eA es k).toNat, by omega⟩
      obtain ⟨y, hy⟩ : ∃ y : Nat, eB es k = (y : Int) := ⟨(eB es k).toNat, by omega⟩
      have HADJ := hide (fun u z => adjK_succ hlt hx hy u z)
      rw [hx] at a0 ho
      rw [hy] at a1 ho
      obtain ⟨mx, fx, lx, bx⟩ := (unhide hh).2.1 x (by omega)
      obtain ⟨my, fy, ly, by'⟩ := (unhide hh).2.1 y (by omega)
      have d0 := (unhide hh).1.cell x (by omega)
      have d1 := (unhide hh).1.cell y (by omega)
      rw [fx] at d0
      rw [fy] at d1
      have f0 := (unhide hh).1.free x
      have f1 := (unhide hh).1.free y
      have h11 := unhide HP11
      obtain ⟨px, hpx⟩ : ∃ z, 2 ^ x = z := ⟨_, rfl⟩
      obtain ⟨py, hpy⟩ : ∃ z, 2 ^ y = z := ⟨_, rfl⟩
      have hlx : x ≤ 11 := by omega
      have hly : y ≤ 11 := by omega
      have ex := pow64 hlx hpx
      have ey := pow64 hly hpy
      have p1 := two_pow_le hlx
      have p2 := two_pow_le hly
      rw [hpx] at p1
      rw [hpy] at p2
      have hb1 : mx < 4096 := by omega
      have hb2 : my < 4096 := by omega
      have q1 : py < 4096 := Nat.lt_of_le_of_lt p2 (by decide)
      have q2 : px < 4096 := Nat.lt_of_le_of_lt p1 (by decide)
      have HB := hide (And.intro (bits12 mx py hb1 q1).2 (bits12 my px hb2 q2).2)
      have HE := hide (And.intro ex ey)
      have HPW := hide (And.intro hpx hpy)
      have hxN : x < N := by omega
      have hyN : y < N := by omega
      have hxy : ¬ x = y := by omega
      clear ex ey hpx hpy p1 p2 lx ly h11
      have HNX := hide ((unhide hh).2.1.next (unhide HADJ) hxN hyN hxy fx fy)
      rw [(unhide HPW).1, (unhide HPW).2] at HNX
      have HSET := hide (((unhide hh).1.set (v := x) hxN ((mx ||| py : Nat) : Int)).set (v := y) hyN ((my ||| px : Nat) : Int))
      have cx : IntKind.u64.wrap (x : Int) = (x : Int) := by rw [IntKind.wrap_u64]; omega
      have cy : IntKind.u64.wrap (y : Int) = (y : Int) := by rw [IntKind.wrap_u64]; omega
      have hyx : ¬ y = x := by omega
      have t0 : (0 : Int) ≤ (k : Int) := by omega
      have t1 : (k : Int) < (es.length : Int) := by omega
      have x0 : (0 : Int) ≤ (x : Int) := by omega
      have x1 : (x : Int) < (N : Int) := by omega
      have y0 : (0 : Int) ≤ (y : Int) := by omega
      have y1 : (y : Int) < (N : Int) := by omega
      have HH := hide (unhide hh)
      clear hin hin2 hv2 he2 hh hx hy
      go_wp2_with fail
      go_quiet (fail)
      go_wp2_with fail
      go_roundw
      case rel =>
        rw [(unhide HE).1, (unhide HE).2, (unhide HB).1, (unhide HB).2]
        exact ⟨k + 1, _, by omega, by go_num, (unhide HSET).kept ((Kept.refl [] _).drewN nq), unhide HNX, (((unhide HH).2.2.drewN nq).setCell (Or.inr (Nat.le_of_eq hsz)) _).setCell (Or.inr (Nat.le_of_eq hsz)) _⟩
      case measure => simp [intOf]; omega
    · have ek : k = es.length := by omega
      have HN := hide (show NearF N es es.length f from by rw [← ek]; exact (unhide hh).2.1)
      obtain ⟨P, hP⟩ : ∃ P, 2 ^ N = P := ⟨_, rfl⟩
      have HPE := hide hP
      have hP2 : P ≤ 2048 := by rw [← hP]; exact unhide HP11
      have hP1 : 1 ≤ P := by rw [← hP]; exact Nat.two_pow_pos N
      have eP := pow64 hN hP
      have cN : IntKind.u64.wrap (N : Int) = (N : Int) := by rw [IntKind.wrap_u64]; omega
      have HM2 := make_ints P (by omega)
      have hnl : ¬ (k : Int) < (es.length : Int) := by omega
      have HH := hide (And.intro (unhide hh).1 (unhide hh).2.2)
      clear hP hh ek
      obtain ⟨V, hV⟩ : ∃ V, V = wr := ⟨wr, rfl⟩
      subst hV
      go_wp2_with fail
      have hgV := (unhide HH).1.lt
      have KA := (Kept.refl [] V).alloc (.cells (madeCells #[.int .i64 0] P) 3)
      have HT0 := hide (OfAt.start V P)
      have HNR := hide ((unhide HH).1.kept KA)
      have HKV := hide ((unhide HH).2.trans KA)
      have d0 := kept_cell c0 KA
      clear KA HH c0 c1 eP cN HM2
      generalize V.alloc (.cells (madeCells #[.int .i64 0] P) 3) = V2 at *
      obtain ⟨g2, hg2⟩ : ∃ g2, V.heap.size = g2 := ⟨_, rfl⟩
      rw [hg2] at HT0 hgV ⊢
      clear hg2
      have HD0 := hide (fun W (kk : Kept [g2] V2 W) => kept_cell' d0 kk (by simp; omega))
      have HNK := hide (fun W (kk : Kept [g2] V2 W) x (hx : x < N) => kept_cell' ((unhide HNR).cell x hx) kk (by simp; omega))
      clear d0
      go_loopw [8, 9, 10, 11] (fun ss _ _ _ wr => ∃ (s : Nat) (f2 : Nat → Int), 1 ≤ s ∧ s ≤ P ∧ ss = .int .i64 s ∧ Hid (OfAt wr g2 P f2 ∧ (∀ r, r < s → ∃ t : Nat, f2 r = (t : Int) ∧ IsNu es r.testBit t) ∧ Kept [g2] V2 wr)) (fun ss _ _ _ _ => P - (intOf ss).toNat)
      case atStart => exact ⟨1, _, Nat.le_refl _, hP1, rfl, unhide HT0, fun r hr => ⟨0, rfl, nu_none es fun u => by rw [show r = 0 by omega]; exact Nat.zero_testBit u⟩, Kept.refl _ _⟩
      case round =>
        clear HT0
        obtain ⟨s, f2, hs1, hsP, rfl, h2⟩ := hrel
        by_cases hslt : s < P
        · obtain ⟨W0, hW0⟩ : ∃ W0, W0 = wr := ⟨wr, rfl⟩
          subst hW0
          have s0 : (s : Int) < (P : Int) := by omega
          have e0 := unhide HD0 _ (unhide h2).2.2
          go_wp2_with fail
          go_loopw [9] (fun vv wt => ∃ u : Nat, u ≤ N ∧ vv = .int .i64 u ∧ wt = W0 ∧ Hid (∀ z, z < u → s.testBit z = false)) (fun vv _ => N - (intOf vv).toNat)
          case atStart => exact ⟨0, Nat.zero_le _, rfl, rfl, fun z hz => absurd hz (Nat.not_lt_zero _)⟩
          case round =>
            obtain ⟨u, huN, rfl, rfl, hlow⟩ := hrel
            have cu : IntKind.u64.wrap (u : Int) = (u : Int) := by rw [IntKind.wrap_u64]; omega
            have u0 : (0 : Int) ≤ (u : Int) := by omega
            have u64' : (u : Int) ≤ 64 := by omega
            cases hb : s.testBit u
            · have hlt : u < N := by
                refine Classical.byContradiction fun hc => ?_
                exact low_exists (show 0 < s by omega) (by rw [unhide HPE]; exact hslt) (fun z hz => unhide hlow z (by omega))
              have eb := bit_no (show s < 4096 by omega) hb
              have HL := hide (show ∀ z, z < u + 1 → s.testBit z = false from fun z hz => by
                by_cases e : z = u
                · subst e; exact hb
                · exact unhide hlow z (by omega))
              clear hb
              go_wp2
              go_roundw
              case rel => exact ⟨u + 1, by omega, by go_num, by first | rfl | trivial, unhide HL⟩
              case measure => simp [intOf]; omega
            · have eb := bit_yes (show s < 4096 by omega) hb
              have HB := hide hb
              clear hb
              have huN' : u < N := by
                refine Classical.byContradiction fun hc => ?_
                have := Nat.testBit_lt_two_pow (x := s) (i := u) (Nat.lt_of_lt_of_le (by rw [unhide HPE]; exact hslt) (Nat.pow_le_pow_right (show 0 < 2 by decide) (show N ≤ u by omega)))
                rw [unhide HB] at this; cases this
              obtain ⟨q, hq⟩ : ∃ q, s &&& (s - 1) = q := ⟨_, rfl⟩
              have hqs : q < s := by rw [← hq]; exact rest_lt (by omega)
              have HQB := hide (show ∀ z, q.testBit z = lessS s.testBit u z from fun z => by rw [← hq]; exact rest_bit (unhide HB) (unhide hlow) z)
              have eR : bits .and .i64 (s : Int) ((s : Int) - 1) = (q : Int) := by
                have := (bits12 s (s - 1) (by omega) (by omega)).1
                rw [show ((s - 1 : Nat) : Int) = (s : Int) - 1 by omega, hq] at this
                exact this
              obtain ⟨tq, ftq, ntq⟩ := (unhide h2).2.1 q hqs
              have dq := (unhide h2).1.cell q (by omega)
              have ds := (unhide h2).1.cell s hslt
              have fs := (unhide h2).1.free s
              rw [ftq] at dq
              have HNQ := hide (ntq.congr (unhide HQB))
              have HSET := hide ((unhide h2).1.set hslt (tq : Int))
              have q0 : (0 : Int) ≤ (q : Int) := by omega
              have q1 : (q : Int) < (P : Int) := by omega
              have s00 : (0 : Int) ≤ (s : Int) := by omega
              clear hq ftq ntq
              generalize f2 s = os at ds
              go_wp2_with fail
              have HTQ := hide (show tq ≤ 65536 from by
                obtain ⟨⟨M, hM, hl⟩, _⟩ := unhide HNQ
                have := hM.len
                omega)
              obtain ⟨W0, hW0⟩ : ∃ W0, W0 = wr := ⟨wr, rfl⟩
              subst hW0
              have HST := hide (show Kept [g2] V2 (W0.setCell ⟨g2, s, none⟩ (.int .i64 (tq : Int))) from (unhide h2).2.2.setCell (Or.inl (by simp)) _)
              have HP0 := hide (PNu.start (unhide HOK) (unhide hlow) (unhide HNQ))
              have HF2 := hide (unhide h2).2.1
              clear h2 dq ds fs eR hlow e0
              go_loopw [11] (fun ww wt => ∃ (x t : Nat) (f4 : Nat → Int), ww = .int .i64 x ∧ u + 1 ≤ x ∧ x ≤ N ∧ t ≤ 65536 ∧ Hid (OfAt wt g2 P f4 ∧ f4 s = (t : Int) ∧ (∀ r, r < s → f4 r = f2 r) ∧ PNu es s.testBit u x t ∧ Kept [g2] V2 wt)) (fun ww _ => N - (intOf ww).toNat)
              case atStart => exact ⟨u + 1, tq, _, by go_num, Nat.le_refl _, huN', unhide HTQ, unhide HSET, by simp, fun r hr => by rw [if_neg (by omega)], unhide HP0, unhide HST⟩
              case round =>
                clear HSET HP0 HST HTQ
                obtain ⟨x, t, f4, rfl, hux, hxN, ht, h4⟩ := hrel
                have c0 := unhide HD0 _ (unhide h4).2.2.2.2
                by_cases hxlt : x < N
                · have x0 : (0 : Int) ≤ (x : Int) := by omega
                  have x1 : (x : Int) < (N : Int) := by omega
                  have x2 : (x : Int) ≤ 64 := by omega
                  have cx : IntKind.u64.wrap (x : Int) = (x : Int) := by rw [IntKind.wrap_u64]; omega
                  have hq4 : q < 4096 := by omega
                  obtain ⟨m, fm, hm, hmb⟩ := unhide HN u huN'
                  have nd := unhide HNK _ (unhide h4).2.2.2.2 u huN'
                  rw [fm] at nd
                  have hm4 : m < 4096 := by rw [unhide HPE] at hm; omega
                  have HM := hide (show m.testBit x = decide (((u : Int), (x : Int)) ∈ es) from by rw [hmb]; exact adjK_all (unhide HOK) (by omega))
                  have u1 : (u : Int) < (N : Int) := by omega
                  have HSX := hide (show q.testBit x = s.testBit x from by rw [unhide HQB]; unfold lessS; rw [decide_eq_false (by omega)]; simp)
                  have HNO := hide (fun hno => (unhide h4).2.2.2.1.no (unhide HOK) hno)
                  clear fm hm hmb
                  cases hqb : q.testBit x
                  · have eb := bit_no hq4 hqb
                    have HP := hide (unhide HNO (fun h => by rw [← unhide HSX, hqb] at h; cases h.1))
                    clear hqb HNO
                    go_wp2
                    go_roundw
                    case rel => exact ⟨x + 1, t, f4, by go_num, by omega, by omega, ht, (unhide h4).1, (unhide h4).2.1, (unhide h4).2.2.1, unhide HP, (unhide h4).2.2.2.2⟩
                    case measure => simp [intOf]; omega
                  · have eb := bit_yes hq4 hqb
                    cases hmx : m.testBit x
                    · have em := bit_no hm4 hmx
                      have HP := hide (unhide HNO (fun h => by
                        have := unhide HM
                        rw [hmx, decide_eq_true h.2] at this
                        cases this))
                      clear hqb HNO hmx
                      go_wp2
                      go_roundw
                      case rel => exact ⟨x + 1, t, f4, by go_num, by omega, by omega, ht, (unhide h4).1, (unhide h4).2.1, (unhide h4).2.2.1, unhide HP, (unhide h4).2.2.2.2⟩
                      case measure => simp [intOf]; omega
                    · have em := bit_yes hm4 hmx
                      obtain ⟨px, hpx⟩ : ∃ z, 2 ^ x = z := ⟨_, rfl⟩
                      have ep := pow64 (show x ≤ 11 by omega) hpx
                      have ec := bit_clear hq4 hpx hqb
                      have hcq : q ^^^ px < q := by rw [← hpx]; exact xor_lt hqb
                      have HCB := hide (show ∀ z, (q ^^^ px).testBit z = lessS (lessS s.testBit u) x z from fun z => by
                        rw [← hpx, xor_bit hqb]
                        unfold lessS
                        rw [unhide HQB]
                        rfl)
                      obtain ⟨tc, ftc, ntc⟩ := unhide HF2 (q ^^^ px) (by omega)
                      have dc := (unhide h4).1.cell (q ^^^ px) (by omega)
                      have ds := (unhide h4).1.cell s hslt
                      have fs := (unhide h4).1.free s
                      rw [(unhide h4).2.2.1 _ (by omega), ftc] at dc
                      rw [(unhide h4).2.1] at ds
                      have htc : tc ≤ 65536 := by
                        obtain ⟨⟨M, hM, hl⟩, _⟩ := ntc
                        have := hM.len
                        omega
                      have HPY := hide ((unhide h4).2.2.2.1.yes (unhide HOK) (unhide HB) (by rw [← unhide HSX]; exact hqb) (by omega) (by have := unhide HM; rw [hmx] at this; simpa using this.symm) (ntc.congr (unhide HCB)))
                      have HSY := hide ((unhide h4).1.set hslt ((max t (1 + tc) : Nat) : Int))
                      have HPX := hide hpx
                      clear hqb HNO hmx hpx ntc ftc HCB
                      obtain ⟨c, hc⟩ : ∃ c, q ^^^ px = c := ⟨_, rfl⟩
                      rw [hc] at ec dc hcq
                      clear hc
                      have q00 : (0 : Int) ≤ (c : Int) := by omega
                      have q11 : (c : Int) < (P : Int) := by omega
                      go_wp2_with fail
                      go_region
                      obtain ⟨z, hz⟩ : ∃ z, max t (1 + tc) = z := ⟨_, rfl⟩
                      rw [hz] at HPY HSY
                      have hv1 : (if (t : Int) < 1 + (tc : Int) then 1 + (tc : Int) else (t : Int)) = (z : Int) := by split <;> omega
                      have hv2 : max (t : Int) (1 + (tc : Int)) = (z : Int) := by omega
                      have HZ := hide (show z ≤ 65536 from by
                        obtain ⟨⟨M, hM, _, hl⟩, _⟩ := unhide HPY
                        have := hM.len
                        omega)
                      first | rw [hv1] | rw [hv2]
                      clear hv1 hv2
                      have HK := hide (unhide h4).2.2.2.2
                      have HOLD := hide (unhide h4).2.2.1
                      clear h4 dc ds fs hz
                      go_wp2
                      go_roundw
                      case rel => exact ⟨x + 1, z, _, by go_num, by omega, by omega, unhide HZ, (unhide HSY).kept ((Kept.refl [] _).drew), by simp, fun r hr => by rw [if_neg (by omega)]; exact unhide HOLD r hr, unhide HPY, ((unhide HK).setCell (Or.inl (by simp)) _).drew⟩
                      case measure => simp [intOf]; omega
                · have ex : x = N := by omega
                  have HNU := hide (show IsNu es s.testBit t from by have := (unhide h4).2.2.2.1; rw [ex] at this; exact this.done (unhide HOK))
                  have H4 := hide (unhide h4)
                  have hxn : ¬ (x : Int) < (N : Int) := by omega
                  clear h4
                  go_wp2
                  go_roundw
                  case rel => exact ⟨s + 1, f4, by omega, by omega, by go_num, (unhide H4).1, fun r hr => by
                    by_cases e : r = s
                    · subst e; exact ⟨t, (unhide H4).2.1, unhide HNU⟩
                    · rw [(unhide H4).2.2.1 r (by omega)]
                      exact unhide HF2 r (by omega), (unhide H4).2.2.2.2⟩
                  case measure => simp [intOf]; omega
        · have es' : s = P := by omega
          have HF := hide (unhide h2)
          have hsn : ¬ (s : Int) < (P : Int) := by omega
          have HT := hide (show IntsAt wr (.slice (some ⟨g2, 0, none⟩) P P) ((List.range P).map f2) from ⟨some ⟨g2, 0, none⟩, P, by simp, by simp, by simp; unfold maxLen; omega, fun _ => ⟨g2, 0, rfl, (unhide h2).1.lt, fun i hi => by
            rw [List.length_map, List.length_range] at hi
            rw [Nat.zero_add, (unhide h2).1.cell i hi]
            simp [List.getD, hi]⟩⟩)
          have HKF := hide ((unhide HKB).trans ((unhide HKV).trans' (unhide h2).2.2 (by intro z hz; simp at hz; omega)))
          have HALL := hide (show ∀ z, z < P → ∃ t : Nat, ((List.range P).map f2).getD z 0 = (t : Int) ∧ IsNu es z.testBit t from fun z hz => by
            obtain ⟨t, h1, h3⟩ := (unhide h2).2.1 z (by omega)
            exact ⟨t, by rw [← h1]; simp [List.getD, hz], h3⟩)
          clear h2
          go_wp2
          go_ret
          exact ⟨_, rfl, _, unhide HT, by rw [List.length_map, List.length_range, unhide HPE], fun z hz => unhide HALL z (by rw [unhide HPE] at hz; exact hz), unhide HKF⟩
end Go.Proofs.Ytfilhbkenedchaa

namespace Go.Proofs.Ytfilhbkenedchaa
open Go.RowKit

theorem MatIn.all {N : Nat} {es : List E} (hok : ∀ e ∈ es, okE (N : Int) e = true) {S : Nat → Bool} {M : List E} (h : MatIn es S M) : MatIn es (2 ^ N - 1).testBit M :=
  ⟨fun e he => by
    have o := okE_iff.1 (hok e (h.mem e he).1)
    refine ⟨(h.mem e he).1, ?_, ?_⟩
    · rw [Nat.testBit_two_pow_sub_one]; simp; omega
    · rw [Nat.testBit_two_pow_sub_one]; simp; omega, h.apart⟩

set_option maxRecDepth 20000 in
set_option maxHeartbeats 4000000 in
theorem rNumber_any {w : World} {N : Nat} {v : Value} {es : List E} (h : EdgesAt w v es) (hr : rightB (N : Int) es = true) (hN : N ≤ 11) : Calls Try.prog 16 #[gv N v] w fun e w' => ∃ t : Nat, e = .returned (.int .i64 (t : Nat)) ∧ t ≤ 65536 ∧ (∃ M S, MatIn es S M ∧ M.length = t) ∧ (∀ S M, MatIn es S M → M.length ≤ t) ∧ Kept [] w w' := by
  obtain ⟨ao, cap, rfl, _, _, _⟩ := h.shape
  have KB := (Kept.refl [] w).alloc (.cells #[.int .i64 (N : Int), .slice ao es.length cap] 25)
  obtain ⟨b0, b1⟩ := box2 (Kept.refl [] (w.alloc (.cells #[.int .i64 (N : Int), .slice ao es.length cap] 25))) (by simp)
  have HT := hide (rTable_any (h.kept KB) hr hN)
  have HKB := hide KB
  obtain ⟨_, _, hel, _, hok⟩ := right_rise hr
  have HOK := hide hok
  have HEL := hide hel
  obtain ⟨P, hP⟩ : ∃ P, 2 ^ N = P := ⟨_, rfl⟩
  have hP1 : 1 ≤ P := by rw [← hP]; exact Nat.two_pow_pos N
  have hP2 : P ≤ 2048 := by rw [← hP]; exact two_pow_le hN
  have HP := hide hP
  clear h KB hr hok hel hP
  go_enter Try.func16, Try.ntmps16
  go_wp2_with fail
  refine (unhide HT).mono ?_
  rintro e w1 ⟨r, T, rfl, hT, hl, hall, k1⟩
  obtain ⟨uo, tc, rfl, _, hd⟩ := hT.shape
  rw [unhide HP] at hl hall
  obtain ⟨g, o, rfl, hc⟩ := hd (by omega)
  obtain ⟨q, hq⟩ : ∃ q, P - 1 = q := ⟨_, rfl⟩
  obtain ⟨t, ht, hnu⟩ := hall q (by omega)
  have c0 := hc q (by omega)
  rw [ht] at c0
  rw [hl]
  have hwr : IntKind.i64.wrap ((P : Int) - 1) = (q : Int) := by rw [show (P : Int) - 1 = (q : Int) by omega]; exact IntWalk.i64_in _ (by omega)
  have q0 : (0 : Int) ≤ (q : Int) := by omega
  have q1 : (q : Int) < (P : Int) := by omega
  have HK1 := hide ((unhide HKB).trans k1)
  have hq2 : q = 2 ^ N - 1 := by rw [unhide HP]; omega
  have HF := hide (show t ≤ 65536 ∧ (∃ M S, MatIn es S M ∧ M.length = t) ∧ (∀ S M, MatIn es S M → M.length ≤ t) from by
    obtain ⟨⟨M, hM, hlM⟩, hup⟩ := hnu
    refine ⟨by have := hM.len; have := unhide HEL; omega, ⟨M, _, hM, hlM⟩, fun S M hM => hup M ?_⟩
    rw [hq2]
    exact hM.all (unhide HOK))
  clear hT hl hall hd hc ht hnu k1 HT hq hq2 b0 b1
  go_wp2
  go_ret
  exact ⟨t, rfl, (unhide HF).1, (unhide HF).2.1, (unhide HF).2.2, unhide HK1⟩
end Go.Proofs.Ytfilhbkenedchaa

namespace Go.Proofs.Ytfilhbkenedchaa
open Go.RowKit

/-- A graph in a variable, its edges beside. -/
structure GVar (w : World) (p : Nat) (n : Int) (v : Value) (es : List E) : Prop where
  a : w.cell? ⟨p, 0, none⟩ = some (.int .i64 n)
  b : w.cell? ⟨p, 1, none⟩ = some v
  e : EdgesAt w v es
theorem GVar.kept {w w' : World} {p : Nat} {n : Int} {v : Value} {es : List E} (h : GVar w p n v es) (k : Kept [] w w') : GVar w' p n v es := ⟨kept_cell h.a k, kept_cell h.b k, h.e.kept k⟩
theorem GVar.new {w : World} {n : Int} {v : Value} {es : List E} (h : EdgesAt w v es) (t : TypeId) : GVar (w.alloc (.cells #[.int .i64 n, v] t)) w.heap.size n v es :=
  ⟨(box2 (Kept.refl [] _) (by simp)).1, (box2 (Kept.refl [] _) (by simp)).2, h.kept ((Kept.refl [] w).alloc _)⟩

theorem GVar.put {w : World} {p : Nat} {n n' : Int} {v v' : Value} {es fs : List E} (h : GVar w p n v es) (he : EdgesAt w v' fs) (hf : ∀ a x y, v' = .slice (some a) x y → a.block ≠ p) : GVar ((w.setCell ⟨p, 0, none⟩ (.int .i64 n')).setCell ⟨p, 1, none⟩ v') p n' v' fs := by
  have a := h.a; have b := h.b
  refine ⟨by go_simp, by go_simp, he.keptAt (bs := [p]) (((Kept.refl _ _).setCell (Or.inl (by simp)) _).setCell (Or.inl (by simp)) _) (fun a x y e => by have := hf a x y e; simpa using this)⟩

end Go.Proofs.Ytfilhbkenedchaa
