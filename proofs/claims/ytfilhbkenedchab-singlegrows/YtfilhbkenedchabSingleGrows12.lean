/- Unite: two sets are one. A forest in memory. What becomes of a forest in memory as it is written. -/
import Derived.Test.YtfilhbkenedchabSingleGrows11
import Derived.LaidEqlPtr
import Derived.Test.YtfilhbkenedchabSingleGrows9
namespace Go.Proofs.Ytfilhbkenedchab
open Go.RowKit

/-- Are two sets united? -/
def uniOK (n : Nat) (L : Nat → Nat) (a b l : Int) : Bool := hasN n a && (hasN n b && (hasN n l && (L a.toNat != L b.toNat)))
def jstL (n : Nat) (L : Nat → Nat) (a b l : Int) : Nat → Nat := if uniOK n L a b l = true then uniL L (L a.toNat) (L b.toNat) else L
def jstB (n : Nat) (L B : Nat → Nat) (a b l : Int) : Nat → Nat := if uniOK n L a b l = true then uniB L B (L a.toNat) (L b.toNat) l.toNat else B
theorem ptr_ne {w : World} {g n a b : Nat} {up le la : Nat → Nat} {sz : Nat → Int} (h : NodesAt w g n up sz le la) (hne : a ≠ b) : (binOp .eql 90 (.pointer (some ⟨g, a * 4, none⟩)) (.pointer (some ⟨g, b * 4, none⟩))).run Try.prog w = .ok (.bool false) w := by
  obtain ⟨cs, T, hb⟩ := h.blk
  obtain ⟨i, hi, _, hz1, _⟩ := info_parts infoNode
  exact run_eql_ptr_other w Try.underlying90 hi (by simp [hz1]) (fun e => by have h1 : a * 4 = b * 4 := congrArg Addr.off e; omega) hb hb
theorem ptr_eq (w : World) (a : Addr) : (binOp .eql 90 (.pointer (some a)) (.pointer (some a))).run Try.prog w = .ok (.bool true) w := by
  obtain ⟨i, hi, _, _, _⟩ := info_parts infoNode
  exact run_eql_ptr_same w a Try.underlying90 hi
/-- The world behind: u comes under o. -/
def uniW (w : World) (p g o u : Nat) (s : Int) (m l : Nat) (c : Int) : World := (((((w.setCell ⟨g, u * 4, none⟩ (.int .i64 (o : Int))).setCell ⟨g, o * 4 + 1, none⟩ (.int .i64 s)).setCell ⟨g, o * 4 + 2, none⟩ (.int .i64 (m : Int))).setCell ⟨g, o * 4 + 3, none⟩ (.int .i64 (l : Int))).setCell ⟨p, 1, none⟩ (.int .i64 c)).drew.drew.drew
/-- What Unite leaves. -/
def UniPost (w : World) (p g n : Nat) (L B : Nat → Nat) (a b l : Nat) (e : Ending) (w' : World) : Prop := e = .returned (.bool true) ∧ JAt w' p g n (uniL L (L a) (L b)) (uniB L B (L a) (L b) l) ∧ Kept [p, g] w w'
theorem uni_fin {w : World} {p g n : Nat} {L B up le la root d : Nat → Nat} {sz : Nat → Int} (c0 : w.cell? ⟨p, 0, none⟩ = some (.slice (some ⟨g, 0, none⟩) n n)) (c1 : w.cell? ⟨p, 1, none⟩ = some (.int .i64 (cntL n L : Int))) (cf : w.frozen? ⟨p, 1, none⟩ = false) (hpg : p ≠ g) (hn : n ≤ 70000) (hI : IsL n L) (hN : NodesAt w g n up sz le la) (hF : Forest n L B up le la root d) {a b l : Nat} (ha : a < n) (hb : b < n) (hne : root a ≠ root b) (s : Int) {m : Nat} (hm : m = min (L a) (L b)) :
    JAt (uniW w p g (root a) (root b) s m l ((cntL n L : Int) - 1)) p g n (uniL L (L a) (L b)) (uniB L B (L a) (L b) l) ∧ Kept [p, g] w (uniW w p g (root a) (root b) s m l ((cntL n L : Int) - 1)) := by
  obtain ⟨a1, a2, a3, a4, a5⟩ := hF.rt a ha
  obtain ⟨b1, b2, b3, b4, b5⟩ := hF.rt b hb
  have hLne : L a ≠ L b := fun e => hne ((hF.leq ha hb).1 e)
  have hcnt := cntL_uni (n := n) (hI.lt ha) (hI.lt hb) (hI.idem a ha) (hI.idem b hb) hLne
  obtain ⟨root', d', hF'⟩ := hF.uni ha hb hne l
  have N4 := (((hN.setUp b1 (root a)).setSz a1 s).setLe a1 m).setLa a1 l
  have hgp : g ∉ [p] := by simpa using fun e => hpg e.symm
  unfold uniW
  generalize hW : (((w.setCell ⟨g, root b * 4, none⟩ (.int .i64 (root a : Int))).setCell ⟨g, root a * 4 + 1, none⟩ (.int .i64 s)).setCell ⟨g, root a * 4 + 2, none⟩ (.int .i64 (m : Int))).setCell ⟨g, root a * 4 + 3, none⟩ (.int .i64 (l : Int)) = W at *
  have K4 : Kept [g] w W := by
    rw [← hW]
    exact ((((Kept.refl [g] w).setCell (Or.inl (by simp)) _).setCell (Or.inl (by simp)) _).setCell (Or.inl (by simp)) _).setCell (Or.inl (by simp)) _
  have d0 := kept_cell' c0 K4 (by simpa using hpg)
  have d1 := kept_cell' c1 K4 (by simpa using hpg)
  have df : W.frozen? ⟨p, 1, none⟩ = false := by rw [K4.frozen (lt_of_cell c0) (by simpa using hpg)]; exact cf
  have K5 : Kept [p] W (W.setCell ⟨p, 1, none⟩ (.int .i64 ((cntL n L : Int) - 1))).drew.drew.drew := ((((Kept.refl [p] W).setCell (Or.inl (by simp)) _).drew).drew).drew
  have e0 : (W.setCell ⟨p, 1, none⟩ (.int .i64 ((cntL n L : Int) - 1))).cell? ⟨p, 0, none⟩ = some (.slice (some ⟨g, 0, none⟩) n n) := by rw [cell_set_off (by omega)]; exact d0
  have e1 := cell_set_eq (u := .int .i64 ((cntL n L : Int) - 1)) d1
  have ef : (W.setCell ⟨p, 1, none⟩ (.int .i64 ((cntL n L : Int) - 1))).frozen? ⟨p, 1, none⟩ = false := by rw [frozen_set]; exact df
  refine ⟨⟨e0, ?_, ef, hpg, hI.uni (hI.idem a ha) (hI.idem b hb), hn, _, _, _, _, root', d', N4.kept K5 hgp, ?_⟩, (K4.mono (by simp)).trans (K5.mono (by simp))⟩
  · rw [show ((cntL n (uniL L (L a) (L b)) : Nat) : Int) = (cntL n L : Int) - 1 by omega]
    exact e1
  · rw [hm, ← a4, ← b4]
    rw [a4, b4] at *
    rw [a4, b4] at hF'
    exact hF'
set_option maxRecDepth 20000 in
set_option maxHeartbeats 4000000 in
theorem unite_ba_lt {w : World} {p g n : Nat} {L B up le la root d : Nat → Nat} {sz : Nat → Int} (c0 : w.cell? ⟨p, 0, none⟩ = some (.slice (some ⟨g, 0, none⟩) n n)) (c1 : w.cell? ⟨p, 1, none⟩ = some (.int .i64 (cntL n L : Int))) (cf : w.frozen? ⟨p, 1, none⟩ = false) (hpg : p ≠ g) (hn : n ≤ 70000) (hI : IsL n L) (hN : NodesAt w g n up sz le la) (hF : Forest n L B up le la root d) {a b l : Nat} (ha : a < n) (hb : b < n) (hl : l < n) (hne : root a ≠ root b) (hs : sz (root a) < sz (root b)) (hle : L a < L b) :
    Calls Try.prog 70 #[.pointer (some ⟨p, 0, none⟩), .int .i64 (a : Int), .int .i64 (b : Int), .int .i64 (l : Int)] w fun e w' => UniPost w p g n L B a b l e w' := by
  have JA : JV w (.pointer (some ⟨p, 0, none⟩)) n L B := JAt.v ⟨c0, c1, cf, hpg, hI, hn, _, _, _, _, _, _, hN, hF⟩
  have HT1 := hide (top_any c0 hN hF ha)
  have HT2 := hide (top_any c0 hN hF hb)
  have FIN := hide (fun s => (by have := uni_fin c0 c1 cf hpg hn hI hN hF (l := l) hb ha (fun e => hne e.symm) s (m := L a) (by omega); rw [uniL_comm, uniB_comm] at this; exact this))
  obtain ⟨a1, a2, _, a4, _⟩ := hF.rt a ha
  obtain ⟨b1, b2, _, b4, _⟩ := hF.rt b hb
  have HH : ∀ k, k < n → Calls Try.prog 48 #[.pointer (some ⟨p, 0, none⟩), .int .i64 (k : Int)] w fun e w' => e = .returned (.bool true) ∧ w' = w := fun k hk => by
    have := has_any JA (k : Int)
    rw [hasN_nat hk] at this
    exact this
  have H1 := hide (HH a ha)
  have H2 := hide (HH b hb)
  have H3 := hide (HH l hl)
  clear HH JA
  have ua := hN.up _ a1
  have ub := hN.up _ b1
  have sa := hN.sz _ a1
  have sb := hN.sz _ b1
  have la' := hN.le _ a1
  have lb := hN.le _ b1
  have ba := hN.la _ a1
  have bb := hN.la _ b1
  have fa0 := hN.free (root a * 4)
  have fa1 := hN.free (root a * 4 + 1)
  have fa2 := hN.free (root a * 4 + 2)
  have fa3 := hN.free (root a * 4 + 3)
  have fb0 := hN.free (root b * 4)
  have fb1 := hN.free (root b * 4 + 1)
  have fb2 := hN.free (root b * 4 + 2)
  have fb3 := hN.free (root b * 4 + 3)
  rw [a2] at ua
  rw [b2] at ub
  rw [a4] at la'
  rw [b4] at lb
  have hcnt := cntL_uni (n := n) (hI.lt ha) (hI.lt hb) (hI.idem a ha) (hI.idem b hb) (by omega)
  have hcn : (cntL n L : Int) ≤ 70000 := by have := cntL_le n L; omega
  have hc1 : (1 : Int) ≤ (cntL n L : Int) := by omega
  have hpe := ptr_ne hN hne
  clear a2 a4 b2 b4 hcnt hI hN hF
  generalize root a = ra at *
  generalize root b = rb at *
  generalize sz ra = s1 at *
  generalize sz rb = s2 at *
  generalize hx : L a = x at *
  generalize hy : L b = y at *
  have HX := hide hx
  have HY := hide hy
  clear hx hy
  generalize la ra = q1 at *
  generalize la rb = q2 at *
  generalize hc : cntL n L = c at *
  have HC := hide hc
  clear hc
  have hxy : (x : Int) < (y : Int) := by omega
  have n1 : ra * 4 ≠ rb * 4 := by omega
  have n2 : ra * 4 + 1 ≠ rb * 4 := by omega
  have n3 : ra * 4 + 2 ≠ rb * 4 := by omega
  have n4 : ra * 4 + 3 ≠ rb * 4 := by omega
  have m1 : rb * 4 ≠ ra * 4 := by omega
  have m2 : rb * 4 + 1 ≠ ra * 4 := by omega
  have m3 : rb * 4 + 2 ≠ ra * 4 := by omega
  have m4 : rb * 4 + 3 ≠ ra * 4 := by omega
  have gp : g ≠ p := fun e => hpg e.symm
  go_enter Try.func70, Try.ntmps70
  go_wp2_with fail
  refine (unhide H1).mono ?_
  rintro e w' ⟨rfl, rfl⟩
  go_wp2_with fail
  refine (unhide H2).mono ?_
  rintro e w' ⟨rfl, rfl⟩
  go_wp2_with fail
  refine (unhide H3).mono ?_
  rintro e w' ⟨rfl, rfl⟩
  go_wp2_with fail
  refine (unhide HT1).mono ?_
  rintro e w' ⟨rfl, rfl⟩
  go_wp2_with fail
  refine (unhide HT2).mono ?_
  rintro e w' ⟨rfl, rfl⟩
  go_wp2
  go_region
  go_wp2
  go_region
  go_wp2
  go_region
  go_wp2
  go_ret
  have hx := unhide HX
  have hy := unhide HY
  subst hx hy
  have F := unhide FIN (wrap64 (s2 + s1))
  exact ⟨rfl, F.1, F.2⟩
set_option maxRecDepth 20000 in
set_option maxHeartbeats 4000000 in
theorem unite_ba_gt {w : World} {p g n : Nat} {L B up le la root d : Nat → Nat} {sz : Nat → Int} (c0 : w.cell? ⟨p, 0, none⟩ = some (.slice (some ⟨g, 0, none⟩) n n)) (c1 : w.cell? ⟨p, 1, none⟩ = some (.int .i64 (cntL n L : Int))) (cf : w.frozen? ⟨p, 1, none⟩ = false) (hpg : p ≠ g) (hn : n ≤ 70000) (hI : IsL n L) (hN : NodesAt w g n up sz le la) (hF : Forest n L B up le la root d) {a b l : Nat} (ha : a < n) (hb : b < n) (hl : l < n) (hne : root a ≠ root b) (hs : sz (root a) < sz (root b)) (hle : L b < L a) :
    Calls Try.prog 70 #[.pointer (some ⟨p, 0, none⟩), .int .i64 (a : Int), .int .i64 (b : Int), .int .i64 (l : Int)] w fun e w' => UniPost w p g n L B a b l e w' := by
  have JA : JV w (.pointer (some ⟨p, 0, none⟩)) n L B := JAt.v ⟨c0, c1, cf, hpg, hI, hn, _, _, _, _, _, _, hN, hF⟩
  have HT1 := hide (top_any c0 hN hF ha)
  have HT2 := hide (top_any c0 hN hF hb)
  have FIN := hide (fun s => (by have := uni_fin c0 c1 cf hpg hn hI hN hF (l := l) hb ha (fun e => hne e.symm) s (m := L b) (by omega); rw [uniL_comm, uniB_comm] at this; exact this))
  obtain ⟨a1, a2, _, a4, _⟩ := hF.rt a ha
  obtain ⟨b1, b2, _, b4, _⟩ := hF.rt b hb
  have HH : ∀ k, k < n → Calls Try.prog 48 #[.pointer (some ⟨p, 0, none⟩), .int .i64 (k : Int)] w fun e w' => e = .returned (.bool true) ∧ w' = w := fun k hk => by
    have := has_any JA (k : Int)
    rw [hasN_nat hk] at this
    exact this
  have H1 := hide (HH a ha)
  have H2 := hide (HH b hb)
  have H3 := hide (HH l hl)
  clear HH JA
  have ua := hN.up _ a1
  have ub := hN.up _ b1
  have sa := hN.sz _ a1
  have sb := hN.sz _ b1
  have la' := hN.le _ a1
  have lb := hN.le _ b1
  have ba := hN.la _ a1
  have bb := hN.la _ b1
  have fa0 := hN.free (root a * 4)
  have fa1 := hN.free (root a * 4 + 1)
  have fa2 := hN.free (root a * 4 + 2)
  have fa3 := hN.free (root a * 4 + 3)
  have fb0 := hN.free (root b * 4)
  have fb1 := hN.free (root b * 4 + 1)
  have fb2 := hN.free (root b * 4 + 2)
  have fb3 := hN.free (root b * 4 + 3)
  rw [a2] at ua
  rw [b2] at ub
  rw [a4] at la'
  rw [b4] at lb
  have hcnt := cntL_uni (n := n) (hI.lt ha) (hI.lt hb) (hI.idem a ha) (hI.idem b hb) (by omega)
  have hcn : (cntL n L : Int) ≤ 70000 := by have := cntL_le n L; omega
  have hc1 : (1 : Int) ≤ (cntL n L : Int) := by omega
  have hpe := ptr_ne hN hne
  clear a2 a4 b2 b4 hcnt hI hN hF
  generalize root a = ra at *
  generalize root b = rb at *
  generalize sz ra = s1 at *
  generalize sz rb = s2 at *
  generalize hx : L a = x at *
  generalize hy : L b = y at *
  have HX := hide hx
  have HY := hide hy
  clear hx hy
  generalize la ra = q1 at *
  generalize la rb = q2 at *
  generalize hc : cntL n L = c at *
  have HC := hide hc
  clear hc
  have hxy : (y : Int) < (x : Int) := by omega
  have n1 : ra * 4 ≠ rb * 4 := by omega
  have n2 : ra * 4 + 1 ≠ rb * 4 := by omega
  have n3 : ra * 4 + 2 ≠ rb * 4 := by omega
  have n4 : ra * 4 + 3 ≠ rb * 4 := by omega
  have m1 : rb * 4 ≠ ra * 4 := by omega
  have m2 : rb * 4 + 1 ≠ ra * 4 := by omega
  have m3 : rb * 4 + 2 ≠ ra * 4 := by omega
  have m4 : rb * 4 + 3 ≠ ra * 4 := by omega
  have gp : g ≠ p := fun e => hpg e.symm
  go_enter Try.func70, Try.ntmps70
  go_wp2_with fail
  refine (unhide H1).mono ?_
  rintro e w' ⟨rfl, rfl⟩
  go_wp2_with fail
  refine (unhide H2).mono ?_
  rintro e w' ⟨rfl, rfl⟩
  go_wp2_with fail
  refine (unhide H3).mono ?_
  rintro e w' ⟨rfl, rfl⟩
  go_wp2_with fail
  refine (unhide HT1).mono ?_
  rintro e w' ⟨rfl, rfl⟩
  go_wp2_with fail
  refine (unhide HT2).mono ?_
  rintro e w' ⟨rfl, rfl⟩
  go_wp2
  go_region
  go_wp2
  go_region
  go_wp2
  go_region
  go_wp2
  go_ret
  have hx := unhide HX
  have hy := unhide HY
  subst hx hy
  have F := unhide FIN (wrap64 (s2 + s1))
  exact ⟨rfl, F.1, F.2⟩
set_option maxRecDepth 20000 in
set_option maxHeartbeats 4000000 in
theorem unite_ab_lt {w : World} {p g n : Nat} {L B up le la root d : Nat → Nat} {sz : Nat → Int} (c0 : w.cell? ⟨p, 0, none⟩ = some (.slice (some ⟨g, 0, none⟩) n n)) (c1 : w.cell? ⟨p, 1, none⟩ = some (.int .i64 (cntL n L : Int))) (cf : w.frozen? ⟨p, 1, none⟩ = false) (hpg : p ≠ g) (hn : n ≤ 70000) (hI : IsL n L) (hN : NodesAt w g n up sz le la) (hF : Forest n L B up le la root d) {a b l : Nat} (ha : a < n) (hb : b < n) (hl : l < n) (hne : root a ≠ root b) (hs : ¬ sz (root a) < sz (root b)) (hle : L a < L b) :
    Calls Try.prog 70 #[.pointer (some ⟨p, 0, none⟩), .int .i64 (a : Int), .int .i64 (b : Int), .int .i64 (l : Int)] w fun e w' => UniPost w p g n L B a b l e w' := by
  have JA : JV w (.pointer (some ⟨p, 0, none⟩)) n L B := JAt.v ⟨c0, c1, cf, hpg, hI, hn, _, _, _, _, _, _, hN, hF⟩
  have HT1 := hide (top_any c0 hN hF ha)
  have HT2 := hide (top_any c0 hN hF hb)
  have FIN := hide (fun s => uni_fin c0 c1 cf hpg hn hI hN hF (l := l) ha hb hne s (m := L a) (by omega))
  obtain ⟨a1, a2, _, a4, _⟩ := hF.rt a ha
  obtain ⟨b1, b2, _, b4, _⟩ := hF.rt b hb
  have HH : ∀ k, k < n → Calls Try.prog 48 #[.pointer (some ⟨p, 0, none⟩), .int .i64 (k : Int)] w fun e w' => e = .returned (.bool true) ∧ w' = w := fun k hk => by
    have := has_any JA (k : Int)
    rw [hasN_nat hk] at this
    exact this
  have H1 := hide (HH a ha)
  have H2 := hide (HH b hb)
  have H3 := hide (HH l hl)
  clear HH JA
  have ua := hN.up _ a1
  have ub := hN.up _ b1
  have sa := hN.sz _ a1
  have sb := hN.sz _ b1
  have la' := hN.le _ a1
  have lb := hN.le _ b1
  have ba := hN.la _ a1
  have bb := hN.la _ b1
  have fa0 := hN.free (root a * 4)
  have fa1 := hN.free (root a * 4 + 1)
  have fa2 := hN.free (root a * 4 + 2)
  have fa3 := hN.free (root a * 4 + 3)
  have fb0 := hN.free (root b * 4)
  have fb1 := hN.free (root b * 4 + 1)
  have fb2 := hN.free (root b * 4 + 2)
  have fb3 := hN.free (root b * 4 + 3)
  rw [a2] at ua
  rw [b2] at ub
  rw [a4] at la'
  rw [b4] at lb
  have hcnt := cntL_uni (n := n) (hI.lt ha) (hI.lt hb) (hI.idem a ha) (hI.idem b hb) (by omega)
  have hcn : (cntL n L : Int) ≤ 70000 := by have := cntL_le n L; omega
  have hc1 : (1 : Int) ≤ (cntL n L : Int) := by omega
  have hpe := ptr_ne hN hne
  clear a2 a4 b2 b4 hcnt hI hN hF
  generalize root a = ra at *
  generalize root b = rb at *
  generalize sz ra = s1 at *
  generalize sz rb = s2 at *
  generalize hx : L a = x at *
  generalize hy : L b = y at *
  have HX := hide hx
  have HY := hide hy
  clear hx hy
  generalize la ra = q1 at *
  generalize la rb = q2 at *
  generalize hc : cntL n L = c at *
  have HC := hide hc
  clear hc
  have hxy : (x : Int) < (y : Int) := by omega
  have n1 : ra * 4 ≠ rb * 4 := by omega
  have n2 : ra * 4 + 1 ≠ rb * 4 := by omega
  have n3 : ra * 4 + 2 ≠ rb * 4 := by omega
  have n4 : ra * 4 + 3 ≠ rb * 4 := by omega
  have m1 : rb * 4 ≠ ra * 4 := by omega
  have m2 : rb * 4 + 1 ≠ ra * 4 := by omega
  have m3 : rb * 4 + 2 ≠ ra * 4 := by omega
  have m4 : rb * 4 + 3 ≠ ra * 4 := by omega
  have gp : g ≠ p := fun e => hpg e.symm
  go_enter Try.func70, Try.ntmps70
  go_wp2_with fail
  refine (unhide H1).mono ?_
  rintro e w' ⟨rfl, rfl⟩
  go_wp2_with fail
  refine (unhide H2).mono ?_
  rintro e w' ⟨rfl, rfl⟩
  go_wp2_with fail
  refine (unhide H3).mono ?_
  rintro e w' ⟨rfl, rfl⟩
  go_wp2_with fail
  refine (unhide HT1).mono ?_
  rintro e w' ⟨rfl, rfl⟩
  go_wp2_with fail
  refine (unhide HT2).mono ?_
  rintro e w' ⟨rfl, rfl⟩
  go_wp2
  go_region
  go_wp2
  go_region
  go_wp2
  go_region
  go_wp2
  go_ret
  have hx := unhide HX
  have hy := unhide HY
  subst hx hy
  have F := unhide FIN (wrap64 (s1 + s2))
  exact ⟨rfl, F.1, F.2⟩
set_option maxRecDepth 20000 in
set_option maxHeartbeats 4000000 in
theorem unite_ab_gt {w : World} {p g n : Nat} {L B up le la root d : Nat → Nat} {sz : Nat → Int} (c0 : w.cell? ⟨p, 0, none⟩ = some (.slice (some ⟨g, 0, none⟩) n n)) (c1 : w.cell? ⟨p, 1, none⟩ = some (.int .i64 (cntL n L : Int))) (cf : w.frozen? ⟨p, 1, none⟩ = false) (hpg : p ≠ g) (hn : n ≤ 70000) (hI : IsL n L) (hN : NodesAt w g n up sz le la) (hF : Forest n L B up le la root d) {a b l : Nat} (ha : a < n) (hb : b < n) (hl : l < n) (hne : root a ≠ root b) (hs : ¬ sz (root a) < sz (root b)) (hle : L b < L a) :
    Calls Try.prog 70 #[.pointer (some ⟨p, 0, none⟩), .int .i64 (a : Int), .int .i64 (b : Int), .int .i64 (l : Int)] w fun e w' => UniPost w p g n L B a b l e w' := by
  have JA : JV w (.pointer (some ⟨p, 0, none⟩)) n L B := JAt.v ⟨c0, c1, cf, hpg, hI, hn, _, _, _, _, _, _, hN, hF⟩
  have HT1 := hide (top_any c0 hN hF ha)
  have HT2 := hide (top_any c0 hN hF hb)
  have FIN := hide (fun s => uni_fin c0 c1 cf hpg hn hI hN hF (l := l) ha hb hne s (m := L b) (by omega))
  obtain ⟨a1, a2, _, a4, _⟩ := hF.rt a ha
  obtain ⟨b1, b2, _, b4, _⟩ := hF.rt b hb
  have HH : ∀ k, k < n → Calls Try.prog 48 #[.pointer (some ⟨p, 0, none⟩), .int .i64 (k : Int)] w fun e w' => e = .returned (.bool true) ∧ w' = w := fun k hk => by
    have := has_any JA (k : Int)
    rw [hasN_nat hk] at this
    exact this
  have H1 := hide (HH a ha)
  have H2 := hide (HH b hb)
  have H3 := hide (HH l hl)
  clear HH JA
  have ua := hN.up _ a1
  have ub := hN.up _ b1
  have sa := hN.sz _ a1
  have sb := hN.sz _ b1
  have la' := hN.le _ a1
  have lb := hN.le _ b1
  have ba := hN.la _ a1
  have bb := hN.la _ b1
  have fa0 := hN.free (root a * 4)
  have fa1 := hN.free (root a * 4 + 1)
  have fa2 := hN.free (root a * 4 + 2)
  have fa3 := hN.free (root a * 4 + 3)
  have fb0 := hN.free (root b * 4)
  have fb1 := hN.free (root b * 4 + 1)
  have fb2 := hN.free (root b * 4 + 2)
  have fb3 := hN.free (root b * 4 + 3)
  rw [a2] at ua
  rw [b2] at ub
  rw [a4] at la'
  rw [b4] at lb
  have hcnt := cntL_uni (n := n) (hI.lt ha) (hI.lt hb) (hI.idem a ha) (hI.idem b hb) (by omega)
  have hcn : (cntL n L : Int) ≤ 70000 := by have := cntL_le n L; omega
  have hc1 : (1 : Int) ≤ (cntL n L : Int) := by omega
  have hpe := ptr_ne hN hne
  clear a2 a4 b2 b4 hcnt hI hN hF
  generalize root a = ra at *
  generalize root b = rb at *
  generalize sz ra = s1 at *
  generalize sz rb = s2 at *
  generalize hx : L a = x at *
  generalize hy : L b = y at *
  have HX := hide hx
  have HY := hide hy
  clear hx hy
  generalize la ra = q1 at *
  generalize la rb = q2 at *
  generalize hc : cntL n L = c at *
  have HC := hide hc
  clear hc
  have hxy : (y : Int) < (x : Int) := by omega
  have n1 : ra * 4 ≠ rb * 4 := by omega
  have n2 : ra * 4 + 1 ≠ rb * 4 := by omega
  have n3 : ra * 4 + 2 ≠ rb * 4 := by omega
  have n4 : ra * 4 + 3 ≠ rb * 4 := by omega
  have m1 : rb * 4 ≠ ra * 4 := by omega
  have m2 : rb * 4 + 1 ≠ ra * 4 := by omega
  have m3 : rb * 4 + 2 ≠ ra * 4 := by omega
  have m4 : rb * 4 + 3 ≠ ra * 4 := by omega
  have gp : g ≠ p := fun e => hpg e.symm
  go_enter Try.func70, Try.ntmps70
  go_wp2_with fail
  refine (unhide H1).mono ?_
  rintro e w' ⟨rfl, rfl⟩
  go_wp2_with fail
  refine (unhide H2).mono ?_
  rintro e w' ⟨rfl, rfl⟩
  go_wp2_with fail
  refine (unhide H3).mono ?_
  rintro e w' ⟨rfl, rfl⟩
  go_wp2_with fail
  refine (unhide HT1).mono ?_
  rintro e w' ⟨rfl, rfl⟩
  go_wp2_with fail
  refine (unhide HT2).mono ?_
  rintro e w' ⟨rfl, rfl⟩
  go_wp2
  go_region
  go_wp2
  go_region
  go_wp2
  go_region
  go_wp2
  go_ret
  have hx := unhide HX
  have hy := unhide HY
  subst hx hy
  have F := unhide FIN (wrap64 (s1 + s2))
  exact ⟨rfl, F.1, F.2⟩
theorem unite_yes {w : World} {p g n : Nat} {L B : Nat → Nat} (h : JAt w p g n L B) {a b l : Nat} (ha : a < n) (hb : b < n) (hl : l < n) (hne : L a ≠ L b) :
    Calls Try.prog 70 #[.pointer (some ⟨p, 0, none⟩), .int .i64 (a : Int), .int .i64 (b : Int), .int .i64 (l : Int)] w fun e w' => UniPost w p g n L B a b l e w' := by
  obtain ⟨up, sz, le, la, root, d, hN, hF⟩ := h.nodes
  have hr : root a ≠ root b := fun e => hne ((hF.leq ha hb).2 e)
  by_cases hs : sz (root a) < sz (root b)
  · by_cases hc : L a < L b
    · exact unite_ba_lt h.c0 h.c1 h.free h.ne h.most h.isL hN hF ha hb hl hr hs hc
    · exact unite_ba_gt h.c0 h.c1 h.free h.ne h.most h.isL hN hF ha hb hl hr hs (by omega)
  · by_cases hc : L a < L b
    · exact unite_ab_lt h.c0 h.c1 h.free h.ne h.most h.isL hN hF ha hb hl hr hs hc
    · exact unite_ab_gt h.c0 h.c1 h.free h.ne h.most h.isL hN hF ha hb hl hr hs (by omega)
set_option maxRecDepth 20000 in
set_option maxHeartbeats 4000000 in
/-- They are in one set already. -/
theorem unite_one {w : World} {p g n : Nat} {L B : Nat → Nat} (h : JAt w p g n L B) {a b l : Nat} (ha : a < n) (hb : b < n) (hl : l < n) (he : L a = L b) :
    Calls Try.prog 70 #[.pointer (some ⟨p, 0, none⟩), .int .i64 (a : Int), .int .i64 (b : Int), .int .i64 (l : Int)] w fun e w' => e = .returned (.bool false) ∧ w' = w := by
  obtain ⟨up, sz, le, la, root, d, hN, hF⟩ := h.nodes
  have hr : root a = root b := (hF.leq ha hb).1 he
  have HT1 := top_any h.c0 hN hF ha
  have HT2 := hide (top_any h.c0 hN hF hb)
  rw [hr] at HT1
  replace HT1 := hide HT1
  have HH : ∀ k, k < n → Calls Try.prog 48 #[.pointer (some ⟨p, 0, none⟩), .int .i64 (k : Int)] w fun e w' => e = .returned (.bool true) ∧ w' = w := fun k hk => by
    have := has_any h.v (k : Int)
    rw [hasN_nat hk] at this
    exact this
  have H1 := hide (HH a ha)
  have H2 := hide (HH b hb)
  have H3 := hide (HH l hl)
  clear HH hN hF hr h he
  generalize root b = rb at *
  have hpe := ptr_eq w ⟨g, rb * 4, none⟩
  go_enter Try.func70, Try.ntmps70
  go_wp2_with fail
  refine (unhide H1).mono ?_
  rintro e w' ⟨rfl, rfl⟩
  go_wp2_with fail
  refine (unhide H2).mono ?_
  rintro e w' ⟨rfl, rfl⟩
  go_wp2_with fail
  refine (unhide H3).mono ?_
  rintro e w' ⟨rfl, rfl⟩
  go_wp2_with fail
  refine (unhide HT1).mono ?_
  rintro e w' ⟨rfl, rfl⟩
  go_wp2_with fail
  refine (unhide HT2).mono ?_
  rintro e w' ⟨rfl, rfl⟩
  go_wp2
  go_ret
  exact ⟨rfl, rfl⟩
set_option maxRecDepth 20000 in
set_option maxHeartbeats 4000000 in
/-- One of the three is none. -/
theorem unite_no {w : World} {v : Value} {n : Nat} {L B : Nat → Nat} (h : JV w v n L B) {a b l : Int} (hn : (hasN n a && (hasN n b && hasN n l)) = false) :
    Calls Try.prog 70 #[v, .int .i64 a, .int .i64 b, .int .i64 l] w fun e w' => e = .returned (.bool false) ∧ w' = w := by
  have H1 := has_any h a
  have H2 := has_any h b
  have H3 := has_any h l
  clear h
  cases ha : hasN n a
  · rw [ha] at H1
    replace H1 := hide H1
    clear ha hn H2 H3
    go_enter Try.func70, Try.ntmps70
    go_wp2_with fail
    refine (unhide H1).mono ?_
    rintro e w' ⟨rfl, rfl⟩
    go_wp2
    go_ret
    exact ⟨rfl, rfl⟩
  · rw [ha] at H1
    cases hb : hasN n b
    · rw [hb] at H2
      replace H1 := hide H1
      replace H2 := hide H2
      clear ha hb hn H3
      go_enter Try.func70, Try.ntmps70
      go_wp2_with fail
      refine (unhide H1).mono ?_
      rintro e w' ⟨rfl, rfl⟩
      go_wp2_with fail
      refine (unhide H2).mono ?_
      rintro e w' ⟨rfl, rfl⟩
      go_wp2
      go_ret
      exact ⟨rfl, rfl⟩
    · rw [ha, hb] at hn
      have hl : hasN n l = false := by simpa using hn
      rw [hb] at H2
      rw [hl] at H3
      replace H1 := hide H1
      replace H2 := hide H2
      replace H3 := hide H3
      clear ha hb hn hl
      go_enter Try.func70, Try.ntmps70
      go_wp2_with fail
      refine (unhide H1).mono ?_
      rintro e w' ⟨rfl, rfl⟩
      go_wp2_with fail
      refine (unhide H2).mono ?_
      rintro e w' ⟨rfl, rfl⟩
      go_wp2_with fail
      refine (unhide H3).mono ?_
      rintro e w' ⟨rfl, rfl⟩
      go_wp2
      go_ret
      exact ⟨rfl, rfl⟩
theorem uniOK_yes {n : Nat} {L : Nat → Nat} {a b l : Int} (h : uniOK n L a b l = true) : ∃ x y z : Nat, x < n ∧ y < n ∧ z < n ∧ a = x ∧ b = y ∧ l = z ∧ L x ≠ L y := by
  unfold uniOK at h
  simp at h
  obtain ⟨h1, h2, h3, h4⟩ := h
  obtain ⟨x, hx, rfl⟩ := hasN_at h1
  obtain ⟨y, hy, rfl⟩ := hasN_at h2
  obtain ⟨z, hz, rfl⟩ := hasN_at h3
  exact ⟨x, y, z, hx, hy, hz, rfl, rfl, rfl, by simpa using h4⟩
theorem unite_any {w : World} {p g n : Nat} {L B : Nat → Nat} (h : JAt w p g n L B) (a b l : Int) :
    Calls Try.prog 70 #[.pointer (some ⟨p, 0, none⟩), .int .i64 a, .int .i64 b, .int .i64 l] w fun e w' => e = .returned (.bool (uniOK n L a b l)) ∧ JAt w' p g n (jstL n L a b l) (jstB n L B a b l) ∧ Kept [p, g] w w' := by
  cases hu : uniOK n L a b l
  · have e1 : jstL n L a b l = L := by unfold jstL; rw [hu]; simp
    have e2 : jstB n L B a b l = B := by unfold jstB; rw [hu]; simp
    rw [e1, e2]
    cases hh : (hasN n a && (hasN n b && hasN n l))
    · exact (unite_no h.v hh).mono fun e w' ⟨h1, h2⟩ => ⟨h1, by rw [h2]; exact h, by rw [h2]; exact Kept.refl _ _⟩
    · simp at hh
      obtain ⟨h1, h2, h3⟩ := hh
      have he : L a.toNat = L b.toNat := by unfold uniOK at hu; rw [h1, h2, h3] at hu; simpa using hu
      obtain ⟨x, hx, rfl⟩ := hasN_at h1
      obtain ⟨y, hy, rfl⟩ := hasN_at h2
      obtain ⟨z, hz, rfl⟩ := hasN_at h3
      exact (unite_one h hx hy hz (by simpa using he)).mono fun e w' ⟨h1, h2⟩ => ⟨h1, by rw [h2]; exact h, by rw [h2]; exact Kept.refl _ _⟩
  · have e1 : jstL n L a b l = uniL L (L a.toNat) (L b.toNat) := by unfold jstL; rw [hu]; simp
    have e2 : jstB n L B a b l = uniB L B (L a.toNat) (L b.toNat) l.toNat := by unfold jstB; rw [hu]; simp
    rw [e1, e2]
    obtain ⟨x, y, z, hx, hy, hz, rfl, rfl, rfl, hne⟩ := uniOK_yes hu
    exact unite_yes h hx hy hz hne
end Go.Proofs.Ytfilhbkenedchab

namespace Go.Proofs.Ytfilhbkenedchab
open Go.RowKit

/-- What is known of each vertex, in block g: five cells each. -/
structure SNodes (w : World) (g N : Nat) (F : FS) : Prop where
  lt : g < w.heap.size
  lab : ∀ k, k < N → w.cell? ⟨g, k * 5, none⟩ = some (.int .i64 (F.lab k))
  dep : ∀ k, k < N → w.cell? ⟨g, k * 5 + 1, none⟩ = some (.int .i64 (F.dep k))
  up : ∀ k, k < N → w.cell? ⟨g, k * 5 + 2, none⟩ = some (.int .i64 (F.up k))
  bf : ∀ k, k < N → w.cell? ⟨g, k * 5 + 3, none⟩ = some (.int .i64 (F.bf k))
  bt : ∀ k, k < N → w.cell? ⟨g, k * 5 + 4, none⟩ = some (.int .i64 (F.bt k))
  free : ∀ o, w.frozen? ⟨g, o, none⟩ = false
theorem SNodes.kept {w w' : World} {g N : Nat} {F : FS} {bs : List Nat} (h : SNodes w g N F) (k : Kept bs w w') (hg : g ∉ bs) : SNodes w' g N F :=
  ⟨Nat.lt_of_lt_of_le h.lt k.size, fun i hi => kept_cell' (h.lab i hi) k hg, fun i hi => kept_cell' (h.dep i hi) k hg, fun i hi => kept_cell' (h.up i hi) k hg, fun i hi => kept_cell' (h.bf i hi) k hg, fun i hi => kept_cell' (h.bt i hi) k hg, fun o => by rw [k.frozen h.lt hg]; exact h.free o⟩
theorem SNodes.like {w : World} {g N : Nat} {F G : FS} (h : SNodes w g N F) (h1 : ∀ k, k < N → G.lab k = F.lab k) (h2 : ∀ k, k < N → G.dep k = F.dep k) (h3 : ∀ k, k < N → G.up k = F.up k) (h4 : ∀ k, k < N → G.bf k = F.bf k) (h5 : ∀ k, k < N → G.bt k = F.bt k) : SNodes w g N G :=
  ⟨h.lt, fun i hi => by rw [h1 i hi]; exact h.lab i hi, fun i hi => by rw [h2 i hi]; exact h.dep i hi, fun i hi => by rw [h3 i hi]; exact h.up i hi, fun i hi => by rw [h4 i hi]; exact h.bf i hi, fun i hi => by rw [h5 i hi]; exact h.bt i hi, h.free⟩
theorem lt_set {w : World} {g o : Nat} {v : Value} {n : Nat} (h : n < w.heap.size) : n < (w.setCell ⟨g, o, none⟩ v).heap.size := by simpa [World.setCell] using h
theorem SNodes.setLab {w : World} {g N k : Nat} {F : FS} (h : SNodes w g N F) (hk : k < N) (x : Int) : SNodes (w.setCell ⟨g, k * 5, none⟩ (.int .i64 x)) g N { F with lab := upd F.lab k x } := by
  refine ⟨lt_set h.lt, fun i hi => ?_, fun i hi => by rw [cell_set_off (by omega)]; exact h.dep i hi, fun i hi => by rw [cell_set_off (by omega)]; exact h.up i hi, fun i hi => by rw [cell_set_off (by omega)]; exact h.bf i hi, fun i hi => by rw [cell_set_off (by omega)]; exact h.bt i hi, fun o => by rw [frozen_set]; exact h.free o⟩
  show _ = some (Value.int .i64 (upd F.lab k x i))
  by_cases e : i = k
  · subst e; rw [upd_at]; exact cell_set_eq (h.lab i hi)
  · rw [upd_off _ _ e, cell_set_off (by omega)]; exact h.lab i hi
theorem SNodes.setDep {w : World} {g N k : Nat} {F : FS} (h : SNodes w g N F) (hk : k < N) (x : Int) : SNodes (w.setCell ⟨g, k * 5 + 1, none⟩ (.int .i64 x)) g N { F with dep := upd F.dep k x } := by
  refine ⟨lt_set h.lt, fun i hi => by rw [cell_set_off (by omega)]; exact h.lab i hi, fun i hi => ?_, fun i hi => by rw [cell_set_off (by omega)]; exact h.up i hi, fun i hi => by rw [cell_set_off (by omega)]; exact h.bf i hi, fun i hi => by rw [cell_set_off (by omega)]; exact h.bt i hi, fun o => by rw [frozen_set]; exact h.free o⟩
  show _ = some (Value.int .i64 (upd F.dep k x i))
  by_cases e : i = k
  · subst e; rw [upd_at]; exact cell_set_eq (h.dep i hi)
  · rw [upd_off _ _ e, cell_set_off (by omega)]; exact h.dep i hi
theorem SNodes.setUp {w : World} {g N k : Nat} {F : FS} (h : SNodes w g N F) (hk : k < N) (x : Int) : SNodes (w.setCell ⟨g, k * 5 + 2, none⟩ (.int .i64 x)) g N { F with up := upd F.up k x } := by
  refine ⟨lt_set h.lt, fun i hi => by rw [cell_set_off (by omega)]; exact h.lab i hi, fun i hi => by rw [cell_set_off (by omega)]; exact h.dep i hi, fun i hi => ?_, fun i hi => by rw [cell_set_off (by omega)]; exact h.bf i hi, fun i hi => by rw [cell_set_off (by omega)]; exact h.bt i hi, fun o => by rw [frozen_set]; exact h.free o⟩
  show _ = some (Value.int .i64 (upd F.up k x i))
  by_cases e : i = k
  · subst e; rw [upd_at]; exact cell_set_eq (h.up i hi)
  · rw [upd_off _ _ e, cell_set_off (by omega)]; exact h.up i hi
theorem SNodes.setBf {w : World} {g N k : Nat} {F : FS} (h : SNodes w g N F) (hk : k < N) (x : Int) : SNodes (w.setCell ⟨g, k * 5 + 3, none⟩ (.int .i64 x)) g N { F with bf := upd F.bf k x } := by
  refine ⟨lt_set h.lt, fun i hi => by rw [cell_set_off (by omega)]; exact h.lab i hi, fun i hi => by rw [cell_set_off (by omega)]; exact h.dep i hi, fun i hi => by rw [cell_set_off (by omega)]; exact h.up i hi, fun i hi => ?_, fun i hi => by rw [cell_set_off (by omega)]; exact h.bt i hi, fun o => by rw [frozen_set]; exact h.free o⟩
  show _ = some (Value.int .i64 (upd F.bf k x i))
  by_cases e : i = k
  · subst e; rw [upd_at]; exact cell_set_eq (h.bf i hi)
  · rw [upd_off _ _ e, cell_set_off (by omega)]; exact h.bf i hi
theorem SNodes.setBt {w : World} {g N k : Nat} {F : FS} (h : SNodes w g N F) (hk : k < N) (x : Int) : SNodes (w.setCell ⟨g, k * 5 + 4, none⟩ (.int .i64 x)) g N { F with bt := upd F.bt k x } := by
  refine ⟨lt_set h.lt, fun i hi => by rw [cell_set_off (by omega)]; exact h.lab i hi, fun i hi => by rw [cell_set_off (by omega)]; exact h.dep i hi, fun i hi => by rw [cell_set_off (by omega)]; exact h.up i hi, fun i hi => by rw [cell_set_off (by omega)]; exact h.bf i hi, fun i hi => ?_, fun o => by rw [frozen_set]; exact h.free o⟩
  show _ = some (Value.int .i64 (upd F.bt k x i))
  by_cases e : i = k
  · subst e; rw [upd_at]; exact cell_set_eq (h.bt i hi)
  · rw [upd_off _ _ e, cell_set_off (by omega)]; exact h.bt i hi

/-- A join by its labels: two are in one set just where they have one label. -/
def JB (w : World) (jp jg N : Nat) (B : Nat → Nat) : Prop := ∃ L, JAt w jp jg N L B ∧ ∀ x y, x < N → y < N → (L x = L y ↔ B x = B y)
theorem JB.kept {w w' : World} {jp jg N : Nat} {B : Nat → Nat} {bs : List Nat} (h : JB w jp jg N B) (k : Kept bs w w') (hp : jp ∉ bs) (hg : jg ∉ bs) : JB w' jp jg N B := by
  obtain ⟨L, h1, h2⟩ := h
  exact ⟨L, h1.kept k hp hg, h2⟩
theorem JB.label {w : World} {jp jg N : Nat} {B : Nat → Nat} (h : JB w jp jg N B) {x : Nat} (hx : x < N) : Calls Try.prog 33 #[.pointer (some ⟨jp, 0, none⟩), .int .i64 (x : Int)] w fun e w' => e = .returned (.int .i64 (B x : Int)) ∧ w' = w := by
  obtain ⟨L, h1, _⟩ := h
  have := label_any h1.v (x : Int)
  rw [tellI_nat hx] at this
  exact this
theorem Forest.likeB {n : Nat} {L B B' up le la root d : Nat → Nat} (h : Forest n L B up le la root d) (hB : ∀ k, k < n → B k = B' k) : Forest n L B' up le la root d :=
  ⟨h.lt, fun k hk => by rw [← hB k hk]; exact h.rt k hk, h.step, h.stop, h.same⟩
theorem JAt.likeB {w : World} {p g n : Nat} {L B B' : Nat → Nat} (h : JAt w p g n L B) (hB : ∀ k, k < n → B k = B' k) : JAt w p g n L B' := by
  obtain ⟨up, sz, le, la, root, d, h1, h2⟩ := h.nodes
  exact ⟨h.c0, h.c1, h.free, h.ne, h.isL, h.most, up, sz, le, la, root, d, h1, h2.likeB hB⟩
theorem JB.like {w : World} {p g n : Nat} {B B' : Nat → Nat} (h : JB w p g n B) (hB : ∀ k, k < n → B k = B' k) : JB w p g n B' := by
  obtain ⟨L, h1, h2⟩ := h
  exact ⟨L, h1.likeB hB, fun x y hx hy => by rw [← hB x hx, ← hB y hy]; exact h2 x y hx hy⟩
theorem JB.unite {w : World} {jp jg N : Nat} {B : Nat → Nat} (h : JB w jp jg N B) {a b l : Nat} (ha : a < N) (hb : b < N) (hl : l < N) (hne : B a ≠ B b) (hbl : B l = l) (hab : B l = B a ∨ B l = B b) :
    Calls Try.prog 70 #[.pointer (some ⟨jp, 0, none⟩), .int .i64 (a : Int), .int .i64 (b : Int), .int .i64 (l : Int)] w fun e w' => e = .returned (.bool true) ∧ JB w' jp jg N (fun k => if B k = B a ∨ B k = B b then l else B k) ∧ Kept [jp, jg] w w' := by
  obtain ⟨L, h1, h2⟩ := h
  refine (unite_yes h1 ha hb hl (fun e => hne ((h2 a b ha hb).1 e))).mono ?_
  rintro e w' ⟨e1, e2, e3⟩
  have hI := h1.isL
  refine ⟨e1, ⟨_, e2.likeB (B' := fun k => if B k = B a ∨ B k = B b then l else B k) (fun k hk => ?_), fun x y hx hy => ?_⟩, e3⟩
  · unfold uniB
    simp only [h2 k a hk ha, h2 k b hk hb]
  · have hu : ∀ z, z < N → uniL L (L a) (L b) z = if B z = B a ∨ B z = B b then min (L a) (L b) else L z := fun z hz => by
      unfold uniL
      simp only [h2 z a hz ha, h2 z b hz hb]
    rw [hu x hx, hu y hy]
    dsimp only
    have hout : ∀ z, z < N → ¬ (B z = B a ∨ B z = B b) → B z ≠ l ∧ L z ≠ min (L a) (L b) := fun z hz hn => by
      refine ⟨fun e => hn ?_, fun e => hn ?_⟩
      · rw [← hbl] at e
        rcases hab with k | k
        · exact Or.inl (e.trans k)
        · exact Or.inr (e.trans k)
      · rcases Nat.le_total (L a) (L b) with k | k
        · rw [Nat.min_eq_left k] at e; exact Or.inl ((h2 z a hz ha).1 e)
        · rw [Nat.min_eq_right k] at e; exact Or.inr ((h2 z b hz hb).1 e)
    by_cases c : B x = B a ∨ B x = B b
    · rw [if_pos c, if_pos c]
      by_cases d : B y = B a ∨ B y = B b
      · rw [if_pos d, if_pos d]; exact ⟨fun _ => rfl, fun _ => rfl⟩
      · rw [if_neg d, if_neg d]
        obtain ⟨k1, k2⟩ := hout y hy d
        exact ⟨fun e => absurd e.symm k2, fun e => absurd e.symm k1⟩
    · rw [if_neg c, if_neg c]
      obtain ⟨k1, k2⟩ := hout x hx c
      by_cases d : B y = B a ∨ B y = B b
      · rw [if_pos d, if_pos d]
        exact ⟨fun e => absurd e k2, fun e => absurd e k1⟩
      · rw [if_neg d, if_neg d]; exact h2 x y hx hy

/-- A forest in blocks p (its own), g (what it knows), jp and jg (its join), and a row from base on; what it leans on lies as in w0. -/
structure FAt (w0 w : World) (p g jp jg base N : Nat) (nv mv ve : Value) (F : FS) : Prop where
  k : Kept [] w0 w
  hp : w0.heap.size ≤ p ∧ p < base
  hg : w0.heap.size ≤ g ∧ g < base
  hj : w0.heap.size ≤ jp ∧ jp < base
  hh : w0.heap.size ≤ jg ∧ jg < base
  hb : base ≤ w.heap.size
  ne : p ≠ g ∧ p ≠ jp ∧ p ≠ jg ∧ g ≠ jp ∧ g ≠ jg
  c0 : w.cell? ⟨p, 0, none⟩ = some nv
  c1 : w.cell? ⟨p, 1, none⟩ = some mv
  c2 : w.cell? ⟨p, 2, none⟩ = some (.slice (some ⟨g, 0, none⟩) N N)
  c3 : w.cell? ⟨p, 3, none⟩ = some ve
  c4 : w.cell? ⟨p, 4, none⟩ = some (.pointer (some ⟨jp, 0, none⟩))
  c5 : w.cell? ⟨p, 5, none⟩ = some (.func (.func 33) #[.pointer (some ⟨jp, 0, none⟩)] #[])
  c6 : w.cell? ⟨p, 6, none⟩ = some (.int .i64 F.k)
  fr : ∀ o, w.frozen? ⟨p, o, none⟩ = false
  nodes : SNodes w g N F
  own : w.ownsRow base 3 1 ve F.q.length (F.q.map (Value.int .i64))
  jb : JB w jp jg N F.B
end Go.Proofs.Ytfilhbkenedchab

namespace Go.Proofs.Ytfilhbkenedchab
open Go.RowKit

/-- A row of one's own stays where only blocks ahead of it are written. -/
theorem own_below {w w' : World} {base e size n : Nat} {v : Value} {xs : List Value} {bs : List Nat} (h : w.ownsRow base e size v n xs) (k : Kept bs w w') (hb : ∀ b ∈ bs, b < base) : w'.ownsRow base e size v n xs := by
  obtain ⟨h1, h2⟩ := h
  refine ⟨h1, ?_⟩
  rcases h2 with h2 | ⟨g, cap, cur, hv, hg, hh, h5, h6, h7, h8⟩
  · exact Or.inl h2
  · refine Or.inr ⟨g, cap, cur, hv, hg, ?_, h5, h6, h7, h8⟩
    have hl : g < w.heap.size := by
      by_cases hl : g < w.heap.size
      · exact hl
      · rw [Array.getElem?_eq_none (by omega)] at hh; simp at hh
    rw [k.block g hl (fun hm => by have := hb g hm; omega)]; exact hh
theorem kept_set (w : World) (g o : Nat) (v : Value) : Kept [g] w (w.setCell ⟨g, o, none⟩ v) := (Kept.refl [g] w).setCell (p := ⟨g, o, none⟩) (Or.inl (by simp)) v

section
variable {w0 w w' : World} {p g jp jg base N : Nat} {nv mv ve : Value} {F : FS}
theorem FAt.keptE (h : FAt w0 w p g jp jg base N nv mv ve F) (k : Kept [] w w') : FAt w0 w' p g jp jg base N nv mv ve F :=
  ⟨h.k.trans k, h.hp, h.hg, h.hj, h.hh, Nat.le_trans h.hb k.size, h.ne, kept_cell h.c0 k, kept_cell h.c1 k, kept_cell h.c2 k, kept_cell h.c3 k, kept_cell h.c4 k, kept_cell h.c5 k, kept_cell h.c6 k, fun o => by rw [k.frozen (lt_of_cell h.c0) (by simp)]; exact h.fr o, h.nodes.kept k (by simp), own_below h.own k (by simp), h.jb.kept k (by simp) (by simp)⟩
theorem FAt.setK (h : FAt w0 w p g jp jg base N nv mv ve F) (x : Int) : FAt w0 (w.setCell ⟨p, 6, none⟩ (.int .i64 x)) p g jp jg base N nv mv ve { F with k := x } := by
  have k := kept_set w p 6 (.int .i64 x)
  obtain ⟨n1, n2, n3, n4, n5⟩ := h.ne
  exact ⟨h.k.trans' k (fun i hi => by simp at hi; subst hi; exact Or.inr h.hp.1), h.hp, h.hg, h.hj, h.hh, Nat.le_trans h.hb k.size, h.ne, by rw [cell_set_off (by omega)]; exact h.c0, by rw [cell_set_off (by omega)]; exact h.c1, by rw [cell_set_off (by omega)]; exact h.c2, by rw [cell_set_off (by omega)]; exact h.c3, by rw [cell_set_off (by omega)]; exact h.c4, by rw [cell_set_off (by omega)]; exact h.c5, cell_set_eq h.c6, fun o => by rw [frozen_set]; exact h.fr o, (h.nodes.kept k (by simpa using fun e => n1 e.symm)).like (fun _ _ => rfl) (fun _ _ => rfl) (fun _ _ => rfl) (fun _ _ => rfl) (fun _ _ => rfl), own_below h.own k (by simpa using h.hp.2), h.jb.kept k (by simpa using fun e => n2 e.symm) (by simpa using fun e => n3 e.symm)⟩
/-- What is known of the vertices is written. -/
theorem FAt.write (h : FAt w0 w p g jp jg base N nv mv ve F) (k : Kept [g] w w') {G : FS} (hn : SNodes w' g N G) (hq : G.q = F.q) (hB : G.B = F.B) (hk : G.k = F.k) : FAt w0 w' p g jp jg base N nv mv ve G := by
  obtain ⟨n1, n2, n3, n4, n5⟩ := h.ne
  have hpn : p ∉ [g] := by simpa using n1
  exact ⟨h.k.trans' k (fun i hi => by simp at hi; subst hi; exact Or.inr h.hg.1), h.hp, h.hg, h.hj, h.hh, Nat.le_trans h.hb k.size, h.ne, kept_cell' h.c0 k hpn, kept_cell' h.c1 k hpn, kept_cell' h.c2 k hpn, kept_cell' h.c3 k hpn, kept_cell' h.c4 k hpn, kept_cell' h.c5 k hpn, by rw [hk]; exact kept_cell' h.c6 k hpn, fun o => by rw [k.frozen (lt_of_cell h.c0) hpn]; exact h.fr o, hn, by rw [hq]; exact own_below h.own k (by simpa using h.hg.2), by rw [hB]; exact h.jb.kept k (by simpa using fun e => n4 e.symm) (by simpa using fun e => n5 e.symm)⟩
/-- Sets of its join become one. -/
theorem FAt.join (h : FAt w0 w p g jp jg base N nv mv ve F) (k : Kept [jp, jg] w w') {B' : Nat → Nat} (hj : JB w' jp jg N B') : FAt w0 w' p g jp jg base N nv mv ve { F with B := B' } := by
  obtain ⟨n1, n2, n3, n4, n5⟩ := h.ne
  have hpn : p ∉ [jp, jg] := by simp; omega
  exact ⟨h.k.trans' k (fun i hi => by
    simp at hi
    rcases hi with rfl | rfl
    · exact Or.inr h.hj.1
    · exact Or.inr h.hh.1), h.hp, h.hg, h.hj, h.hh, Nat.le_trans h.hb k.size, h.ne, kept_cell' h.c0 k hpn, kept_cell' h.c1 k hpn, kept_cell' h.c2 k hpn, kept_cell' h.c3 k hpn, kept_cell' h.c4 k hpn, kept_cell' h.c5 k hpn, kept_cell' h.c6 k hpn, fun o => by rw [k.frozen (lt_of_cell h.c0) hpn]; exact h.fr o, (h.nodes.kept k (by simp; omega)).like (fun _ _ => rfl) (fun _ _ => rfl) (fun _ _ => rfl) (fun _ _ => rfl) (fun _ _ => rfl), own_below h.own k (by simpa using ⟨h.hj.2, h.hh.2⟩), hj⟩
/-- One more Even one: its row is laid anew, or where it was. -/
theorem FAt.push {wr : World} {v' : Value} {x : Int} {o : Obj} (h : FAt w0 wr p g jp jg base N nv mv ve F) (hg : (wr.alloc o).grownBy w ve.ownBlock) (hown : w.ownsRow base 3 1 v' (F.q.length + 1) (F.q.map (Value.int .i64) ++ [.int .i64 x])) :
    FAt w0 (w.setCell ⟨p, 3, none⟩ v') p g jp jg base N nv mv v' { F with q := F.q ++ [x] } := by
  obtain ⟨n1, n2, n3, n4, n5⟩ := h.ne
  have k1 : Kept ve.ownBlock.toList wr w := (((Kept.refl [] wr).alloc o).mono (by simp)).trans (grown_kept hg)
  have hob : ∀ b, b < base → b ∉ ve.ownBlock.toList := fun b hb hm => by
    have := own_block h.own b (by simpa using hm)
    omega
  have hpn := hob p h.hp.2
  have k2 := kept_set w p 3 v'
  have hown2 : w.ownsRow base 3 1 v' (F.q ++ [x]).length ((F.q ++ [x]).map (Value.int .i64)) := by
    rw [List.length_append, List.map_append]; exact hown
  have hpl : p < w.heap.size := Nat.lt_of_lt_of_le (lt_of_cell h.c0) k1.size
  have h3 := kept_cell' h.c3 k1 hpn
  refine ⟨(h.k.trans' k1 (fun i hi => Or.inr (Nat.le_trans (Nat.le_of_lt (Nat.lt_of_le_of_lt h.hp.1 h.hp.2)) (own_block h.own i (by simpa using hi))))).trans' k2 (fun i hi => by simp at hi; subst hi; exact Or.inr h.hp.1), h.hp, h.hg, h.hj, h.hh, Nat.le_trans (Nat.le_trans h.hb k1.size) k2.size, h.ne, ?_, ?_, ?_, cell_set_eq h3, ?_, ?_, ?_, fun o => by rw [frozen_set, k1.frozen (lt_of_cell h.c0) hpn]; exact h.fr o, ?_, own_below hown2 k2 (by simpa using h.hp.2), ?_⟩
  · rw [cell_set_off (by omega)]; exact kept_cell' h.c0 k1 hpn
  · rw [cell_set_off (by omega)]; exact kept_cell' h.c1 k1 hpn
  · rw [cell_set_off (by omega)]; exact kept_cell' h.c2 k1 hpn
  · rw [cell_set_off (by omega)]; exact kept_cell' h.c4 k1 hpn
  · rw [cell_set_off (by omega)]; exact kept_cell' h.c5 k1 hpn
  · rw [cell_set_off (by omega)]; exact kept_cell' h.c6 k1 hpn
  · exact ((h.nodes.kept k1 (hob g h.hg.2)).kept k2 (by simpa using fun e => n1 e.symm)).like (fun _ _ => rfl) (fun _ _ => rfl) (fun _ _ => rfl) (fun _ _ => rfl) (fun _ _ => rfl)
  · exact (h.jb.kept k1 (hob jp h.hj.2) (hob jg h.hh.2)).kept k2 (by simpa using fun e => n2 e.symm) (by simpa using fun e => n3 e.symm)
theorem FAt.pushAt {wr : World} {o : Obj} (h : FAt w0 wr p g jp jg base N nv mv ve F) (hg : (wr.alloc o).grownBy w ve.ownBlock) : w.cell? ⟨p, 3, none⟩ = some ve ∧ w.frozen? ⟨p, 3, none⟩ = false := by
  have k1 : Kept ve.ownBlock.toList wr w := (((Kept.refl [] wr).alloc o).mono (by simp)).trans (grown_kept hg)
  have hpn : p ∉ ve.ownBlock.toList := fun hm => by
    have := own_block h.own p (by simpa using hm)
    have := h.hp.2
    omega
  exact ⟨kept_cell' h.c3 k1 hpn, by rw [k1.frozen (lt_of_cell h.c0) hpn]; exact h.fr 3⟩
end
/-- What a mate is, in memory. -/
theorem mate_cell {w0 w : World} {mv : Value} {m : List Int} (hm : IntsAt w0 mv m) (k : Kept [] w0 w) (h0 : 0 < m.length) : ∃ mg mo cap, mv = .slice (some ⟨mg, mo, none⟩) m.length cap ∧ ∀ i, i < m.length → w.cell? ⟨mg, mo + i, none⟩ = some (.int .i64 (m.getD i 0)) := by
  obtain ⟨ao, cap, rfl, _, hin⟩ := (hm.kept k).shape
  obtain ⟨mg, mo, rfl, hc⟩ := hin h0
  exact ⟨mg, mo, cap, rfl, hc⟩
end Go.Proofs.Ytfilhbkenedchab
