/- Unite: two sets are one. awake; the sets of none. The sets of the first k numbers, one number more: its set is found at the place of its least number. -/
import Derived.Test.YthncoddcpjpblaaJoinOrder9
import Derived.LaidEqlPtr
import Derived.Test.YthncoddcpjpblaaJoinOrder5
namespace Go.Proofs.Ythncoddcpjpblaa
open Go.RowKit

/-- Are two sets united? -/
def uniOK (n : Nat) (L : Nat → Nat) (a b l : Int) : Bool := hasN n a && (hasN n b && (hasN n l && (L a.toNat != L b.toNat)))
def stepL (n : Nat) (L : Nat → Nat) (a b l : Int) : Nat → Nat := if uniOK n L a b l = true then uniL L (L a.toNat) (L b.toNat) else L
def stepB (n : Nat) (L B : Nat → Nat) (a b l : Int) : Nat → Nat := if uniOK n L a b l = true then uniB L B (L a.toNat) (L b.toNat) l.toNat else B
theorem ptr_ne {w : World} {g n a b : Nat} {up le la : Nat → Nat} {sz : Nat → Int} (h : NodesAt w g n up sz le la) (hne : a ≠ b) : (binOp .eql 50 (.pointer (some ⟨g, a * 4, none⟩)) (.pointer (some ⟨g, b * 4, none⟩))).run Try.prog w = .ok (.bool false) w := by
  obtain ⟨cs, T, hb⟩ := h.blk
  obtain ⟨i, hi, _, hz1, _⟩ := info_parts infoNode
  exact run_eql_ptr_other w Try.underlying50 hi (by simp [hz1]) (fun e => by have h1 : a * 4 = b * 4 := congrArg Addr.off e; omega) hb hb
theorem ptr_eq (w : World) (a : Addr) : (binOp .eql 50 (.pointer (some a)) (.pointer (some a))).run Try.prog w = .ok (.bool true) w := by
  obtain ⟨i, hi, _, _, _⟩ := info_parts infoNode
  exact run_eql_ptr_same w a Try.underlying50 hi
/-- The world behind: u comes under o. -/
def uniW (w : World) (p g o u : Nat) (s : Int) (m l : Nat) (c : Int) : World := (((((w.setCell ⟨g, u * 4, none⟩ (.int .i64 (o : Int))).setCell ⟨g, o * 4 + 1, none⟩ (.int .i64 s)).setCell ⟨g, o * 4 + 2, none⟩ (.int .i64 (m : Int))).setCell ⟨g, o * 4 + 3, none⟩ (.int .i64 (l : Int))).setCell ⟨p, 1, none⟩ (.int .i64 c)).drew.drew.drew
/-- What Unite leaves. -/
def UniPost (w : World) (p g n : Nat) (L B : Nat → Nat) (a b l : Nat) (e : Ending) (w' : World) : Prop := e = .returned (.bool true) ∧ JAt w' p g n (uniL L (L a) (L b)) (uniB L B (L a) (L b) l) ∧ Kept [p, g] w w'
theorem uni_fin {w : World} {p g n : Nat} {L B up le la root d : Nat → Nat} {sz : Nat → Int} (c0 : w.cell? ⟨p, 0, none⟩ = some (.slice (some ⟨g, 0, none⟩) n n)) (c1 : w.cell? ⟨p, 1, none⟩ = some (.int .i64 (cntL n L : Int))) (cf : w.frozen? ⟨p, 1, none⟩ = false) (hpg : p ≠ g) (hn : n ≤ 70000) (hI : IsL n L) (hN : NodesAt w g n up sz le la) (hF : Forest n L B up le la root d) {a b l : Nat} (ha : a < n) (hb : b < n) (hne : root a ≠ root b) (s : Int) {m : Nat} (hm : m = min (L a) (L b)) :
    JAt (uniW w p g (root a) (root b) s m l ((cntL n L : Int) - 1)) p g n (uniL L (L a) (L b)) (uniB L B (L a) (L b) l) ∧ Kept [p, g] w (uniW w p g (root a) (root b) s m l ((cntL n L : Int) - 1)) := by
  obtain ⟨a1, a2, a3, a4, a5⟩ := hF.rt a ha
  obtain ⟨b1, b2, b3, b4, b5⟩ := hF.rt b hb
  have hLne : L a ≠ L b := fun e => hne ((hF.leq ha hb).1 e)
  have hcnt := cntL_uni (n := n) (hI.lt ha) (hI.lt hb) (hI.idem a ha) (hI.idem b hb) hLne
  obtain ⟨root', d', hF'⟩ := hF.uni ha hb hne l
  have N4 := (((hN.setUp b1 (root a)).setSz a1 s).setLe a1 m).setLa a1 l
  have hgp : g ∉ [p] := by simpa using fun e => hpg e.symm
  unfold uniW
  generalize hW : (((w.setCell ⟨g, root b * 4, none⟩ (.int .i64 (root a : Int))).setCell ⟨g, root a * 4 + 1, none⟩ (.int .i64 s)).setCell ⟨g, root a * 4 + 2, none⟩ (.int .i64 (m : Int))).setCell ⟨g, root a * 4 + 3, none⟩ (.int .i64 (l : Int)) = W at *
  have K4 : Kept [g] w W := by
    rw [← hW]
    exact ((((Kept.refl [g] w).setCell (Or.inl (by simp)) _).setCell (Or.inl (by simp)) _).setCell (Or.inl (by simp)) _).setCell (Or.inl (by simp)) _
  have d0 := kept_cell' c0 K4 (by simpa using hpg)
  have d1 := kept_cell' c1 K4 (by simpa using hpg)
  have df : W.frozen? ⟨p, 1, none⟩ = false := by rw [K4.frozen (lt_of_cell c0) (by simpa using hpg)]; exact cf
  have K5 : Kept [p] W (W.setCell ⟨p, 1, none⟩ (.int .i64 ((cntL n L : Int) - 1))).drew.drew.drew := ((((Kept.refl [p] W).setCell (Or.inl (by simp)) _).drew).drew).drew
  have e0 : (W.setCell ⟨p, 1, none⟩ (.int .i64 ((cntL n L : Int) - 1))).cell? ⟨p, 0, none⟩ = some (.slice (some ⟨g, 0, none⟩) n n) := by rw [cell_set_off (by omega)]; exact d0
  have e1 := cell_set_eq (u := .int .i64 ((cntL n L : Int) - 1)) d1
  have ef : (W.setCell ⟨p, 1, none⟩ (.int .i64 ((cntL n L : Int) - 1))).frozen? ⟨p, 1, none⟩ = false := by rw [frozen_set]; exact df
  refine ⟨⟨e0, ?_, ef, hpg, hI.uni (hI.idem a ha) (hI.idem b hb), hn, _, _, _, _, root', d', N4.kept K5 hgp, ?_⟩, (K4.mono (by simp)).trans (K5.mono (by simp))⟩
  · rw [show ((cntL n (uniL L (L a) (L b)) : Nat) : Int) = (cntL n L : Int) - 1 by omega]
    exact e1
  · rw [hm, ← a4, ← b4]
    rw [a4, b4] at *
    rw [a4, b4] at hF'
    exact hF'
set_option maxRecDepth 20000 in
set_option maxHeartbeats 4000000 in
theorem unite_ba_lt {w : World} {p g n : Nat} {L B up le la root d : Nat → Nat} {sz : Nat → Int} (c0 : w.cell? ⟨p, 0, none⟩ = some (.slice (some ⟨g, 0, none⟩) n n)) (c1 : w.cell? ⟨p, 1, none⟩ = some (.int .i64 (cntL n L : Int))) (cf : w.frozen? ⟨p, 1, none⟩ = false) (hpg : p ≠ g) (hn : n ≤ 70000) (hI : IsL n L) (hN : NodesAt w g n up sz le la) (hF : Forest n L B up le la root d) {a b l : Nat} (ha : a < n) (hb : b < n) (hl : l < n) (hne : root a ≠ root b) (hs : sz (root a) < sz (root b)) (hle : L a < L b) :
    Calls Try.prog 9 #[.pointer (some ⟨p, 0, none⟩), .int .i64 (a : Int), .int .i64 (b : Int), .int .i64 (l : Int)] w fun e w' => UniPost w p g n L B a b l e w' := by
  have JA : JV w (.pointer (some ⟨p, 0, none⟩)) n L B := JAt.v ⟨c0, c1, cf, hpg, hI, hn, _, _, _, _, _, _, hN, hF⟩
  have HT1 := hide (top_any c0 hN hF ha)
  have HT2 := hide (top_any c0 hN hF hb)
  have FIN := hide (fun s => (by have := uni_fin c0 c1 cf hpg hn hI hN hF (l := l) hb ha (fun e => hne e.symm) s (m := L a) (by omega); rw [uniL_comm, uniB_comm] at this; exact this))
  obtain ⟨a1, a2, _, a4, _⟩ := hF.rt a ha
  obtain ⟨b1, b2, _, b4, _⟩ := hF.rt b hb
  have HH : ∀ k, k < n → Calls Try.prog 21 #[.pointer (some ⟨p, 0, none⟩), .int .i64 (k : Int)] w fun e w' => e = .returned (.bool true) ∧ w' = w := fun k hk => by
    have := has_any JA (k : Int)
    rw [hasN_nat hk] at this
    exact this
  have H1 := hide (HH a ha)
  have H2 := hide (HH b hb)
  have H3 := hide (HH l hl)
  clear HH JA
  have ua := hN.up _ a1
  have ub := hN.up _ b1
  have sa := hN.sz _ a1
  have sb := hN.sz _ b1
  have la' := hN.le _ a1
  have lb := hN.le _ b1
  have ba := hN.la _ a1
  have bb := hN.la _ b1
  have fa0 := hN.free (root a * 4)
  have fa1 := hN.free (root a * 4 + 1)
  have fa2 := hN.free (root a * 4 + 2)
  have fa3 := hN.free (root a * 4 + 3)
  have fb0 := hN.free (root b * 4)
  have fb1 := hN.free (root b * 4 + 1)
  have fb2 := hN.free (root b * 4 + 2)
  have fb3 := hN.free (root b * 4 + 3)
  rw [a2] at ua
  rw [b2] at ub
  rw [a4] at la'
  rw [b4] at lb
  have hcnt := cntL_uni (n := n) (hI.lt ha) (hI.lt hb) (hI.idem a ha) (hI.idem b hb) (by omega)
  have hcn : (cntL n L : Int) ≤ 70000 := by have := cntL_le n L; omega
  have hc1 : (1 : Int) ≤ (cntL n L : Int) := by omega
  have hpe := ptr_ne hN hne
  clear a2 a4 b2 b4 hcnt hI hN hF
  generalize root a = ra at *
  generalize root b = rb at *
  generalize sz ra = s1 at *
  generalize sz rb = s2 at *
  generalize hx : L a = x at *
  generalize hy : L b = y at *
  have HX := hide hx
  have HY := hide hy
  clear hx hy
  generalize la ra = q1 at *
  generalize la rb = q2 at *
  generalize hc : cntL n L = c at *
  have HC := hide hc
  clear hc
  have hxy : (x : Int) < (y : Int) := by omega
  have n1 : ra * 4 ≠ rb * 4 := by omega
  have n2 : ra * 4 + 1 ≠ rb * 4 := by omega
  have n3 : ra * 4 + 2 ≠ rb * 4 := by omega
  have n4 : ra * 4 + 3 ≠ rb * 4 := by omega
  have m1 : rb * 4 ≠ ra * 4 := by omega
  have m2 : rb * 4 + 1 ≠ ra * 4 := by omega
  have m3 : rb * 4 + 2 ≠ ra * 4 := by omega
  have m4 : rb * 4 + 3 ≠ ra * 4 := by omega
  have gp : g ≠ p := fun e => hpg e.symm
  go_enter Try.func9, Try.ntmps9
  go_wp2_with fail
  refine (unhide H1).mono ?_
  rintro e w' ⟨rfl, rfl⟩
  go_wp2_with fail
  refine (unhide H2).mono ?_
  rintro e w' ⟨rfl, rfl⟩
  go_wp2_with fail
  refine (unhide H3).mono ?_
  rintro e w' ⟨rfl, rfl⟩
  go_wp2_with fail
  refine (unhide HT1).mono ?_
  rintro e w' ⟨rfl, rfl⟩
  go_wp2_with fail
  refine (unhide HT2).mono ?_
  rintro e w' ⟨rfl, rfl⟩
  go_wp2
  go_region
  go_wp2
  go_region
  go_wp2
  go_region
  go_wp2
  go_ret
  have hx := unhide HX
  have hy := unhide HY
  subst hx hy
  have F := unhide FIN (wrap64 (s2 + s1))
  exact ⟨rfl, F.1, F.2⟩
set_option maxRecDepth 20000 in
set_option maxHeartbeats 4000000 in
theorem unite_ba_gt {w : World} {p g n : Nat} {L B up le la root d : Nat → Nat} {sz : Nat → Int} (c0 : w.cell? ⟨p, 0, none⟩ = some (.slice (some ⟨g, 0, none⟩) n n)) (c1 : w.cell? ⟨p, 1, none⟩ = some (.int .i64 (cntL n L : Int))) (cf : w.frozen? ⟨p, 1, none⟩ = false) (hpg : p ≠ g) (hn : n ≤ 70000) (hI : IsL n L) (hN : NodesAt w g n up sz le la) (hF : Forest n L B up le la root d) {a b l : Nat} (ha : a < n) (hb : b < n) (hl : l < n) (hne : root a ≠ root b) (hs : sz (root a) < sz (root b)) (hle : L b < L a) :
    Calls Try.prog 9 #[.pointer (some ⟨p, 0, none⟩), .int .i64 (a : Int), .int .i64 (b : Int), .int .i64 (l : Int)] w fun e w' => UniPost w p g n L B a b l e w' := by
  have JA : JV w (.pointer (some ⟨p, 0, none⟩)) n L B := JAt.v ⟨c0, c1, cf, hpg, hI, hn, _, _, _, _, _, _, hN, hF⟩
  have HT1 := hide (top_any c0 hN hF ha)
  have HT2 := hide (top_any c0 hN hF hb)
  have FIN := hide (fun s => (by have := uni_fin c0 c1 cf hpg hn hI hN hF (l := l) hb ha (fun e => hne e.symm) s (m := L b) (by omega); rw [uniL_comm, uniB_comm] at this; exact this))
  obtain ⟨a1, a2, _, a4, _⟩ := hF.rt a ha
  obtain ⟨b1, b2, _, b4, _⟩ := hF.rt b hb
  have HH : ∀ k, k < n → Calls Try.prog 21 #[.pointer (some ⟨p, 0, none⟩), .int .i64 (k : Int)] w fun e w' => e = .returned (.bool true) ∧ w' = w := fun k hk => by
    have := has_any JA (k : Int)
    rw [hasN_nat hk] at this
    exact this
  have H1 := hide (HH a ha)
  have H2 := hide (HH b hb)
  have H3 := hide (HH l hl)
  clear HH JA
  have ua := hN.up _ a1
  have ub := hN.up _ b1
  have sa := hN.sz _ a1
  have sb := hN.sz _ b1
  have la' := hN.le _ a1
  have lb := hN.le _ b1
  have ba := hN.la _ a1
  have bb := hN.la _ b1
  have fa0 := hN.free (root a * 4)
  have fa1 := hN.free (root a * 4 + 1)
  have fa2 := hN.free (root a * 4 + 2)
  have fa3 := hN.free (root a * 4 + 3)
  have fb0 := hN.free (root b * 4)
  have fb1 := hN.free (root b * 4 + 1)
  have fb2 := hN.free (root b * 4 + 2)
  have fb3 := hN.free (root b * 4 + 3)
  rw [a2] at ua
  rw [b2] at ub
  rw [a4] at la'
  rw [b4] at lb
  have hcnt := cntL_uni (n := n) (hI.lt ha) (hI.lt hb) (hI.idem a ha) (hI.idem b hb) (by omega)
  have hcn : (cntL n L : Int) ≤ 70000 := by have := cntL_le n L; omega
  have hc1 : (1 : Int) ≤ (cntL n L : Int) := by omega
  have hpe := ptr_ne hN hne
  clear a2 a4 b2 b4 hcnt hI hN hF
  generalize root a = ra at *
  generalize root b = rb at *
  generalize sz ra = s1 at *
  generalize sz rb = s2 at *
  generalize hx : L a = x at *
  generalize hy : L b = y at *
  have HX := hide hx
  have HY := hide hy
  clear hx hy
  generalize la ra = q1 at *
  generalize la rb = q2 at *
  generalize hc : cntL n L = c at *
  have HC := hide hc
  clear hc
  have hxy : (y : Int) < (x : Int) := by omega
  have n1 : ra * 4 ≠ rb * 4 := by omega
  have n2 : ra * 4 + 1 ≠ rb * 4 := by omega
  have n3 : ra * 4 + 2 ≠ rb * 4 := by omega
  have n4 : ra * 4 + 3 ≠ rb * 4 := by omega
  have m1 : rb * 4 ≠ ra * 4 := by omega
  have m2 : rb * 4 + 1 ≠ ra * 4 := by omega
  have m3 : rb * 4 + 2 ≠ ra * 4 := by omega
  have m4 : rb * 4 + 3 ≠ ra * 4 := by omega
  have gp : g ≠ p := fun e => hpg e.symm
  go_enter Try.func9, Try.ntmps9
  go_wp2_with fail
  refine (unhide H1).mono ?_
  rintro e w' ⟨rfl, rfl⟩
  go_wp2_with fail
  refine (unhide H2).mono ?_
  rintro e w' ⟨rfl, rfl⟩
  go_wp2_with fail
  refine (unhide H3).mono ?_
  rintro e w' ⟨rfl, rfl⟩
  go_wp2_with fail
  refine (unhide HT1).mono ?_
  rintro e w' ⟨rfl, rfl⟩
  go_wp2_with fail
  refine (unhide HT2).mono ?_
  rintro e w' ⟨rfl, rfl⟩
  go_wp2
  go_region
  go_wp2
  go_region
  go_wp2
  go_region
  go_wp2
  go_ret
  have hx := unhide HX
  have hy := unhide HY
  subst hx hy
  have F := unhide FIN (wrap64 (s2 + s1))
  exact ⟨rfl, F.1, F.2⟩
set_option maxRecDepth 20000 in
set_option maxHeartbeats 4000000 in
theorem unite_ab_lt {w : World} {p g n : Nat} {L B up le la root d : Nat → Nat} {sz : Nat → Int} (c0 : w.cell? ⟨p, 0, none⟩ = some (.slice (some ⟨g, 0, none⟩) n n)) (c1 : w.cell? ⟨p, 1, none⟩ = some (.int .i64 (cntL n L : Int))) (cf : w.frozen? ⟨p, 1, none⟩ = false) (hpg : p ≠ g) (hn : n ≤ 70000) (hI : IsL n L) (hN : NodesAt w g n up sz le la) (hF : Forest n L B up le la root d) {a b l : Nat} (ha : a < n) (hb : b < n) (hl : l < n) (hne : root a ≠ root b) (hs : ¬ sz (root a) < sz (root b)) (hle : L a < L b) :
    Calls Try.prog 9 #[.pointer (some ⟨p, 0, none⟩), .int .i64 (a : Int), .int .i64 (b : Int), .int .i64 (l : Int)] w fun e w' => UniPost w p g n L B a b l e w' := by
  have JA : JV w (.pointer (some ⟨p, 0, none⟩)) n L B := JAt.v ⟨c0, c1, cf, hpg, hI, hn, _, _, _, _, _, _, hN, hF⟩
  have HT1 := hide (top_any c0 hN hF ha)
  have HT2 := hide (top_any c0 hN hF hb)
  have FIN := hide (fun s => uni_fin c0 c1 cf hpg hn hI hN hF (l := l) ha hb hne s (m := L a) (by omega))
  obtain ⟨a1, a2, _, a4, _⟩ := hF.rt a ha
  obtain ⟨b1, b2, _, b4, _⟩ := hF.rt b hb
  have HH : ∀ k, k < n → Calls Try.prog 21 #[.pointer (some ⟨p, 0, none⟩), .int .i64 (k : Int)] w fun e w' => e = .returned (.bool true) ∧ w' = w := fun k hk => by
    have := has_any JA (k : Int)
    rw [hasN_nat hk] at this
    exact this
  have H1 := hide (HH a ha)
  have H2 := hide (HH b hb)
  have H3 := hide (HH l hl)
  clear HH JA
  have ua := hN.up _ a1
  have ub := hN.up _ b1
  have sa := hN.sz _ a1
  have sb := hN.sz _ b1
  have la' := hN.le _ a1
  have lb := hN.le _ b1
  have ba := hN.la _ a1
  have bb := hN.la _ b1
  have fa0 := hN.free (root a * 4)
  have fa1 := hN.free (root a * 4 + 1)
  have fa2 := hN.free (root a * 4 + 2)
  have fa3 := hN.free (root a * 4 + 3)
  have fb0 := hN.free (root b * 4)
  have fb1 := hN.free (root b * 4 + 1)
  have fb2 := hN.free (root b * 4 + 2)
  have fb3 := hN.free (root b * 4 + 3)
  rw [a2] at ua
  rw [b2] at ub
  rw [a4] at la'
  rw [b4] at lb
  have hcnt := cntL_uni (n := n) (hI.lt ha) (hI.lt hb) (hI.idem a ha) (hI.idem b hb) (by omega)
  have hcn : (cntL n L : Int) ≤ 70000 := by have := cntL_le n L; omega
  have hc1 : (1 : Int) ≤ (cntL n L : Int) := by omega
  have hpe := ptr_ne hN hne
  clear a2 a4 b2 b4 hcnt hI hN hF
  generalize root a = ra at *
  generalize root b = rb at *
  generalize sz ra = s1 at *
  generalize sz rb = s2 at *
  generalize hx : L a = x at *
  generalize hy : L b = y at *
  have HX := hide hx
  have HY := hide hy
  clear hx hy
  generalize la ra = q1 at *
  generalize la rb = q2 at *
  generalize hc : cntL n L = c at *
  have HC := hide hc
  clear hc
  have hxy : (x : Int) < (y : Int) := by omega
  have n1 : ra * 4 ≠ rb * 4 := by omega
  have n2 : ra * 4 + 1 ≠ rb * 4 := by omega
  have n3 : ra * 4 + 2 ≠ rb * 4 := by omega
  have n4 : ra * 4 + 3 ≠ rb * 4 := by omega
  have m1 : rb * 4 ≠ ra * 4 := by omega
  have m2 : rb * 4 + 1 ≠ ra * 4 := by omega
  have m3 : rb * 4 + 2 ≠ ra * 4 := by omega
  have m4 : rb * 4 + 3 ≠ ra * 4 := by omega
  have gp : g ≠ p := fun e => hpg e.symm
  go_enter Try.func9, Try.ntmps9
  go_wp2_with fail
  refine (unhide H1).mono ?_
  rintro e w' ⟨rfl, rfl⟩
  go_wp2_with fail
  refine (unhide H2).mono ?_
  rintro e w' ⟨rfl, rfl⟩
  go_wp2_with fail
  refine (unhide H3).mono ?_
  rintro e w' ⟨rfl, rfl⟩
  go_wp2_with fail
  refine (unhide HT1).mono ?_
  rintro e w' ⟨rfl, rfl⟩
  go_wp2_with fail
  refine (unhide HT2).mono ?_
  rintro e w' ⟨rfl, rfl⟩
  go_wp2
  go_region
  go_wp2
  go_region
  go_wp2
  go_region
  go_wp2
  go_ret
  have hx := unhide HX
  have hy := unhide HY
  subst hx hy
  have F := unhide FIN (wrap64 (s1 + s2))
  exact ⟨rfl, F.1, F.2⟩
set_option maxRecDepth 20000 in
set_option maxHeartbeats 4000000 in
theorem unite_ab_gt {w : World} {p g n : Nat} {L B up le la root d : Nat → Nat} {sz : Nat → Int} (c0 : w.cell? ⟨p, 0, none⟩ = some (.slice (some ⟨g, 0, none⟩) n n)) (c1 : w.cell? ⟨p, 1, none⟩ = some (.int .i64 (cntL n L : Int))) (cf : w.frozen? ⟨p, 1, none⟩ = false) (hpg : p ≠ g) (hn : n ≤ 70000) (hI : IsL n L) (hN : NodesAt w g n up sz le la) (hF : Forest n L B up le la root d) {a b l : Nat} (ha : a < n) (hb : b < n) (hl : l < n) (hne : root a ≠ root b) (hs : ¬ sz (root a) < sz (root b)) (hle : L b < L a) :
    Calls Try.prog 9 #[.pointer (some ⟨p, 0, none⟩), .int .i64 (a : Int), .int .i64 (b : Int), .int .i64 (l : Int)] w fun e w' => UniPost w p g n L B a b l e w' := by
  have JA : JV w (.pointer (some ⟨p, 0, none⟩)) n L B := JAt.v ⟨c0, c1, cf, hpg, hI, hn, _, _, _, _, _, _, hN, hF⟩
  have HT1 := hide (top_any c0 hN hF ha)
  have HT2 := hide (top_any c0 hN hF hb)
  have FIN := hide (fun s => uni_fin c0 c1 cf hpg hn hI hN hF (l := l) ha hb hne s (m := L b) (by omega))
  obtain ⟨a1, a2, _, a4, _⟩ := hF.rt a ha
  obtain ⟨b1, b2, _, b4, _⟩ := hF.rt b hb
  have HH : ∀ k, k < n → Calls Try.prog 21 #[.pointer (some ⟨p, 0, none⟩), .int .i64 (k : Int)] w fun e w' => e = .returned (.bool true) ∧ w' = w := fun k hk => by
    have := has_any JA (k : Int)
    rw [hasN_nat hk] at this
    exact this
  have H1 := hide (HH a ha)
  have H2 := hide (HH b hb)
  have H3 := hide (HH l hl)
  clear HH JA
  have ua := hN.up _ a1
  have ub := hN.up _ b1
  have sa := hN.sz _ a1
  have sb := hN.sz _ b1
  have la' := hN.le _ a1
  have lb := hN.le _ b1
  have ba := hN.la _ a1
  have bb := hN.la _ b1
  have fa0 := hN.free (root a * 4)
  have fa1 := hN.free (root a * 4 + 1)
  have fa2 := hN.free (root a * 4 + 2)
  have fa3 := hN.free (root a * 4 + 3)
  have fb0 := hN.free (root b * 4)
  have fb1 := hN.free (root b * 4 + 1)
  have fb2 := hN.free (root b * 4 + 2)
  have fb3 := hN.free (root b * 4 + 3)
  rw [a2] at ua
  rw [b2] at ub
  rw [a4] at la'
  rw [b4] at lb
  have hcnt := cntL_uni (n := n) (hI.lt ha) (hI.lt hb) (hI.idem a ha) (hI.idem b hb) (by omega)
  have hcn : (cntL n L : Int) ≤ 70000 := by have := cntL_le n L; omega
  have hc1 : (1 : Int) ≤ (cntL n L : Int) := by omega
  have hpe := ptr_ne hN hne
  clear a2 a4 b2 b4 hcnt hI hN hF
  generalize root a = ra at *
  generalize root b = rb at *
  generalize sz ra = s1 at *
  generalize sz rb = s2 at *
  generalize hx : L a = x at *
  generalize hy : L b = y at *
  have HX := hide hx
  have HY := hide hy
  clear hx hy
  generalize la ra = q1 at *
  generalize la rb = q2 at *
  generalize hc : cntL n L = c at *
  have HC := hide hc
  clear hc
  have hxy : (y : Int) < (x : Int) := by omega
  have n1 : ra * 4 ≠ rb * 4 := by omega
  have n2 : ra * 4 + 1 ≠ rb * 4 := by omega
  have n3 : ra * 4 + 2 ≠ rb * 4 := by omega
  have n4 : ra * 4 + 3 ≠ rb * 4 := by omega
  have m1 : rb * 4 ≠ ra * 4 := by omega
  have m2 : rb * 4 + 1 ≠ ra * 4 := by omega
  have m3 : rb * 4 + 2 ≠ ra * 4 := by omega
  have m4 : rb * 4 + 3 ≠ ra * 4 := by omega
  have gp : g ≠ p := fun e => hpg e.symm
  go_enter Try.func9, Try.ntmps9
  go_wp2_with fail
  refine (unhide H1).mono ?_
  rintro e w' ⟨rfl, rfl⟩
  go_wp2_with fail
  refine (unhide H2).mono ?_
  rintro e w' ⟨rfl, rfl⟩
  go_wp2_with fail
  refine (unhide H3).mono ?_
  rintro e w' ⟨rfl, rfl⟩
  go_wp2_with fail
  refine (unhide HT1).mono ?_
  rintro e w' ⟨rfl, rfl⟩
  go_wp2_with fail
  refine (unhide HT2).mono ?_
  rintro e w' ⟨rfl, rfl⟩
  go_wp2
  go_region
  go_wp2
  go_region
  go_wp2
  go_region
  go_wp2
  go_ret
  have hx := unhide HX
  have hy := unhide HY
  subst hx hy
  have F := unhide FIN (wrap64 (s1 + s2))
  exact ⟨rfl, F.1, F.2⟩
theorem unite_yes {w : World} {p g n : Nat} {L B : Nat → Nat} (h : JAt w p g n L B) {a b l : Nat} (ha : a < n) (hb : b < n) (hl : l < n) (hne : L a ≠ L b) :
    Calls Try.prog 9 #[.pointer (some ⟨p, 0, none⟩), .int .i64 (a : Int), .int .i64 (b : Int), .int .i64 (l : Int)] w fun e w' => UniPost w p g n L B a b l e w' := by
  obtain ⟨up, sz, le, la, root, d, hN, hF⟩ := h.nodes
  have hr : root a ≠ root b := fun e => hne ((hF.leq ha hb).2 e)
  by_cases hs : sz (root a) < sz (root b)
  · by_cases hc : L a < L b
    · exact unite_ba_lt h.c0 h.c1 h.free h.ne h.most h.isL hN hF ha hb hl hr hs hc
    · exact unite_ba_gt h.c0 h.c1 h.free h.ne h.most h.isL hN hF ha hb hl hr hs (by omega)
  · by_cases hc : L a < L b
    · exact unite_ab_lt h.c0 h.c1 h.free h.ne h.most h.isL hN hF ha hb hl hr hs hc
    · exact unite_ab_gt h.c0 h.c1 h.free h.ne h.most h.isL hN hF ha hb hl hr hs (by omega)
set_option maxRecDepth 20000 in
set_option maxHeartbeats 4000000 in
/-- They are in one set already. -/
theorem unite_one {w : World} {p g n : Nat} {L B : Nat → Nat} (h : JAt w p g n L B) {a b l : Nat} (ha : a < n) (hb : b < n) (hl : l < n) (he : L a = L b) :
    Calls Try.prog 9 #[.pointer (some ⟨p, 0, none⟩), .int .i64 (a : Int), .int .i64 (b : Int), .int .i64 (l : Int)] w fun e w' => e = .returned (.bool false) ∧ w' = w := by
  obtain ⟨up, sz, le, la, root, d, hN, hF⟩ := h.nodes
  have hr : root a = root b := (hF.leq ha hb).1 he
  have HT1 := top_any h.c0 hN hF ha
  have HT2 := hide (top_any h.c0 hN hF hb)
  rw [hr] at HT1
  replace HT1 := hide HT1
  have HH : ∀ k, k < n → Calls Try.prog 21 #[.pointer (some ⟨p, 0, none⟩), .int .i64 (k : Int)] w fun e w' => e = .returned (.bool true) ∧ w' = w := fun k hk => by
    have := has_any h.v (k : Int)
    rw [hasN_nat hk] at this
    exact this
  have H1 := hide (HH a ha)
  have H2 := hide (HH b hb)
  have H3 := hide (HH l hl)
  clear HH hN hF hr h he
  generalize root b = rb at *
  have hpe := ptr_eq w ⟨g, rb * 4, none⟩
  go_enter Try.func9, Try.ntmps9
  go_wp2_with fail
  refine (unhide H1).mono ?_
  rintro e w' ⟨rfl, rfl⟩
  go_wp2_with fail
  refine (unhide H2).mono ?_
  rintro e w' ⟨rfl, rfl⟩
  go_wp2_with fail
  refine (unhide H3).mono ?_
  rintro e w' ⟨rfl, rfl⟩
  go_wp2_with fail
  refine (unhide HT1).mono ?_
  rintro e w' ⟨rfl, rfl⟩
  go_wp2_with fail
  refine (unhide HT2).mono ?_
  rintro e w' ⟨rfl, rfl⟩
  go_wp2
  go_ret
  exact ⟨rfl, rfl⟩
set_option maxRecDepth 20000 in
set_option maxHeartbeats 4000000 in
/-- One of the three is none. -/
theorem unite_no {w : World} {v : Value} {n : Nat} {L B : Nat → Nat} (h : JV w v n L B) {a b l : Int} (hn : (hasN n a && (hasN n b && hasN n l)) = false) :
    Calls Try.prog 9 #[v, .int .i64 a, .int .i64 b, .int .i64 l] w fun e w' => e = .returned (.bool false) ∧ w' = w := by
  have H1 := has_any h a
  have H2 := has_any h b
  have H3 := has_any h l
  clear h
  cases ha : hasN n a
  · rw [ha] at H1
    replace H1 := hide H1
    clear ha hn H2 H3
    go_enter Try.func9, Try.ntmps9
    go_wp2_with fail
    refine (unhide H1).mono ?_
    rintro e w' ⟨rfl, rfl⟩
    go_wp2
    go_ret
    exact ⟨rfl, rfl⟩
  · rw [ha] at H1
    cases hb : hasN n b
    · rw [hb] at H2
      replace H1 := hide H1
      replace H2 := hide H2
      clear ha hb hn H3
      go_enter Try.func9, Try.ntmps9
      go_wp2_with fail
      refine (unhide H1).mono ?_
      rintro e w' ⟨rfl, rfl⟩
      go_wp2_with fail
      refine (unhide H2).mono ?_
      rintro e w' ⟨rfl, rfl⟩
      go_wp2
      go_ret
      exact ⟨rfl, rfl⟩
    · rw [ha, hb] at hn
      have hl : hasN n l = false := by simpa using hn
      rw [hb] at H2
      rw [hl] at H3
      replace H1 := hide H1
      replace H2 := hide H2
      replace H3 := hide H3
      clear ha hb hn hl
      go_enter Try.func9, Try.ntmps9
      go_wp2_with fail
      refine (unhide H1).mono ?_
      rintro e w' ⟨rfl, rfl⟩
      go_wp2_with fail
      refine (unhide H2).mono ?_
      rintro e w' ⟨rfl, rfl⟩
      go_wp2_with fail
      refine (unhide H3).mono ?_
      rintro e w' ⟨rfl, rfl⟩
      go_wp2
      go_ret
      exact ⟨rfl, rfl⟩
theorem uniOK_yes {n : Nat} {L : Nat → Nat} {a b l : Int} (h : uniOK n L a b l = true) : ∃ x y z : Nat, x < n ∧ y < n ∧ z < n ∧ a = x ∧ b = y ∧ l = z ∧ L x ≠ L y := by
  unfold uniOK at h
  simp at h
  obtain ⟨h1, h2, h3, h4⟩ := h
  obtain ⟨x, hx, rfl⟩ := hasN_at h1
  obtain ⟨y, hy, rfl⟩ := hasN_at h2
  obtain ⟨z, hz, rfl⟩ := hasN_at h3
  exact ⟨x, y, z, hx, hy, hz, rfl, rfl, rfl, by simpa using h4⟩
theorem unite_any {w : World} {p g n : Nat} {L B : Nat → Nat} (h : JAt w p g n L B) (a b l : Int) :
    Calls Try.prog 9 #[.pointer (some ⟨p, 0, none⟩), .int .i64 a, .int .i64 b, .int .i64 l] w fun e w' => e = .returned (.bool (uniOK n L a b l)) ∧ JAt w' p g n (stepL n L a b l) (stepB n L B a b l) ∧ Kept [p, g] w w' := by
  cases hu : uniOK n L a b l
  · have e1 : stepL n L a b l = L := by unfold stepL; rw [hu]; simp
    have e2 : stepB n L B a b l = B := by unfold stepB; rw [hu]; simp
    rw [e1, e2]
    cases hh : (hasN n a && (hasN n b && hasN n l))
    · exact (unite_no h.v hh).mono fun e w' ⟨h1, h2⟩ => ⟨h1, by rw [h2]; exact h, by rw [h2]; exact Kept.refl _ _⟩
    · simp at hh
      obtain ⟨h1, h2, h3⟩ := hh
      have he : L a.toNat = L b.toNat := by unfold uniOK at hu; rw [h1, h2, h3] at hu; simpa using hu
      obtain ⟨x, hx, rfl⟩ := hasN_at h1
      obtain ⟨y, hy, rfl⟩ := hasN_at h2
      obtain ⟨z, hz, rfl⟩ := hasN_at h3
      exact (unite_one h hx hy hz (by simpa using he)).mono fun e w' ⟨h1, h2⟩ => ⟨h1, by rw [h2]; exact h, by rw [h2]; exact Kept.refl _ _⟩
  · have e1 : stepL n L a b l = uniL L (L a.toNat) (L b.toNat) := by unfold stepL; rw [hu]; simp
    have e2 : stepB n L B a b l = uniB L B (L a.toNat) (L b.toNat) l.toNat := by unfold stepB; rw [hu]; simp
    rw [e1, e2]
    obtain ⟨x, y, z, hx, hy, hz, rfl, rfl, rfl, hne⟩ := uniOK_yes hu
    exact unite_yes h hx hy hz hne
end Go.Proofs.Ythncoddcpjpblaa

namespace Go.Proofs.Ythncoddcpjpblaa
open Go.RowKit

set_option maxRecDepth 20000 in
set_option maxHeartbeats 4000000 in
theorem jawake_any (w : World) : Calls Try.prog 8 #[] w fun e w' => e = .returned (.bool true) ∧ Kept [] w w' := by
  have H1 := hide (jnew_any w 3)
  go_enter Try.func8, Try.ntmps8
  go_wp2_with fail
  refine (unhide H1).mono ?_
  rintro e w1 ⟨p, g, rfl, hj, hp, hg, k1⟩
  have HU := unite_any hj 0 2 2
  rw [show uniOK (newN 3) (fun k => k) 0 2 2 = true by decide] at HU
  replace HU := hide HU
  have HP := hide (And.intro hp hg)
  have K1 := hide k1
  clear hj hp hg k1 H1
  go_wp2_with fail
  refine (unhide HU).mono ?_
  rintro e w2 ⟨rfl, hj, k2⟩
  have HL := label_any hj.v 0
  rw [show tellI (newN 3) (stepB (newN 3) (fun k => k) (fun k => k) 0 2 2) 0 = 2 by decide] at HL
  have HF := find_any hj.v 2
  rw [show tellI (newN 3) (stepL (newN 3) (fun k => k) 0 2 2) 2 = 0 by decide] at HF
  have HN := jlen_any hj.v
  rw [show ((cntL (newN 3) (stepL (newN 3) (fun k => k) 0 2 2) : Nat) : Int) = 2 by decide] at HN
  replace HL := hide HL
  replace HF := hide HF
  replace HN := hide HN
  have K2 := hide ((unhide K1).trans' k2 (fun i hi => by
    simp at hi
    rcases hi with rfl | rfl
    · exact Or.inr (unhide HP).1
    · exact Or.inr (unhide HP).2))
  clear hj k2 HU
  go_wp2_with fail
  refine (unhide HL).mono ?_
  rintro e w' ⟨rfl, rfl⟩
  go_wp2_with fail
  refine (unhide HF).mono ?_
  rintro e w' ⟨rfl, rfl⟩
  go_wp2_with fail
  refine (unhide HN).mono ?_
  rintro e w' ⟨rfl, rfl⟩
  go_wp2
  go_ret
  exact ⟨rfl, unhide K2⟩
set_option maxRecDepth 20000 in
set_option maxHeartbeats 4000000 in
theorem gathered_zero (w : World) (f : Value) : Calls Try.prog 26 #[.int .i64 0, f] w fun e w' => e = .returned (.slice none 0 0) ∧ Kept [] w w' := by
  have hmk := make_ints 0 (by omega)
  simp only [Int.cast_ofNat_Int] at hmk
  go_enter Try.func26, Try.ntmps26
  go_wp2
  have K1 := hide ((Kept.refl [] w).alloc (.cells (madeCells #[.int .i64 0] 0) 3))
  clear hmk
  generalize w.alloc (.cells (madeCells #[.int .i64 0] 0) 3) = W1 at *
  go_loopw [5, 13] (fun s c wr => s = .slice none 0 0 ∧ c = .int .i64 0 ∧ wr = W1) (fun _ _ _ => 0)
  case atStart => exact ⟨rfl, rfl, rfl⟩
  case round =>
    obtain ⟨rfl, rfl, hwr⟩ := hrel
    have HW := hide hwr
    clear hwr
    go_wp2
    go_ret
    exact ⟨rfl, by rw [unhide HW]; exact unhide K1⟩
set_option maxHeartbeats 4000000 in
theorem jsets_nil (w : World) : Calls Try.prog 18 #[.pointer none] w fun e w' => e = .returned (.slice none 0 0) ∧ Kept [] w w' := by
  have HR := hide (room_any (JV.nil w (fun k => k) (fun k => k)))
  have HG := hide (fun W f => gathered_zero W f)
  go_enter Try.func18, Try.ntmps18
  go_wp2_with fail
  refine (unhide HR).mono ?_
  rintro e w' ⟨rfl, rfl⟩
  go_wp2_with fail
  refine (unhide HG _ _).mono ?_
  rintro e w' ⟨rfl, k⟩
  go_wp2
  go_ret
  exact ⟨rfl, k⟩
end Go.Proofs.Ythncoddcpjpblaa

namespace Go.Proofs.Ythncoddcpjpblaa

/-- The least numbers of the sets. -/
def tops (n : Nat) (L : Nat → Nat) : List Nat := (List.range n).filter (fun k => L k == k)
theorem tops_succ (n : Nat) (L : Nat → Nat) : tops (n + 1) L = tops n L ++ (if L n = n then [n] else []) := by
  unfold tops
  rw [List.range_succ, List.filter_append]
  by_cases h : L n = n <;> simp [h]
theorem tops_len (n : Nat) (L : Nat → Nat) : (tops n L).length = cntL n L := by
  unfold tops cntL; rw [List.countP_eq_length_filter]
theorem tops_lt {n x : Nat} {L : Nat → Nat} (h : x ∈ tops n L) : x < n := by
  unfold tops at h; simp at h; exact h.1
/-- Where a set's least number stands. -/
theorem tops_at {n x : Nat} {L : Nat → Nat} (hx : x < n) (h : L x = x) : (tops n L)[cntL x L]? = some x := by
  induction n with
  | zero => omega
  | succ n ih =>
    rw [tops_succ]
    by_cases e : x = n
    · subst e
      rw [if_pos h, List.getElem?_append_right (by rw [tops_len]; exact Nat.le_refl _), tops_len]
      simp
    · have hi := ih (by omega)
      rw [List.getElem?_append_left (List.getElem?_eq_some_iff.1 hi).1]
      exact hi
theorem tops_nodup (n : Nat) (L : Nat → Nat) : (tops n L).Nodup := by
  unfold tops
  exact List.Pairwise.filter _ List.nodup_range
theorem cntL_lt {n x : Nat} {L : Nat → Nat} (hx : x < n) (h : L x = x) : cntL x L < cntL n L := by
  rw [← tops_len n L]
  exact (List.getElem?_eq_some_iff.1 (tops_at hx h)).1
theorem setOf_succ (n : Nat) (L : Nat → Nat) (x : Nat) : setOf (n + 1) L x = setOf n L x ++ (if L n = x then [(n : Int)] else []) := by
  unfold setOf
  rw [List.range_succ, List.filter_append, List.map_append]
  by_cases h : L n = x <;> simp [h]
theorem setOf_none {n x : Nat} {L : Nat → Nat} (h : ∀ k, k < n → L k ≠ x) : setOf n L x = [] := by
  unfold setOf
  rw [List.filter_eq_nil_iff.2 (fun k hk => by simp at hk; simpa using h k hk)]
  rfl
theorem setsL_eq (n : Nat) (L : Nat → Nat) : setsL n L = (tops n L).map (setOf n L) := rfl
/-- The sets, and a new one if the number is its own least. -/
def openL (n : Nat) (L : Nat → Nat) : List (List Int) := (tops (n + 1) L).map (setOf n L)
theorem openL_yes {n : Nat} {L : Nat → Nat} (hle : ∀ k, k < n → L k ≤ k) (h : L n = n) : openL n L = setsL n L ++ [[]] := by
  unfold openL
  rw [tops_succ, if_pos h, List.map_append, setsL_eq]
  simp only [List.map_cons, List.map_nil]
  rw [setOf_none (fun k hk e => by have := hle k hk; omega)]
theorem openL_no {n : Nat} {L : Nat → Nat} (h : L n ≠ n) : openL n L = setsL n L := by
  unfold openL
  rw [tops_succ, if_neg h, List.append_nil, setsL_eq]
theorem openL_len (n : Nat) (L : Nat → Nat) : (openL n L).length = cntL (n + 1) L := by
  unfold openL; rw [List.length_map, tops_len]
theorem setsL_set {N n : Nat} {L : Nat → Nat} (hI : IsL N L) (hn : n < N) :
    setsL (n + 1) L = (openL n L).set (cntL (L n) L) ((openL n L).getD (cntL (L n) L) [] ++ [(n : Int)]) := by
  have hl := hI.le n hn
  have hx : L (L n) = L n := hI.idem n hn
  have hat := tops_at (n := n + 1) (x := L n) (L := L) (by omega) hx
  have hil := (List.getElem?_eq_some_iff.1 hat).1
  apply List.ext_getElem?
  intro i
  by_cases e : i = cntL (L n) L
  · subst e
    rw [List.getElem?_set_self (by rw [openL_len, ← tops_len (n + 1)]; exact hil)]
    rw [setsL_eq, List.getElem?_map, hat]
    unfold openL
    simp only [Option.map_some, List.getD, List.getElem?_map, hat, Option.getD_some]
    rw [setOf_succ, if_pos rfl]
  · rw [List.getElem?_set_ne (fun h => e h.symm)]
    unfold openL
    rw [setsL_eq, List.getElem?_map, List.getElem?_map]
    cases ht : (tops (n + 1) L)[i]? with
    | none => rfl
    | some y =>
      simp only [Option.map_some]
      rw [setOf_succ, if_neg, List.append_nil]
      intro ey
      subst ey
      obtain ⟨h1, h2⟩ := List.getElem?_eq_some_iff.1 ht
      obtain ⟨h3, h4⟩ := List.getElem?_eq_some_iff.1 hat
      have hd := List.pairwise_iff_getElem.1 (tops_nodup (n + 1) L)
      rcases Nat.lt_or_gt_of_ne e with h5 | h5
      · exact hd _ _ h1 h3 h5 (h2.trans h4.symm)
      · exact hd _ _ h3 h1 h5 (h4.trans h2.symm)
end Go.Proofs.Ythncoddcpjpblaa
