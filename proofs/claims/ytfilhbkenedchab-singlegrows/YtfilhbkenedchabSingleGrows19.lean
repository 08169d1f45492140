/- grow. through, close, take. The degrees of the first vertices, together. Matchings as lists of mates, and as edges; what is flipped is one more: plain mathematics. What package single answers: plain mathematics. A SEARCH, LOOK BY LOOK: plain mathematics. What one look does to a search: plain mathematics. -/
import Derived.Test.YtfilhbkenedchabSingleGrows12
import Derived.Maps.AppendAt
import Derived.BigRegion
import Derived.Handy
import Derived.Test.YtfilhbkenedchabSingleGrows16
import Derived.Test.YtfilhbkenedchabSingleGrows18
import Derived.Test.YtfilhbkenedchabSingleGrows9
import Derived.Test.YtfilhbkenedchabSingleGrows10
namespace Go.Proofs.Ytfilhbkenedchab
open Go.RowKit

/-- What is known of one vertex is laid anew. -/
def nodeS (F : FS) (k : Nat) (l d u : Int) : FS := { F with lab := upd F.lab k l, dep := upd F.dep k d, up := upd F.up k u, bf := upd F.bf k 0, bt := upd F.bt k 0 }
def nodeW (w : World) (g k : Nat) (l d u : Int) : World := ((((w.setCell ⟨g, k * 5, none⟩ (.int .i64 l)).setCell ⟨g, k * 5 + 1, none⟩ (.int .i64 d)).setCell ⟨g, k * 5 + 2, none⟩ (.int .i64 u)).setCell ⟨g, k * 5 + 3, none⟩ (.int .i64 0)).setCell ⟨g, k * 5 + 4, none⟩ (.int .i64 0)
theorem SNodes.lay {w : World} {g N k : Nat} {F : FS} (h : SNodes w g N F) (hk : k < N) (l d u : Int) : SNodes (nodeW w g k l d u) g N (nodeS F k l d u) :=
  ((((h.setLab hk l).setDep hk d).setUp hk u).setBf hk 0).setBt hk 0
theorem nodeW_kept (w : World) (g k : Nat) (l d u : Int) : Kept [g] w (nodeW w g k l d u) :=
  ((((kept_set w g _ _).trans (kept_set _ g _ _)).trans (kept_set _ g _ _)).trans (kept_set _ g _ _)).trans (kept_set _ g _ _)
theorem FAt.lay {w0 w : World} {p g jp jg base N : Nat} {nv mv ve : Value} {F : FS} (h : FAt w0 w p g jp jg base N nv mv ve F) {k : Nat} (hk : k < N) (l d u : Int) : FAt w0 (nodeW w g k l d u) p g jp jg base N nv mv ve (nodeS F k l d u) :=
  h.write (nodeW_kept w g k l d u) (h.nodes.lay hk l d u) rfl rfl rfl

section
variable {w0 w : World} {p g jp jg base N : Nat} {nv mv ve : Value} {F : FS} {m : List Int}
set_option maxRecDepth 20000 in
set_option maxHeartbeats 4000000 in
theorem fgrow_any (h : FAt w0 w p g jp jg base N nv mv ve F) (hm : IntsAt w0 mv m) (hml : m.length = N) {v x z : Nat} (hv : v < N) (hx : x < N) (hz : m.getD x 0 = (z : Int)) (hzN : z < N) (hd : 0 ≤ F.dep v ∧ F.dep v ≤ 1000000) (hq : F.q.length ≤ 1000000) :
    Calls Try.prog 50 #[.pointer (some ⟨p, 0, none⟩), .int .i64 (v : Int), .int .i64 (x : Int)] w fun e w' => e = .returned (.tuple #[]) ∧ ∃ ve', FAt w0 w' p g jp jg base N nv mv ve' (growS F v x z) := by
  obtain ⟨i, hi, hz0, hz1, hz2⟩ := info_parts infoInt
  subst hml
  obtain ⟨mg, mo, cap, rfl, hc⟩ := mate_cell hm h.k (by omega)
  have a0 := hc x hx
  rw [hz] at a0
  have d0 := h.nodes.dep v hv
  have c1 := h.c1
  have c2 := h.c2
  have t0 : (0 : Int) ≤ (x : Int) := by omega
  have t1 : (x : Int) < (m.length : Int) := by omega
  have v0 : (0 : Int) ≤ (v : Int) := by omega
  have v1 : (v : Int) < (m.length : Int) := by omega
  have z0 : (0 : Int) ≤ (z : Int) := by omega
  have z1 : (z : Int) < (m.length : Int) := by omega
  have k0 := hd.1
  have k1 := hd.2
  have HH := hide (fun n => h.keptE ((Kept.refl [] w).drewN n))
  have HX := hide hx
  have HZ := hide hzN
  have HQ := hide hq
  have HG := hide (show ({ nodeS (nodeS F x 2 (F.dep v + 1) (v : Int)) z 1 (F.dep v + 2) (-1) with q := F.q ++ [(z : Int)] } : FS) = growS F v x z ∧ (nodeS (nodeS F x 2 (F.dep v + 1) (v : Int)) z 1 (F.dep v + 2) (-1)).q = F.q from ⟨rfl, rfl⟩)
  clear hc h hm hz hx hv hzN hd hq
  generalize growS F v x z = FG at *
  generalize F.dep v = dv at *
  generalize m.length = N at *
  go_enter Try.func50, Try.ntmps50
  go_wp2_with fail
  go_quiet (fail)
  have H0 := unhide HH nq
  clear HH a0 d0 c1 c2
  generalize w.drewN nq = W0 at *
  have c2 := H0.c2
  have l0 := H0.nodes.lab x (unhide HX)
  have l1 := H0.nodes.dep x (unhide HX)
  have l2 := H0.nodes.up x (unhide HX)
  have l3 := H0.nodes.bf x (unhide HX)
  have l4 := H0.nodes.bt x (unhide HX)
  have f0 := H0.nodes.free (x * 5)
  have f1 := H0.nodes.free (x * 5 + 1)
  have f2 := H0.nodes.free (x * 5 + 2)
  have f3 := H0.nodes.free (x * 5 + 3)
  have f4 := H0.nodes.free (x * 5 + 4)
  have H1 := H0.lay (unhide HX) 2 (dv + 1) (v : Int)
  have e2 := H1.c2
  have r0 := H1.nodes.lab z (unhide HZ)
  have r1 := H1.nodes.dep z (unhide HZ)
  have r2 := H1.nodes.up z (unhide HZ)
  have r3 := H1.nodes.bf z (unhide HZ)
  have r4 := H1.nodes.bt z (unhide HZ)
  have q0 := H1.nodes.free (z * 5)
  have q1 := H1.nodes.free (z * 5 + 1)
  have q2 := H1.nodes.free (z * 5 + 2)
  have q3 := H1.nodes.free (z * 5 + 3)
  have q4 := H1.nodes.free (z * 5 + 4)
  have H2 := H1.lay (unhide HZ) 1 (dv + 2) (-1)
  have e3 := H2.c3
  have b2 := H2.hb
  have own2 := H2.own
  have HF2 := hide H2
  rw [(unhide HG).2] at own2
  have hql := unhide HQ
  clear H0 H1 H2
  generalize hw1 : nodeW W0 g x 2 (dv + 1) (v : Int) = W1 at *
  generalize hw2 : nodeW W1 g z 1 (dv + 2) (-1) = W2 at *
  unfold nodeW at hw1 hw2
  generalize nodeS F x 2 (dv + 1) (v : Int) = F1 at *
  generalize nodeS F1 z 1 (dv + 2) (-1) = F2 at *
  generalize hqq : F.q = qq at *
  clear hqq HQ HX HZ
  go_wp2_with (first | (at_builtin; refine wpList_append_own_at _ rfl (.tmp 46) (.tmp 48) 22 rfl base 3 i (.int .i64 0) 1 8 Try.underlying22 hi hz0 hz1 hz2 rfl (by decide) _ _ _ rfl (own2.alloc _) _ 1 _ [.int .i64 (z : Int)] rfl rfl (one_cell' _ _ _ (by simp)) (by simp [Value.oneCell']) (by unfold maxLen; omega) (by omega) (by simp; omega) ?_; intro v' w5 own5 g5 _ _; obtain ⟨ao5, cap5, rfl⟩ := own_formM own5; obtain ⟨p3, pf⟩ := (unhide HF2).pushAt g5))
  have HFIN := hide (show FAt w0 (w5.setCell ⟨p, 3, none⟩ (.slice ao5 (qq.length + 1) cap5)) p g jp jg base N nv (.slice (some ⟨mg, mo, none⟩) N cap) (.slice ao5 (qq.length + 1) cap5) FG from by
    have h3 := (unhide HF2).push (x := (z : Int)) g5 (by rw [(unhide HG).2]; exact own5)
    rw [(unhide HG).2, (unhide HG).1] at h3
    exact h3)
  clear own5 g5 own2
  go_wp2
  go_returns
  exact ⟨rfl, _, unhide HFIN⟩
end
end Go.Proofs.Ytfilhbkenedchab

namespace Go.Proofs.Ytfilhbkenedchab
open Go.RowKit

section
variable {w0 w : World} {p g jp jg base N : Nat} {nv mv ve : Value} {F F1 F2 : FS} {m : List Int}
theorem Clm.addK {v t : Nat} {l : List Int} (h : Clm N m F v t l) (x : Int) : Clm N m (addK F x) v t l :=
  Clm.congr (F := F) (G := Go.Proofs.Ytfilhbkenedchab.addK F x) (C := fun _ => True) (fun _ _ => ⟨rfl, rfl, rfl⟩) (fun _ _ _ _ _ _ _ e => ⟨e, trivial⟩) (fun _ _ _ _ _ _ _ _ _ _ => ⟨trivial, trivial⟩) h trivial
/-- Numbers in a row that is new since b. -/
def NewInts (b : Nat) (w : World) (r : Value) (xs : List Int) : Prop := IntsAt w r xs ∧ FreshAt b r
theorem own_slice {w : World} {base e size n : Nat} {v : Value} {xs : List Value} (h : w.ownsRow base e size v n xs) (hn : 0 < n) : ∃ g cap, v = .slice (some ⟨g, 0, none⟩) n cap := by
  rcases h.2 with ⟨_, h2⟩ | ⟨g', cap', _, hv, _⟩
  · omega
  · exact ⟨g', cap', hv⟩
set_option maxRecDepth 20000 in
set_option maxHeartbeats 8000000 in
theorem fthrough_any (h : FAt w0 w p g jp jg base N nv mv ve F) (hm : IntsAt w0 mv m) (hml : m.length = N) {v u rv ru : Nat} {lv lu : List Int} (hv : v < N) (hu : u < N) (hrv : rv < N) (hru : ru < N) (hfv : m.getD rv 0 = -1) (hfu : m.getD ru 0 = -1) (cv : Clm N m F v rv lv) (cu : Clm N m F u ru lu) (hl : lv.length + lu.length ≤ 900000) (hk : 0 ≤ F.k ∧ F.k ≤ 1000000000) :
    Calls Try.prog 60 #[.pointer (some ⟨p, 0, none⟩), .int .i64 (v : Int), .int .i64 (u : Int)] w fun e w' => ∃ r, e = .returned r ∧ NewInts w0.heap.size w' r ((lv ++ [(rv : Int)]).reverse ++ (lu ++ [(ru : Int)])) ∧ FAt w0 w' p g jp jg base N nv mv ve (addK F (((lv.length + lu.length + 1 : Nat) : Int))) := by
  have H1 := hide (fclimb_any h hm hml (lv.length + 1) w (.slice none 0 0) [] v rv (-1) lv (by omega) (by simp only [List.length_nil]; omega) hv hrv (Or.inr ⟨rfl, hfv⟩) cv (Kept.refl _ _) ⟨rfl, Or.inl ⟨rfl, rfl⟩⟩)
  have H2 := hide (fclimb_any h hm hml (lu.length + 1))
  have HX := hide (And.intro hu (And.intro hru (And.intro hfu (And.intro cu hl))))
  have HF := hide h
  have hk0 := hk.1
  have hk1 := hk.2
  have hl2 : lv.length + lu.length ≤ 900000 := hl
  clear h hm hml hv hu hrv hru hfv hfu cv cu hl hk
  go_enter Try.func60, Try.ntmps60
  go_wp2_with fail
  refine (unhide H1).mono ?_
  rintro e w1 ⟨r1, rfl, own1, k1⟩
  rw [List.nil_append] at own1
  obtain ⟨P1, hP1⟩ : ∃ P1, lv ++ [(rv : Int)] = P1 := ⟨_, rfl⟩
  have hlen1 : P1.length = lv.length + 1 := by rw [← hP1]; simp
  rw [hP1] at own1
  obtain ⟨g1, cap1, hr1⟩ := own_slice own1 (by omega)
  subst hr1
  replace HRV := hide (show Calls Try.prog 69 #[.slice (some ⟨g1, 0, none⟩) P1.length cap1] w1 fun e w' => e = .returned (.tuple #[]) ∧ w'.ownsRow w.heap.size 3 1 (.slice (some ⟨g1, 0, none⟩) P1.length cap1) P1.reverse.length (P1.reverse.map (Value.int .i64)) ∧ Kept [g1] w1 w' from (revTail_any (k := 0) own1 (by omega)).mono fun e w' ⟨h1, h2, h3⟩ => ⟨h1, by rw [List.length_reverse]; simpa using h2, h3⟩)
  have HG := hide (own_block own1 g1 rfl)
  have K1 := hide k1
  have HP := hide (And.intro hP1 hlen1)
  clear own1 k1 H1 hP1
  generalize hn1 : P1.length = n1 at *
  have HL1 := hide hlen1
  have HLP := hide hn1
  clear hn1
  clear hlen1
  go_wp2_with fail
  refine (unhide HRV).mono ?_
  rintro e w2 ⟨rfl, own2, k2⟩
  have K2 := hide ((unhide K1).trans' k2 (fun i hi => by simp at hi; subst hi; exact Or.inr (unhide HG)))
  have HC := hide (unhide H2 w2 _ _ u ru (-1) lu (by omega) (by have := unhide HL1; have := unhide HLP; rw [List.length_reverse]; omega) (unhide HX).1 (unhide HX).2.1 (Or.inr ⟨rfl, (unhide HX).2.2.1⟩) (unhide HX).2.2.2.1 (unhide K2) own2)
  clear own2 k2 HRV H2
  go_wp2_with fail
  refine (unhide HC).mono ?_
  rintro e w3 ⟨r3, rfl, own4, k3⟩
  obtain ⟨P3, hP3⟩ : ∃ P3, P1.reverse ++ lu ++ [(ru : Int)] = P3 := ⟨_, rfl⟩
  rw [hP3] at own4
  have hlen3 : P3.length = lv.length + lu.length + 2 := by rw [← hP3, ← (unhide HP).1]; simp; omega
  obtain ⟨g3, cap3, hr3⟩ := own_slice own4 (by omega)
  subst hr3
  have F3 := (unhide HF).keptE k3
  have c6 := F3.c6
  have f6 := F3.fr 6
  have hpl : p < w.heap.size := lt_of_cell (unhide HF).c0
  have HFIN := hide (show NewInts w0.heap.size (w3.setCell ⟨p, 6, none⟩ (.int .i64 (F.k + ((lv.length + lu.length + 1 : Nat) : Int)))) (.slice (some ⟨g3, 0, none⟩) P3.length cap3) P3 ∧ FAt w0 (w3.setCell ⟨p, 6, none⟩ (.int .i64 (F.k + ((lv.length + lu.length + 1 : Nat) : Int)))) p g jp jg base N nv mv ve (addK F (((lv.length + lu.length + 1 : Nat) : Int))) from by
    have o5 := own_below own4 (kept_set w3 p 6 (.int .i64 (F.k + ((lv.length + lu.length + 1 : Nat) : Int)))) (by simpa using hpl)
    exact ⟨⟨(ints_of_owns o5).1, fun a x y e => Nat.le_trans (unhide HF).k.size ((ints_of_owns o5).2 a x y e)⟩, F3.setK _⟩)
  have HP3 := hide (show P3 = (lv ++ [(rv : Int)]).reverse ++ (lu ++ [(ru : Int)]) from by rw [← hP3, ← (unhide HP).1]; simp)
  clear own4 k3 F3 HC hpl K1 K2 HG HX HF hP3 HP HL1
  generalize P3.length = n3 at *
  generalize hD : ((lv.length + lu.length + 1 : Nat) : Int) = D at *
  have hd1 : (n3 : Int) - 1 = D := by omega
  have n0 : (n3 : Int) ≤ 9223372036854775807 := by omega
  have d0 : 0 ≤ D ∧ D ≤ 900001 := by omega
  have d1 := d0.1
  have d2 := d0.2
  have HH := hide (And.intro hD hlen3)
  clear hD hlen3 d0
  generalize F.k = kk at *
  go_wp2
  go_ret
  refine ⟨_, rfl, ?_, ?_⟩
  · rw [← unhide HP3]
    exact (unhide HFIN).1
  · rw [(unhide HH).1]
    exact (unhide HFIN).2
set_option maxRecDepth 20000 in
set_option maxHeartbeats 8000000 in
theorem fclose_path (h : FAt w0 w p g jp jg base N nv mv ve F) (hm : IntsAt w0 mv m) (hml : m.length = N) {v u rv ru n : Nat} {lv lu : List Int} (hv : v < N) (hu : u < N) (hM : Meets N m F (F.B v) (F.B u) (-1) n) (hB : ∀ x, x < N → F.B x < N) (hrv : rv < N) (hru : ru < N) (hfv : m.getD rv 0 = -1) (hfu : m.getD ru 0 = -1) (cv : Clm N m F v rv lv) (cu : Clm N m F u ru lu) (hl : lv.length + lu.length ≤ 900000) (hk : 0 ≤ F.k ∧ F.k + 2 * (n : Int) ≤ 1000000000) :
    Calls Try.prog 51 #[.pointer (some ⟨p, 0, none⟩), .int .i64 (v : Int), .int .i64 (u : Int)] w fun e w' => ∃ r, e = .returned r ∧ NewInts w0.heap.size w' r ((lv ++ [(rv : Int)]).reverse ++ (lu ++ [(ru : Int)])) ∧ FAt w0 w' p g jp jg base N nv mv ve (addK (addK F (2 * (n : Int))) (((lv.length + lu.length + 1 : Nat) : Int))) := by
  have H1 := hide (fmeet_any h hm hml hv hu hM hB hk)
  have H2 := hide (fun w1 (h1 : FAt w0 w1 p g jp jg base N nv mv ve (addK F (2 * (n : Int)))) => fthrough_any h1 hm hml hv hu hrv hru hfv hfu (cv.addK _) (cu.addK _) hl (by show 0 ≤ F.k + _ ∧ F.k + _ ≤ _; omega))
  clear h hm hml hv hu hM hB hrv hru hfv hfu cv cu hl hk
  go_enter Try.func51, Try.ntmps51
  go_wp2_with fail
  refine (unhide H1).mono ?_
  rintro e w1 ⟨rfl, h1⟩
  have HT := hide (unhide H2 w1 h1)
  clear H1 H2 h1
  go_wp2_with fail
  refine (unhide HT).mono ?_
  rintro e w2 ⟨r, rfl, hi, h2⟩
  have HFIN := hide (And.intro hi h2)
  clear hi h2 HT
  go_wp2
  go_ret
  exact ⟨_, rfl, unhide HFIN⟩
set_option maxRecDepth 20000 in
set_option maxHeartbeats 8000000 in
theorem fclose_ring (h : FAt w0 w p g jp jg base N nv mv ve F) (hm : IntsAt w0 mv m) (hml : m.length = N) {v u top n n1 n2 : Nat} (hv : v < N) (hu : u < N) (htop : top < N) (hM : Meets N m F (F.B v) (F.B u) (top : Int) n) (hB : ∀ x, x < N → F.B x < N) (hD1 : Draws N m v u top n1 (addK F (2 * (n : Int))) (F.B v) F1) (hD2 : Draws N m u v top n2 F1 (F1.B u) F2) (hk : 0 ≤ F.k ∧ F.k + 2 * (n : Int) + 2 * (n1 : Int) + 2 * (n2 : Int) ≤ 1000000000) (hq : F.q.length + n1 ≤ 1000000 ∧ F1.q.length + n2 ≤ 1000000) :
    Calls Try.prog 51 #[.pointer (some ⟨p, 0, none⟩), .int .i64 (v : Int), .int .i64 (u : Int)] w fun e w' => e = .returned (.slice none 0 0) ∧ ∃ ve', FAt w0 w' p g jp jg base N nv mv ve' F2 := by
  have hk1 : F1.k = F.k + 2 * (n : Int) + 2 * (n1 : Int) := hD1.k
  have H1 := hide (fmeet_any h hm hml hv hu hM hB (by omega))
  have H2 := hide (fun w1 (h1 : FAt w0 w1 p g jp jg base N nv mv ve (addK F (2 * (n : Int)))) => fdraw_any h1 hm hml hv htop hD1 (by show 0 ≤ F.k + _ ∧ F.k + _ + _ ≤ _; omega) (show F.q.length + n1 ≤ 1000000 by omega))
  have H3 := hide (fun w1 ve1 (h1 : FAt w0 w1 p g jp jg base N nv mv ve1 F1) => fdraw_any h1 hm hml hu htop hD2 (by omega) (by omega))
  have hne : ((top : Int) == -1) = false := by simp
  clear h hm hml hv hu htop hM hB hD1 hD2 hk hq hk1
  go_enter Try.func51, Try.ntmps51
  go_wp2_with fail
  refine (unhide H1).mono ?_
  rintro e w1 ⟨rfl, h1⟩
  have HT := hide (unhide H2 w1 h1)
  clear H1 H2 h1
  go_wp2_with fail
  refine (unhide HT).mono ?_
  rintro e w2 ⟨rfl, ve1, h2⟩
  have HU := hide (unhide H3 w2 ve1 h2)
  clear H3 h2 HT
  go_wp2_with fail
  refine (unhide HU).mono ?_
  rintro e w3 ⟨rfl, ve2, h3⟩
  have HFIN := hide h3
  clear h3 HU
  go_wp2
  go_ret
  exact ⟨rfl, _, unhide HFIN⟩
set_option maxRecDepth 20000 in
set_option maxHeartbeats 8000000 in
theorem ftake_odd (h : FAt w0 w p g jp jg base N nv mv ve F) {v u : Nat} (hu : u < N) (hl : F.lab u = 2) (hk : 0 ≤ F.k ∧ F.k ≤ 1000000000) :
    Calls Try.prog 35 #[.pointer (some ⟨p, 0, none⟩), .int .i64 (v : Int), .int .i64 (u : Int)] w fun e w' => e = .returned (.slice none 0 0) ∧ FAt w0 w' p g jp jg base N nv mv ve (addK F 1) := by
  have c6 := h.c6
  have f6 := h.fr 6
  have h1 := h.setK (F.k + 1)
  have c2 := h1.c2
  have l0 := h1.nodes.lab u hu
  rw [show ({ F with k := F.k + 1 } : FS).lab u = 2 from hl] at l0
  have k0 := hk.1
  have k1 := hk.2
  have u0 : (0 : Int) ≤ (u : Int) := by omega
  have u1 : (u : Int) < (N : Int) := by omega
  have HF := hide (show FAt w0 _ p g jp jg base N nv mv ve (addK F 1) from h1)
  clear h h1 hl hk hu
  generalize F.k = kk at *
  generalize hw1 : w.setCell ⟨p, 6, none⟩ (.int .i64 (kk + 1)) = w1 at *
  go_enter Try.func35, Try.ntmps35
  go_wp2
  go_ret
  exact ⟨rfl, unhide HF⟩
set_option maxRecDepth 20000 in
set_option maxHeartbeats 8000000 in
theorem ftake_out (h : FAt w0 w p g jp jg base N nv mv ve F) (hm : IntsAt w0 mv m) (hml : m.length = N) {v u z : Nat} (hv : v < N) (hu : u < N) (hz : m.getD u 0 = (z : Int)) (hzN : z < N) (hd : 0 ≤ F.dep v ∧ F.dep v ≤ 1000000) (hq : F.q.length ≤ 1000000) (hl : F.lab u = 0) (hk : 0 ≤ F.k ∧ F.k ≤ 1000000000) :
    Calls Try.prog 35 #[.pointer (some ⟨p, 0, none⟩), .int .i64 (v : Int), .int .i64 (u : Int)] w fun e w' => e = .returned (.slice none 0 0) ∧ ∃ ve', FAt w0 w' p g jp jg base N nv mv ve' (growS (addK F 1) v u z) := by
  have c6 := h.c6
  have f6 := h.fr 6
  have h1 := h.setK (F.k + 1)
  have c2 := h1.c2
  have l0 := h1.nodes.lab u hu
  rw [show ({ F with k := F.k + 1 } : FS).lab u = 0 from hl] at l0
  have k0 := hk.1
  have k1 := hk.2
  have u0 : (0 : Int) ≤ (u : Int) := by omega
  have u1 : (u : Int) < (N : Int) := by omega
  have HF := hide (fgrow_any (F := addK F 1) h1 hm hml hv hu hz hzN hd hq)
  clear h h1 hl hk hu hm hml hv hz hzN hd hq
  generalize growS (addK F 1) v u z = FG at *
  generalize F.k = kk at *
  generalize hw1 : w.setCell ⟨p, 6, none⟩ (.int .i64 (kk + 1)) = w1 at *
  go_enter Try.func35, Try.ntmps35
  go_wp2_with fail
  refine (unhide HF).mono ?_
  rintro e w2 ⟨rfl, ve', h2⟩
  have HFIN := hide h2
  clear h2 HF
  go_wp2
  go_ret
  exact ⟨rfl, _, unhide HFIN⟩
set_option maxRecDepth 20000 in
set_option maxHeartbeats 8000000 in
theorem ftake_ring (h : FAt w0 w p g jp jg base N nv mv ve F) (hm : IntsAt w0 mv m) (hml : m.length = N) {v u top n n1 n2 : Nat} (hv : v < N) (hu : u < N) (htop : top < N) (hM : Meets N m (addK F 1) (F.B v) (F.B u) (top : Int) n) (hB : ∀ x, x < N → F.B x < N) (hD1 : Draws N m v u top n1 (addK (addK F 1) (2 * (n : Int))) (F.B v) F1) (hD2 : Draws N m u v top n2 F1 (F1.B u) F2) (hk : 0 ≤ F.k ∧ F.k + 1 + 2 * (n : Int) + 2 * (n1 : Int) + 2 * (n2 : Int) ≤ 1000000000) (hq : F.q.length + n1 ≤ 1000000 ∧ F1.q.length + n2 ≤ 1000000) (hl : F.lab u = 1) :
    Calls Try.prog 35 #[.pointer (some ⟨p, 0, none⟩), .int .i64 (v : Int), .int .i64 (u : Int)] w fun e w' => e = .returned (.slice none 0 0) ∧ ∃ ve', FAt w0 w' p g jp jg base N nv mv ve' F2 := by
  have c6 := h.c6
  have f6 := h.fr 6
  have h1 := h.setK (F.k + 1)
  have c2 := h1.c2
  have l0 := h1.nodes.lab u hu
  rw [show ({ F with k := F.k + 1 } : FS).lab u = 1 from hl] at l0
  have k0 := hk.1
  have k1 : F.k ≤ 1000000000 := by omega
  have u0 : (0 : Int) ≤ (u : Int) := by omega
  have u1 : (u : Int) < (N : Int) := by omega
  have HF := hide (fclose_ring (F := addK F 1) h1 hm hml hv hu htop hM hB hD1 hD2 (by show 0 ≤ F.k + 1 ∧ F.k + 1 + _ + _ + _ ≤ _; omega) hq)
  clear h h1 hl hk hu hm hml hv htop hM hB hD1 hD2 hq
  generalize F.k = kk at *
  generalize hw1 : w.setCell ⟨p, 6, none⟩ (.int .i64 (kk + 1)) = w1 at *
  go_enter Try.func35, Try.ntmps35
  go_wp2_with fail
  refine (unhide HF).mono ?_
  rintro e w2 ⟨rfl, ve', h2⟩
  have HFIN := hide h2
  clear h2 HF
  go_wp2
  go_ret
  exact ⟨rfl, _, unhide HFIN⟩
set_option maxRecDepth 20000 in
set_option maxHeartbeats 8000000 in
theorem ftake_path (h : FAt w0 w p g jp jg base N nv mv ve F) (hm : IntsAt w0 mv m) (hml : m.length = N) {v u rv ru n : Nat} {lv lu : List Int} (hv : v < N) (hu : u < N) (hM : Meets N m (addK F 1) (F.B v) (F.B u) (-1) n) (hB : ∀ x, x < N → F.B x < N) (hrv : rv < N) (hru : ru < N) (hfv : m.getD rv 0 = -1) (hfu : m.getD ru 0 = -1) (cv : Clm N m (addK F 1) v rv lv) (cu : Clm N m (addK F 1) u ru lu) (hll : lv.length + lu.length ≤ 900000) (hk : 0 ≤ F.k ∧ F.k + 1 + 2 * (n : Int) ≤ 1000000000) (hl : F.lab u = 1) :
    Calls Try.prog 35 #[.pointer (some ⟨p, 0, none⟩), .int .i64 (v : Int), .int .i64 (u : Int)] w fun e w' => ∃ r, e = .returned r ∧ NewInts w0.heap.size w' r ((lv ++ [(rv : Int)]).reverse ++ (lu ++ [(ru : Int)])) ∧ FAt w0 w' p g jp jg base N nv mv ve (addK (addK (addK F 1) (2 * (n : Int))) (((lv.length + lu.length + 1 : Nat) : Int))) := by
  have c6 := h.c6
  have f6 := h.fr 6
  have h1 := h.setK (F.k + 1)
  have c2 := h1.c2
  have l0 := h1.nodes.lab u hu
  rw [show ({ F with k := F.k + 1 } : FS).lab u = 1 from hl] at l0
  have k0 := hk.1
  have k1 : F.k ≤ 1000000000 := by omega
  have u0 : (0 : Int) ≤ (u : Int) := by omega
  have u1 : (u : Int) < (N : Int) := by omega
  have HF := hide (fclose_path (F := addK F 1) h1 hm hml hv hu hM hB hrv hru hfv hfu cv cu hll (by show 0 ≤ F.k + 1 ∧ F.k + 1 + _ ≤ _; omega))
  clear h h1 hl hk hu hm hml hv hM hB hrv hru hfv hfu cv cu hll
  generalize (lv ++ [(rv : Int)]).reverse ++ (lu ++ [(ru : Int)]) = PP at *
  generalize addK (addK (addK F 1) (2 * (n : Int))) (((lv.length + lu.length + 1 : Nat) : Int)) = FG at *
  generalize F.k = kk at *
  generalize hw1 : w.setCell ⟨p, 6, none⟩ (.int .i64 (kk + 1)) = w1 at *
  go_enter Try.func35, Try.ntmps35
  go_wp2_with fail
  refine (unhide HF).mono ?_
  rintro e w2 ⟨r, rfl, hi, h2⟩
  have HFIN := hide (And.intro hi h2)
  clear h2 hi HF
  go_wp2
  go_ret
  exact ⟨_, rfl, unhide HFIN⟩
end
end Go.Proofs.Ytfilhbkenedchab

namespace Go.Proofs.Ytfilhbkenedchab
open Go.RowKit

/-- The degrees of the first k vertices, together. -/
def degSum (es : List E) : Nat → Nat
  | 0 => 0
  | k + 1 => degSum es k + (nearL (k : Int) es).length
theorem degSum_nil : ∀ k, degSum [] k = 0
  | 0 => rfl
  | k + 1 => by rw [degSum, degSum_nil k]; rfl
def degOne (e : E) : Nat → Nat
  | 0 => 0
  | k + 1 => degOne e k + (nearE (k : Int) e).length
theorem degSum_cons (e : E) (r : List E) : ∀ k, degSum (e :: r) k = degOne e k + degSum r k
  | 0 => rfl
  | k + 1 => by
    rw [degSum, degSum_cons e r k, degOne, degSum]
    unfold nearL
    rw [List.flatMap_cons, List.length_append]
    omega
theorem degOne_is {e : E} (h0 : 0 ≤ e.1) (h1 : e.1 < e.2) : ∀ k : Nat, degOne e k = (if e.1 < (k : Int) then 1 else 0) + (if e.2 < (k : Int) then 1 else 0)
  | 0 => by rw [degOne, if_neg (by omega), if_neg (by omega)]
  | k + 1 => by
    rw [degOne, degOne_is h0 h1 k]
    unfold nearE
    by_cases c1 : (k : Int) = e.1
    · rw [if_pos c1, if_neg (by omega), if_neg (by omega), if_pos (by omega), if_neg (by omega)]; rfl
    · rw [if_neg c1]
      by_cases c2 : (k : Int) = e.2
      · rw [if_pos c2, if_pos (by omega), if_neg (by omega), if_pos (by omega), if_pos (by omega)]; rfl
      · rw [if_neg c2]
        by_cases c3 : e.1 < (k : Int)
        · rw [if_pos c3, if_pos (by omega : e.1 < ((k + 1 : Nat) : Int))]
          by_cases c4 : e.2 < (k : Int)
          · rw [if_pos c4, if_pos (by omega : e.2 < ((k + 1 : Nat) : Int))]; rfl
          · rw [if_neg c4, if_neg (by omega : ¬ e.2 < ((k + 1 : Nat) : Int))]; rfl
        · rw [if_neg c3, if_neg (by omega : ¬ e.1 < ((k + 1 : Nat) : Int)), if_neg (by omega : ¬ e.2 < (k : Int)), if_neg (by omega : ¬ e.2 < ((k + 1 : Nat) : Int))]; rfl
theorem degSum_all {k : Nat} : ∀ {es : List E}, (∀ e ∈ es, okE (k : Int) e = true) → degSum es k = 2 * es.length
  | [], _ => degSum_nil k
  | e :: r, h => by
    have o := okE_iff.1 (h e (by simp))
    rw [degSum_cons, degSum_all (fun f hf => h f (by simp [hf])), degOne_is o.1 o.2.1, if_pos (by omega), if_pos (by omega), List.length_cons]
    omega
end Go.Proofs.Ytfilhbkenedchab

namespace Go.Proofs.Ytfilhbkenedchab

theorem free_put {N : Nat} {ms : List Int} {i j : Nat} (hl : ms.length = N) (hi : i < N) (hj : j < N) (hij : i ≠ j) (h0 : ms.getD i 0 = -1) (h1 : ms.getD j 0 = -1) : (freesM (putM ms (i : Int) (j : Int)) N).length + 2 ≤ (freesM ms N).length := by
  have hi' : (i : Int) ∈ freesM ms N := mem_freesM.2 ⟨i, hi, h0, rfl⟩
  have hj' : (j : Int) ∈ (freesM ms N).erase (i : Int) := (List.mem_erase_of_ne (by omega)).2 (mem_freesM.2 ⟨j, hj, h1, rfl⟩)
  have key := (freesM_nodup (putM ms (i : Int) (j : Int)) N).length_le_of_subset (l₂ := ((freesM ms N).erase (i : Int)).erase (j : Int)) (fun x hx => by
    obtain ⟨v, hv, hf, rfl⟩ := mem_freesM.1 hx
    rw [getD_put (by omega) (by omega)] at hf
    by_cases e1 : v = j
    · rw [if_pos e1] at hf; omega
    · rw [if_neg e1] at hf
      by_cases e2 : v = i
      · rw [if_pos e2] at hf; omega
      · rw [if_neg e2] at hf
        exact (List.mem_erase_of_ne (by omega)).2 ((List.mem_erase_of_ne (by omega)).2 (mem_freesM.2 ⟨v, hv, hf, rfl⟩)))
  rw [List.length_erase_of_mem hj', List.length_erase_of_mem hi'] at key
  have := List.length_pos_of_mem hi'
  have := List.length_pos_of_mem hj'
  rw [List.length_erase_of_mem hi'] at this
  omega
/-- Edges of which no two touch are a list of mates. -/
theorem mate_of_edges {N : Nat} {es : List E} (hr : rightB (N : Int) es = true) {S : Nat → Bool} : ∀ {M : List E}, MatIn es S M → ∃ y, mateB (N : Int) es y = true ∧ (∀ v : Nat, v < N → (∀ e ∈ M, e.1 ≠ (v : Int) ∧ e.2 ≠ (v : Int)) → y.getD v 0 = -1) ∧ (freesM y N).length + 2 * M.length ≤ N
  | [], _ => by
    have hg : ∀ v, v < N → (List.replicate N (-1 : Int)).getD v 0 = -1 := fun v hv => by simp [List.getD, hv]
    refine ⟨List.replicate N (-1), mate_of hr (by simp) (fun v hv => well_iff.2 (Or.inl (hg v (by simpa using hv)))), fun v hv _ => hg v hv, by have := freesM_len (List.replicate N (-1 : Int)) N; simpa using this⟩
  | e :: M, h => by
    obtain ⟨y, h1, h2, h3⟩ := mate_of_edges hr (M := M) ⟨fun f hf => h.mem f (List.mem_cons_of_mem _ hf), (List.pairwise_cons.1 h.apart).2⟩
    have hok := (right_rise hr).2.2.2.2
    have ho := okE_iff.1 (hok e (h.mem e (by simp)).1)
    have hap := (List.pairwise_cons.1 h.apart).1
    obtain ⟨x, z⟩ := e
    simp only at ho hap
    obtain ⟨a, rfl⟩ : ∃ a : Nat, x = (a : Int) := ⟨x.toNat, by omega⟩
    obtain ⟨b, rfl⟩ : ∃ b : Nat, z = (b : Int) := ⟨z.toNat, by omega⟩
    have ha : a < N := by omega
    have hb : b < N := by omega
    have hyl : y.length = N := by have := (mateB_iff.1 h1).2.1; omega
    have fa := h2 a ha (fun f hf => by have := hap f hf; exact ⟨fun e => this.1 e.symm, fun e => this.2.1 e.symm⟩)
    have fb := h2 b hb (fun f hf => by have := hap f hf; exact ⟨fun e => this.2.2.1 e.symm, fun e => this.2.2.2 e.symm⟩)
    have ht : trn (a : Int) (b : Int) ∈ es := by
      unfold trn
      rw [Int.min_eq_left (by omega), Int.max_eq_right (by omega)]
      exact (h.mem _ (by simp)).1
    have hw := put_well hok (fun v hv => (mateB_iff.1 h1).2.2 v hv) (i := a) (j := b) (by omega) (by omega) ht (by omega) (by omega)
    refine ⟨putM y (a : Int) (b : Int), mate_of hr (by rw [putM_len]; omega) (fun v hv => hw v (by rw [putM_len] at hv; exact hv)), fun v hv hno => ?_, ?_⟩
    · rw [getD_put (by omega) (by omega)]
      have h0 := hno _ (List.mem_cons_self ..)
      simp only at h0
      rw [if_neg (by omega), if_neg (by omega)]
      exact h2 v hv (fun f hf => hno f (List.mem_cons_of_mem _ hf))
    · have := free_put hyl ha hb (by omega) fa fb
      rw [List.length_cons]
      omega
/-- The edges of a matching touch nowhere. -/
theorem edges_apart {N : Nat} {es : List E} {m : List Int} (h : mateB (N : Int) es m = true) : MatIn es (fun _ => true) (edgesM m m.length) := by
  obtain ⟨hr, hl, hw⟩ := mateB_iff.1 h
  have hok := (right_rise hr).2.2.2.2
  have key : ∀ k, k ≤ m.length → (∀ e ∈ edgesM m k, ∃ v w : Nat, e = ((v : Int), (w : Int)) ∧ v < k ∧ v < w ∧ w < m.length ∧ m.getD v 0 = (w : Int) ∧ m.getD w 0 = (v : Int)) ∧ (edgesM m k).Pairwise (fun e f => e.1 ≠ f.1 ∧ e.1 ≠ f.2 ∧ e.2 ≠ f.1 ∧ e.2 ≠ f.2) := fun k => by
    induction k with
    | zero => intro _; exact ⟨by simp [edgesM], by simp [edgesM]⟩
    | succ k ih =>
      intro hk
      obtain ⟨i1, i2⟩ := ih (by omega)
      have i1' : ∀ e ∈ edgesM m k, ∃ v w : Nat, e = ((v : Int), (w : Int)) ∧ v < k + 1 ∧ v < w ∧ w < m.length ∧ m.getD v 0 = (w : Int) ∧ m.getD w 0 = (v : Int) := fun e he => by
        obtain ⟨v, w, a, b, c⟩ := i1 e he
        exact ⟨v, w, a, by omega, c⟩
      by_cases hp : pairAt m k = true
      · obtain ⟨p1, p2, p3⟩ := pairAt_iff.1 hp
        obtain ⟨j, hj⟩ : ∃ j : Nat, m.getD k 0 = (j : Int) := ⟨(m.getD k 0).toNat, by omega⟩
        rw [hj, Int.toNat_natCast] at p3
        have e0 : edgesM m (k + 1) = edgesM m k ++ [((k : Int), (j : Int))] := by rw [edgesM, if_pos hp, hj]
        rw [e0]
        refine ⟨fun e he => ?_, ?_⟩
        · rcases List.mem_append.1 he with he | he
          · exact i1' e he
          · simp at he
            exact ⟨k, j, he, by omega, by omega, by omega, hj, p3⟩
        · rw [List.pairwise_append]
          refine ⟨i2, by simp, fun e he f hf => ?_⟩
          simp at hf
          subst hf
          obtain ⟨v, w, rfl, h1, h2, h3, h4, h5⟩ := i1 e he
          simp only
          refine ⟨by omega, fun e => ?_, fun e => ?_, fun e => ?_⟩
          · have : v = j := by omega
            subst this
            rw [p3] at h4
            omega
          · have : w = k := by omega
            subst this
            rw [hj] at h5
            omega
          · have : w = j := by omega
            subst this
            rw [p3] at h5
            omega
      · have e0 : edgesM m (k + 1) = edgesM m k := by rw [edgesM, if_neg hp]; simp
        rw [e0]
        exact ⟨i1', i2⟩
  obtain ⟨k1, k2⟩ := key m.length (Nat.le_refl _)
  refine ⟨fun e he => ?_, k2⟩
  obtain ⟨v, w, rfl, h1, h2, h3, h4, h5⟩ := k1 e he
  refine ⟨?_, rfl, rfl⟩
  rcases well_iff.1 (hw v h1) with c | ⟨c, _⟩
  · omega
  · rw [h4] at c
    unfold trn at c
    rwa [Int.min_eq_left (by omega), Int.max_eq_right (by omega)] at c
/-- What is flipped along a path that augments is a matching, with one edge more. -/
theorem Aug.flipped {N : Nat} {es : List E} {m p : List Int} (h : Aug (N : Int) es m p) : mateB (N : Int) es (flipM m p (p.length / 2)) = true ∧ (freesM (flipM m p (p.length / 2)) N).length + 2 = (freesM m N).length := by
  have hev := h.even
  have h2 := h.two
  obtain ⟨hr, hl, hw⟩ := mateB_iff.1 h.mate
  have hok := (right_rise hr).2.2.2.2
  obtain ⟨f1, f2⟩ := h.flip_at (p.length / 2) (by omega)
  rw [show 2 * (p.length / 2) = p.length by omega] at f1 f2
  rw [List.take_length] at f2
  have hml : m.length = N := by omega
  have hfl : (flipM m p (p.length / 2)).length = N := by rw [flipM_len]; exact hml
  have hbr : ∀ i, i < p.length → (if i % 2 = 0 then i + 1 else i - 1) < p.length := fun i hi => by split <;> omega
  have hpos : ∀ x : Int, x ∈ p → ∃ i, i < p.length ∧ p.getD i 0 = x := fun x hx => by
    obtain ⟨i, hi, e⟩ := List.getElem_of_mem hx
    exact ⟨i, hi, by rw [getD_elem hi]; exact e⟩
  have hinp : ∀ i, i < p.length → p.getD i 0 ∈ p := fun i hi => getD_mem hi
  have hadj2 : ∀ i, i < p.length → trn (p.getD i 0) (p.getD (if i % 2 = 0 then i + 1 else i - 1) 0) ∈ es := fun i hi => by
    by_cases c : i % 2 = 0
    · rw [if_pos c]; exact h.adj i (by omega)
    · rw [if_neg c]
      have := h.adj (i - 1) (by omega)
      rw [show i - 1 + 1 = i by omega] at this
      rw [trn_comm]; exact this
  refine ⟨mate_of hr (by omega) (fun v hv => ?_), ?_⟩
  · rw [hfl] at hv
    by_cases c : (v : Int) ∈ p
    · obtain ⟨i, hi, e⟩ := hpos _ c
      have g := f1 i hi
      rw [e, Int.toNat_natCast] at g
      refine well_iff.2 (Or.inr ?_)
      rw [g]
      refine ⟨by have := hadj2 i hi; rwa [e] at this, ?_⟩
      rw [f1 _ (hbr i hi), ← e]
      congr 1
      split <;> (split <;> omega)
    · have g := f2 v c
      rcases well_iff.1 (hw v (by omega)) with k | ⟨k1, k2⟩
      · exact well_iff.2 (Or.inl (by rw [g]; exact k))
      · refine well_iff.2 (Or.inr ?_)
        rw [g]
        refine ⟨k1, ?_⟩
        have hb := trn_in hok k1
        obtain ⟨w, hw2⟩ : ∃ w : Nat, m.getD v 0 = (w : Int) := ⟨(m.getD v 0).toNat, by omega⟩
        rw [hw2, Int.toNat_natCast] at k2 ⊢
        rw [f2 w (fun hm => ?_)]
        · exact k2
        · obtain ⟨i, hi, e⟩ := hpos _ hm
          have ew : m.getD (p.getD i 0).toNat 0 = (v : Int) := by rw [e, Int.toNat_natCast]; exact k2
          by_cases c0 : i = 0
          · subst c0; rw [h.first] at ew; omega
          · by_cases c1 : i = p.length - 1
            · subst c1; rw [h.last] at ew; omega
            · by_cases c3 : i % 2 = 1
              · have := (h.turns i (by omega)).2 c3
                rw [this] at ew
                exact c (by rw [← ew]; exact hinp _ (by omega))
              · have ht := (h.turns (i - 1) (by omega)).2 (by omega)
                rw [show i - 1 + 1 = i by omega] at ht
                have ha := h.at' (i - 1) (by omega)
                rcases well_iff.1 (hw (p.getD (i - 1) 0).toNat (by omega)) with q | ⟨_, q⟩
                · rw [q] at ht; have := h.at' i hi; omega
                · rw [ht, ew] at q
                  exact c (by rw [q, show (((p.getD (i - 1) 0).toNat : Nat) : Int) = p.getD (i - 1) 0 by omega]; exact hinp _ (by omega))
  · have a0 := h.at' 0 (by omega)
    have aL := h.at' (p.length - 1) (by omega)
    have hne : p.getD 0 0 ≠ p.getD (p.length - 1) 0 := fun e => by
      have := h.inj (i := 0) (j := p.length - 1) (by omega) (by omega) e
      omega
    have m0 : p.getD 0 0 ∈ freesM m N := mem_freesM.2 ⟨_, by omega, h.first, by omega⟩
    have mL : p.getD (p.length - 1) 0 ∈ (freesM m N).erase (p.getD 0 0) := (List.mem_erase_of_ne (fun e => hne e.symm)).2 (mem_freesM.2 ⟨_, by omega, h.last, by omega⟩)
    have hfree : ∀ v : Nat, v < N → ((flipM m p (p.length / 2)).getD v 0 = -1 ↔ (v : Int) ∉ p ∧ m.getD v 0 = -1) := fun v hv => by
      constructor
      · intro e
        have hvp : (v : Int) ∉ p := fun hm => by
          obtain ⟨i, hi, e2⟩ := hpos _ hm
          have g := f1 i hi
          rw [e2, Int.toNat_natCast, e] at g
          have := h.at' _ (hbr i hi)
          omega
        exact ⟨hvp, by rw [← f2 v hvp]; exact e⟩
      · rintro ⟨h1, h3⟩
        rw [f2 v h1]; exact h3
    have hends : ∀ v : Nat, (v : Int) ∈ p → m.getD v 0 = -1 → (v : Int) = p.getD 0 0 ∨ (v : Int) = p.getD (p.length - 1) 0 := fun v hm h0 => by
      obtain ⟨i, hi, e⟩ := hpos _ hm
      have ew : m.getD (p.getD i 0).toNat 0 = -1 := by rw [e, Int.toNat_natCast]; exact h0
      by_cases c0 : i = 0
      · subst c0; exact Or.inl e.symm
      · by_cases c1 : i = p.length - 1
        · subst c1; exact Or.inr e.symm
        · by_cases c3 : i % 2 = 1
          · have ht := (h.turns i (by omega)).2 c3
            have := h.at' (i + 1) (by omega)
            omega
          · have ht := (h.turns (i - 1) (by omega)).2 (by omega)
            rw [show i - 1 + 1 = i by omega] at ht
            have ha := h.at' (i - 1) (by omega)
            have hb := h.at' i hi
            rcases well_iff.1 (hw (p.getD (i - 1) 0).toNat (by omega)) with q | ⟨_, q⟩
            · omega
            · rw [ht] at q; omega
    have k1 := (freesM_nodup (flipM m p (p.length / 2)) N).length_le_of_subset (l₂ := ((freesM m N).erase (p.getD 0 0)).erase (p.getD (p.length - 1) 0)) (fun x hx => by
      obtain ⟨v, hv, hf, rfl⟩ := mem_freesM.1 hx
      obtain ⟨g1, g2⟩ := (hfree v hv).1 hf
      exact (List.mem_erase_of_ne (fun e => g1 (by rw [e]; exact hinp _ (by omega)))).2 ((List.mem_erase_of_ne (fun e => g1 (by rw [e]; exact hinp _ (by omega)))).2 (mem_freesM.2 ⟨v, hv, g2, rfl⟩)))
    have k2 := (List.Nodup.erase (p.getD (p.length - 1) 0) ((freesM_nodup m N).erase (p.getD 0 0))).length_le_of_subset (l₂ := freesM (flipM m p (p.length / 2)) N) (fun x hx => by
      have hx1 := List.mem_of_mem_erase hx
      have hx2 := List.mem_of_mem_erase hx1
      have n1 : x ≠ p.getD (p.length - 1) 0 := fun e => by rw [e] at hx; exact (List.Nodup.not_mem_erase ((freesM_nodup m N).erase _)) hx
      have n0 : x ≠ p.getD 0 0 := fun e => by rw [e] at hx1; exact (List.Nodup.not_mem_erase (freesM_nodup m N)) hx1
      obtain ⟨v, hv, hf, rfl⟩ := mem_freesM.1 hx2
      refine mem_freesM.2 ⟨v, hv, (hfree v hv).2 ⟨fun hm => ?_, hf⟩, rfl⟩
      rcases hends v hm hf with e | e
      · exact n0 e
      · exact n1 e)
    rw [List.length_erase_of_mem mL, List.length_erase_of_mem m0] at k1 k2
    have := List.length_pos_of_mem m0
    have := List.length_pos_of_mem mL
    rw [List.length_erase_of_mem m0] at this
    omega
/-- So many edges a largest one has: told by a matching than which none is larger. -/
theorem nu_mate {N : Nat} {es : List E} {m : List Int} (h : mateB (N : Int) es m = true) (hmax : ∀ y, mateB (N : Int) es y = true → (edgesM y y.length).length ≤ (edgesM m m.length).length) {t : Nat} (h1 : ∃ M S, MatIn es S M ∧ M.length = t) (h2 : ∀ S M, MatIn es S M → M.length ≤ t) : (edgesM m m.length).length = t := by
  have a := h2 _ _ (edges_apart h)
  obtain ⟨M, S, hM, rfl⟩ := h1
  obtain ⟨y, hy, _, hf⟩ := mate_of_edges (mateB_iff.1 h).1 hM
  have hyl : y.length = N := by have := (mateB_iff.1 hy).2.1; omega
  have b := hmax y hy
  have c := (mate_back hy).2
  rw [hyl] at b c
  omega
end Go.Proofs.Ytfilhbkenedchab

namespace Go.Proofs.Ytfilhbkenedchab

def pathErr (n : Int) (es : List E) (m : List Int) : Int := if rightB n es = false then 3 else if mateB n es m = false then 9 else 0
/-- A matching than which none is larger. -/
def NoLarger (n : Int) (es : List E) (m : List Int) : Prop := mateB n es m = true ∧ ∀ y, mateB n es y = true → (edgesM y y.length).length ≤ (edgesM m m.length).length
/-- What Path tells: nothing beside an error; a path that augments; or labels. -/
def PathPost (n : Int) (es : List E) (m p l : List Int) : Prop := (pathErr n es m ≠ 0 → p = [] ∧ l = []) ∧ (pathErr n es m = 0 → (Aug n es m p ∧ l = []) ∨ (p = [] ∧ LabIs n.toNat es m l ∧ ∃ ev od B, Spent n.toNat es m ev od B ∧ ∀ v, v < n.toNat → l.getD v 0 = if ev v = true then 1 else if od v = true then 2 else 0))
/-- What Largest tells. -/
def BigPost (n : Int) (es : List E) (m : List Int) (r k : Int) : Prop := (rightB n es = false → m = [] ∧ r = 0 ∧ k = 0) ∧ (rightB n es = true → NoLarger n es m ∧ 0 ≤ r ∧ r ≤ n + 1 ∧ 0 ≤ k ∧ k ≤ 8 * (es.length : Int))
theorem pathErr_ok {n : Int} {es : List E} {m : List Int} (h : mateB n es m = true) : pathErr n es m = 0 := by
  unfold pathErr
  rw [(mateB_iff.1 h).1, h]; rfl
theorem Aug.size {N : Nat} {es : List E} {m p : List Int} (h : Aug (N : Int) es m p) : ∃ y, mateB (N : Int) es y = true ∧ (edgesM y y.length).length = (edgesM m m.length).length + 1 := by
  obtain ⟨h1, h2⟩ := h.flipped
  refine ⟨_, h1, ?_⟩
  have hl : (flipM m p (p.length / 2)).length = N := by have := (mateB_iff.1 h1).2.1; omega
  have hl2 : m.length = N := by have := (mateB_iff.1 h.mate).2.1; omega
  have a := (mate_back h1).2
  have b := (mate_back h.mate).2
  rw [hl] at a ⊢
  rw [hl2] at b ⊢
  omega
theorem nodupN_le {p : List Int} {N : Nat} (h : p.Nodup) (hb : ∀ x ∈ p, 0 ≤ x ∧ x < (N : Int)) : p.length ≤ N := by
  have := h.length_le_of_subset (l₂ := (List.range N).map Int.ofNat) (fun x hx => by
    have := hb x hx
    exact List.mem_map.2 ⟨x.toNat, List.mem_range.2 (by omega), by simp; omega⟩)
  simpa using this
theorem Aug.len {N : Nat} {es : List E} {m p : List Int} (h : Aug (N : Int) es m p) : p.length ≤ N := by
  refine nodupN_le (N := N) ?_ (fun x hx => ?_)
  · refine List.pairwise_iff_getElem.2 (fun i j hi hj hij e => ?_)
    have := h.inj (i := i) (j := j) hi hj (by rw [getD_elem hi, getD_elem hj]; exact e)
    omega
  · obtain ⟨i, hi, rfl⟩ := List.getElem_of_mem hx
    rw [← getD_elem hi]; exact h.at' i hi
theorem Spent.noLarger {N : Nat} {es : List E} {m : List Int} {ev od : Nat → Bool} {B : Nat → Nat} (h : Spent N es m ev od B) : NoLarger (N : Int) es m := ⟨h.mt, fun _ hy => h.largest hy⟩
/-- A path that augments, if it is not a largest one; else labels. -/
theorem PathPost.small {N : Nat} {es : List E} {m p l : List Int} (h : PathPost (N : Int) es m p l) (hm : mateB (N : Int) es m = true) {t : Nat} (h1 : ∃ M S, MatIn es S M ∧ M.length = t) (h2 : ∀ S M, MatIn es S M → M.length ≤ t) :
    ((edgesM m m.length).length < t → Aug (N : Int) es m p ∧ l = []) ∧ (¬ (edgesM m m.length).length < t → p = [] ∧ LabIs N es m l) := by
  rcases h.2 (pathErr_ok hm) with ⟨ha, hl⟩ | ⟨hp, hl, ev, od, B, hs, _⟩
  · obtain ⟨y, hy, hsz⟩ := ha.size
    have := h2 _ _ (edges_apart hy)
    exact ⟨fun _ => ⟨ha, hl⟩, fun c => absurd (by omega) c⟩
  · rw [Int.toNat_natCast] at hl hs
    have := nu_mate hs.mt (fun y hy => hs.largest hy) h1 h2
    exact ⟨fun c => by omega, fun _ => ⟨hp, hl⟩⟩
theorem PathPost.len {N : Nat} {es : List E} {m p l : List Int} (h : PathPost (N : Int) es m p l) : p.length ≤ N ∧ l.length ≤ N := by
  by_cases c : pathErr (N : Int) es m = 0
  · rcases h.2 c with ⟨ha, hl⟩ | ⟨hp, hl, _⟩
    · rw [hl]; exact ⟨ha.len, Nat.zero_le _⟩
    · rw [Int.toNat_natCast] at hl
      rw [hp]; exact ⟨Nat.zero_le _, by rw [hl.1]; exact Nat.le_refl _⟩
  · obtain ⟨a, b⟩ := h.1 c
    rw [a, b]; exact ⟨Nat.zero_le _, Nat.zero_le _⟩
/-- Of a largest one there is no path. -/
theorem PathPost.none {N : Nat} {es : List E} {m p l : List Int} (h : PathPost (N : Int) es m p l) (hm : NoLarger (N : Int) es m) : p = [] ∧ LabIs N es m l ∧ ∃ ev od B, Spent N es m ev od B ∧ ∀ v, v < N → l.getD v 0 = if ev v = true then 1 else if od v = true then 2 else 0 := by
  rcases h.2 (pathErr_ok hm.1) with ⟨ha, _⟩ | ⟨hp, hl, hs⟩
  · obtain ⟨y, hy, hsz⟩ := ha.size
    have := hm.2 y hy
    omega
  · rw [Int.toNat_natCast] at hl hs
    exact ⟨hp, hl, hs⟩
/-- What labels are like: who is free is Even; the mate of an Odd one is Even, of an Out one Out; an Even one is joined with no Out one. -/
structure LabF (N : Nat) (es : List E) (m l : List Int) : Prop where
  len : l.length = N
  free : ∀ v, v < N → m.getD v 0 = -1 → l.getD v 0 = 1
  three : ∀ v, v < N → l.getD v 0 = 0 ∨ l.getD v 0 = 1 ∨ l.getD v 0 = 2
  odd : ∀ v w : Nat, v < N → m.getD v 0 = (w : Int) → l.getD v 0 = 2 → l.getD w 0 = 1
  out : ∀ v w : Nat, v < N → m.getD v 0 = (w : Int) → l.getD v 0 = 0 → l.getD w 0 = 0
  edge : ∀ u w : Nat, u < N → w < N → trn (u : Int) (w : Int) ∈ es → l.getD u 0 = 1 → l.getD w 0 ≠ 0
theorem labF {N : Nat} {es : List E} {m l : List Int} {ev od : Nat → Bool} {B : Nat → Nat} (h : Spent N es m ev od B) (hlen : l.length = N) (hl : ∀ v, v < N → l.getD v 0 = if ev v = true then 1 else if od v = true then 2 else 0) : LabF N es m l := by
  have c1 : ∀ v, v < N → l.getD v 0 = 1 → ev v = true := fun v hv e => by
    rw [hl v hv] at e
    by_cases c : ev v = true
    · exact c
    · rw [if_neg c] at e; split at e <;> omega
  have c2 : ∀ v, v < N → l.getD v 0 = 2 → od v = true := fun v hv e => by
    rw [hl v hv] at e
    by_cases c : ev v = true
    · rw [if_pos c] at e; omega
    · rw [if_neg c] at e
      by_cases d : od v = true
      · exact d
      · rw [if_neg d] at e; omega
  have c0 : ∀ v, v < N → l.getD v 0 = 0 → ev v ≠ true ∧ od v ≠ true := fun v hv e => by
    rw [hl v hv] at e
    by_cases c : ev v = true
    · rw [if_pos c] at e; omega
    · rw [if_neg c] at e
      by_cases d : od v = true
      · rw [if_pos d] at e; omega
      · exact ⟨c, d⟩
  refine ⟨hlen, fun v hv e => by rw [hl v hv, if_pos (h.free v hv e).1], fun v hv => ?_, fun v w hv hm e => ?_, fun v w hv hm e => ?_, fun u w hu hw ht e e0 => ?_⟩
  · rw [hl v hv]
    by_cases c : ev v = true
    · rw [if_pos c]; exact Or.inr (Or.inl rfl)
    · rw [if_neg c]
      by_cases d : od v = true
      · rw [if_pos d]; exact Or.inr (Or.inr rfl)
      · rw [if_neg d]; exact Or.inl rfl
  · obtain ⟨w', a1, a2, _⟩ := mate_at h.mt hv (by omega)
    rw [hl w (by omega), if_pos (h.odd v w hv (c2 v hv e) hm).1]
  · obtain ⟨w', a1, a2, _, a3, _⟩ := mate_at h.mt hv (by omega)
    have : w' = w := by omega
    subst this
    obtain ⟨d1, d2⟩ := c0 v hv e
    have e1 : ev w' ≠ true := fun c => by
      by_cases d : B w' = w'
      · exact d2 (h.mbase w' v a2 c d a3)
      · exact d1 (h.within w' v a2 c d a3).1
    have e2 : od w' ≠ true := fun c => d1 (h.odd w' v a2 c a3).1
    rw [hl w' a2, if_neg e1, if_neg e2]
  · obtain ⟨d1, d2⟩ := c0 w hw e0
    have hu1 := c1 u hu e
    by_cases c : m.getD u 0 = (w : Int)
    · by_cases d : B u = u
      · exact d2 (h.mbase u w hu hu1 d c)
      · exact d1 (h.within u w hu hu1 d c).1
    · rcases h.edge u w hu hw hu1 ht c with k | ⟨k, _⟩
      · exact d2 k
      · exact d1 k
theorem PathPost.facts {N : Nat} {es : List E} {m p l : List Int} (h : PathPost (N : Int) es m p l) (hm : NoLarger (N : Int) es m) : p = [] ∧ LabF N es m l := by
  obtain ⟨h1, h2, ev, od, B, h3, h4⟩ := h.none hm
  exact ⟨h1, labF h3 h2.1 h4⟩
/-- What Flip tells of a path that augments. -/
theorem Aug.flip0 {N : Nat} {es : List E} {m p : List Int} (h : Aug (N : Int) es m p) : flipErr (N : Int) es m p = 0 ∧ flipL (N : Int) es m p = flipM m p (p.length / 2) := by
  have h0 : flipErr (N : Int) es m p = 0 := by
    unfold flipErr
    rw [(mateB_iff.1 h.mate).1, h.mate, aug_iff.2 h]; rfl
  exact ⟨h0, by unfold flipL; rw [if_pos h0]⟩
theorem Aug.flipL {N : Nat} {es : List E} {m p : List Int} (h : Aug (N : Int) es m p) : flipErr (N : Int) es m p = 0 ∧ mateB (N : Int) es (flipL (N : Int) es m p) = true ∧ (edgesM (Go.Proofs.Ytfilhbkenedchab.flipL (N : Int) es m p) (Go.Proofs.Ytfilhbkenedchab.flipL (N : Int) es m p).length).length = (edgesM m m.length).length + 1 := by
  have h0 : flipErr (N : Int) es m p = 0 := by
    unfold flipErr
    rw [(mateB_iff.1 h.mate).1, h.mate, aug_iff.2 h]; rfl
  have hl : Go.Proofs.Ytfilhbkenedchab.flipL (N : Int) es m p = flipM m p (p.length / 2) := by unfold Go.Proofs.Ytfilhbkenedchab.flipL; rw [if_pos h0]
  obtain ⟨h1, h2⟩ := h.flipped
  refine ⟨h0, by rw [hl]; exact h1, ?_⟩
  rw [hl]
  have hl1 : (flipM m p (p.length / 2)).length = N := by have := (mateB_iff.1 h1).2.1; omega
  have hl2 : m.length = N := by have := (mateB_iff.1 h.mate).2.1; omega
  have a := (mate_back h1).2
  have b := (mate_back h.mate).2
  rw [hl1] at a ⊢
  rw [hl2] at b ⊢
  omega
end Go.Proofs.Ytfilhbkenedchab

namespace Go.Proofs.Ytfilhbkenedchab

/-- The degrees of some, together. -/
def degL (es : List E) (l : List Int) : Nat := (l.map fun x => (nearL x es).length).sum
theorem degL_app (es : List E) (l k : List Int) : degL es (l ++ k) = degL es l + degL es k := by unfold degL; rw [List.map_append, List.sum_append]
theorem degL_one (es : List E) (x : Int) : degL es [x] = (nearL x es).length := by unfold degL; simp
theorem sum_perm {l k : List Nat} (h : l.Perm k) : l.sum = k.sum := by
  induction h with
  | nil => rfl
  | cons x _ ih => simp [ih]
  | swap x y l => simp only [List.sum_cons]; omega
  | trans _ _ ih1 ih2 => rw [ih1, ih2]
theorem degL_sub (es : List E) : ∀ (l r : List Int), l.Nodup → (∀ x ∈ l, x ∈ r) → degL es l ≤ degL es r
  | [], _, _, _ => by unfold degL; simp
  | a :: t, r, hn, hs => by
    have ha : a ∈ r := hs a (by simp)
    have hp := List.perm_cons_erase ha
    have e : degL es r = (nearL a es).length + degL es (r.erase a) := by
      unfold degL
      rw [sum_perm (hp.map _)]
      simp
    rw [List.nodup_cons] at hn
    have ih := degL_sub es t (r.erase a) hn.2 (fun x hx => (List.mem_erase_of_ne (fun e => hn.1 (by rw [← e]; exact hx))).2 (hs x (by simp [hx])))
    have e2 : degL es (a :: t) = (nearL a es).length + degL es t := by unfold degL; simp
    omega
theorem degL_range (es : List E) : ∀ N, degL es ((List.range N).map fun v : Nat => (v : Int)) = degSum es N
  | 0 => rfl
  | N + 1 => by rw [List.range_succ, List.map_append, degL_app, degL_range es N, degSum]; simp [degL]
theorem degL_le {N : Nat} {es : List E} {l : List Int} (hr : rightB (N : Int) es = true) (hn : l.Nodup) (hb : ∀ x ∈ l, ∃ v : Nat, v < N ∧ x = (v : Int)) : degL es l ≤ 2 * es.length := by
  rw [← degSum_all (k := N) (right_rise hr).2.2.2.2, ← degL_range]
  exact degL_sub es _ _ hn (fun x hx => by
    obtain ⟨v, h1, h2⟩ := hb x hx
    exact List.mem_map.2 ⟨v, List.mem_range.2 h1, h2.symm⟩)

section
variable {N : Nat} {es : List E} {m : List Int} {F G : FS} {ev od : Nat → Bool} {B par : Nat → Nat} {P : Nat → List Int}
theorem frees_cnt (m : List Int) : ∀ k, (freesM m k).length = cntB k (fun c => m.getD c 0 == -1)
  | 0 => rfl
  | k + 1 => by
    have e : cntB (k + 1) (fun c => m.getD c 0 == -1) = cntB k (fun c => m.getD c 0 == -1) + (if m.getD k 0 = -1 then 1 else 0) := by
      unfold cntB
      rw [List.range_succ, List.filter_append, List.length_append]
      congr 1
      simp only [List.filter_cons, List.filter_nil]
      by_cases c : m.getD k 0 = -1
      · rw [if_pos c, if_pos (by rw [c]; rfl)]; rfl
      · rw [if_neg c, if_neg (by simpa using c)]; rfl
    rw [e, freesM, List.length_append, frees_cnt m k]
    congr 1
    split <;> rfl
/-- Who has a mate: twice as many as there are edges. -/
theorem mtF_le (hm : mateB (N : Int) es m = true) : mtF N m ≤ 2 * (edgesM m m.length).length := by
  have hl : m.length = N := by have := (mateB_iff.1 hm).2.1; omega
  have hb := (mate_back hm).2
  rw [hl] at hb ⊢
  rw [frees_cnt] at hb
  have h2 := cntB_two (N := N) (p := fun c => !(m.getD c 0 == -1)) (q := fun c => m.getD c 0 == -1) (r := fun _ => true) (fun _ _ _ => rfl) (fun _ _ _ => rfl) (fun v _ e1 e2 => by rw [e2] at e1; cases e1)
  have h3 : cntB N (fun _ => true) ≤ N := by
    unfold cntB
    have := List.length_filter_le (fun _ : Nat => true) (List.range N)
    simpa using this
  unfold mtF
  omega
theorem mate_few (hm : mateB (N : Int) es m = true) : (edgesM m m.length).length ≤ es.length := by
  have h := edges_apart hm
  refine List.Nodup.length_le_of_subset (h.apart.imp fun hh e => hh.1 (by rw [e])) (fun e he => (h.mem e he).1)
/-- A path that augments goes by all mated vertices at most, and two. -/
theorem Aug.short {p : List Int} (h : Aug (N : Int) es m p) : p.length ≤ mtF N m + 2 := by
  have h2 := h.two
  have hev := h.even
  have hn : ((p.drop 1).take (p.length - 2)).Nodup := by
    refine List.Nodup.sublist ((List.take_sublist _ _).trans (List.drop_sublist _ _)) ?_
    refine List.pairwise_iff_getElem.2 (fun i j hi hj hij e => ?_)
    have := h.inj (i := i) (j := j) hi hj (by rw [getD_elem hi, getD_elem hj]; exact e)
    omega
  have hs := hn.length_le_of_subset (l₂ := ((List.range N).filter fun c => !(m.getD c 0 == -1)).map Int.ofNat) (fun x hx => by
    obtain ⟨i, hi, rfl⟩ := List.getElem_of_mem hx
    rw [List.getElem_take, List.getElem_drop]
    rw [List.length_take, List.length_drop] at hi
    have hk : 1 + i < p.length := by omega
    have hk' : 1 + i + 1 < p.length := by omega
    have hat := h.at' _ hk
    rw [← getD_elem hk]
    have hne : m.getD (p.getD (1 + i) 0).toNat 0 ≠ -1 := by
      rcases Nat.mod_two_eq_zero_or_one i with c | c
      · rw [(h.turns (1 + i) hk').2 (by omega)]
        have := (h.at' _ hk').1
        omega
      · have ht := (h.turns i (by omega)).2 c
        have hat2 := h.at' i (by omega)
        obtain ⟨w', a1, a2, _, a4, _⟩ := mate_at h.mate (v := (p.getD i 0).toNat) (by omega) (by
          rw [ht]; have := (h.at' (i + 1) (by omega)).1; omega)
        rw [show 1 + i = i + 1 by omega]
        have : w' = (p.getD (i + 1) 0).toNat := by omega
        subst this
        omega
    refine List.mem_map.2 ⟨(p.getD (1 + i) 0).toNat, ?_, ?_⟩
    · simp only [List.mem_filter, List.mem_range, Bool.not_eq_true', beq_eq_false_iff_ne]
      exact ⟨by omega, hne⟩
    · simp only [Int.ofNat_eq_natCast]; omega)
  rw [List.length_map, List.length_take, List.length_drop] at hs
  unfold mtF cntB
  omega

/-- A search on its way: what it knows is a tree; T looks so far, by pairs tk; its other looks are so few. -/
def Run (N : Nat) (es : List E) (m : List Int) (F : FS) (T : Nat) (tk : Nat → Nat → Prop) : Prop := ∃ ev od B par P, FInv N es m F ev od B par P ∧ 0 ≤ F.k ∧ F.k + 4 * (nbF N m ev B : Int) + 2 * (outF N ev od : Int) ≤ 2 * (mtF N m : Int) + (T : Int) ∧ (∀ v w, tk v w → v < N ∧ w < N ∧ ev v = true ∧ (ev w = true ∨ od w = true)) ∧ (∀ v w, tk v w → tk w v → B v = B w)
def tkMore (tk : Nat → Nat → Prop) (v u : Nat) : Nat → Nat → Prop := fun a b => tk a b ∨ (a = v ∧ b = u)
theorem FInv.addK (h : FInv N es m F ev od B par P) (x : Int) : FInv N es m (Go.Proofs.Ytfilhbkenedchab.addK F x) ev od B par P :=
  ⟨h.t, h.lab, h.eb, h.nb, h.qn, h.qe, h.d0, h.dB, h.dR, h.uo, h.bo, fun v w h1 h2 h3 h4 => by
    obtain ⟨a, b, s, p1, p2, p3, p4, p5, p6, p7, p8, p9⟩ := h.ba v w h1 h2 h3 h4
    exact ⟨a, b, s, p1, p2, p3, p4, p5, p6, p7, p8.addK x, p9⟩⟩
theorem Meets.addK {a b n : Nat} {r : Int} (h : Meets N m F a b r n) (x : Int) : Meets N m (Go.Proofs.Ytfilhbkenedchab.addK F x) a b r n := by
  induction h with
  | same a => exact .same a
  | none h1 h2 => exact .none h1 h2
  | up h1 h2 h3 h4 h5 h6 _ ih => exact .up h1 h2 h3 h4 h5 h6 ih
/-- Who is looked at next, and what is then known. -/
theorem tk_later {ev' od' : Nat → Bool} {B' : Nat → Nat} {tk : Nat → Nat → Prop} {v u : Nat} (hl : Later N ev od B ev' od' B') (h1 : ∀ a b, tk a b → a < N ∧ b < N ∧ ev a = true ∧ (ev b = true ∨ od b = true)) (h2 : ∀ a b, tk a b → tk b a → B a = B b) (hv : v < N) (hu : u < N) (ev1 : ev v = true) (hc : ev' u = true ∨ od' u = true) (hB : tk u v ∨ u = v → B' v = B' u) :
    (∀ a b, tkMore tk v u a b → a < N ∧ b < N ∧ ev' a = true ∧ (ev' b = true ∨ od' b = true)) ∧ (∀ a b, tkMore tk v u a b → tkMore tk v u b a → B' a = B' b) := by
  refine ⟨fun a b h => ?_, fun a b h k => ?_⟩
  · rcases h with h | ⟨rfl, rfl⟩
    · obtain ⟨p1, p2, p3, p4⟩ := h1 a b h
      refine ⟨p1, p2, hl.e a p1 p3, ?_⟩
      rcases p4 with p4 | p4
      · exact Or.inl (hl.e b p2 p4)
      · exact hl.o b p2 p4
    · exact ⟨hv, hu, hl.e _ hv ev1, hc⟩
  · rcases h with h | ⟨rfl, rfl⟩
    · rcases k with k | ⟨rfl, rfl⟩
      · obtain ⟨p1, p2, p3, _⟩ := h1 a b h
        exact hl.b a b p1 p2 p3 (h1 b a k).2.2.1 (h2 a b h k)
      · exact (hB (Or.inl h)).symm
    · rcases k with k | ⟨e1, e2⟩
      · exact hB (Or.inl k)
      · exact hB (Or.inr e1)
end
end Go.Proofs.Ytfilhbkenedchab

namespace Go.Proofs.Ytfilhbkenedchab

section
variable {N : Nat} {es : List E} {m : List Int} {F : FS} {ev od : Nat → Bool} {B par : Nat → Nat} {P : Nat → List Int} {T : Nat} {tk : Nat → Nat → Prop}
theorem cntB_N (p : Nat → Bool) : cntB N p ≤ N := by
  unfold cntB
  have := List.length_filter_le p (List.range N)
  simpa using this
theorem FInv.bLt (h : FInv N es m F ev od B par P) : ∀ x, x < N → F.B x < N := fun x hx => by
  cases e : ev x
  · rw [h.nb x hx e]; exact hx
  · rw [h.eb x hx e]; exact (h.t.base x hx e).1
theorem q_len {q : List Int} (hn : q.Nodup) (hq : ∀ x ∈ q, ∃ v : Nat, v < N ∧ x = (v : Int)) : q.length ≤ N := nodupN_le hn (fun x hx => by
  obtain ⟨v, h1, h2⟩ := hq x hx
  omega)
theorem FInv.qLen (h : FInv N es m F ev od B par P) : F.q.length ≤ N := q_len h.qn (fun x hx => by
  obtain ⟨v, h1, _, h2⟩ := (h.qe x).1 hx
  exact ⟨v, h1, h2⟩)
theorem FInv.labs (h : FInv N es m F ev od B par P) {u : Nat} (hu : u < N) : (F.lab u = 2 → ev u = false ∧ od u = true) ∧ (F.lab u = 0 → ev u = false ∧ od u = false) ∧ (F.lab u = 1 → ev u = true) ∧ (F.lab u = 0 ∨ F.lab u = 1 ∨ F.lab u = 2) := by
  rw [h.lab u hu]
  cases ev u <;> cases od u <;> simp
theorem FInv.inQ (h : FInv N es m F ev od B par P) {v : Nat} (hq : (v : Int) ∈ F.q) : v < N ∧ ev v = true := by
  obtain ⟨x, h1, h2, h3⟩ := (h.qe _).1 hq
  have : x = v := by omega
  subst this
  exact ⟨h1, h2⟩
theorem Run.odd (h : Run N es m F T tk) {v u : Nat} (hq : (v : Int) ∈ F.q) (hu : u < N) (hl : F.lab u = 2) : Run N es m (addK F 1) (T + 1) (tkMore tk v u) := by
  obtain ⟨ev, od, B, par, P, hI, k0, kp, t1, t2⟩ := h
  obtain ⟨hv, he⟩ := hI.inQ hq
  obtain ⟨e1, e2⟩ := (hI.labs hu).1 hl
  obtain ⟨r1, r2⟩ := tk_later (Later.refl N ev od B) t1 t2 hv hu he (Or.inr e2) (fun k => by
    rcases k with k | k
    · have := (t1 u v k).2.2.1; rw [e1] at this; cases this
    · rw [k])
  exact ⟨ev, od, B, par, P, hI.addK 1, by show 0 ≤ F.k + 1; omega, by show F.k + 1 + _ + _ ≤ _; push_cast; omega, r1, r2⟩
theorem Run.out (h : Run N es m F T tk) {v u : Nat} (hq : (v : Int) ∈ F.q) (hu : u < N) (ht : trn (v : Int) (u : Int) ∈ es) (hl : F.lab u = 0) :
    ∃ z : Nat, z < N ∧ m.getD u 0 = (z : Int) ∧ 0 ≤ F.dep v ∧ F.dep v ≤ 2 * (N : Int) ∧ F.q.length ≤ N ∧ Run N es m (growS (addK F 1) v u z) (T + 1) (tkMore tk v u) := by
  obtain ⟨ev, od, B, par, P, hI, k0, kp, t1, t2⟩ := h
  obtain ⟨hv, he⟩ := hI.inQ hq
  obtain ⟨e1, e2⟩ := (hI.labs hu).2.1 hl
  obtain ⟨z, z1, z2, z3, _, z5, z6⟩ := hI.t.fresh hu e1 e2
  have hd := hI.d0 v hv (Or.inl he)
  have hql := hI.qLen
  have hG := (hI.addK 1).grow hv he hu e1 e2 ht z1
  obtain ⟨p1, p2⟩ := hI.growPot hu e1 e2 z1
  have hne : ∀ a, a < N → ev a = true → a ≠ z := fun a _ ha e => by rw [e, z5] at ha; cases ha
  have hL : Later N ev od B (fun v => if v = z then true else ev v) (fun v => if v = u then true else od v) (fun v => if v = z then z else B v) :=
    ⟨fun a _ ha => by simp only [ha]; split <;> rfl, fun a _ ha => Or.inr (by simp only [ha]; split <;> rfl), fun a b h1 h2 h3 h4 h5 => by simp only [if_neg (hne a h1 h3), if_neg (hne b h2 h4)]; exact h5⟩
  obtain ⟨r1, r2⟩ := tk_later hL t1 t2 hv hu he (Or.inr (by simp)) (fun k => by
    rcases k with k | k
    · have := (t1 u v k).2.2.1; rw [e1] at this; cases this
    · rw [k])
  refine ⟨z, z2, z1, hd.1, by omega, hql, _, _, _, _, _, hG, by show 0 ≤ F.k + 1; omega, ?_, r1, r2⟩
  show F.k + 1 + _ + _ ≤ _
  push_cast
  omega
/-- A cycle that is closed. -/
theorem Run.ring (h : Run N es m F T tk) {v u : Nat} (hq : (v : Int) ∈ F.q) (hu : u < N) (ht : trn (v : Int) (u : Int) ∈ es) (hl : F.lab u = 1) (hT : T ≤ 200000) (hN : N ≤ 4096) :
    (∃ (top n n1 n2 : Nat) (F1 F2 : FS), top < N ∧ Meets N m (addK F 1) (F.B v) (F.B u) (top : Int) n ∧ Draws N m v u top n1 (addK (addK F 1) (2 * (n : Int))) (F.B v) F1 ∧ Draws N m u v top n2 F1 (F1.B u) F2 ∧ (0 ≤ F.k ∧ F.k + 1 + 2 * (n : Int) + 2 * (n1 : Int) + 2 * (n2 : Int) ≤ 1000000000) ∧ (F.q.length + n1 ≤ 1000000 ∧ F1.q.length + n2 ≤ 1000000) ∧ F.q <+: F2.q ∧ Run N es m F2 (T + 1) (tkMore tk v u)) ∨
    (∃ (n rv ru : Nat) (lv lu : List Int), Meets N m (addK F 1) (F.B v) (F.B u) (-1) n ∧ rv < N ∧ ru < N ∧ m.getD rv 0 = -1 ∧ m.getD ru 0 = -1 ∧ Clm N m (addK F 1) v rv lv ∧ Clm N m (addK F 1) u ru lu ∧ lv.length + lu.length ≤ 900000 ∧ (0 ≤ F.k ∧ F.k + 1 + 2 * (n : Int) ≤ 1000000000) ∧ Aug (N : Int) es m ((lv ++ [(rv : Int)]).reverse ++ (lu ++ [(ru : Int)])) ∧ F.k + 2 * (n : Int) ≤ 2 * (mtF N m : Int) + (T : Int)) := by
  obtain ⟨ev, od, B, par, P, hI, k0, kp, t1, t2⟩ := h
  obtain ⟨hv, he⟩ := hI.inQ hq
  have eu := (hI.labs hu).2.2.1 hl
  have hmt : mtF N m ≤ N := cntB_N _
  have hnb : nbF N m ev B ≤ N := cntB_N _
  by_cases hB : B v = B u
  · left
    have e1 := hI.eb v hv he
    have e2 := hI.eb u hu eu
    have e3 : F.B v = F.B u := by rw [e1, e2, hB]
    have hI1 := (hI.addK 1).addK (2 * ((0 : Nat) : Int))
    obtain ⟨r1, r2⟩ := tk_later (Later.refl N ev od B) t1 t2 hv hu he (Or.inl eu) (fun _ => hB)
    refine ⟨F.B v, 0, 0, 0, addK (addK F 1) (2 * ((0 : Nat) : Int)), addK (addK F 1) (2 * ((0 : Nat) : Int)), hI.bLt v hv, by rw [← e3]; exact .same _, .stop _, ?_, ?_, ?_, List.prefix_rfl, ev, od, B, par, P, hI1, ?_, ?_, r1, r2⟩
    · show Draws N m u v (F.B v) 0 _ (F.B u) _
      rw [← e3]; exact .stop _
    · omega
    · have := hI.qLen
      refine ⟨by omega, ?_⟩
      show F.q.length + 0 ≤ _
      omega
    · show 0 ≤ F.k + 1 + _; omega
    · show F.k + 1 + _ + _ + _ ≤ _; push_cast; omega
  · have hm : m.getD v 0 ≠ (u : Int) := fun hm => by
      by_cases c : B v = v
      · have := (hI.t.mbase v u hv he c hm).1
        rw [hI.t.two u hu eu] at this; cases this
      · exact hB (hI.t.within v u hv he c hm).2.symm
    obtain ⟨r, n, n', hM, hE, hn⟩ := hI.meet hv he hu eu
    by_cases hr : r = -1
    · right
      subst hr
      obtain ⟨a1, a2⟩ := hI.apart hE
      rcases hE with ⟨top, e, _⟩ | ⟨_, ra, rb, h2, h3, h4, h5, h6, h7, _⟩
      · omega
      · obtain ⟨lv, l1, l2⟩ := hI.stop _ v ra hv he (Nat.le_refl _) h2 h6
        obtain ⟨lu, l3, l4⟩ := hI.stop _ u rb hu eu (Nat.le_refl _) h3 h7
        rw [(hI.t.free ra h2.1 h4).2.2] at l2
        rw [(hI.t.free rb h3.1 h5).2.2] at l4
        have n1 := nodupN_le (hI.t.path v hv he).nodup (hI.t.path v hv he).inN
        have n2 := nodupN_le (hI.t.path u hu eu).nodup (hI.t.path u hu eu).inN
        have q1 := congrArg List.length l2
        have q2 := congrArg List.length l4
        simp only [List.length_append, List.length_cons, List.length_nil, List.length_reverse] at q1 q2
        refine ⟨n, ra, rb, lv, lu, hM.addK 1, h2.1, h3.1, h4, h5, l1.addK 1, l3.addK 1, by omega, by omega, ?_, by omega⟩
        have hA := hI.t.aug hv he hu eu a2 ht hm
        rw [l2, l4] at hA
        simpa using hA
    · left
      have hE0 := hE
      rcases hE with ⟨top, e, htop, _⟩ | ⟨e, _⟩
      · subst e
        obtain ⟨hR, hn'⟩ := hI.ringOf hv he hu eu ht hm hE0
        have hI1 := (hI.addK 1).addK (2 * (n : Int))
        obtain ⟨rs1, d1, _⟩ := hI.t.hang v hv he
        obtain ⟨rs2, d2, _⟩ := hI.t.hang u hu eu
        obtain ⟨n1, F1, i1, i2, i3⟩ := Mid.draws hI1 hR (T := fun _ => false) (fun c _ e => by cases e) _ (B v) (sideB N ev B P v (B v)) (addK (addK F 1) (2 * (n : Int))) (hI.t.isB hv he) ⟨rs1, d1.symm⟩ ((hI.t.sameB hR.hb hv he).1 hR.pu) (Nat.le_refl _) (fun c _ => sideB_iff) (by
          have h0 := Mid.start hI1 (u := v) (w := u) (top := top)
          exact h0.congr hI.t (fun c hc => by
            cases k : sideB N ev B P v (B v) c
            · rfl
            · obtain ⟨x1, x2, x3⟩ := sideB_iff.1 k
              have := (hI.t.sameB x1 hv he).1 x2
              have := this.length_le
              omega))
        have i2' := i2.swap (fun c _ e => by cases e)
        obtain ⟨n2, F2, j1, j2, j3⟩ := Mid.draws hI1 (hR.swap hI.t.mt) (T := sideB N ev B P v top) (fun c _ e => sideB_iff.1 e) _ (B u) (sideB N ev B P u (B u)) F1 (hI.t.isB hu eu) ⟨rs2, d2.symm⟩ ((hI.t.sameB hR.hb hu eu).1 hR.pw) (Nat.le_refl _) (fun c _ => sideB_iff) (i2'.congr hI.t (fun c hc => by
            cases k : sideB N ev B P u (B u) c
            · rfl
            · obtain ⟨x1, x2, x3⟩ := sideB_iff.1 k
              have := (hI.t.sameB x1 hu eu).1 x2
              have := this.length_le
              omega))
        have j2' := j2.swap (fun c e1 e2 => by
          have a := sideB_iff.1 e1
          have b := sideB_iff.1 e2
          have := hR.most c a.1 b.2.1 a.2.1
          have := a.2.2
          omega)
        have hI2 := hI1.shrink hR j2'
        obtain ⟨p1, p2⟩ := hI.shrinkPot hR
        obtain ⟨hL, l2, l3⟩ := hI.shrinkLater hR
        obtain ⟨r1, r2⟩ := tk_later hL t1 t2 hv hu he (Or.inl (hL.e u hu eu)) (fun _ => l3)
        have hk1 := i1.k
        have hk2 := j1.k
        have hk0 : (addK (addK F 1) (2 * (n : Int))).k = F.k + 1 + 2 * (n : Int) := rfl
        have c1 : cntB N (sideB N ev B P v top) ≤ N := cntB_N _
        have c2 : cntB N (sideB N ev B P u top) ≤ N := cntB_N _
        have hq1 : F1.q.length ≤ N := q_len i2.qn (fun x hx => by
          obtain ⟨y, y1, _, y3⟩ := (i2.qe x).1 hx
          exact ⟨y, y1, y3⟩)
        have hF1u : F1.B u = B u := by
          rw [i2.bs u hu]
          have hno : nO m od (sideB N ev B P v top) (fun _ => false) u = false := by
            cases c : nO m od (sideB N ev B P v top) (fun _ => false) u
            · rfl
            · have := (nO_iff.1 c).1; rw [hI.t.two u hu eu] at this; cases this
          have hnS : sideB N ev B P v top (B u) = false := by
            cases c : sideB N ev B P v top (B u)
            · rfl
            · have a := sideB_iff.1 c
              have := hR.most _ a.1 a.2.1 ⟨rs2, d2.symm⟩
              have := a.2.2
              omega
          rw [hno, hnS, hI1.eb u hu eu]
          simp
        have hev : F.B v = B v := hI.eb v hv he
        have hF2k : F2.k = F.k + 1 + 2 * (n : Int) + 2 * (n1 : Int) + 2 * (n2 : Int) := by omega
        have hql := hI.qLen
        refine ⟨top, n, n1, n2, F1, F2, htop.1, hM.addK 1, by rw [hev]; exact i1, by rw [hF1u]; exact j1, by omega, ⟨by omega, by omega⟩, j2'.qp, _, _, _, _, _, hI2, by omega, ?_, r1, r2⟩
        rw [hF2k]
        push_cast
        omega
      · exact absurd e hr
end
end Go.Proofs.Ytfilhbkenedchab
