/- lay: the sides of one piece. -/
import Derived.Test.YtmpcnepiogjokaaDoorSidesEither20
import Derived.BigRegion
namespace Go.Proofs.YtmpcnepiogjokaaDoor
open Go.RowKit

theorem OfAt.keptAt {w w' : World} {g N : Nat} {f : Nat → Int} {bs : List Nat} (h : OfAt w g N f) (k : Kept bs w w') (hb : g ∉ bs) : OfAt w' g N f :=
  ⟨fun v hv => by rw [k.cell h.lt hb]; exact h.cell v hv, fun v => by rw [k.frozen h.lt hb]; exact h.free v, Nat.lt_of_lt_of_le h.lt k.size⟩
theorem Sheet.keptAt {w w' : World} {q gn gs gf N B T : Nat} {es : List E} {f : Nat → Int} {fr : Nat → Nat} {bs : List Nat} (h : Sheet w q gn gs gf N B T es f fr) (k : Kept bs w w') (hq : q ∉ bs) (hs : gs ∉ bs) (hf : gf ∉ bs) (hT : ∀ x, x ∈ bs → x < B ∨ T ≤ x) : Sheet w' q gn gs gf N B T es f fr :=
  ⟨kept_cell' h.c0 k hq, kept_cell' h.c1 k hq, kept_cell' h.c2 k hq, h.near.kept k hT, h.side.keptAt k hs, h.from'.keptAt k hf, h.ts, h.tf, Nat.le_trans h.tw k.size, h.sf, h.qs, h.qf⟩
theorem Sheet.setS {w : World} {q gn gs gf N B T v : Nat} {es : List E} {f : Nat → Int} {fr : Nat → Nat} (h : Sheet w q gn gs gf N B T es f fr) (hv : v < N) (y : Int) : Sheet (w.setCell ⟨gs, v, none⟩ (.int .i64 y)) q gn gs gf N B T es (fun u => if u = v then y else f u) fr := by
  have k : Kept [gs] w (w.setCell ⟨gs, v, none⟩ (.int .i64 y)) := (Kept.refl _ _).setCell (Or.inl (by simp)) _
  have hsf := h.sf
  exact ⟨kept_cell' h.c0 k (by simpa using h.qs), kept_cell' h.c1 k (by simpa using h.qs), kept_cell' h.c2 k (by simpa using h.qs), h.near.kept k (by simpa using h.ts), h.side.set hv y, h.from'.keptAt k (by simpa using fun e => hsf e.symm), h.ts, h.tf, Nat.le_trans h.tw k.size, h.sf, h.qs, h.qf⟩
theorem Sheet.setF {w : World} {q gn gs gf N B T v : Nat} {es : List E} {f : Nat → Int} {fr : Nat → Nat} (h : Sheet w q gn gs gf N B T es f fr) (hv : v < N) (y : Nat) : Sheet (w.setCell ⟨gf, v, none⟩ (.int .i64 (y : Int))) q gn gs gf N B T es f (fun u => if u = v then y else fr u) := by
  have k : Kept [gf] w (w.setCell ⟨gf, v, none⟩ (.int .i64 (y : Int))) := (Kept.refl _ _).setCell (Or.inl (by simp)) _
  have e : (fun u => if u = v then (y : Int) else (fr u : Int)) = fun u => (((if u = v then y else fr u : Nat)) : Int) := funext fun u => by
    by_cases e : u = v
    · simp [e]
    · simp [e]
  have hs := h.from'.set hv (y : Int)
  rw [e] at hs
  exact ⟨kept_cell' h.c0 k (by simpa using h.qf), kept_cell' h.c1 k (by simpa using h.qf), kept_cell' h.c2 k (by simpa using h.qf), h.near.kept k (by simpa using h.tf), h.side.keptAt k (by simpa using h.sf), hs, h.ts, h.tf, Nat.le_trans h.tw k.size, h.sf, h.qs, h.qf⟩
/-- Who is far has many ahead. -/
theorem Tree.depth {es : List E} {In : Nat → Prop} {fr d : Nat → Nat} (h : Tree es In fr d) {N : Nat} (hb : ∀ x, In x → x < N) {x : Nat} (hx : In x) : d x < N := by
  have hn : (back fr (d x + 1) x).Nodup := by
    unfold List.Nodup
    rw [List.pairwise_iff_getElem]
    intro i j hi hj hij
    rw [back_len] at hi hj
    have e1 : (back fr (d x + 1) x)[i]'(by rw [back_len]; exact hi) = (anc fr i x : Int) := by simp [back]
    have e2 : (back fr (d x + 1) x)[j]'(by rw [back_len]; exact hj) = (anc fr j x : Int) := by simp [back]
    rw [e1, e2]
    intro e
    have h1 := (h.go hx (show i ≤ d x by omega)).2
    have h2 := (h.go hx (show j ≤ d x by omega)).2
    have e3 : anc fr i x = anc fr j x := by omega
    rw [e3] at h1
    omega
  have := len_bound (N := N) hn (fun y hy => by
    unfold back at hy
    obtain ⟨j, hj, rfl⟩ := List.mem_map.1 hy
    simp at hj
    have := hb _ (h.go hx (show j ≤ d x by omega)).1
    omega)
  rw [back_len] at this
  omega

/-- What lay answers, and leaves. -/
def Layed (w : World) (q gn gs gf N B T : Nat) (es : List E) (r : Nat) (f0 : Nat → Int) (e : Ending) (w' : World) : Prop :=
  ∃ rv f fr, e = .returned rv ∧ Sheet w' q gn gs gf N B T es f fr ∧ Kept [gs, gf] w w' ∧ ((rv = .slice none 0 0 ∧ Laid1 es N r f0 f) ∨ ∃ l, IntsAt w' rv l ∧ IsCyc es l ∧ l.length % 2 = 1)

set_option maxRecDepth 20000 in
set_option maxHeartbeats 8000000 in
theorem lay_any {w : World} {q gn gs gf N B T r : Nat} {es : List E} {f0 : Nat → Int} {fr0 : Nat → Nat} (h : Sheet w q gn gs gf N B T es f0 fr0) (hok : ∀ e ∈ es, okE (N : Int) e = true) (hel : es.length ≤ 65536) (hN : N ≤ 4096) (hr : r < N) (hfresh : ∀ x : Nat, Reach es (Alive (N : Int) []) (r : Int) (x : Int) → f0 x = -1) :
    Calls Tryd.prog 44 #[.pointer (some ⟨q, 0, none⟩), .int .i64 r] w fun e w' => Layed w q gn gs gf N B T es r f0 e w' := by
  obtain ⟨i, hi, hz0, hz1, hz2⟩ := info_parts infoInt
  have hq0 := lt_of_cell h.c0
  have hs0 := h.side.lt
  have hf0 := h.from'.lt
  have HTS := hide h.ts
  have HOK := hide hok
  have HFR := hide hfresh
  have c1 := h.c1
  have sr := h.side.cell r hr
  have sz := h.side.free r
  have r0 : (0 : Int) ≤ (r : Int) := by omega
  have r1 : (r : Int) < (N : Int) := by omega
  have HS1 := hide ((h.setS hr 0).kept ((Kept.refl [] _).alloc (.cells #[.int .i64 (r : Int)] 3)))
  have HK1 := hide (((Kept.refl [gs, gf] w).setCell (p := ⟨gs, r, none⟩) (Or.inl (by simp)) (.int .i64 0)).alloc (.cells #[.int .i64 (r : Int)] 3))
  have HLY := hide (Lay.start (es := es) hr f0 fr0)
  have hws : (w.setCell ⟨gs, r, none⟩ (.int .i64 0)).heap.size = w.heap.size := by simp [World.setCell]
  have OWN := own_one (w.setCell ⟨gs, r, none⟩ (.int .i64 0)) (r : Int) w.heap.size hws.symm
  rw [hws] at OWN
  have HQS := hide (And.intro h.qs (And.intro h.qf h.sf))
  have HTF := hide h.tf
  have hTw := h.tw
  clear h hok hfresh hws
  go_enter Tryd.func44, Tryd.ntmps44
  go_wp2
  clear c1 sr sz
  generalize (w.setCell ⟨gs, r, none⟩ (.int .i64 0)).alloc (.cells #[.int .i64 (r : Int)] 3) = W1 at *
  go_loopw [5, 6] (fun cv ii wr => ∃ (pl : List Int) (j : Nat) (f : Nat → Int) (fr d : Nat → Nat) (g' cap' : Nat), cv = .slice (some ⟨g', 0, none⟩) pl.length cap' ∧ ii = .int .i64 j ∧ j ≤ pl.length ∧ pl.length ≤ N ∧ wr.ownsRow w.heap.size 3 1 cv pl.length (pl.map (Value.int .i64)) ∧ Hid (Sheet wr q gn gs gf N B T es f fr ∧ Kept [gs, gf] w wr ∧ Lay es N r f0 pl j f fr d)) (fun _ ii _ => N + 1 - (intOf ii).toNat)
  case atStart => exact ⟨[(r : Int)], 0, _, fr0, _, w.heap.size, 1, rfl, rfl, Nat.zero_le _, by simp; omega, OWN, unhide HS1, unhide HK1, unhide HLY⟩
  case round =>
    obtain ⟨pl, j, f, fr, d, g', cap', rfl, rfl, hj, hpl, hown, hh⟩ := hrel
    by_cases hlt : j < pl.length
    · obtain ⟨vn, hvn, hvN⟩ := (unhide hh).2.2.bound (getD_mem hlt)
      have d0 : wr.cell? ⟨g', j, none⟩ = some (.int .i64 (vn : Int)) := by
        obtain ⟨ao, ac, hv, _, hin⟩ := (ints_of_owns (xs := pl) (n := pl.length) hown).1.shape
        obtain ⟨gg, oo, e1, e2⟩ := hin (by omega)
        simp at hv
        rw [← hv.1] at e1
        simp at e1
        obtain ⟨rfl, rfl⟩ := e1
        have := e2 j hlt
        rw [hvn, Nat.zero_add] at this
        exact this
      obtain ⟨nv, n1, n2, n3⟩ := (unhide hh).1.near.row vn hvN
      have hadj : ∀ y, y ∈ nearL (vn : Int) es ↔ Adj es (vn : Int) y := fun y => adj_near (unhide HOK)
      have hnl := Nat.le_trans (nearL_len (vn : Int) es) hel
      have HAD := hide hadj
      have HNB := hide n2
      have HHV := hide hvn
      obtain ⟨no, nc, rfl, _, _⟩ := n2.shape
      have HNT := hide (show ∀ a, no = some a → B ≤ a.block ∧ a.block < T from fun a e => n3 a _ _ (by rw [e]))
      clear n3
      generalize nearL (vn : Int) es = nb at *
      have j0 : (0 : Int) ≤ (j : Int) := by omega
      have j1 : (j : Int) < (pl.length : Int) := by omega
      have v0 : (0 : Int) ≤ (vn : Int) := by omega
      have v1 : (vn : Int) < (N : Int) := by omega
      have cq := (unhide hh).1.c0
      clear hvn hadj n2
      obtain ⟨W2, hW2⟩ : ∃ W2, W2 = wr := ⟨wr, rfl⟩
      subst hW2
      go_wp2
      clear d0 n1 cq
      go_loopw [5, 36] (fun cv ii wt => ∃ (pl2 : List Int) (t : Nat) (f2 : Nat → Int) (fr2 d2 : Nat → Nat) (g2 cap2 : Nat), cv = .slice (some ⟨g2, 0, none⟩) pl2.length cap2 ∧ ii = .int .i64 t ∧ t ≤ nb.length ∧ j < pl2.length ∧ pl2.length ≤ N ∧ wt.ownsRow w.heap.size 3 1 cv pl2.length (pl2.map (Value.int .i64)) ∧ Hid (Sheet wt q gn gs gf N B T es f2 fr2 ∧ Kept [gs, gf] w wt ∧ Lay es N r f0 pl2 j f2 fr2 d2 ∧ LUpto pl2 nb f2 vn t ∧ pl2.getD j 0 = (vn : Int) ∧ IntsAt wt (.slice no nb.length nc) nb)) (fun _ ii _ => nb.length - (intOf ii).toNat)
      case atStart => exact ⟨pl, 0, f, fr, d, g', cap', rfl, rfl, Nat.zero_le _, hlt, hpl, hown, (unhide hh).1, (unhide hh).2.1, (unhide hh).2.2, LUpto.start, unhide HHV, unhide HNB⟩
      case round =>
        obtain ⟨pl2, t, f2, fr2, d2, g2, cap2, rfl, rfl, ht, hj2, hpl2, hown2, h2⟩ := hrel
        by_cases hlt2 : t < nb.length
        · obtain ⟨no2, nc2, hv3, _, hin3⟩ := (unhide h2).2.2.2.2.2.shape
          obtain ⟨ng, nof, he3, hcell⟩ := hin3 (by omega)
          have hno : no = some ⟨ng, nof, none⟩ := by simp at hv3; rw [hv3.1, he3]
          subst hno
          have d1 := hcell t hlt2
          have hmem := (unhide HAD _).1 (getD_mem hlt2)
          obtain ⟨wn, hwn⟩ := Int.eq_ofNat_of_zero_le (adj_in (unhide HOK) hmem).2.1
          have hwN : wn < N := by have := (adj_in (unhide HOK) hmem).2.2; omega
          have HWN := hide hwn
          rw [hwn] at d1 hmem
          have HADJ := hide hmem
          have cq1 := (unhide h2).1.c1
          have cq2 := (unhide h2).1.c2
          have sv := (unhide h2).1.side.cell vn hvN
          have sw := (unhide h2).1.side.cell wn hwN
          have swz := (unhide h2).1.side.free wn
          have fw := (unhide h2).1.from'.cell wn hwN
          have fwz := (unhide h2).1.from'.free wn
          have t0 : (0 : Int) ≤ (t : Int) := by omega
          have t1 : (t : Int) < (nb.length : Int) := by omega
          have w0 : (0 : Int) ≤ (wn : Int) := by omega
          have w1 : (wn : Int) < (N : Int) := by omega
          have hvp : (vn : Int) ∈ pl2 := by rw [← (unhide h2).2.2.2.2.1]; exact getD_mem hj2
          have HVAL := hide ((unhide h2).2.2.1.val hvp)
          have HOUT := hide (show (wn : Int) ∉ pl2 → f2 wn = -1 from fun hn => by
            rw [(unhide h2).2.2.1.out wn hn]
            refine unhide HFR wn (((unhide h2).2.2.1.bfs.reach _ hvp).step (unhide HADJ) (alive_nil.2 (by omega))))
          have HVP := hide hvp
          clear hv3 he3 hin3 hcell hwn hmem hvp
          by_cases hc : f2 wn = f2 vn
          · have hin : (wn : Int) ∈ pl2 := by
              by_cases hn : (wn : Int) ∈ pl2
              · exact hn
              · have := unhide HOUT hn; have := unhide HVAL; omega
            have hdd := (unhide h2).2.2.1.clash hj2 (unhide h2).2.2.2.2.1 (unhide HADJ) hin hc
            have hne : vn ≠ wn := (adj_nat (unhide HOK) (unhide HADJ)).elim fun a hx => hx.elim fun b hy => by have := hy.1; have := hy.2.1; have := hy.2.2.2.2.1; omega
            have htr := (unhide h2).2.2.1.tree
            have hbd : ∀ x : Nat, (x : Int) ∈ pl2 → x < N := fun x hx => by
              obtain ⟨u, hu, hlt⟩ := (unhide h2).2.2.1.bound hx
              omega
            have HCY := hide (cycleOf_any (es := es) (unhide h2).1.c2 (unhide h2).1.from' hN htr hbd (a := vn) (b := wn) (unhide HVP) hin hdd (Nat.le_of_lt (htr.depth hbd (unhide HVP))))
            have HFIN := hide (fun k (hk : k ≤ d2 vn) (hno : ∀ j, j < k → anc fr2 j vn ≠ anc fr2 j wn) (hm : anc fr2 k vn = anc fr2 k wn) => And.intro (htr.cycle (unhide HVP) hin hdd hk (by
              by_cases e : k = 0
              · subst e; exact absurd hm hne
              · omega) hno hm (unhide HADJ).symm) (show (cycOf fr2 k vn wn).length % 2 = 1 by rw [cyc_len]; omega))
            have q1 : (f2 wn == f2 vn) = true := by simpa using hc
            clear hc hin hdd hne htr hbd
            generalize f2 wn = fw2 at *
            generalize f2 vn = fv2 at *
            go_wp2_with fail
            refine (unhide HCY).mono ?_
            rintro e w3 ⟨rv, k, rfl, hrv, hk, hno, hm, k3⟩
            have HP := hide (show Layed w q gn gs gf N B T es r f0 (.returned rv) w3 from ⟨rv, f2, fr2, rfl, (unhide h2).1.kept k3, (unhide h2).2.1.trans (k3.mono (by simp)), Or.inr ⟨_, hrv, unhide HFIN k hk hno hm⟩⟩)
            obtain ⟨vo, vm, vc, rfl⟩ : ∃ vo vm vc, rv = .slice vo vm vc := by obtain ⟨x, y, e, _⟩ := hrv.shape; exact ⟨_, _, _, e⟩
            clear hrv hk hno hm k3
            go_wp2
            go_ret
            exact unhide HP
          · have q1 : (f2 wn == f2 vn) = false := by simpa using hc
            by_cases hm1 : f2 wn = -1
            · have hnin : (wn : Int) ∉ pl2 := fun hin => by have := (unhide h2).2.2.1.val hin; omega
              have q2 : (f2 wn == -1) = true := by simpa using hm1
              have HADD := hide ((unhide h2).2.2.1.add hj2 (unhide h2).2.2.2.2.1 hwN (unhide HADJ) hnin)
              have hzv : 1 - f2 vn ≠ f2 vn := by have := unhide HVAL; omega
              have HUP := hide ((unhide h2).2.2.2.1.add (unhide HWN) hnin (unhide HVP) hzv (fun s hs => by
                have hm := (unhide HAD _).1 (getD_mem (show s < nb.length by omega))
                exact (adj_in (unhide HOK) hm).2.1))
              have HGD := hide (show (pl2 ++ [(wn : Int)]).getD j 0 = (vn : Int) by rw [getD_app hj2]; exact (unhide h2).2.2.2.2.1)
              have hwr : IntKind.i64.wrap (1 - f2 vn) = 1 - f2 vn := by have := unhide HVAL; rw [IntWalk.i64_left, IntWalk.wrap64_in _ (by omega)]
              have HSH := hide (fun W (k : Kept [] wr W) => (((unhide h2).1.kept k).setS hwN (1 - f2 vn)).setF hwN vn)
              have hlenN : (pl2 ++ [(wn : Int)]).length ≤ N := len_bound (unhide HADD).bfs.nodup (fun y hy => by
                obtain ⟨u, hu, hlt⟩ := (unhide HADD).bound hy
                omega)
              have n1 : q ≠ gs := (unhide HQS).1
              have n2 : q ≠ gf := (unhide HQS).2.1
              have n3 : gs ≠ gf := (unhide HQS).2.2
              have n4 : gf ≠ gs := fun e => n3 e.symm
              have n5 : vn ≠ wn := fun e => by rw [e] at hc; exact hc rfl
              clear hc hm1 hnin hzv
              generalize hfw : f2 wn = fw2 at *
              generalize hfv : f2 vn = fv2 at *
              clear hfw hfv
              go_wp2_with fail
              go_region
              have hg2 : w.heap.size ≤ g2 := own_block hown2 g2 rfl
              have k1 : Kept [gs] wr (wr.setCell ⟨gs, wn, none⟩ (.int .i64 (1 - fv2))) := (Kept.refl _ _).setCell (Or.inl (by simp)) _
              have k2 : Kept [gf] (wr.setCell ⟨gs, wn, none⟩ (.int .i64 (1 - fv2))) ((wr.setCell ⟨gs, wn, none⟩ (.int .i64 (1 - fv2))).setCell ⟨gf, wn, none⟩ (.int .i64 (vn : Int))) := (Kept.refl _ _).setCell (Or.inl (by simp)) _
              have own3 := own_kept (own_free (own_free hown2 k1 hs0) k2 hf0) ((Kept.refl [] _).drew)
              have SH := ((unhide HSH) wr (Kept.refl [] wr)).kept ((Kept.refl [] _).drew)
              have K3 : Kept [gs, gf] wr ((wr.setCell ⟨gs, wn, none⟩ (.int .i64 (1 - fv2))).setCell ⟨gf, wn, none⟩ (.int .i64 (vn : Int))).drew := ((k1.mono (by simp)).trans (k2.mono (by simp))).drew
              have HK3 := hide ((unhide h2).2.1.trans K3)
              have HSH3 := hide SH
              have hngT := unhide HNT ⟨ng, nof, none⟩ rfl
              have hts := unhide HTS
              have htf := unhide HTF
              have HNB3 := hide ((unhide h2).2.2.2.2.2.keptAt K3 (fun a m c e => by
                cases e
                simp only at hngT
                simp; omega))
              clear k1 k2 K3 SH cq1 cq2 sv sw swz fw fwz d1 hown2
              generalize ((wr.setCell ⟨gs, wn, none⟩ (.int .i64 (1 - fv2))).setCell ⟨gf, wn, none⟩ (.int .i64 (vn : Int))).drew = W5 at *
              have hW5 : w.heap.size ≤ W5.heap.size := (unhide HK3).size
              go_wp2_with (first | (at_builtin; refine wpList_append_own _ rfl (.tmp 83) (.tmp 85) 25 rfl w.heap.size 3 i (.int .i64 0) 1 8 Tryd.underlying25 hi hz0 hz1 hz2 rfl (by decide) _ _ _ rfl (own3.alloc _) _ 1 _ [.int .i64 (wn : Int)] rfl rfl (one_cell' _ _ _ (by simp)) (by simp [Value.oneCell']) (by unfold maxLen; omega) (by omega) (by simp; omega) ?_; intro v' w4 own4 g4 _))
              have KG : Kept [g2] W5 w4 := (((Kept.refl [] W5).alloc (.cells #[.int .i64 (wn : Int)] 3)).mono (by simp)).trans (grown_kept g4)
              have HS4 := hide ((unhide HSH3).keptAt KG (by simp; omega) (by simp; omega) (by simp; omega) (by simp; right; omega))
              have HK4 := hide ((unhide HK3).trans' KG (fun k hk => by simp at hk; subst hk; exact Or.inr hg2))
              have HNB4 := hide ((unhide HNB3).keptAt KG (fun a m c e => by
                cases e
                simp only at hngT
                simp; omega))
              have own5 : w4.ownsRow w.heap.size 3 1 v' (pl2 ++ [(wn : Int)]).length ((pl2 ++ [(wn : Int)]).map (Value.int .i64)) := by
                rw [List.length_append, List.map_append]; exact own4
              obtain ⟨g5, cap5, hv5⟩ : ∃ g5 cap5, v' = .slice (some ⟨g5, 0, none⟩) (pl2 ++ [(wn : Int)]).length cap5 := by
                rcases own5.2 with ⟨_, h0⟩ | ⟨g5, cap5, cur, hv, _⟩
                · simp at h0
                · exact ⟨g5, cap5, hv⟩
              have HV5 := hide hv5
              clear g4 own4 KG hv5 own3
              go_wp2
              go_roundw
              case rel => exact ⟨pl2 ++ [(wn : Int)], t + 1, _, _, _, g5, cap5, unhide HV5, by go_num, by omega, by simp; omega, hlenN, own5, unhide HS4, unhide HK4, unhide HADD, unhide HUP, unhide HGD, unhide HNB4⟩
              case measure => simp [intOf]; omega
            · have hin : (wn : Int) ∈ pl2 := by
                by_cases hn : (wn : Int) ∈ pl2
                · exact hn
                · exact absurd (unhide HOUT hn) hm1
              have q2 : (f2 wn == -1) = false := by simpa using hm1
              have HUP := hide ((unhide h2).2.2.2.1.skip (by rw [unhide HWN]; exact hin) (by rw [unhide HWN]; simpa using hc))
              clear hc hm1 hin
              generalize f2 wn = fw2 at *
              generalize f2 vn = fv2 at *
              go_wp2
              go_roundw
              case rel => exact ⟨pl2, t + 1, f2, fr2, d2, g2, cap2, rfl, by go_num, by omega, hj2, hpl2, hown2, (unhide h2).1, (unhide h2).2.1, (unhide h2).2.2.1, unhide HUP, (unhide h2).2.2.2.2.1, (unhide h2).2.2.2.2.2⟩
              case measure => simp [intOf]; omega
        · have HNX := hide ((unhide h2).2.2.1.next (nb := nb) hj2 (unhide h2).2.2.2.2.1 (by have := (unhide h2).2.2.2.1; rwa [show t = nb.length by omega] at this) (unhide HAD))
          go_wp2
          go_roundw
          case rel => exact ⟨pl2, j + 1, f2, fr2, d2, g2, cap2, rfl, by go_num, by omega, hpl2, hown2, (unhide h2).1, (unhide h2).2.1, unhide HNX⟩
          case measure => simp [intOf]; omega
    · have HDN := hide ((unhide hh).2.2.done (by omega))
      go_wp2
      go_ret
      exact ⟨_, f, fr, rfl, (unhide hh).1, (unhide hh).2.1, Or.inl ⟨rfl, unhide HDN⟩⟩
end Go.Proofs.YtmpcnepiogjokaaDoor
