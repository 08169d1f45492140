/- BitsWalk: the walk. -/
import Derived.Test.YtmcgeadpoiihkaaDoorLaw1
import Derived.Deep.RegionHeldLaw
import Derived.Deep.RegionLawGrows
namespace Go.Proofs.YtmcgeadpoiihkaaDoor
open Go.RowKit

theorem Kept.ofDrewW {w w' : World} (h : ∃ m, w' = w.drewN m) : Kept [] w w' := by
  obtain ⟨m, rfl⟩ := h
  exact (Kept.refl [] w).drewN m

/-- A rising list of numbers, each among ys, is no longer than ys. -/
theorem rise_le (xs : List Nat) (ys : List Int) (hr : xs.Pairwise (· < ·)) (h : ∀ x ∈ xs, (x : Int) ∈ ys) : xs.length ≤ ys.length := by
  induction xs generalizing ys with
  | nil => simp
  | cons x xs ih =>
    have hx := h x (by simp)
    have hp := List.pairwise_cons.1 hr
    have := ih (ys.erase (x : Int)) hp.2 (fun y hy => by
      have h1 := h y (by simp [hy])
      have h2 := hp.1 y hy
      exact (List.mem_erase_of_ne (by omega)).2 h1)
    rw [List.length_erase_of_mem hx] at this
    have hl : 0 < ys.length := List.length_pos_of_mem hx
    simp
    omega

theorem made_few {ws : Nat → Nat} {xs : List Int} {r : Nat} (h : ∀ j, Bm.mem ws j = (decide (j < r) && decide ((j : Int) ∈ xs.take 60))) : (elems ws r).length ≤ 60 := by
  have h1 := rise_le (elems ws r) (xs.take 60) (Bm.below_rises _ _) (fun x hx => by
    have := ((Bm.mem_below _ _ _).1 hx).2
    rw [h] at this
    simp at this
    exact this.2)
  rw [List.length_take] at h1
  omega

theorem rises_elems (ws : Nat → Nat) (r : Nat) : risesB ((elems ws r).map Int.ofNat) = true := by
  unfold risesB
  simp
  rw [List.pairwise_map]
  exact (Bm.below_rises (Bm.mem ws) r).imp (fun h => by simpa using h)

theorem own_form {w : World} {base e size n : Nat} {v : Value} {xs : List Value} (h : w.ownsRow base e size v n xs) : ∃ ao cap, v = .slice ao n cap := by
  rcases h.2 with ⟨rfl, rfl⟩ | ⟨g, cap, cur, rfl, _⟩
  · exact ⟨none, 0, rfl⟩
  · exact ⟨_, cap, rfl⟩
theorem owns_nil (w : World) (base e : Nat) : w.ownsRow base e 1 (.slice none 0 0) 0 [] := ⟨by simp, Or.inl ⟨rfl, rfl⟩⟩

theorem step_append_g {P : Program} {ops : Array Oper} {o : Oper} {a : Act} {w : World} {K : Act → World → Prop} {Q : Exit → Act → World → Prop} {E : Prop}
    (hw : Region.wanted o (yielded ops a.tmps) = true) (s x : Operand) (t : TypeId) (hop : o.op = Op.call { callee := Callee.builtin Builtin.append, args := #[s, x], argTypes := #[t, t] })
    (base : Nat) (e : TypeId) (i : TypeInfo) (z : Value) (size bytes : Nat) (ht : P.underlying t = some (.slice e)) (hi : P.info? e = some i) (hz : i.zero = some z) (hsize : i.size = size) (hby : i.bytes = bytes) (hzs : z.cells.size = size) (hsz : 0 < size)
    (v : Value) (n : Nat) (xs : List Value) (hs : a.eval s = v) (hown : w.ownsRow base e size v n xs)
    (ad : Addr) (m c : Nat) (news : List Value) (hx : a.eval x = .slice (some ad) m c) (hl : news.length = m * size) (hnews : ∀ j u, news[j]? = some u → w.cell? (ad.add j) = some u) (h1 : ∀ u ∈ news, u.oneCell' = true)
    (h63 : n + m ≤ maxLen) (hbytes : (n + m) * bytes ≤ 140737488355328) (hbase : base ≤ w.heap.size)
    (h : ∀ v' w', w'.ownsRow base e size v' (n + m) (xs ++ news) → w.grownBy w' v.ownBlock → K (a.put o.dst v') w') :
    if Region.wanted o (yielded ops a.tmps) = true then Oper.wp P o a w K Q else E := by
  rw [if_pos hw]
  obtain ⟨v', w', hrun, r1, r2, _⟩ := run_append_own (P := P) w base t o.type e i z size bytes ht hi hz hsize hby hzs hsz v n xs hown ad m c news hl hnews h1 h63 hbytes hbase
  unfold Oper.wp
  simp [execOp, hop, resolve, invoke, builtin, hs, hx, hrun, Result.andThen]
  exact h v' w' r1 r2

/-- What the last statement of BitsWalk goes on: the set, and the numbers walked, in memory. -/
structure WS (w0 w2 : World) (s b g cap : Nat) (xs : List Int) (ws : Nat → Nat) (W : World) : Prop where
  set : SetAt W s b 500 8 8 ws
  tab : Tab W
  walk : IntsAt W (.slice (some ⟨g, 0, none⟩) xs.length cap) xs
  kept : Kept [] w0 W
  fresh : w0.heap.size ≤ b
  apart : g ≠ b

theorem WS.keep {w0 w2 : World} {s b g cap : Nat} {xs : List Int} {ws : Nat → Nat} {W W' : World} (h : WS w0 w2 s b g cap xs ws W) (k : Kept [] W W') : WS w0 w2 s b g cap xs ws W' :=
  { h with set := h.set.kept k (by simp) (by simp), tab := h.tab.kept k (by simp), walk := h.walk.kept k, kept := h.kept.trans k }
theorem WS.cell {w0 w2 : World} {s b g cap : Nat} {xs : List Int} {ws : Nat → Nat} {W : World} (h : WS w0 w2 s b g cap xs ws W) (k : Nat) (hk : k < xs.length) : W.cell? ⟨g, k, none⟩ = some (.int .i64 (xs.getD k 0)) := by
  obtain ⟨ao, c, e, _, _, hc⟩ := h.walk
  obtain ⟨g', o, e2, _, hcell⟩ := hc (by omega)
  cases e
  cases e2
  have := hcell k hk
  rw [Nat.zero_add] at this
  exact this
theorem WS.drop {w0 w2 : World} {s b g cap : Nat} {xs : List Int} {ws : Nat → Nat} {W : World} (h : WS w0 w2 s b g cap xs ws W) (x : Int) :
    Calls Tryd.prog 13 #[.pointer (some ⟨s, 0, none⟩), .int .i64 x] W fun e w' => e = .returned (.bool (hasI ws x)) ∧ WS w0 w2 s b g cap xs (dropS ws x) w' := by
  refine (drop_any h.set x).mono ?_
  rintro e w' ⟨rfl, h1, h2⟩
  refine ⟨rfl, h1, h.tab.kept h2 ?_, h.walk.keptAt h2 ?_, h.kept.put h2 h.fresh, h.fresh, h.apart⟩
  · have := h.set.b0; simpa using fun e => this e.symm
  · intro a n c e
    cases e
    simpa using h.apart
theorem WS.has {w0 w2 : World} {s b g cap : Nat} {xs : List Int} {ws : Nat → Nat} {W : World} (h : WS w0 w2 s b g cap xs ws W) (x : Int) :
    Calls Tryd.prog 21 #[.pointer (some ⟨s, 0, none⟩), .int .i64 x] W fun e w' => e = .returned (.bool (hasI ws x)) ∧ WS w0 w2 s b g cap xs ws w' := by
  refine (has_any h.set x).mono ?_
  rintro e w' ⟨rfl, h1⟩
  exact ⟨rfl, h.keep (Kept.ofDrewW h1)⟩
theorem WS.list {w0 w2 : World} {s b g cap : Nat} {xs : List Int} {ws : Nat → Nat} {W : World} (h : WS w0 w2 s b g cap xs ws W) :
    Calls Tryd.prog 17 #[.pointer (some ⟨s, 0, none⟩)] W fun e w' => ∃ v, e = .returned v ∧ WS w0 w2 s b g cap xs ws w' ∧ IntsAt w' v ((elems ws 500).map Int.ofNat) := by
  refine (list_set h.set h.tab).mono ?_
  rintro e w' ⟨v, rfl, h1, _, h3⟩
  exact ⟨v, rfl, h.keep h3, h1⟩

theorem WS.first {w0 w2 : World} {s b g cap : Nat} {xs : List Int} {ws : Nat → Nat} {W : World} (h : WS w0 w2 s b g cap xs ws W) (k : Nat) : ∀ j u, ((xs.take k).map (Value.int .i64))[j]? = some u → W.cell? ((⟨g, 0, none⟩ : Addr).add j) = some u := by
  intro j u hu
  have hj := (List.getElem?_eq_some_iff.1 hu).1
  rw [List.length_map, List.length_take] at hj
  rw [Addr.add_lit, Nat.zero_add, h.cell j (by omega)]
  rw [← hu]
  have hjx : j < xs.length := by omega
  have hjk : j < k := by omega
  simp [hjk, List.getD, hjx]
theorem WS.rest {w0 w2 : World} {s b g cap : Nat} {xs : List Int} {ws : Nat → Nat} {W : World} (h : WS w0 w2 s b g cap xs ws W) (k : Nat) : ∀ j u, ((xs.drop (k + 1)).map (Value.int .i64))[j]? = some u → W.cell? ((⟨g, k + 1, none⟩ : Addr).add j) = some u := by
  intro j u hu
  have hj := (List.getElem?_eq_some_iff.1 hu).1
  rw [List.length_map, List.length_drop] at hj
  rw [Addr.add_lit, h.cell (k + 1 + j) (by omega)]
  rw [← hu]
  have hjx : k + 1 + j < xs.length := by omega
  simp [List.getD, hjx]
theorem ints_one (xs : List Int) : ∀ u ∈ xs.map (Value.int .i64), u.oneCell' = true := by
  intro u hu
  obtain ⟨_, _, rfl⟩ := List.mem_map.1 hu
  rfl
theorem pick_at (a : Int) (L : Nat) (h0 : 0 < L) (h1 : L ≤ 60) : ∃ k : Nat, wrap64 ((IntKind.u64.wrap a).tmod (L : Int)) = (k : Int) ∧ k < L := by
  rw [IntKind.wrap_u64]
  have h2 : 0 ≤ a % 18446744073709551616 := by omega
  generalize a % 18446744073709551616 = c at *
  have h3 := Int.tmod_nonneg (L : Int) h2
  have h4 := Int.tmod_lt_of_pos c (show (0 : Int) < (L : Int) by omega)
  refine ⟨(c.tmod (L : Int)).toNat, ?_, by omega⟩
  rw [IntWalk.wrap64_in _ (by omega)]
  omega
theorem own_some {w : World} {base e n cap : Nat} {ao : Option Addr} {xs : List Value} (h : w.ownsRow base e 1 (.slice ao n cap) n xs) (h0 : ¬ n = 0) : ∃ g, ao = some ⟨g, 0, none⟩ ∧ base ≤ g := by
  rcases h.2 with ⟨h1, h2⟩ | ⟨g, c, cur, h1, h2, _⟩
  · exact absurd h2 h0
  · cases h1; exact ⟨g, rfl, h2⟩
theorem map_getD' (xs : List Nat) (k : Nat) (h : k < xs.length) : (xs.map Int.ofNat).getD k 0 = ((xs.getD k 0 : Nat) : Int) := by
  simp [List.getD, h]
theorem getD_nat {xs : List Nat} {k : Nat} (h : k < xs.length) : xs.getD k 0 = xs[k] := by simp [List.getD, h]
theorem at_in (m : Nat → Bool) (f k : Nat) (h : k < (Bm.below m f).length) : m ((Bm.below m f).getD k 0) = true := by
  rw [getD_nat h]
  exact ((Bm.mem_below m f _).1 (List.getElem_mem h)).2
theorem filter_ne (xs : List Nat) (k : Nat) (h : k < xs.length) (hr : xs.Pairwise (· < ·)) : xs.filter (fun j => !decide (j = xs.getD k 0)) = xs.take k ++ xs.drop (k + 1) := by
  have hs : xs = xs.take k ++ (xs[k] :: xs.drop (k + 1)) := by rw [← List.drop_eq_getElem_cons h, List.take_append_drop]
  rw [getD_nat h]
  have hp : (xs.take k ++ (xs[k] :: xs.drop (k + 1))).Pairwise (· < ·) := hs ▸ hr
  generalize xs[k] = x at *
  rw [List.pairwise_append] at hp
  obtain ⟨_, hp2, hp3⟩ := hp
  have hp4 := (List.pairwise_cons.1 hp2).1
  have e1 : (xs.take k).filter (fun j => !decide (j = x)) = xs.take k := List.filter_eq_self.2 (fun j hj => by
    have := hp3 j hj x (List.mem_cons_self ..)
    simp; omega)
  have e2 : (xs.drop (k + 1)).filter (fun j => !decide (j = x)) = xs.drop (k + 1) := List.filter_eq_self.2 (fun j hj => by
    have := hp4 j hj
    simp; omega)
  have e3 : xs.filter (fun j => !decide (j = x)) = (xs.take k ++ (x :: xs.drop (k + 1))).filter (fun j => !decide (j = x)) := by rw [← hs]
  rw [e3, List.filter_append, List.filter_cons, e1, e2]
  simp
theorem at_gone (m : Nat → Bool) (f k : Nat) (h : k < (Bm.below m f).length) : Bm.below (fun j => m j && !decide (j = (Bm.below m f).getD k 0)) f = (Bm.below m f).take k ++ (Bm.below m f).drop (k + 1) := by
  rw [← filter_ne _ k h (Bm.below_rises m f)]
  unfold Bm.below
  rw [List.filter_filter]
  congr 1
  funext j
  rw [Bool.and_comm]

/-- The list behind the number is gone is what was walked, without it. -/
theorem gone_list (ws : Nat → Nat) (F k e : Nat) (hk : k < (Bm.below (Bm.mem ws) F).length) (he : (Bm.below (Bm.mem ws) F).getD k 0 = e) :
    (elems (dropS ws (e : Int)) F).map Int.ofNat = ((Bm.below (Bm.mem ws) F).map Int.ofNat).take k ++ ((Bm.below (Bm.mem ws) F).map Int.ofNat).drop (k + 1) := by
  have h := at_gone (Bm.mem ws) F k hk
  rw [he] at h
  rw [← List.map_take, ← List.map_drop, ← List.map_append, ← h]
  have e2 : elems (dropS ws (e : Int)) F = Bm.below (fun j => Bm.mem ws j && !decide (j = e)) F := Bm.below_congr _ _ F (fun j _ => by
    rw [mem_dropS]
    by_cases hj : j = e
    · simp [hj]
    · have : ¬ (j : Int) = (e : Int) := by omega
      simp [hj, this])
  rw [e2]

set_option maxHeartbeats 4000000 in
set_option maxRecDepth 100000 in
theorem walk_walk (w : World) (va : Value) (xa : List Int) (ha : IntsAt w va xa) (at0 : Int) (hT : Tab w) :
    Calls Tryd.prog 7 #[va, .int .i64 at0] w fun e w' => e = .returned (.bool true) ∧ Kept [] w w' := by
  obtain ⟨i, hi, hz0, hz1, hz2⟩ := info_parts infoInt
  have HM := made_any w 500 ha hT
  rw [show newRoom 500 = 500 from by decide] at HM
  replace HM := hide HM
  have HT := hide hT
  clear ha hT
  go_enter Tryd.func7, Tryd.ntmps7
  go_wp2_with fail
  refine (unhide HM).mono ?_
  rintro e w1 ⟨s, b, ws, rfl, hs, hmem, hs1, hb1, k1⟩
  have HFEW := hide (made_few hmem)
  have HS1 := hide hs
  clear hs HM hmem
  have C := hide (awake_any w1 ((unhide HT).kept k1 (by simp)))
  go_wp2_with fail
  refine (unhide C).mono ?_
  rintro e w2 ⟨rfl, k2⟩
  have HS2 := hide ((unhide HS1).kept k2 (by simp) (by simp))
  have K2 := k1.trans k2
  have HT2 := hide ((unhide HT).kept K2 (by simp))
  clear C HS1 k1 k2
  have C := hide (least_any (unhide HS2) (unhide HT2) 0)
  go_wp2_with fail
  refine (unhide C).mono ?_
  rintro e w3 ⟨r, rfl, hr1, q, rfl⟩
  have hfew := unhide HFEW
  have htight := hide (unhide HS2).tight
  have HL := hide (fun (W : World) (f : Nat) (hk : Kept [] w2 W) => by
    have := least_any ((unhide HS2).kept hk (by simp) (by simp)) ((unhide HT2).kept hk (by simp)) (f : Int)
    rw [Int.toNat_natCast] at this
    exact this)
  clear C
  go_wp2
  go_loopw [6, 7] (fun v kk wr => ∃ (f : Nat) (r : Int) (ao : Option Addr) (cap : Nat), v = .slice ao (Bm.below (Bm.mem ws) f).length cap ∧ kk = .int .i64 r ∧ IsLeast (Bm.mem ws) f r ∧ f ≤ 500 ∧ wr.ownsRow w2.heap.size 3 1 (.slice ao (Bm.below (Bm.mem ws) f).length cap) (Bm.below (Bm.mem ws) f).length (((Bm.below (Bm.mem ws) f).map Int.ofNat).map (Value.int .i64)) ∧ Kept [] w2 wr) (fun _ kk _ => lm 500 kk)
  case atStart => exact ⟨0, r, none, 0, rfl, rfl, hr1, Nat.zero_le _, owns_nil _ _ _, (Kept.refl [] w2).drewN q⟩
  case round =>
    obtain ⟨f, r, ao, cap, rfl, rfl, hr2, hf, hown, hk⟩ := hrel
    have hfl : (Bm.below (Bm.mem ws) f).length ≤ 60 := Nat.le_trans (Bm.below_mono _ f 500 hf) hfew
    rcases hr2 with ⟨rfl, hnone⟩ | ⟨k, rfl, hfk, hmk, hno⟩
    · have hall := Bm.below_stay (Bm.mem ws) f 500 hf (fun j h1 _ => hnone j h1)
      clear hnone
      rw [← hall] at hown hfl
      rw [← hall]
      clear hall
      obtain ⟨ix, fx⟩ := ints_of_owns hown
      have HS4 := hide ((unhide HS2).kept hk (by simp) (by simp))
      have HT4 := hide ((unhide HT2).kept hk (by simp))
      have C := hide (list_set (unhide HS4) (unhide HT4))
      have IX := hide ix
      have OW := hide hown
      have hL : (elems ws 500).length = (Bm.below (Bm.mem ws) 500).length := rfl
      have K4 := K2.trans hk
      clear ix hown hL
      go_wp2_with fail
      refine (unhide C).mono ?_
      rintro e w5 ⟨v5, rfl, i5, -, k5⟩
      have K5 := K4.trans k5
      have HS5 := hide ((unhide HS4).kept k5 (by simp) (by simp))
      have HT5 := hide ((unhide HT4).kept k5 (by simp))
      have IX5 := hide ((unhide IX).kept k5)
      clear C
      have C := plain_any (unhide IX5) i5
      rw [show decide ((Bm.below (Bm.mem ws) 500).map Int.ofNat = (elems ws 500).map Int.ofNat) = true by simp [elems]] at C
      replace C := hide C
      clear i5
      go_wp2_with fail
      refine (unhide C).mono ?_
      rintro e w6 ⟨rfl, k6⟩
      replace k6 := Kept.ofDrewW k6
      have K6 := K5.trans k6
      have IX6 := hide ((unhide IX5).kept k6)
      clear C
      have C := rises_any (unhide IX6)
      rw [show risesB ((Bm.below (Bm.mem ws) 500).map Int.ofNat) = true from rises_elems ws 500] at C
      replace C := hide C
      go_wp2_with fail
      refine (unhide C).mono ?_
      rintro e w7 ⟨rfl, k7⟩
      replace k7 := Kept.ofDrewW k7
      have K7 := K6.trans k7
      have IX7 := hide ((unhide IX6).kept k7)
      have HS7 := hide ((unhide HS5).kept (k6.trans k7) (by simp) (by simp))
      have HT7 := hide ((unhide HT5).kept (k6.trans k7) (by simp))
      clear C IX IX5 IX6 HS4 HS5 HT4 HT5 K4 K5 K6 k5 k6 k7
      by_cases hL0 : (Bm.below (Bm.mem ws) 500).length = 0
      · have C := len_set (unhide HS7)
        rw [show (elems ws 500).length = 0 from hL0] at C
        replace C := hide C
        rw [hL0]
        clear hL0
        go_wp2_with fail
        refine (unhide C).mono ?_
        rintro e w8 ⟨rfl, hw⟩
        obtain rfl := hw.symm
        go_wp2
        go_ret
        exact ⟨rfl, K7⟩
      · have hq : (((Bm.below (Bm.mem ws) 500).length : Int) == 0) = false := by simp; intro h; exact hL0 (by rw [h]; rfl)
        obtain ⟨k, hkk, hkL⟩ := pick_at at0 (Bm.below (Bm.mem ws) 500).length (by omega) hfl
        obtain ⟨g, rfl, hg2⟩ := own_some (unhide OW) hL0
        have hsb : b < w2.heap.size := (unhide HS2).bl
        have W7 := hide (WS.mk (w0 := w) (w2 := w2) (xs := (Bm.below (Bm.mem ws) 500).map Int.ofNat) (cap := cap) (unhide HS7) (unhide HT7) (by rw [List.length_map]; exact unhide IX7) K7 hb1 (show g ≠ b by omega))
        have hin := hide (at_in (Bm.mem ws) 500 k hkL)
        have hnt := hide (at_gone (Bm.mem ws) 500 k hkL)
        have hcg := (unhide W7).cell k (by rw [List.length_map]; exact hkL)
        rw [map_getD' _ _ hkL] at hcg
        have hcap := hide (show (Bm.below (Bm.mem ws) 500).length ≤ cap by obtain ⟨ao, c, e, h1, _⟩ := unhide IX7; rw [List.length_map] at e h1; cases e; exact h1)
        clear IX7 OW fx HS7 HT7 hL0 hf hfew HFEW hr1 HL htight hk K7 HS2 HT2
        generalize hee : (Bm.below (Bm.mem ws) 500).getD k 0 = e at *
        replace hee := hide hee
        generalize hLL : (Bm.below (Bm.mem ws) 500).length = L at *
        replace hLL := hide hLL
        go_wp2_with fail
        have hck : k < ((Bm.below (Bm.mem ws) 500).map Int.ofNat).length := by rw [List.length_map, unhide hLL]; exact hkL
        have D1 := hide (fun (W : World) (hW : WS w w2 s b g cap ((Bm.below (Bm.mem ws) 500).map Int.ofNat) ws W) => by
          have c := hW.drop (e : Int)
          rw [show hasI ws (e : Int) = true by simp [hasI]; exact unhide hin] at c
          exact c)
        have D2 := hide (fun (W : World) (hW : WS w w2 s b g cap ((Bm.below (Bm.mem ws) 500).map Int.ofNat) (dropS ws (e : Int)) W) => by
          have c := hW.drop (e : Int)
          rw [show hasI (dropS ws (e : Int)) (e : Int) = false by simp [hasI, mem_dropS], show dropS (dropS ws (e : Int)) (e : Int) = dropS ws (e : Int) by rw [dropS, if_neg]; simp [mem_dropS]] at c
          exact c)
        have D3 := hide (fun (W : World) (hW : WS w w2 s b g cap ((Bm.below (Bm.mem ws) 500).map Int.ofNat) (dropS ws (e : Int)) W) => by
          have c := hW.has (e : Int)
          rw [show hasI (dropS ws (e : Int)) (e : Int) = false by simp [hasI, mem_dropS]] at c
          exact c)
        have D4 := hide (fun (W : World) (hW : WS w w2 s b g cap ((Bm.below (Bm.mem ws) 500).map Int.ofNat) (dropS ws (e : Int)) W) => hW.list)
        have KE := hide (fun (ws' : Nat → Nat) (W : World) (hW : WS w w2 s b g cap ((Bm.below (Bm.mem ws) 500).map Int.ofNat) ws' W) => (hW.cell k hck).trans (by rw [map_getD' _ _ (by rw [unhide hLL]; exact hkL), unhide hee]))
        have W8 := hide ((unhide W7).keep (Kept.refl [] w7).drew)
        clear W7 hck
        have hLc : L ≤ cap := unhide hcap
        have hkc : k ≤ cap := by omega
        have hk1 : (k : Int) + 1 ≤ (L : Int) := by omega
        have hk1c : (k : Int) + 1 ≤ (cap : Int) := by omega
        have hLci : (L : Int) ≤ (cap : Int) := by omega
        have hc0 : ¬ cap = 0 := by omega
        have h0k : 0 ≤ (k : Int) + 1 := by omega
        have hwr : IntKind.i64.wrap ((k : Int) + 1) = (k : Int) + 1 := by rw [IntWalk.i64_left, IntWalk.wrap64_in _ (by omega)]
        have htn : ((k : Int) + 1).toNat = k + 1 := by omega
        have HN1 := hide (show ((((Bm.below (Bm.mem ws) 500).map Int.ofNat).take k).map (Value.int .i64)).length = k * 1 by rw [List.length_map, List.length_take, List.length_map, unhide hLL]; omega)
        have HN2 := hide (show ((((Bm.below (Bm.mem ws) 500).map Int.ofNat).drop (k + 1)).map (Value.int .i64)).length = (L - (k + 1)) * 1 by rw [List.length_map, List.length_drop, List.length_map, unhide hLL]; omega)
        have FIN := hide (fun (W11 W13 : World) (v11 v13 : Value) (K13 : Kept [] W11 W13) (i11 : IntsAt W11 v11 ((elems (dropS ws (e : Int)) 500).map Int.ofNat)) (n13 : Nat) (own13 : W13.ownsRow W11.heap.size 3 1 v13 n13 ([] ++ (((Bm.below (Bm.mem ws) 500).map Int.ofNat).take k).map (Value.int .i64) ++ (((Bm.below (Bm.mem ws) 500).map Int.ofNat).drop (k + 1)).map (Value.int .i64))) => by
          rw [List.nil_append, ← List.map_append] at own13
          have c := plain_any (i11.kept K13) (ints_of_owns own13).1
          rw [show decide ((elems (dropS ws (e : Int)) 500).map Int.ofNat = ((Bm.below (Bm.mem ws) 500).map Int.ofNat).take k ++ ((Bm.below (Bm.mem ws) 500).map Int.ofNat).drop (k + 1)) = true by simp only [decide_eq_true_eq]; exact gone_list ws 500 k e (by rw [unhide hLL]; exact hkL) (unhide hee)] at c
          exact c)
        by_cases hce : cap = k + 1
        · have hce2 : k + 1 = cap := hce.symm
          have HV := hide (fun (W : World) (j : Nat) (u : Value) (hu : ((((Bm.below (Bm.mem ws) 500).map Int.ofNat).drop (k + 1)).map (Value.int .i64))[j]? = some u) => show W.cell? ((⟨g, 0, none⟩ : Addr).add j) = some u by
            have hj := (List.getElem?_eq_some_iff.1 hu).1
            rw [unhide HN2] at hj
            omega)
          replace HN2 := hide (show ((((Bm.below (Bm.mem ws) 500).map Int.ofNat).drop (k + 1)).map (Value.int .i64)).length = 0 * 1 by rw [unhide HN2]; omega)
          clear hce
          go_region_held_law (fun W => W.cell? ⟨g, k, none⟩ = some (.int .i64 (e : Nat))) (first | (exact unhide KE _ _ (by assumption)) | go_keep) (first
          | (refine step_append_g (by rfl) (.const (.slice none 0 0)) (.tmp 86) 29 rfl w11.heap.size 3 i (.int .i64 0) 1 8 Tryd.underlying29 hi hz0 hz1 hz2 rfl (by decide) (.slice none 0 0) 0 [] rfl (owns_nil _ _ _) ⟨g, 0, none⟩ k _ ((((Bm.below (Bm.mem ws) 500).map Int.ofNat).take k).map (Value.int .i64)) rfl (unhide HN1) (h11.first k) (ints_one _) (by unfold maxLen; omega) (by omega) (Nat.le_refl _) ?_; intro v12 w12 own12 g12; have K12 : Kept [] w11 w12 := (Kept.refl [] w11).grown g12 (by simp [Value.ownBlock]); have h12 := h11.keep K12)
          | (refine step_append_g (by rfl) (.tmp 87) (.tmp 91) 29 rfl w11.heap.size 3 i (.int .i64 0) 1 8 Tryd.underlying29 hi hz0 hz1 hz2 rfl (by decide) v12 _ _ rfl own12 ⟨g, 0, none⟩ 0 _ ((((Bm.below (Bm.mem ws) 500).map Int.ofNat).drop (k + 1)).map (Value.int .i64)) rfl (unhide HN2) (unhide HV _) (ints_one _) (by unfold maxLen; omega) (by omega) K12.size ?_; intro v13 w13 own13 g13; have K13 : Kept [] w11 w13 := K12.grown g13 (fun j hj => Or.inr (own_block own12 j hj)); have h13 := h11.keep K13; have PL := hide (unhide FIN w11 w13 v11 v13 K13 i11 _ own13))
          | (go_at_call 16; refine (unhide PL).mono ?_; rintro e1 w14 ⟨rfl, k14⟩; have h14 := h13.keep (Kept.ofDrewW k14))
          | (go_at_call 13; refine (unhide D2 _ (by assumption)).mono ?_; rintro e1 w9 ⟨rfl, h9⟩)
          | (go_at_call 13; refine (unhide D1 _ (unhide W8)).mono ?_; rintro e1 w8 ⟨rfl, h8⟩)
          | (go_at_call 21; refine (unhide D3 _ (by assumption)).mono ?_; rintro e1 w10 ⟨rfl, h10⟩)
          | (go_at_call 17; refine (unhide D4 _ (by assumption)).mono ?_; rintro e1 w11 ⟨v11, rfl, h11, i11⟩))
          all_goals go_wp2
          all_goals go_ret
          all_goals exact ⟨rfl, h14.kept⟩
        · go_region_held_law (fun W => W.cell? ⟨g, k, none⟩ = some (.int .i64 (e : Nat))) (first | (exact unhide KE _ _ (by assumption)) | go_keep) (first
          | (refine step_append_g (by rfl) (.const (.slice none 0 0)) (.tmp 86) 29 rfl w11.heap.size 3 i (.int .i64 0) 1 8 Tryd.underlying29 hi hz0 hz1 hz2 rfl (by decide) (.slice none 0 0) 0 [] rfl (owns_nil _ _ _) ⟨g, 0, none⟩ k _ ((((Bm.below (Bm.mem ws) 500).map Int.ofNat).take k).map (Value.int .i64)) rfl (unhide HN1) (h11.first k) (ints_one _) (by unfold maxLen; omega) (by omega) (Nat.le_refl _) ?_; intro v12 w12 own12 g12; have K12 : Kept [] w11 w12 := (Kept.refl [] w11).grown g12 (by simp [Value.ownBlock]); have h12 := h11.keep K12)
          | (refine step_append_g (by rfl) (.tmp 87) (.tmp 91) 29 rfl w11.heap.size 3 i (.int .i64 0) 1 8 Tryd.underlying29 hi hz0 hz1 hz2 rfl (by decide) v12 _ _ rfl own12 ⟨g, k + 1, none⟩ (L - (k + 1)) _ ((((Bm.below (Bm.mem ws) 500).map Int.ofNat).drop (k + 1)).map (Value.int .i64)) rfl (unhide HN2) (h12.rest k) (ints_one _) (by unfold maxLen; omega) (by omega) K12.size ?_; intro v13 w13 own13 g13; have K13 : Kept [] w11 w13 := K12.grown g13 (fun j hj => Or.inr (own_block own12 j hj)); have h13 := h11.keep K13; have PL := hide (unhide FIN w11 w13 v11 v13 K13 i11 _ own13))
          | (go_at_call 16; refine (unhide PL).mono ?_; rintro e1 w14 ⟨rfl, k14⟩; have h14 := h13.keep (Kept.ofDrewW k14))
          | (go_at_call 13; refine (unhide D2 _ (by assumption)).mono ?_; rintro e1 w9 ⟨rfl, h9⟩)
          | (go_at_call 13; refine (unhide D1 _ (unhide W8)).mono ?_; rintro e1 w8 ⟨rfl, h8⟩)
          | (go_at_call 21; refine (unhide D3 _ (by assumption)).mono ?_; rintro e1 w10 ⟨rfl, h10⟩)
          | (go_at_call 17; refine (unhide D4 _ (by assumption)).mono ?_; rintro e1 w11 ⟨v11, rfl, h11, i11⟩))
          all_goals go_wp2
          all_goals go_ret
          all_goals exact ⟨rfl, h14.kept⟩
    · have hkr : k < 500 := unhide htight k hmk
      have hst := hide (Bm.below_step (Bm.mem ws) f k hfk hno hmk)
      have hbl := Bm.below_le (Bm.mem ws) f
      clear hno hmk
      go_wp2_with (first | (at_builtin; refine wpList_append_own _ rfl (.tmp 30) (.tmp 32) 29 rfl w2.heap.size 3 i (.int .i64 0) 1 8 Tryd.underlying29 hi hz0 hz1 hz2 rfl (by decide) _ _ _ rfl (hown.alloc _) _ 1 _ [.int .i64 (k : Nat)] rfl rfl (one_cell _ _) (by simp [Value.oneCell']) (by unfold maxLen; omega) (by omega) (by simp; have := hk.size; omega) ?_; intro v' w4 hown2 hg2 _))
      have hk2 : Kept [] w2 w4 := (hk.alloc _).grown hg2 (fun j hj => Or.inr (own_block hown j hj))
      have HL2 := unhide HL w4 (k + 1) hk2
      rw [show (((k + 1 : Nat)) : Int) = (k : Int) + 1 from by omega] at HL2
      have HL3 := hide HL2
      clear HL2
      go_wp2_with (go_at_call 22; refine (unhide HL3).mono ?_; rintro e w5 ⟨r', rfl, hr3, q', rfl⟩)
      go_roundw
      case rel =>
        obtain ⟨ao', cap', rfl⟩ := own_form hown2
        refine ⟨k + 1, r', ao', cap', ?_, rfl, hr3, by omega, ?_, hk2.drewN q'⟩
        · rw [unhide hst, List.length_append]; rfl
        · rw [unhide hst, List.length_append, List.map_append, List.map_append]
          exact hown2
      case measure => exact hr3.next hkr (unhide htight)
end Go.Proofs.YtmcgeadpoiihkaaDoor
