/- The reference's Unite. The reference's Unite of two sets. The reference's Sets. Same, Plain of numbers. Lists held against each other. -/
import Derived.Test.YthncoddcpjpblaaJoinOrder14
import Derived.BigRegion
import Derived.Test.YthncoddcpjpblaaJoinOrder1
import Derived.Test.YthncoddcpjpblaaJoinOrder11
namespace Go.Proofs.Ythncoddcpjpblaa
open Go.RowKit

theorem OfAt.congr {w : World} {g N : Nat} {f f' : Nat → Int} (h : OfAt w g N f) (e : ∀ i, i < N → f i = f' i) : OfAt w g N f' := ⟨fun v hv => by rw [← e v hv]; exact h.cell v hv, h.free, h.lt⟩
/-- The first k are new. -/
def mixF (k : Nat) (f g : Nat → Nat) : Nat → Nat := fun i => if i < k then f i else g i
theorem mixF_at {k : Nat} {f g : Nat → Nat} : mixF k f g k = g k := by unfold mixF; simp
theorem mixF_step {k i : Nat} {f g : Nat → Nat} {x : Nat} (hx : x = f k) : (if i = k then (x : Int) else (mixF k f g i : Int)) = (mixF (k + 1) f g i : Int) := by
  unfold mixF
  by_cases e : i = k
  · subst e; simp [hx]
  · simp only [e, if_false]
    by_cases h : i < k
    · rw [if_pos h, if_pos (by omega)]
    · rw [if_neg h, if_neg (by omega)]
theorem mixF_same {k : Nat} {f g : Nat → Nat} (hx : f k = g k) : mixF (k + 1) f g = mixF k f g := by
  funext i
  unfold mixF
  by_cases e : i = k
  · subst e; simp [hx]
  · by_cases h : i < k
    · rw [if_pos h, if_pos (by omega)]
    · rw [if_neg h, if_neg (by omega)]
/-- The rows, of the first k new. -/
structure RM (w : World) (p ga gb n k : Nat) (f g f' g' : Nat → Nat) : Prop where
  c0 : ∃ ca, w.cell? ⟨p, 0, none⟩ = some (.slice (some ⟨ga, 0, none⟩) n ca)
  c1 : ∃ cb, w.cell? ⟨p, 1, none⟩ = some (.slice (some ⟨gb, 0, none⟩) n cb)
  a : OfAt w ga n (fun i => (mixF k f g i : Int))
  b : OfAt w gb n (fun i => (mixF k f' g' i : Int))
theorem RM.kept {w w' : World} {p ga gb n k : Nat} {f g f' g' : Nat → Nat} (h : RM w p ga gb n k f g f' g') (kk : Kept [] w w') : RM w' p ga gb n k f g f' g' := by
  obtain ⟨ca, h0⟩ := h.c0
  obtain ⟨cb, h1⟩ := h.c1
  exact ⟨⟨ca, kept_cell h0 kk⟩, ⟨cb, kept_cell h1 kk⟩, h.a.kept kk, h.b.kept kk⟩
theorem RM.step {w : World} {p ga gb n k : Nat} {f g f' g' : Nat → Nat} (h : RM w p ga gb n k f g f' g') (hpa : p ≠ ga) (hpb : p ≠ gb) (hab : ga ≠ gb) (hk : k < n) {x y : Nat} (hx : x = f k) (hy : y = f' k) : RM ((w.setCell ⟨ga, k, none⟩ (.int .i64 (x : Int))).setCell ⟨gb, k, none⟩ (.int .i64 (y : Int))) p ga gb n (k + 1) f g f' g' := by
  obtain ⟨ca, h0⟩ := h.c0
  obtain ⟨cb, h1⟩ := h.c1
  have kk : Kept [ga, gb] w ((w.setCell ⟨ga, k, none⟩ (.int .i64 (x : Int))).setCell ⟨gb, k, none⟩ (.int .i64 (y : Int))) := ((Kept.refl _ w).setCell (Or.inl (by simp)) _).setCell (Or.inl (by simp)) _
  refine ⟨⟨ca, kept_cell' h0 kk (by simp [hpa, hpb])⟩, ⟨cb, kept_cell' h1 kk (by simp [hpa, hpb])⟩, ?_, ?_⟩
  · exact ((h.a.set hk (x : Int)).keptAt (bs := [gb]) ((Kept.refl _ _).setCell (Or.inl (by simp)) _) (by simp [hab])).congr (fun i _ => mixF_step hx)
  · exact ((h.b.keptAt (bs := [ga]) ((Kept.refl _ _).setCell (Or.inl (by simp)) _) (by simp [hab.symm])).set hk (y : Int)).congr (fun i _ => mixF_step hy)
/-- What Unite leaves. -/
def RUPost (w : World) (p ga gb n : Nat) (L B : Nat → Nat) (a b l : Int) (e : Ending) (w' : World) : Prop := e = .returned (.bool (uniOK n L a b l)) ∧ RJ w' p ga gb n (stepL n L a b l) (stepB n L B a b l) ∧ Kept [ga, gb] w w'
theorem rupost_no {w : World} {p ga gb n : Nat} {L B : Nat → Nat} {a b l : Int} (h : RJ w p ga gb n L B) (hu : uniOK n L a b l = false) (m : Nat) : RUPost w p ga gb n L B a b l (.returned (.bool false)) (w.drewN m) := by
  refine ⟨by rw [hu], ?_, (Kept.refl _ w).drewN m⟩
  have e1 : stepL n L a b l = L := by unfold stepL; rw [hu]; simp
  have e2 : stepB n L B a b l = B := by unfold stepB; rw [hu]; simp
  rw [e1, e2]
  exact h.drewN m
set_option maxRecDepth 20000 in
set_option maxHeartbeats 4000000 in
theorem jrunite_no {w : World} {p ga gb n : Nat} {L B : Nat → Nat} (h : RJ w p ga gb n L B) {a b l : Int} (hn : (hasN n a && (hasN n b && hasN n l)) = false) :
    Calls Try.prog 10 #[.pointer (some ⟨p, 0, none⟩), .int .i64 a, .int .i64 b, .int .i64 l] w fun e w' => RUPost w p ga gb n L B a b l e w' := by
  have HA := fun m => jris_any (h.drewN m) a
  have HB := fun m => jris_any (h.drewN m) b
  have HL := fun m => jris_any (h.drewN m) l
  have FIN := hide (fun m => rupost_no h (a := a) (b := b) (l := l) (by unfold uniOK; revert hn; cases hasN n a <;> cases hasN n b <;> cases hasN n l <;> simp) m)
  clear h
  cases ha : hasN n a
  · rw [ha] at HA
    replace HA := hide HA
    clear ha hn HB HL
    go_enter Try.func10, Try.ntmps10
    go_wp2_with fail
    go_quiet ((go_at_call 23; exact Calls.quiet_of_same (unhide HA _)))
    go_wp2
    go_ret
    exact unhide FIN _
  · rw [ha] at HA
    cases hb : hasN n b
    · rw [hb] at HB
      replace HA := hide HA
      replace HB := hide HB
      clear ha hb hn HL
      go_enter Try.func10, Try.ntmps10
      go_wp2_with fail
      go_quiet (first | (go_at_call_of 23 a; exact Calls.quiet_of_same (unhide HA _)) | (go_at_call_of 23 b; exact Calls.quiet_of_same (unhide HB _)))
      go_wp2
      go_ret
      exact unhide FIN _
    · rw [ha, hb] at hn
      have hl : hasN n l = false := by simpa using hn
      rw [hb] at HB
      rw [hl] at HL
      replace HA := hide HA
      replace HB := hide HB
      replace HL := hide HL
      clear ha hb hn hl
      go_enter Try.func10, Try.ntmps10
      go_wp2_with fail
      go_quiet (first | (go_at_call_of 23 a; exact Calls.quiet_of_same (unhide HA _)) | (go_at_call_of 23 b; exact Calls.quiet_of_same (unhide HB _)) | (go_at_call_of 23 l; exact Calls.quiet_of_same (unhide HL _)))
      go_wp2
      go_ret
      exact unhide FIN _
set_option maxRecDepth 20000 in
set_option maxHeartbeats 4000000 in
theorem jrunite_one {w : World} {p ga gb n : Nat} {L B : Nat → Nat} (h : RJ w p ga gb n L B) {a b l : Int} {x y : Nat} (hx : x < n) (hy : y < n) (ea : a = (x : Int)) (eb : b = (y : Int)) (hl : hasN n l = true) (he : L x = L y) :
    Calls Try.prog 10 #[.pointer (some ⟨p, 0, none⟩), .int .i64 a, .int .i64 b, .int .i64 l] w fun e w' => RUPost w p ga gb n L B a b l e w' := by
  have HA := fun m => jris_any (h.drewN m) a
  have HB := fun m => jris_any (h.drewN m) b
  have HL := fun m => jris_any (h.drewN m) l
  rw [show hasN n a = true by rw [ea]; exact hasN_nat hx] at HA
  rw [show hasN n b = true by rw [eb]; exact hasN_nat hy] at HB
  rw [hl] at HL
  replace HA := hide HA
  replace HB := hide HB
  replace HL := hide HL
  have FIN := hide (fun m => rupost_no h (a := a) (b := b) (l := l) (by unfold uniOK; subst ea eb; simp [he]) m)
  obtain ⟨ca, cb, c0, _, d0, _⟩ := h.at' hx
  obtain ⟨_, _, _, _, e0, _⟩ := h.at' hy
  have k0 : (0 : Int) ≤ (x : Int) := by omega
  have k1 : (x : Int) < (n : Int) := by omega
  have k2 : (0 : Int) ≤ (y : Int) := by omega
  have k3 : (y : Int) < (n : Int) := by omega
  rw [he] at d0
  clear h he hl
  generalize (L y : Int) = ly at *
  generalize hxa : (x : Int) = xi at *
  generalize hyb : (y : Int) = yi at *
  subst ea eb
  have hX : a.toNat = x := by omega
  have hY : b.toNat = y := by omega
  rw [← hX] at d0
  rw [← hY] at e0
  clear hX hY hxa hyb hx hy
  go_enter Try.func10, Try.ntmps10
  go_wp2_with fail
  go_quiet (first | (go_at_call_of 23 a; exact Calls.quiet_of_same (unhide HA _)) | (go_at_call_of 23 b; exact Calls.quiet_of_same (unhide HB _)) | (go_at_call_of 23 l; exact Calls.quiet_of_same (unhide HL _)))
  go_wp2
  go_ret
  exact unhide FIN _
end Go.Proofs.Ythncoddcpjpblaa

namespace Go.Proofs.Ythncoddcpjpblaa
open Go.RowKit

set_option maxRecDepth 20000 in
set_option maxHeartbeats 8000000 in
theorem jrunite_yes {w : World} {p ga gb n : Nat} {L B : Nat → Nat} (h : RJ w p ga gb n L B) {a b l : Int} {x y z : Nat} (hx : x < n) (hy : y < n) (hz : z < n) (ea : a = (x : Int)) (eb : b = (y : Int)) (el : l = (z : Int)) (hne : L x ≠ L y) :
    Calls Try.prog 10 #[.pointer (some ⟨p, 0, none⟩), .int .i64 a, .int .i64 b, .int .i64 l] w fun e w' => RUPost w p ga gb n L B a b l e w' := by
  have HA := fun m => jris_any (h.drewN m) a
  have HB := fun m => jris_any (h.drewN m) b
  have HL := fun m => jris_any (h.drewN m) l
  rw [show hasN n a = true by rw [ea]; exact hasN_nat hx] at HA
  rw [show hasN n b = true by rw [eb]; exact hasN_nat hy] at HB
  rw [show hasN n l = true by rw [el]; exact hasN_nat hz] at HL
  replace HA := hide HA
  replace HB := hide HB
  replace HL := hide HL
  have hu : uniOK n L a b l = true := by unfold uniOK; subst ea eb el; simp [hasN_nat hx, hasN_nat hy, hasN_nat hz, hne]
  have EL : stepL n L a b l = uniL L (L x) (L y) := by unfold stepL; rw [hu, ea, eb]; simp
  have EB : stepB n L B a b l = uniB L B (L x) (L y) z := by unfold stepB; rw [hu, ea, eb, el]; simp
  have hlx := h.isL.lt hx
  have hly := h.isL.lt hy
  have ISL := h.isL.uni (h.isL.idem x hx) (h.isL.idem y hy)
  obtain ⟨ca, cb, c0, c1, d0, _⟩ := h.at' hx
  obtain ⟨_, _, _, _, e0, _⟩ := h.at' hy
  have hn0 : 0 < n := by omega
  have hpa := h.pa hn0
  have hpb := h.pb hn0
  have hab := h.ab hn0
  have hla := h.la
  have hlb := h.lb
  have hmost := h.most
  have FIN := hide (show ∀ W, Kept [ga, gb] w W → RM W p ga gb n n (uniL L (L x) (L y)) L (uniB L B (L x) (L y) z) B → RUPost w p ga gb n L B a b l (.returned (.bool true)) W from fun W kk hm => by
    refine ⟨by rw [hu], ?_, kk⟩
    rw [EL, EB]
    obtain ⟨ca, h0⟩ := hm.c0
    obtain ⟨cb, h1⟩ := hm.c1
    exact ⟨⟨_, ca, h0, fun _ => rfl⟩, ⟨_, cb, h1, fun _ => rfl⟩, fun _ => hpa, fun _ => hpb, fun _ => hab, Nat.lt_of_lt_of_le hla kk.size, Nat.lt_of_lt_of_le hlb kk.size, fun _ => hm.a.congr (fun i hi => by unfold mixF; rw [if_pos hi]), fun _ => hm.b.congr (fun i hi => by unfold mixF; rw [if_pos hi]), ISL, hmost⟩)
  have RM0 := hide (show ∀ m, RM (w.drewN m) p ga gb n 0 (uniL L (L x) (L y)) L (uniB L B (L x) (L y) z) B from fun m => RM.kept ⟨⟨ca, c0⟩, ⟨cb, c1⟩, (h.a hn0).congr (fun i _ => by unfold mixF; simp), (h.b hn0).congr (fun i _ => by unfold mixF; simp)⟩ ((Kept.refl [] w).drewN m))
  have k0 : (0 : Int) ≤ a := by omega
  have k1 : a < (n : Int) := by omega
  have k2 : (0 : Int) ≤ b := by omega
  have k3 : b < (n : Int) := by omega
  have hq : ((L x : Int) == (L y : Int)) = false := by simp; omega
  have hmI : (n : Int) ≤ 9223372036854775807 := by omega
  rw [show x = a.toNat by omega] at d0
  rw [show y = b.toNat by omega] at e0
  rw [show L a.toNat = L x by rw [show a.toNat = x by omega]] at d0
  rw [show L b.toNat = L y by rw [show b.toNat = y by omega]] at e0
  subst el
  have HNE := hide hne
  have HUL := hide (fun k => show uniL L (L x) (L y) k = if L k = L x ∨ L k = L y then min (L x) (L y) else L k from rfl)
  have HUB := hide (fun k => show uniB L B (L x) (L y) z k = if L k = L x ∨ L k = L y then z else B k from rfl)
  generalize uniL L (L x) (L y) = fL at *
  generalize uniB L B (L x) (L y) z = fB at *
  have HU := hide hu
  clear h ea eb EL EB ISL hu c1
  generalize L x = u at *
  generalize L y = v at *
  have HPA := hide hpa
  have HPB := hide hpb
  have HAB := hide hab
  go_enter Try.func10, Try.ntmps10
  go_wp2_with fail
  go_quiet (first | (go_at_call_of 23 a; exact Calls.quiet_of_same (unhide HA _)) | (go_at_call_of 23 b; exact Calls.quiet_of_same (unhide HB _)) | (go_at_call_of 23 z; exact Calls.quiet_of_same (unhide HL _)))
  have RM1 := hide (unhide RM0 nq)
  have KQ := hide (((Kept.refl [ga, gb] w)).drewN nq)
  go_wp2_with fail
  go_quiet (fail)
  have RM2 := hide ((unhide RM1).kept ((Kept.refl [] _).drewN nq))
  have KQ2 := hide ((unhide KQ).drewN nq)
  generalize (w.drewN _).drewN nq = W2 at *
  clear RM1 KQ RM0 HA HB HL d0 e0 c0
  go_wp2
  go_loopw [11] (fun c wr => ∃ k : Nat, k ≤ n ∧ c = .int .i64 k ∧ Hid (RM wr p ga gb n k fL L fB B ∧ Kept [ga, gb] w wr)) (fun c _ => n - (intOf c).toNat)
  case atStart => exact ⟨0, Nat.zero_le _, rfl, unhide RM2, unhide KQ2⟩
  case round =>
    obtain ⟨k, hk, rfl, hh⟩ := hrel
    clear RM2 KQ2
    obtain ⟨ca2, c0⟩ := (unhide hh).1.c0
    obtain ⟨cb2, c1⟩ := (unhide hh).1.c1
    by_cases hlt : k < n
    · have t0 : (0 : Int) ≤ (k : Int) := by omega
      have t1 : (k : Int) < (n : Int) := by omega
      have da := (unhide hh).1.a.cell k hlt
      have fa := (unhide hh).1.a.free k
      have db := (unhide hh).1.b.cell k hlt
      have fb := (unhide hh).1.b.free k
      rw [mixF_at] at da db
      by_cases h1 : L k = u ∨ L k = v
      · have HX := unhide HUL k
        have HY := unhide HUB k
        rw [if_pos h1] at HX HY
        have HSTEP := hide (show ∀ m : Nat, m = min u v → RM ((wr.setCell ⟨ga, k, none⟩ (.int .i64 (m : Int))).setCell ⟨gb, k, none⟩ (.int .i64 (z : Int))) p ga gb n (k + 1) fL L fB B from fun m hm => (unhide hh).1.step (unhide HPA) (unhide HPB) (unhide HAB) hlt (by rw [HX, hm]) (by rw [HY]))
        have HKK := hide (show ∀ m : Nat, Kept [ga, gb] w ((wr.setCell ⟨ga, k, none⟩ (.int .i64 (m : Int))).setCell ⟨gb, k, none⟩ (.int .i64 (z : Int))).drew from fun m => (((unhide hh).2.setCell (Or.inl (by simp)) _).setCell (Or.inl (by simp)) _).drew)
        have g1 : ga ≠ gb := unhide HAB
        have g2 : gb ≠ ga := g1.symm
        clear HX HY
        by_cases h2 : L k = u
        · have q1 : ((L k : Int) == (u : Int)) = true := by simp [h2]
          clear h1 h2
          generalize L k = lk at *
          by_cases h3 : u < v
          · have u1 : (u : Int) < (v : Int) := by omega
            go_wp2
            go_region
            go_wp2
            go_roundw
            case rel => exact ⟨k + 1, by omega, by go_num, (unhide HSTEP u (by omega)).kept ((Kept.refl [] _).drew), unhide HKK u⟩
            case measure => simp [intOf]; omega
          · have u1 : (v : Int) < (u : Int) := by omega
            go_wp2
            go_region
            go_wp2
            go_roundw
            case rel => exact ⟨k + 1, by omega, by go_num, (unhide HSTEP v (by omega)).kept ((Kept.refl [] _).drew), unhide HKK v⟩
            case measure => simp [intOf]; omega
        · have q1 : ((L k : Int) == (u : Int)) = false := by simp; omega
          have q2 : ((L k : Int) == (v : Int)) = true := by simp; omega
          clear h1 h2
          generalize L k = lk at *
          by_cases h3 : u < v
          · have u1 : (u : Int) < (v : Int) := by omega
            go_wp2
            go_region
            go_wp2
            go_roundw
            case rel => exact ⟨k + 1, by omega, by go_num, (unhide HSTEP u (by omega)).kept ((Kept.refl [] _).drew), unhide HKK u⟩
            case measure => simp [intOf]; omega
          · have u1 : (v : Int) < (u : Int) := by omega
            go_wp2
            go_region
            go_wp2
            go_roundw
            case rel => exact ⟨k + 1, by omega, by go_num, (unhide HSTEP v (by omega)).kept ((Kept.refl [] _).drew), unhide HKK v⟩
            case measure => simp [intOf]; omega
      · have HX := unhide HUL k
        have HY := unhide HUB k
        rw [if_neg h1] at HX HY
        have e1 := mixF_same HX
        have e2 := mixF_same HY
        have HR := hide (show RM wr p ga gb n (k + 1) fL L fB B by
          obtain ⟨r0, r1, r2, r3⟩ := (unhide hh).1
          exact ⟨r0, r1, by rw [e1]; exact r2, by rw [e2]; exact r3⟩)
        have HKK := hide (unhide hh).2
        have q1 : ((L k : Int) == (u : Int)) = false := by simp; omega
        have q2 : ((L k : Int) == (v : Int)) = false := by simp; omega
        clear h1 e1 e2 HX HY
        generalize L k = lk at *
        go_wp2
        go_roundw
        case rel => exact ⟨k + 1, by omega, by go_num, unhide HR, unhide HKK⟩
        case measure => simp [intOf]; omega
    · have e : k = n := by omega
      subst e
      go_wp2
      go_ret
      exact unhide FIN _ (unhide hh).2 (unhide hh).1
theorem jrunite_any {w : World} {p ga gb n : Nat} {L B : Nat → Nat} (h : RJ w p ga gb n L B) (a b l : Int) :
    Calls Try.prog 10 #[.pointer (some ⟨p, 0, none⟩), .int .i64 a, .int .i64 b, .int .i64 l] w fun e w' => RUPost w p ga gb n L B a b l e w' := by
  cases hh : (hasN n a && (hasN n b && hasN n l))
  · exact jrunite_no h hh
  · simp only [Bool.and_eq_true] at hh
    obtain ⟨h1, h2, h3⟩ := hh
    obtain ⟨x, hx, ea⟩ := hasN_at h1
    obtain ⟨y, hy, eb⟩ := hasN_at h2
    obtain ⟨z, hz, el⟩ := hasN_at h3
    by_cases he : L x = L y
    · exact jrunite_one h hx hy ea eb h3 he
    · exact jrunite_yes h hx hy hz ea eb el he
end Go.Proofs.Ythncoddcpjpblaa

namespace Go.Proofs.Ythncoddcpjpblaa
open Go.RowKit

/-- The sets whose least numbers are below k. -/
def setsTo (n : Nat) (L : Nat → Nat) (k : Nat) : List (List Int) := (tops k L).map (setOf n L)
theorem setsTo_yes {n k : Nat} {L : Nat → Nat} (h : L k = k) : setsTo n L (k + 1) = setsTo n L k ++ [setOf n L k] := by
  unfold setsTo; rw [tops_succ, if_pos h, List.map_append]; rfl
theorem setsTo_no {n k : Nat} {L : Nat → Nat} (h : L k ≠ k) : setsTo n L (k + 1) = setsTo n L k := by
  unfold setsTo; rw [tops_succ, if_neg h, List.append_nil]
theorem setsTo_len (n k : Nat) (L : Nat → Nat) : (setsTo n L k).length ≤ k := by
  unfold setsTo; rw [List.length_map, tops_len]; exact cntL_le k L
theorem setOf_len (n k : Nat) (L : Nat → Nat) : (setOf n L k).length ≤ n := by
  unfold setOf; rw [List.length_map]; exact Nat.le_trans (List.length_filter_le _ _) (by simp)
theorem setOf_mem {n k : Nat} {L : Nat → Nat} (hk : k < n) (h : L k = k) : (k : Int) ∈ setOf n L k := by
  unfold setOf; simp only [List.mem_map, List.mem_filter, List.mem_range]; exact ⟨k, ⟨hk, by simp [h]⟩, rfl⟩
theorem infoIntsR : (Try.prog.info? 39).map (fun i => (i.zero, i.size, i.bytes)) = some (some (.slice none 0 0), 1, 24) := by kernel_rfl
set_option maxRecDepth 20000 in
set_option maxHeartbeats 8000000 in
theorem jrsets_any {w : World} {p ga gb n : Nat} {L B : Nat → Nat} (h : RJ w p ga gb n L B) :
    Calls Try.prog 12 #[.pointer (some ⟨p, 0, none⟩)] w fun e w' => ∃ r, e = .returned r ∧ ListsAt w' r (setsL n L) ∧ Kept [] w w' := by
  obtain ⟨i, hi, hz0, hz1, hz2⟩ := info_parts infoInt
  obtain ⟨i', hi', hz0', hz1', hz2'⟩ := info_parts infoIntsR
  have hmost := h.most
  have HJ := hide h
  have HI := hide h.isL
  have HL0 := hide (LRow.start w w.heap.size p)
  have hpw : p < w.heap.size := by obtain ⟨_, _, c, _⟩ := h.c0; exact lt_of_cell c
  have hnI : (n : Int) ≤ 9223372036854775807 := by omega
  clear h
  go_enter Try.func12, Try.ntmps12
  go_wp2
  go_loopw [3, 4] (fun lv vv wt => ∃ (k : Nat) (vals : List Value) (lo : Option Addr) (lc : Nat), k ≤ n ∧ vv = .int .i64 k ∧ lv = .slice lo (setsTo n L k).length lc ∧ LRow wt w.heap.size p lv (setsTo n L k) vals ∧ Hid (Kept [] w wt)) (fun _ vv _ => n - (intOf vv).toNat)
  case atStart => exact ⟨0, [], none, 0, Nat.zero_le _, rfl, rfl, unhide HL0, Kept.refl [] w⟩
  case round =>
    obtain ⟨k, vals, lo, lc, hk, rfl, rfl, hrow, hkk⟩ := hrel
    obtain ⟨W1, hW1⟩ : ∃ W1, W1 = wr := ⟨wr, rfl⟩
    subst hW1
    have HROW := hide hrow
    have hLl := setsTo_len n k L
    clear hrow
    by_cases hlt2 : k < n
    · obtain ⟨ca, cb, c0, _, oc, _⟩ := ((unhide HJ).kept (bs := []) (unhide hkk) (by simp) (by simp) (by simp)).at' hlt2
      have k0 : (0 : Int) ≤ (k : Int) := by omega
      have k1 : (k : Int) < (n : Int) := by omega
      by_cases hf : L k = k
      · have hq : ((L k : Int) != (k : Int)) = false := by simp [hf]
        have HF := hide hf
        clear hf
        generalize hfk : L k = y at oc hq
        clear hfk
        go_wp2
        have HP0 : W1.ownsRow W1.heap.size 3 1 (.slice none 0 0) 0 ([].map (Value.int .i64)) := ⟨rfl, Or.inl ⟨rfl, rfl⟩⟩
        have HE := hide (show setOf k L k = [] from setOf_none (fun i hi e => by have := (unhide HI).le i (by omega); omega))
        go_loopw [5, 6] (fun pv ww wt => ∃ (j : Nat) (po : Option Addr) (pc : Nat), k ≤ j ∧ j ≤ n ∧ ww = .int .i64 j ∧ pv = .slice po (setOf j L k).length pc ∧ wt.ownsRow W1.heap.size 3 1 pv (setOf j L k).length ((setOf j L k).map (Value.int .i64)) ∧ Hid (Kept [] W1 wt)) (fun _ ww _ => n - (intOf ww).toNat)
        case atStart => exact ⟨k, none, 0, Nat.le_refl _, by omega, rfl, by rw [unhide HE]; rfl, by rw [unhide HE]; exact HP0, Kept.refl [] W1⟩
        case round =>
          obtain ⟨j, po, pc, hkj, hj, rfl, rfl, hown, hk3⟩ := hrel
          have hpl := setOf_len j k L
          clear oc c0
          by_cases hlt3 : j < n
          · obtain ⟨ca2, cb2, c0, _, oj, _⟩ := ((unhide HJ).kept (bs := []) ((unhide hkk).trans (unhide hk3)) (by simp) (by simp) (by simp)).at' hlt3
            have j0 : (0 : Int) ≤ (j : Int) := by omega
            have j1 : (j : Int) < (n : Int) := by omega
            have hws : W1.heap.size ≤ wr.heap.size := (unhide hk3).size
            by_cases hfj : L j = k
            · have hq2 : ((L j : Int) == (k : Int)) = true := by simp [hfj]
              have HPJ := hide (show setOf (j + 1) L k = setOf j L k ++ [(j : Int)] by rw [setOf_succ, if_pos hfj])
              clear hfj
              generalize hz : L j = z at oj hq2
              clear hz
              generalize hpo : setOf j L k = pl at *
              clear hpo
              go_wp2_with (first | (at_builtin; refine wpList_append_own _ rfl (.tmp 44) (.tmp 46) 39 rfl W1.heap.size 3 i (.int .i64 0) 1 8 Try.underlying39 hi hz0 hz1 hz2 rfl (by decide) _ _ _ rfl (hown.alloc _) _ 1 _ [.int .i64 j] rfl rfl (one_cell' _ _ _ (by simp)) (by simp [Value.oneCell']) (by unfold maxLen; omega) (by omega) (by simp; omega) ?_; intro v' w4 own4 g4 _))
              have hob := own_block hown
              have HK4 := hide ((unhide hk3).trans' (cs := (Value.slice po pl.length pc).ownBlock.toList) ((((Kept.refl [] wr).alloc _).mono (by simp)).trans (grown_kept g4)) (fun q hq => Or.inr (hob q (by simpa using hq))))
              have own5 : w4.ownsRow W1.heap.size 3 1 v' (setOf (j + 1) L k).length ((setOf (j + 1) L k).map (Value.int .i64)) := by
                rw [unhide HPJ, List.length_append, List.map_append]; exact own4
              obtain ⟨lo5, lc5, hv5⟩ := own_slice own5
              have HV5 := hide hv5
              clear own4 g4 hob hv5 hown
              go_wp2
              go_roundw
              case rel => exact ⟨j + 1, lo5, lc5, by omega, by omega, by go_num, unhide HV5, own5, unhide HK4⟩
              case measure => simp [intOf]; omega
            · have hq2 : ((L j : Int) == (k : Int)) = false := by simp; omega
              have HPJ := hide (show setOf (j + 1) L k = setOf j L k by rw [setOf_succ, if_neg hfj, List.append_nil])
              clear hfj
              generalize hz : L j = z at oj hq2
              clear hz
              rw [← unhide HPJ] at hown ⊢
              go_wp2
              go_roundw
              case rel => exact ⟨j + 1, po, pc, by omega, by omega, by go_num, rfl, hown, unhide hk3⟩
              case measure => simp [intOf]; omega
          · have hjN : j = n := by omega
            subst hjN
            obtain ⟨ca2, cb2, c0, _, _, _⟩ := ((unhide HJ).kept (bs := []) ((unhide hkk).trans (unhide hk3)) (by simp) (by simp) (by simp)).at' hlt2
            have hvm := setOf_mem hlt2 (unhide HF)
            have hne := List.length_pos_of_mem hvm
            have HIN := hide (ints_of_owns hown)
            obtain ⟨pa, rfl⟩ : ∃ pa, po = some pa := by
              rcases hown.2 with ⟨_, h0⟩ | ⟨g', cap', cur, hv, _⟩
              · omega
              · simp at hv; exact ⟨_, hv.1⟩
            have hpl2 := own_lt hown pa.block rfl
            have hpge := own_block hown pa.block rfl
            have HRW := hide ((unhide HROW).kept ((unhide hk3).mono (cs := [p]) (by simp)) hpw)
            have hown2 := (unhide HRW).own
            have hlb := own_lt (unhide HROW).own
            have hw0 := (unhide hkk).size
            have hw1 := (unhide hk3).size
            have HLT := hide (setsTo_yes (n := j) (unhide HF))
            clear hvm hown
            generalize hpo : setOf j L k = pl at *
            clear hpo
            go_wp2_with (first | (at_builtin; refine wpList_append_own_at _ rfl (.tmp 48) (.tmp 50) 33 rfl w.heap.size 39 i' (.slice none 0 0) 1 24 Try.underlying33 hi' hz0' hz1' hz2' rfl (by decide) _ _ _ rfl (hown2.alloc _) _ 1 _ [.slice (some pa) pl.length pc] rfl rfl (one_cell' _ _ _ (by simp)) (by simp [Value.oneCell']) (by unfold maxLen; omega) (by omega) (by simp; omega) ?_; intro v' w4 own4 g4 _ hat))
            have g5 : (wr.alloc (.cells #[.slice (some pa) pl.length pc] 39)).grownBy w4 (Value.slice lo (setsTo j L k).length lc).ownBlock := g4
            have hat5 : v'.ownBlock = (Value.slice lo (setsTo j L k).length lc).ownBlock ∨ v'.ownBlock = some (wr.heap.size + 1) := by
              rcases hat with h | h
              · exact Or.inl h
              · exact Or.inr (by rw [h]; simp)
            have hob := own_block hown2
            have HR4 := hide ((unhide HRW).push (unhide HIN).1 (by omega) (fun e => by have := hlb _ e; omega) hpl2 (by omega) own4 g5 hat5)
            have HK4 := hide (((unhide hkk).trans (unhide hk3)).trans' (cs := (Value.slice lo (setsTo j L k).length lc).ownBlock.toList) ((((Kept.refl [] wr).alloc _).mono (by simp)).trans (grown_kept g5)) (fun q hq => Or.inr (hob q (by simpa using hq))))
            obtain ⟨lo5, lc5, hv5⟩ : ∃ lo5 lc5, v' = .slice lo5 (setsTo j L (k + 1)).length lc5 := by
              obtain ⟨a5, b5, e5⟩ := own_slice own4
              exact ⟨a5, b5, by rw [e5, unhide HLT]; simp⟩
            have HV5 := hide hv5
            clear own4 g4 g5 hat hat5 hob hown2 hv5
            go_wp2
            go_roundw
            case rel => exact ⟨k + 1, vals ++ [.slice (some pa) pl.length pc], lo5, lc5, by omega, by go_num, unhide HV5, by rw [unhide HLT]; exact unhide HR4, unhide HK4⟩
            case measure => simp [intOf]; omega
      · have hq : ((L k : Int) != (k : Int)) = true := by simp; omega
        have HLT := hide (setsTo_no (n := n) hf)
        clear hf
        generalize hfk : L k = y at oc hq
        clear hfk
        have HR5 := hide (show LRow W1 w.heap.size p (.slice lo (setsTo n L (k + 1)).length lc) (setsTo n L (k + 1)) vals by rw [unhide HLT]; exact unhide HROW)
        rw [← unhide HLT]
        go_wp2
        go_roundw
        case rel => exact ⟨k + 1, vals, lo, lc, by omega, by go_num, rfl, unhide HR5, unhide hkk⟩
        case measure => simp [intOf]; omega
    · have hkN : k = n := by omega
      subst hkN
      obtain ⟨ao, ca, c0, _⟩ := ((unhide HJ).kept (bs := []) (unhide hkk) (by simp) (by simp) (by simp)).c0
      have HFIN := hide (unhide HROW).lists
      go_wp2
      go_ret
      exact ⟨_, rfl, unhide HFIN, unhide hkk⟩
end Go.Proofs.Ythncoddcpjpblaa

namespace Go.Proofs.Ythncoddcpjpblaa
open Go.RowKit

theorem eq_of_getD {xs ys : List Int} (hl : xs.length = ys.length) (h : ∀ j, j < xs.length → xs.getD j 0 = ys.getD j 0) : xs = ys := by
  apply List.ext_getElem hl
  intro i h1 h2
  have := h i h1
  rw [getD_elem h1, getD_elem h2] at this
  exact this
set_option maxHeartbeats 400000 in
theorem one_any (w : World) (x y : Int) : Calls Try.prog 29 #[.int .i64 x, .int .i64 y] w fun e w' => e = .returned (.bool (x == y)) ∧ w' = w := by
  go_enter Try.func29, Try.ntmps29
  go_wp2
  go_ret
  exact ⟨rfl, rfl⟩
set_option maxHeartbeats 400000 in
theorem same_ne (w : World) (ao bo : Option Addr) (la ca lb cb : Nat) (f : Value) (hne : ((la : Int) != (lb : Int)) = true) :
    Calls Try.prog 28 #[.slice ao la ca, .slice bo lb cb, f] w fun e w' => e = .returned (.bool false) ∧ w' = w := by
  go_enter Try.func28, Try.ntmps28
  go_wp2
  go_ret
  exact ⟨rfl, rfl⟩
set_option maxHeartbeats 400000 in
theorem same_zero (w : World) (ao bo : Option Addr) (ca cb : Nat) (f : Value) :
    Calls Try.prog 28 #[.slice ao 0 ca, .slice bo 0 cb, f] w fun e w' => e = .returned (.bool true) ∧ w' = w := by
  go_enter Try.func28, Try.ntmps28
  go_wp2
  go_loop [7] (fun i => i = .int .i64 0) (fun _ => 0)
  case atStart => rfl
  case round =>
    subst hrel
    go_wp2
    go_ret
    exact ⟨rfl, rfl⟩
set_option maxHeartbeats 1000000 in
theorem same_core (w : World) (ga oa gb ob ca cb L : Nat) (xs ys : List Int) (hx : xs.length = L) (hy : ys.length = L) (hL : L ≤ 9223372036854775807) (hxc : Hid (∀ i, i < L → w.cell? ⟨ga, oa + i, none⟩ = some (.int .i64 (xs.getD i 0)))) (hyc : Hid (∀ i, i < L → w.cell? ⟨gb, ob + i, none⟩ = some (.int .i64 (ys.getD i 0)))) :
    Calls Try.prog 28 #[.slice (some ⟨ga, oa, none⟩) L ca, .slice (some ⟨gb, ob, none⟩) L cb, .func (.func 29) #[] #[]] w fun e w' => e = .returned (.bool (decide (xs = ys))) ∧ ∃ m, w' = w.drewN m := by
  have HX := hide hx
  have HY := hide hy
  clear hx hy
  go_enter Try.func28, Try.ntmps28
  go_wp2
  go_loopw [7] (fun i wr => ∃ k m : Nat, k ≤ L ∧ i = .int .i64 k ∧ wr = w.drewN m ∧ Hid (∀ j, j < k → xs.getD j 0 = ys.getD j 0)) (fun i _ => L - (intOf i).toNat)
  case atStart => exact ⟨0, 0, Nat.zero_le _, rfl, rfl, fun j h => by omega⟩
  case round =>
    obtain ⟨k, m, hk, rfl, hwr, hall⟩ := hrel
    have HW := hide hwr
    by_cases hlt : k < L
    · have hc1 : wr.cell? ⟨ga, oa + k, none⟩ = some (.int .i64 (xs.getD k 0)) := by rw [hwr]; exact unhide hxc k hlt
      have hc2 : wr.cell? ⟨gb, ob + k, none⟩ = some (.int .i64 (ys.getD k 0)) := by rw [hwr]; exact unhide hyc k hlt
      clear hwr
      by_cases he : xs.getD k 0 = ys.getD k 0
      · have hq : (xs.getD k 0 == ys.getD k 0) = true := by simpa using he
        have hall2 := hide (show ∀ j, j < k + 1 → xs.getD j 0 = ys.getD j 0 from fun j hj => by
          by_cases e : j = k
          · subst e; exact he
          · exact unhide hall j (by omega))
        clear he
        generalize xs.getD k 0 = x at *
        generalize ys.getD k 0 = y at *
        have hone := hide (fun W => one_any W x y)
        go_wp2_with fail
        go_quiet ((go_at_call 29; exact Calls.quiet_of_same (unhide hone _)))
        go_wp2
        go_roundw
        case rel => exact ⟨k + 1, m + nq, by omega, by go_num, by rw [unhide HW, World.drewN_drewN], hall2⟩
        case measure => simp [intOf]; omega
      · have hq : (xs.getD k 0 == ys.getD k 0) = false := by simpa using he
        have hfin := hide (show decide (xs = ys) = false by simp; intro e; exact he (by rw [e]))
        clear he
        generalize xs.getD k 0 = x at *
        generalize ys.getD k 0 = y at *
        have hone := hide (fun W => one_any W x y)
        go_wp2_with fail
        go_quiet ((go_at_call 29; exact Calls.quiet_of_same (unhide hone _)))
        go_wp2
        go_ret
        exact ⟨ret_bool (unhide hfin).symm, m + nq, by rw [unhide HW, World.drewN_drewN]⟩
    · have hfin := hide (show decide (xs = ys) = true by
        simp
        exact eq_of_getD (by rw [unhide HX, unhide HY]) (fun j hj => unhide hall j (by rw [unhide HX] at hj; omega)))
      clear hwr
      go_wp2
      go_ret
      exact ⟨ret_bool (unhide hfin).symm, m, unhide HW⟩

/-- Plain: are two lists the same? -/
theorem same_any {w : World} {a b : Value} {xs ys : List Int} (ha : IntsAt w a xs) (hb : IntsAt w b ys) :
    Calls Try.prog 28 #[a, b, .func (.func 29) #[] #[]] w fun e w' => e = .returned (.bool (decide (xs = ys))) ∧ ∃ m, w' = w.drewN m := by
  obtain ⟨ao, ca, rfl, hma, hca⟩ := ha.shape
  obtain ⟨bo, cb, rfl, hmb, hcb⟩ := hb.shape
  by_cases hl : xs.length = ys.length
  · by_cases h0 : xs.length = 0
    · have e1 : xs = [] := List.eq_nil_of_length_eq_zero h0
      have e2 : ys = [] := List.eq_nil_of_length_eq_zero (by omega)
      subst e1 e2
      exact (same_zero w ao bo ca cb _).mono fun e w' h => ⟨by rw [h.1]; simp, 0, h.2⟩
    · obtain ⟨ga, oa, rfl, h1⟩ := hca (by omega)
      obtain ⟨gb, ob, rfl, h2⟩ := hcb (by omega)
      unfold maxLen at hma
      rw [← hl] at h2 ⊢
      exact same_core w ga oa gb ob ca cb xs.length xs ys rfl hl.symm (by omega) (hide h1) (hide h2)
  · have e : decide (xs = ys) = false := by simp; intro h; exact hl (by rw [h])
    rw [e]
    exact (same_ne w ao bo _ ca _ cb _ (by simp; omega)).mono fun e w' h => ⟨h.1, 0, h.2⟩

set_option maxHeartbeats 400000 in
theorem plain_any {w : World} {a b : Value} {xs ys : List Int} (ha : IntsAt w a xs) (hb : IntsAt w b ys) :
    Calls Try.prog 25 #[a, b] w fun e w' => e = .returned (.bool (decide (xs = ys))) ∧ ∃ m, w' = w.drewN m := by
  have H := hide (same_any ha hb)
  clear ha hb
  go_enter Try.func25, Try.ntmps25
  go_wp2_with (go_at_call 28; refine (unhide H).mono ?_; rintro e w' ⟨rfl, m, rfl⟩)
  go_ret
  exact ⟨rfl, m, rfl⟩

end Go.Proofs.Ythncoddcpjpblaa

namespace Go.Proofs.Ythncoddcpjpblaa
open Go.RowKit

theorem lists_eq {L M : List (List Int)} (hl : L.length = M.length) (h : ∀ j, j < L.length → L.getD j [] = M.getD j []) : L = M := by
  apply List.ext_getElem hl
  intro i h1 h2
  have := h i h1
  simpa [List.getD, h1, h2] using this
set_option maxRecDepth 20000 in
set_option maxHeartbeats 1000000 in
theorem sameL_ne (w : World) (ao bo : Option Addr) (la ca lb cb : Nat) (f : Value) (hne : ((la : Int) != (lb : Int)) = true) :
    Calls Try.prog 24 #[.slice ao la ca, .slice bo lb cb, f] w fun e w' => e = .returned (.bool false) ∧ w' = w := by
  go_enter Try.func24, Try.ntmps24
  go_wp2
  go_ret
  exact ⟨rfl, rfl⟩
set_option maxRecDepth 20000 in
set_option maxHeartbeats 2000000 in
theorem sameL_core {w : World} {ao bo : Option Addr} {ca cb n : Nat} {L M : List (List Int)} (hL : L.length = n) (hM : M.length = n) (hn : (n : Int) ≤ 9223372036854775807)
    (hx : Hid (0 < n → ∃ g o, ao = some ⟨g, o, none⟩ ∧ ∀ i, i < n → ∃ u, w.cell? ⟨g, o + i, none⟩ = some u ∧ IntsAt w u (L.getD i [])))
    (hy : Hid (0 < n → ∃ g o, bo = some ⟨g, o, none⟩ ∧ ∀ i, i < n → ∃ u, w.cell? ⟨g, o + i, none⟩ = some u ∧ IntsAt w u (M.getD i []))) :
    Calls Try.prog 24 #[.slice ao n ca, .slice bo n cb, .func (.func 25) #[] #[]] w fun e w' => e = .returned (.bool (decide (L = M))) ∧ ∃ m, w' = w.drewN m := by
  have HL := hide hL
  have HM := hide hM
  clear hL hM
  go_enter Try.func24, Try.ntmps24
  go_wp2
  go_loopw [7] (fun i wr => ∃ k m : Nat, k ≤ n ∧ i = .int .i64 k ∧ wr = w.drewN m ∧ Hid (∀ j, j < k → L.getD j [] = M.getD j [])) (fun i _ => n - (intOf i).toNat)
  case atStart => exact ⟨0, 0, Nat.zero_le _, rfl, rfl, fun j h => by omega⟩
  case round =>
    obtain ⟨k, m, hk, rfl, hwr, hall⟩ := hrel
    have HW := hide hwr
    by_cases hlt : k < n
    · obtain ⟨ga, oa, rfl, ha⟩ := unhide hx (by omega)
      obtain ⟨gb, ob, rfl, hb⟩ := unhide hy (by omega)
      obtain ⟨ua, hua, hia⟩ := ha k hlt
      obtain ⟨ub, hub, hib⟩ := hb k hlt
      have hc1 : wr.cell? ⟨ga, oa + k, none⟩ = some ua := by rw [hwr]; exact hua
      have hc2 : wr.cell? ⟨gb, ob + k, none⟩ = some ub := by rw [hwr]; exact hub
      have hpl := hide (fun W q (hW : W = w.drewN q) => by
        have := plain_any (hia.kept ((Kept.refl [] w).drewN q)) (hib.kept ((Kept.refl [] w).drewN q))
        rw [← hW] at this
        exact this)
      have k0 : (0 : Int) ≤ (k : Int) := by omega
      have k1 : (k : Int) < (n : Int) := by omega
      obtain ⟨pa, qa, ra, rfl⟩ : ∃ pa qa ra, ua = .slice pa qa ra := by obtain ⟨x, y, rfl, _⟩ := hia.shape; exact ⟨_, _, _, rfl⟩
      obtain ⟨pb, qb, rb, rfl⟩ : ∃ pb qb rb, ub = .slice pb qb rb := by obtain ⟨x, y, rfl, _⟩ := hib.shape; exact ⟨_, _, _, rfl⟩
      clear hwr ha hb hua hub hia hib
      cases he : decide (L.getD k [] = M.getD k [])
      · have hfin := hide (show decide (L = M) = false by simp; intro e; subst e; simp at he)
        have hpl2 := hide (fun W q (hW : W = w.drewN q) => he ▸ unhide hpl W q hW)
        clear hpl he
        go_wp2_with fail
        go_quiet ((go_at_call 25; exact Calls.quiet_of (unhide hpl2 _ _ (by rw [unhide HW, World.drewN_drewN]))))
        go_wp2
        go_ret
        exact ⟨ret_bool (unhide hfin).symm, m + nq, by rw [unhide HW, World.drewN_drewN]⟩
      · have hall2 := hide (show ∀ j, j < k + 1 → L.getD j [] = M.getD j [] from fun j hj => by
          by_cases e : j = k
          · subst e; simpa using he
          · exact unhide hall j (by omega))
        have hpl2 := hide (fun W q (hW : W = w.drewN q) => he ▸ unhide hpl W q hW)
        clear hpl he
        go_wp2_with fail
        go_quiet ((go_at_call 25; exact Calls.quiet_of (unhide hpl2 _ _ (by rw [unhide HW, World.drewN_drewN]))))
        go_wp2
        go_roundw
        case rel => exact ⟨k + 1, m + nq, by omega, by go_num, by rw [unhide HW, World.drewN_drewN], hall2⟩
        case measure => simp [intOf]; omega
    · have hfin := hide (show decide (L = M) = true by
        simp
        exact lists_eq (by rw [unhide HL, unhide HM]) (fun j hj => unhide hall j (by rw [unhide HL] at hj; omega)))
      clear hwr
      go_wp2
      go_ret
      exact ⟨ret_bool (unhide hfin).symm, m, unhide HW⟩
theorem sameL_any {w : World} {a b : Value} {L M : List (List Int)} (ha : ListsAt w a L) (hb : ListsAt w b M) :
    Calls Try.prog 24 #[a, b, .func (.func 25) #[] #[]] w fun e w' => e = .returned (.bool (decide (L = M))) ∧ ∃ m, w' = w.drewN m := by
  obtain ⟨ao, ca, rfl, hma, hca⟩ := ha.shape
  obtain ⟨bo, cb, rfl, hmb, hcb⟩ := hb.shape
  by_cases hl : L.length = M.length
  · unfold maxLen at hma
    rw [← hl] at hcb ⊢
    exact sameL_core rfl hl.symm (by omega) (hide hca) (hide hcb)
  · have e : decide (L = M) = false := by simp; intro h; exact hl (by rw [h])
    rw [e]
    exact (sameL_ne w ao bo _ ca _ cb _ (by simp; omega)).mono fun e w' h => ⟨h.1, 0, h.2⟩
set_option maxRecDepth 20000 in
set_option maxHeartbeats 400000 in
theorem lists_any {w : World} {a b : Value} {L M : List (List Int)} (ha : ListsAt w a L) (hb : ListsAt w b M) :
    Calls Try.prog 17 #[a, b] w fun e w' => e = .returned (.bool (decide (L = M))) ∧ ∃ m, w' = w.drewN m := by
  have H := hide (sameL_any ha hb)
  clear ha hb
  go_enter Try.func17, Try.ntmps17
  go_wp2_with (go_at_call 24; refine (unhide H).mono ?_; rintro e w' ⟨rfl, m, rfl⟩)
  go_ret
  exact ⟨rfl, m, rfl⟩
end Go.Proofs.Ythncoddcpjpblaa
