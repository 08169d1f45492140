/- sheetOf, firstCycle, Of. firstCycle, Of. -/
import Derived.Test.YtmpcnepiogjokaaDoorSidesEither21
import Derived.Test.YtmpcnepiogjokaaDoorSidesEither19
import Derived.Deep.RegionHeld3
namespace Go.Proofs.YtmpcnepiogjokaaDoor
open Go.RowKit

theorem box3 {w w1 : World} {x y z : Value} {t : TypeId} (k : Kept [] (w.alloc (.cells #[x, y, z] t)) w1) : w1.cell? ⟨w.heap.size, 0, none⟩ = some x ∧ w1.cell? ⟨w.heap.size, 1, none⟩ = some y ∧ w1.cell? ⟨w.heap.size, 2, none⟩ = some z := by
  have hr := new_block w (.cells #[x, y, z] t)
  refine ⟨kept_cell ?_ k, kept_cell ?_ k, kept_cell ?_ k⟩
  · rw [cell_of_block hr]; rfl
  · rw [cell_of_block hr]; rfl
  · rw [cell_of_block hr]; rfl
theorem box3' {w : World} {x y z : Value} {t : TypeId} {q : Nat} (hq : q = w.heap.size) : (w.alloc (.cells #[x, y, z] t)).cell? ⟨q, 0, none⟩ = some x ∧ (w.alloc (.cells #[x, y, z] t)).cell? ⟨q, 1, none⟩ = some y ∧ (w.alloc (.cells #[x, y, z] t)).cell? ⟨q, 2, none⟩ = some z := by
  subst hq; exact box3 (Kept.refl [] _)
theorem new_cell' {w : World} {x : Value} {t : TypeId} {p : Nat} (hp : p = w.heap.size) : (w.alloc (.cells #[x] t)).cell? ⟨p, 0, none⟩ = some x := by
  subst hp; rw [cell_of_block (new_block _ _)]; rfl
theorem OfAt.alloc {w : World} {g N : Nat} {f : Nat → Int} (h : OfAt w g N f) (o : Obj) : OfAt (w.alloc o) g N f := h.kept ((Kept.refl [] w).alloc o)
theorem OfAt.drew {w : World} {g N : Nat} {f : Nat → Int} (h : OfAt w g N f) : OfAt w.drew g N f := h.kept ((Kept.refl [] w).drew)
theorem OfAt.start' (W : World) (N p : Nat) (hp : p = W.heap.size) : OfAt (W.alloc (.cells (madeCells #[.int .i64 0] N) 3)) p N (fun _ => ((0 : Nat) : Int)) := by
  subst hp; exact OfAt.start W N
theorem ofAt_rep {w : World} {g N : Nat} {c : Int} (h : w.heap[g]? = some (.cells (repL N N c).toArray 3 (0, 0))) : OfAt w g N (fun _ => c) := by
  refine ⟨fun v hv => ?_, fun v => by simp only [World.frozen?, h]; rfl, ?_⟩
  · rw [cell_of_block h, List.getElem?_toArray]; exact repL_at c hv
  · rcases Nat.lt_or_ge g w.heap.size with hb | hb
    · exact hb
    · rw [Array.getElem?_eq_none (by omega)] at h; simp at h

set_option maxRecDepth 20000 in
set_option maxHeartbeats 8000000 in
theorem sheetOf_any {w : World} {N : Nat} {v : Value} {es : List E} (h : EdgesAt w v es) (hr : rightB (N : Int) es = true) :
    Calls Tryd.prog 42 #[gv N v] w fun e w' => ∃ q gn gs gf B T, e = .returned (.pointer (some ⟨q, 0, none⟩)) ∧ Sheet w' q gn gs gf N B T es (fun _ => -1) (fun _ => 0) ∧ (w.heap.size ≤ gs ∧ w.heap.size ≤ gf) ∧ Kept [] w w' := by
  obtain ⟨ao, cap, rfl, _⟩ := h.shape
  have hN := (right_rise hr).2.1
  have HV := hide (fun W (k : Kept [] w W) => nearOf_any (h.kept k) hr)
  have hmk := make_ints N (by omega)
  have KB := (Kept.refl [] w).alloc (.cells #[.int .i64 (N : Int), .slice ao es.length cap] 24)
  obtain ⟨B0, B1⟩ := box2 (Kept.refl [] (w.alloc (.cells #[.int .i64 (N : Int), .slice ao es.length cap] 24))) (by simp)
  have HL := hide (show ∀ W, Kept [] (w.alloc (.cells #[.int .i64 (N : Int), .slice ao es.length cap] 24)) W → W.cell? ⟨w.heap.size, 0, none⟩ = some (.int .i64 (N : Int)) ∧ W.cell? ⟨w.heap.size, 1, none⟩ = some (.slice ao es.length cap) from fun W k => ⟨kept_cell B0 k, kept_cell B1 k⟩)
  have HKB := hide KB
  clear h hr
  go_enter Tryd.func42, Tryd.ntmps42
  go_wp2_with fail
  clear B0 B1 KB
  generalize hw3 : w.alloc (.cells #[.int .i64 (N : Int), .slice ao es.length cap] 24) = W3 at *
  have hw3s : w.heap.size < W3.heap.size := by rw [← hw3]; simp
  have HW3 := hide hw3s
  clear hw3 hw3s
  have B := unhide HL _ (Kept.refl [] W3)
  go_region_held3 (fun W => W.cell? ⟨w.heap.size, 0, none⟩ = some (.int .i64 (N : Int)) ∧ W.cell? ⟨w.heap.size, 1, none⟩ = some (.slice ao es.length cap)) (first | exact unhide HL _ (by assumption) | exact unhide HL _ (by repeat' first | assumption | exact Kept.refl [] W3 | apply Kept.drew | apply Kept.drewN | apply Kept.alloc) | go_keep)
    (first
    | (go_at_call 46; refine (unhide HV _ ((unhide HKB).trans (by repeat' first | exact Kept.refl [] W3 | apply Kept.drew | apply Kept.drewN | apply Kept.alloc))).mono ?_; rintro e y1 ⟨gn, rfl, hn, k1⟩; have K1 : Kept [] W3 y1 := (by refine Kept.trans ?_ k1; repeat' first | exact Kept.refl [] W3 | apply Kept.drew | apply Kept.drewN | apply Kept.alloc))
    | (go_at_call 62; refine (repeat_any (c := -1) (N := N) (by repeat' first | exact new_cell' rfl | exact new_cell' (by simp; done) | refine alloc_cell ?_ _ | refine kept_cell ?_ k1 | assumption) (by omega)).mono ?_; rintro e y2 ⟨gs, rfl, hg, hgs, k2⟩; have K2 : Kept [] W3 y2 := (by refine Kept.trans ?_ k2; repeat' first | exact K1 | apply Kept.drew | apply Kept.drewN | apply Kept.alloc)))
  all_goals have s1 := k1.size
  all_goals have s2 := k2.size
  all_goals have s4 := (ofAt_rep hg).lt
  all_goals have s5 := unhide HW3
  all_goals have HKW := hide ((unhide HKB).trans K2)
  all_goals obtain ⟨BB, hnn, hBB⟩ : ∃ BB, NearAt y1 BB y1.heap.size gn N es ∧ BB = _ := ⟨_, hn, rfl⟩
  all_goals have HNN := hide hnn
  all_goals have HSZ := hide (And.intro hBB (And.intro s1 (And.intro s2 (And.intro s4 (And.intro s5 hgs)))))
  all_goals clear hn hnn hBB s1 s2 s4 s5 hgs B
  all_goals go_wp2
  all_goals go_ret
  all_goals
    refine ⟨_, gn, gs, _, BB, y1.heap.size, rfl, ⟨(box3' (by simp)).1, (box3' (by simp)).2.1, (box3' (by simp)).2.2, ?_, ?_, ?_, ?_, ?_, ?_, ?_, ?_, ?_⟩, ⟨?_, ?_⟩, ?_⟩
  all_goals first
    | (refine (unhide HNN).kept (bs := []) ?_ (by simp); (repeat' first | exact k2 | exact Kept.refl [] _ | apply Kept.alloc | apply Kept.drew | refine Kept.trans ?_ k2); done)
    | (refine OfAt.kept (w := y2) (ofAt_rep hg) ?_; (repeat' first | exact Kept.refl [] _ | apply Kept.alloc | apply Kept.drew); done)
    | ((repeat' first | exact OfAt.start' _ _ _ rfl | exact OfAt.start' _ _ _ (by simp; done) | refine OfAt.alloc ?_ _ | refine OfAt.kept ?_ k2 | refine OfAt.kept ?_ k1 | refine OfAt.drew ?_); done)
    | (refine Kept.trans (unhide HKW) ?_; (repeat' first | exact Kept.refl [] _ | apply Kept.alloc | apply Kept.drew); done)
    | omega
    | (have HZ := unhide HSZ; simp at HZ; omega)
    | (have HZ := unhide HSZ; simp at HZ ⊢; omega)
end Go.Proofs.YtmpcnepiogjokaaDoor

namespace Go.Proofs.YtmpcnepiogjokaaDoor
open Go.RowKit

/-- What firstCycle, and Of, find. -/
def FoundC (w : World) (q gn gs gf N B T : Nat) (es : List E) (L : List (List Int)) (e : Ending) (w' : World) : Prop :=
  ∃ rv f fr, e = .returned rv ∧ Sheet w' q gn gs gf N B T es f fr ∧ Kept [gs, gf] w w' ∧ ((rv = .slice none 0 0 ∧ LaidTo es N L L.length f) ∨ ∃ l, IntsAt w' rv l ∧ IsCyc es l ∧ l.length % 2 = 1)

set_option maxRecDepth 20000 in
set_option maxHeartbeats 4000000 in
theorem firstCycle_any {w : World} {q gn gs gf N B T B0 : Nat} {es : List E} {L : List (List Int)} {lv : Value} {fr0 : Nat → Nat} (h : Sheet w q gn gs gf N B T es (fun _ => -1) fr0) (hl : ListsAt w lv L) (hfl : FreshL B0 w lv L) (hgs : gs < B0) (hgf : gf < B0) (hp : IsPieces es (Alive (N : Int) []) L) (hr : rightB (N : Int) es = true) :
    Calls Tryd.prog 43 #[lv, .func (.func 44) #[.pointer (some ⟨q, 0, none⟩)] #[]] w fun e w' => FoundC w q gn gs gf N B T es L e w' := by
  obtain ⟨lo, lc, rfl, hlm, hin⟩ := hl.shape
  obtain ⟨_, hN, hel, _, hok⟩ := right_rise hr
  have hll := (show Pieces (N : Int) es [] L from ⟨fun _ => hp, fun h => by rw [hr] at h; cases h⟩).len
  have HOK := hide hok
  have HP := hide hp
  have HFL := hide hfl
  have HIN := hide hin
  have HLT := hide (LaidTo.start (es := es) (N := N) (L := L) (f := fun _ => -1) (fun _ _ => rfl))
  have HS := hide h
  clear h hl hfl hin hok hp hr hlm
  go_enter Tryd.func43, Tryd.ntmps43
  go_wp2
  go_loopw [10] (fun kk wr => ∃ (k : Nat) (f : Nat → Int) (fr : Nat → Nat), k ≤ L.length ∧ kk = .int .i64 k ∧ Hid (Sheet wr q gn gs gf N B T es f fr ∧ Kept [gs, gf] w wr ∧ LaidTo es N L k f)) (fun kk _ => L.length - (intOf kk).toNat)
  case atStart => exact ⟨0, _, fr0, Nat.zero_le _, rfl, unhide HS, Kept.refl _ _, unhide HLT⟩
  case round =>
    obtain ⟨k, f, fr, hk, rfl, hh⟩ := hrel
    by_cases hlt : k < L.length
    · obtain ⟨g, o, rfl, hcell⟩ := unhide HIN (by omega)
      obtain ⟨u, hu, hi⟩ := hcell k hlt
      obtain ⟨hB1, hB2⟩ := unhide HFL _ _ _ rfl (by omega)
      obtain ⟨u', hu', hB3⟩ := hB2 k hlt
      simp only at hu' hB1
      rw [hu] at hu'
      simp at hu'
      subst hu'
      obtain ⟨r, hr1, hr2, hr3, hr4, hr5⟩ := (unhide HP).head_nat hlt
      have hk' := (unhide hh).2.1
      have c0 := kept_cell' hu hk' (by simp; omega)
      have i1 := hi.keptAt hk' (fun a m c e => by have := hB3 a m c e; simp; omega)
      obtain ⟨uo, uc, rfl, _, hin2⟩ := i1.shape
      obtain ⟨ug, uof, rfl, hc2⟩ := hin2 hr3
      have d0 := hc2 0 hr3
      rw [hr2, Nat.add_zero] at d0
      have HLY := hide (lay_any (unhide hh).1 (unhide HOK) hel (by omega) hr4 (fun x hx => (unhide hh).2.2.fresh (unhide HP) hlt hr5 hx))
      have HNX := hide (fun g' (h1 : Laid1 es N r f g') => (unhide hh).2.2.next (unhide HP) (unhide HOK) hlt hr1 hr5 h1)
      have k0 : (0 : Int) ≤ (k : Int) := by omega
      have k1 : (k : Int) < (L.length : Int) := by omega
      have hr3I : (0 : Int) < ((L.getD k []).length : Int) := by omega
      clear hcell hu hi hB1 hB2 hB3 hr1 hr2 hr5 i1 hin2 hc2 hk'
      generalize (L.getD k []).length = ml at *
      go_wp2_with fail
      refine (unhide HLY).mono ?_
      rintro e w2 ⟨rv, f2, fr2, rfl, hs2, k2, hcase⟩
      have HS2 := hide (And.intro hs2 ((unhide hh).2.1.trans k2))
      rcases hcase with ⟨rfl, hl1⟩ | ⟨l, hl1, hl2, hl3⟩
      · have HN2 := hide (unhide HNX f2 hl1)
        clear hs2 k2 hl1 c0 d0
        go_wp2
        go_roundw
        case rel => exact ⟨k + 1, f2, fr2, by omega, by go_num, (unhide HS2).1, (unhide HS2).2, unhide HN2⟩
        case measure => simp [intOf]; omega
      · have HFD := hide (show FoundC w q gn gs gf N B T es L (.returned rv) w2 from ⟨rv, f2, fr2, rfl, (unhide HS2).1, (unhide HS2).2, Or.inr ⟨l, hl1, hl2, hl3⟩⟩)
        obtain ⟨vo, vc, rfl, _⟩ := hl1.shape
        have h3 := hl2.three
        have hpos : (0 : Int) < (l.length : Int) := by omega
        clear hs2 k2 hl1 hl2 hl3 c0 d0
        generalize l.length = ll at *
        go_wp2
        go_ret
        exact unhide HFD
    · have e : k = L.length := by omega
      subst e
      have HFD := hide (show FoundC w q gn gs gf N B T es L (.returned (.slice none 0 0)) wr from ⟨_, f, fr, rfl, (unhide hh).1, (unhide hh).2.1, Or.inl ⟨rfl, (unhide hh).2.2⟩⟩)
      go_wp2
      go_ret
      exact unhide HFD

/-- What Of tells. -/
def OfTells (w : World) (n : Int) (es : List E) (e : Ending) (w' : World) : Prop :=
  ∃ s c er, e = .returned (.tuple #[s, c, .int .i64 er]) ∧ Kept [] w w' ∧
    ((rightB n es = false ∧ s = .slice none 0 0 ∧ c = .slice none 0 0 ∧ er = 3) ∨
     (rightB n es = true ∧ (∃ S, IntsAt w' s S ∧ IsSides es n.toNat S) ∧ c = .slice none 0 0 ∧ er = 0) ∨
     (rightB n es = true ∧ s = .slice none 0 0 ∧ (∃ l, IntsAt w' c l ∧ IsCyc es l ∧ l.length % 2 = 1) ∧ er = 10))

set_option maxRecDepth 20000 in
set_option maxHeartbeats 4000000 in
theorem sof_any {w : World} {n : Int} {v : Value} {es : List E} (h : EdgesAt w v es) (hT : Tab w) :
    Calls Tryd.prog 26 #[gv n v] w fun e w' => OfTells w n es e w' := by
  obtain ⟨ao, cap, rfl, _⟩ := h.shape
  have KB := (Kept.refl [] w).alloc (.cells #[.int .i64 n, .slice ao es.length cap] 24)
  have HR := right_any (n := n) (h.kept KB)
  cases hr : rightB n es
  · rw [hr] at HR
    have HR2 := hide HR
    have HRF := hide hr
    clear HR h hT hr
    go_enter Tryd.func26, Tryd.ntmps26
    go_wp2_with fail
    refine (unhide HR2).mono ?_
    rintro e w1 ⟨rfl, k1⟩
    have HF := hide (show OfTells w n es (.returned (.tuple #[.slice none 0 0, .slice none 0 0, .int .i64 3])) w1 from ⟨_, _, 3, rfl, KB.trans k1, Or.inl ⟨unhide HRF, rfl, rfl, rfl⟩⟩)
    go_wp2
    exact bodyPost_ret (v := .tuple #[.slice none 0 0, .slice none 0 0, .int .i64 3]) (by simp [results, Tryd.results26, go_sem]) rfl (unhide HF)
  · rw [hr] at HR
    obtain ⟨N, rfl⟩ := Int.eq_ofNat_of_zero_le (right_rise hr).1
    have HR2 := hide HR
    have HV := hide (fun W (k : Kept [] w W) => h.kept k)
    have HTT := hide (fun W (k : Kept [] w W) => hT.kept k (by simp))
    obtain ⟨B0, B1⟩ := box2 (Kept.refl [] (w.alloc (.cells #[.int .i64 (N : Int), .slice ao es.length cap] 24))) (by simp)
    have HL := hide (show ∀ W, Kept [] (w.alloc (.cells #[.int .i64 (N : Int), .slice ao es.length cap] 24)) W → W.cell? ⟨w.heap.size, 0, none⟩ = some (.int .i64 (N : Int)) ∧ W.cell? ⟨w.heap.size, 1, none⟩ = some (.slice ao es.length cap) from fun W k => ⟨kept_cell B0 k, kept_cell B1 k⟩)
    have HKB := hide KB
    have HRT := hide hr
    clear HR h hT KB B0 B1 hr
    go_enter Tryd.func26, Tryd.ntmps26
    go_wp2_with fail
    refine (unhide HR2).mono ?_
    rintro e w1 ⟨rfl, k1⟩
    have HK1 := hide k1
    obtain ⟨c0, c1⟩ := unhide HL _ k1
    have HSH := hide (sheetOf_any (unhide HV _ ((unhide HKB).trans k1)) (unhide HRT))
    clear k1
    go_wp2_with fail
    refine (unhide HSH).mono ?_
    rintro e w2 ⟨q, gn, gs, gf, B, T, rfl, hs, hfresh, k2⟩
    have HK2 := hide ((unhide HK1).trans k2)
    have hgs := hs.side.lt
    have hgf := hs.from'.lt
    have HS := hide (fun W (k : Kept [] w2 W) => hs.kept k)
    have HFR := hide (show w.heap.size ≤ gs ∧ w.heap.size ≤ gf by have := ((unhide HKB).trans (unhide HK1)).size; omega)
    clear c0 c1
    obtain ⟨c0, c1⟩ := unhide HL _ (unhide HK2)
    have HAL := hide (all_fresh (unhide HV _ ((unhide HKB).trans (unhide HK2))) (unhide HRT) (unhide HTT _ ((unhide HKB).trans (unhide HK2))))
    clear hs hfresh k2
    go_wp2_with fail
    refine (unhide HAL).mono ?_
    rintro e w3 ⟨r, L, rfl, hl, hp, k3, hfl⟩
    have HFC := hide (firstCycle_any (unhide HS _ k3) hl hfl hgs hgf hp (unhide HRT))
    have HK3 := hide ((unhide HK2).trans k3)
    have HP := hide hp
    obtain ⟨ro, rc, rfl, _⟩ := hl.shape
    clear hl hp k3 hfl c0 c1
    go_wp2_with fail
    refine (unhide HFC).mono ?_
    rintro e w4 ⟨rv, f, fr, rfl, hs4, k4, hcase⟩
    have HK4 := hide (((unhide HKB).trans (unhide HK3)).trans' k4 (fun x hx => by
      have := unhide HFR
      simp at hx
      rcases hx with rfl | rfl
      · exact Or.inr this.1
      · exact Or.inr this.2))
    rcases hcase with ⟨rfl, hlt⟩ | ⟨l, hl1, hl2, hl3⟩
    · have hside := hs4.side
      have HF := hide (show OfTells w (N : Int) es (.returned (.tuple #[.slice (some ⟨gs, 0, none⟩) N N, .slice none 0 0, .int .i64 0])) w4 from ⟨_, _, 0, rfl, unhide HK4, Or.inr (Or.inl ⟨unhide HRT, ⟨(List.range N).map f, ⟨_, N, by simp, by simp, by unfold maxLen; have := (right_rise (unhide HRT)).2.1; simp; omega, fun _ => ⟨gs, 0, rfl, hside.lt, fun i hi => by
          simp at hi
          rw [Nat.zero_add, hside.cell i hi]
          simp [List.getD, hi]⟩⟩, by rw [Int.toNat_natCast]; exact hlt.sides (unhide HP) (right_rise (unhide HRT)).2.2.2.2⟩, rfl, rfl⟩)⟩)
      have cc := hs4.c1
      clear hs4 k4 hlt hside
      go_wp2
      exact bodyPost_ret (v := .tuple #[.slice (some ⟨gs, 0, none⟩) N N, .slice none 0 0, .int .i64 0]) (by simp [results, Tryd.results26, go_sem]) rfl (unhide HF)
    · have HF := hide (show OfTells w (N : Int) es (.returned (.tuple #[.slice none 0 0, rv, .int .i64 10])) w4 from ⟨_, _, 10, rfl, unhide HK4, Or.inr (Or.inr ⟨unhide HRT, rfl, ⟨l, hl1, hl2, hl3⟩, rfl⟩)⟩)
      obtain ⟨vo, vc, rfl, _⟩ := hl1.shape
      have h3 := hl2.three
      have hpos : (0 : Int) < (l.length : Int) := by omega
      clear hs4 k4 hl1 hl2 hl3
      generalize l.length = ll at *
      go_wp2
      exact bodyPost_ret (v := .tuple #[.slice none 0 0, .slice vo ll vc, .int .i64 10]) (by simp [results, Tryd.results26, go_sem]) rfl (unhide HF)
end Go.Proofs.YtmpcnepiogjokaaDoor
