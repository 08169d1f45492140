/- plant. One look, whatever it meets; what a search that has looked at all leaves. -/
import Derived.Test.YtfilhbkenedchabSingleGrows19
import Derived.Test.YtfilhbkenedchabSingleGrows10
import Derived.Deep.RegionHeld3
import Derived.Deep.DeepCutAuto
namespace Go.Proofs.Ytfilhbkenedchab
open Go.RowKit

theorem infoFnode : (Try.prog.info? 73).map (fun i => (i.zero, i.size, i.bytes)) = some (some (.agg #[.int .i64 0, .int .i64 0, .int .i64 0, .int .i64 0, .int .i64 0]), 5, 40) := by kernel_rfl
def zeros5 : Array Value := #[.int .i64 0, .int .i64 0, .int .i64 0, .int .i64 0, .int .i64 0]
theorem make_fnodes (N : Nat) (hN : N ≤ 100000) (W : World) : (Instr.makeSlice 53 (.int .i64 (N : Int)) (.int .i64 (N : Int))).run Try.prog W = .ok (.slice (some ⟨W.heap.size, 0, none⟩) N N) (W.alloc (.cells (madeCells zeros5 (N * 5)) 73)) := by
  obtain ⟨i, hi, hz0, hz1, hz2⟩ := info_parts infoFnode
  have := run_make (P := Try.prog) W 53 73 i (.agg zeros5) Try.underlying53 hi hz0 .i64 .i64 (N : Int) (N : Int) (by omega) (by omega) (by rw [hz2]; omega) (by omega)
  rw [this, hz1]
  simp [Value.cells]
/-- Nothing is known, and nobody is come to. -/
def zeroF : FS := ⟨fun _ => 0, fun _ => 0, fun _ => 0, fun _ => 0, fun _ => 0, [], fun k => k, 0⟩
theorem snodes_start (W : World) (N p : Nat) (hp : p = W.heap.size) : SNodes (W.alloc (.cells (madeCells zeros5 (N * 5)) 73)) p N zeroF := by
  subst hp
  have key : ∀ k c, k < N → c < 5 → (W.alloc (.cells (madeCells zeros5 (N * 5)) 73)).cell? ⟨W.heap.size, k * 5 + c, none⟩ = some (.int .i64 0) := by
    intro k c hk hc
    have hlt : k * 5 + c < N * 5 := by omega
    have hm : (k * 5 + c) % 5 = c := by omega
    rw [cell_of_block (new_block W _)]
    simp only [madeCells, zeros5, Array.getElem?_map, Array.getElem?_range, hlt, if_true, Option.map_some]
    simp only [List.size_toArray, List.length_cons, List.length_nil, Nat.zero_add, Nat.reduceAdd, hm]
    have : c = 0 ∨ c = 1 ∨ c = 2 ∨ c = 3 ∨ c = 4 := by omega
    rcases this with rfl | rfl | rfl | rfl | rfl <;> rfl
  exact ⟨by simp, fun k hk => key k 0 hk (by omega), fun k hk => key k 1 hk (by omega), fun k hk => key k 2 hk (by omega), fun k hk => key k 3 hk (by omega), fun k hk => key k 4 hk (by omega), fun o => by simp only [World.frozen?, new_block W (.cells (madeCells zeros5 (N * 5)) 73)]; rfl⟩
theorem jb_start {w : World} {jp jg N : Nat} (h : JAt w jp jg N (fun k => k) (fun k => k)) : JB w jp jg N (fun k => k) := ⟨_, h, fun _ _ _ _ => Iff.rfl⟩
theorem newN_nat {N : Nat} (h : N ≤ 70000) : newN (N : Int) = N := by unfold newN; omega
/-- A forest as it is made: its base call is not laid yet. -/
structure Box0 (w wx : World) (p g jp jg N : Nat) (nv mv : Value) : Prop where
  k : Kept [] w wx
  ge : w.heap.size ≤ p ∧ w.heap.size ≤ g ∧ w.heap.size ≤ jp ∧ w.heap.size ≤ jg
  lt : p < wx.heap.size ∧ g < wx.heap.size ∧ jp < wx.heap.size ∧ jg < wx.heap.size
  ne : p ≠ g ∧ p ≠ jp ∧ p ≠ jg ∧ g ≠ jp ∧ g ≠ jg
  cells : wx.heap[p]? = some (.cells #[nv, mv, .slice (some ⟨g, 0, none⟩) N N, .slice none 0 0, .pointer (some ⟨jp, 0, none⟩), .nilFunc, .int .i64 0] 57 (0, 0))
  nodes : SNodes wx g N zeroF
  jb : JB wx jp jg N (fun k => k)

theorem Box0.make {w wy : World} {g jp jg N q : Nat} {nv mv : Value} (k : Kept [] w wy) (hn : SNodes wy g N zeroF) (hj : JAt wy jp jg N (fun k => k) (fun k => k)) (hg : w.heap.size ≤ g) (h1 : w.heap.size ≤ jp) (h2 : w.heap.size ≤ jg) (hne : g ≠ jp ∧ g ≠ jg) (hq : q = wy.heap.size) :
    Box0 w (wy.alloc (.cells #[nv, mv, .slice (some ⟨g, 0, none⟩) N N, .slice none 0 0, .pointer (some ⟨jp, 0, none⟩), .nilFunc, .int .i64 0] 57)) q g jp jg N nv mv := by
  subst hq
  have ka := (Kept.refl [] wy).alloc (.cells #[nv, mv, .slice (some ⟨g, 0, none⟩) N N, .slice none 0 0, .pointer (some ⟨jp, 0, none⟩), .nilFunc, .int .i64 0] 57)
  have hp := lt_of_cell hj.c0
  obtain ⟨_, _, _, _, _, _, hnn, _⟩ := hj.nodes
  have hjl := hnn.lt
  have hgl := hn.lt
  have hs := k.size
  have hj' := hj.kept ka (by simp) (by simp)
  exact ⟨k.trans ka, ⟨hs, hg, h1, h2⟩, by simp; omega, by omega, new_block wy _, hn.kept ka (by simp), jb_start hj'⟩
theorem Box0.forest {w wx : World} {p g jp jg N : Nat} {nv mv : Value} (h : Box0 w wx p g jp jg N nv mv) : FAt w (wx.setCell ⟨p, 5, none⟩ (.func (.func 33) #[.pointer (some ⟨jp, 0, none⟩)] #[])) p g jp jg wx.heap.size N nv mv (.slice none 0 0) zeroF := by
  obtain ⟨n1, n2, n3, n4, n5⟩ := h.ne
  obtain ⟨e1, e2, e3, e4⟩ := h.ge
  obtain ⟨l1, l2, l3, l4⟩ := h.lt
  have ks := kept_set wx p 5 (.func (.func 33) #[.pointer (some ⟨jp, 0, none⟩)] #[])
  have hb := h.cells
  refine ⟨h.k.trans' ks (fun i hi => by simp at hi; subst hi; exact Or.inr e1), ⟨e1, l1⟩, ⟨e2, l2⟩, ⟨e3, l3⟩, ⟨e4, l4⟩, ks.size, h.ne, ?_, ?_, ?_, ?_, ?_, cell_set_eq (v := .nilFunc) (by rw [cell_of_block hb]; rfl), ?_, fun o => by rw [frozen_set]; simp only [World.frozen?, hb]; rfl, h.nodes.kept ks (by simpa using fun e => n1 e.symm), ⟨rfl, Or.inl ⟨rfl, rfl⟩⟩, h.jb.kept ks (by simpa using fun e => n2 e.symm) (by simpa using fun e => n3 e.symm)⟩
  · rw [cell_set_off (by omega), cell_of_block hb]; rfl
  · rw [cell_set_off (by omega), cell_of_block hb]; rfl
  · rw [cell_set_off (by omega), cell_of_block hb]; rfl
  · rw [cell_set_off (by omega), cell_of_block hb]; rfl
  · rw [cell_set_off (by omega), cell_of_block hb]; rfl
  · rw [cell_set_off (by omega), cell_of_block hb]; rfl
/-- What is known when the first k vertices have been looked at. -/
def plantF (m : List Int) (k : Nat) : FS := ⟨fun v => if v < k ∧ m.getD v 0 = -1 then 1 else 0, fun _ => 0, fun v => if v < k then -1 else 0, fun _ => 0, fun _ => 0, ((List.range k).filter fun v => m.getD v 0 == -1).map fun v : Nat => (v : Int), fun k => k, 0⟩
theorem plantF_zero (m : List Int) : plantF m 0 = zeroF := by
  unfold plantF zeroF
  congr 1 <;> (try (funext v; simp)) <;> simp
theorem plantF_q (m : List Int) (k : Nat) : (plantF m (k + 1)).q = (plantF m k).q ++ (if m.getD k 0 = -1 then [(k : Int)] else []) := by
  unfold plantF
  simp only [List.range_succ, List.filter_append, List.map_append, List.filter_cons, List.filter_nil]
  by_cases c : m.getD k 0 = -1
  · rw [if_pos (by rw [c]; rfl), if_pos c]; rfl
  · rw [if_neg (by simpa using c), if_neg c]; rfl
theorem plantF_len (m : List Int) (k : Nat) : (plantF m k).q.length ≤ k := by
  unfold plantF
  simp only [List.length_map]
  have := List.length_filter_le (fun v => m.getD v 0 == -1) (List.range k)
  simpa using this
theorem FAt.like {w0 w : World} {p g jp jg base N : Nat} {nv mv ve : Value} {F G : FS} (h : FAt w0 w p g jp jg base N nv mv ve F) (h1 : ∀ k, k < N → G.lab k = F.lab k) (h2 : ∀ k, k < N → G.dep k = F.dep k) (h3 : ∀ k, k < N → G.up k = F.up k) (h4 : ∀ k, k < N → G.bf k = F.bf k) (h5 : ∀ k, k < N → G.bt k = F.bt k) (h6 : G.q = F.q) (h7 : G.B = F.B) (h8 : G.k = F.k) : FAt w0 w p g jp jg base N nv mv ve G :=
  ⟨h.k, h.hp, h.hg, h.hj, h.hh, h.hb, h.ne, h.c0, h.c1, h.c2, h.c3, h.c4, h.c5, by rw [h8]; exact h.c6, h.fr, h.nodes.like h1 h2 h3 h4 h5, by rw [h6]; exact h.own, by rw [h7]; exact h.jb⟩
theorem plant_no {m : List Int} {k v : Nat} (h : ¬ m.getD k 0 = -1) : (plantF m (k + 1)).lab v = upd (plantF m k).lab k 0 v ∧ (plantF m (k + 1)).up v = upd (plantF m k).up k (-1) v ∧ (plantF m (k + 1)).q = (plantF m k).q := by
  rw [plantF_q, if_neg h, List.append_nil]
  unfold plantF upd
  by_cases e : v = k
  · subst e; simp only [if_true, and_true]; exact ⟨by rw [if_neg (fun c => h c.2)], by rw [if_pos (by omega)]⟩
  · simp only [if_neg e, and_true]
    exact ⟨by simp only [show (v < k + 1) ↔ v < k from by omega], by simp only [show (v < k + 1) ↔ v < k from by omega]⟩
theorem plant_yes {m : List Int} {k v : Nat} (h : m.getD k 0 = -1) : (plantF m (k + 1)).lab v = upd (upd (plantF m k).lab k 0) k 1 v ∧ (plantF m (k + 1)).up v = upd (plantF m k).up k (-1) v ∧ (plantF m (k + 1)).q = (plantF m k).q ++ [(k : Int)] := by
  rw [plantF_q, if_pos h]
  unfold plantF upd
  by_cases e : v = k
  · subst e; simp only [if_true, and_true]; exact ⟨by rw [if_pos ⟨by omega, h⟩], by rw [if_pos (by omega)]⟩
  · simp only [if_neg e, and_true]
    exact ⟨by simp only [show (v < k + 1) ↔ v < k from by omega], by simp only [show (v < k + 1) ↔ v < k from by omega]⟩
section
variable {w : World} {N : Nat} {nv mv : Value} {m : List Int}
set_option maxRecDepth 20000 in
set_option maxHeartbeats 8000000 in
theorem fplant_any (hm : IntsAt w mv m) (hml : m.length = N) (hN : N ≤ 70000) (hnv : ∃ a n c, nv = .slice a n c) :
    Calls Try.prog 14 #[nv, mv] w fun e w' => ∃ p g jp jg base ve, e = .returned (.pointer (some ⟨p, 0, none⟩)) ∧ FAt w w' p g jp jg base N nv mv ve (plantF m N) := by
  obtain ⟨na, nn, nc, rfl⟩ := hnv
  obtain ⟨ao, cap, rfl, _⟩ := hm.shape
  subst hml
  have HM := hide hm
  have hmk := make_fnodes m.length (by omega)
  have HV := hide (fun W => jnew_any W (m.length : Int))
  have hnI : (m.length : Int) ≤ 9223372036854775807 := by omega
  have HN := hide hN
  clear hm hN
  go_enter Try.func14, Try.ntmps14
  go_upto_region 1 with fail
  go_cut [5] (fun fv wx => ∃ p g jp jg, fv = .pointer (some ⟨p, 0, none⟩) ∧ Hid (Box0 w wx p g jp jg m.length (.slice na nn nc) (.slice ao m.length cap)))
  case first =>
    go_wp2_with fail
    go_region_held3 (fun _ => True) (first | trivial | go_keep)
      (first
      | (go_at_call 32; refine (unhide HV _).mono ?_; rintro e y1 ⟨jp, jg, rfl, hj, h1, h2, k1⟩))
    · rw [newN_nat (unhide HN)] at hj
      have HB := hide (Box0.make (w := w) (nv := .slice na nn nc) (mv := .slice ao m.length cap) (((Kept.refl [] w).alloc (.cells (madeCells zeros5 (m.length * 5)) 73)).drew.trans k1) (((snodes_start w m.length _ rfl).kept (Kept.refl [] _).drew (by simp)).kept k1 (by simp)) hj (Nat.le_refl _) (by have := h1; simp at this; omega) (by have := h2; simp at this; omega) (by simp at h1 h2; omega) rfl)
      clear hj h1 h2 k1
      go_wp2_with fail
      go_meet
      case rel => exact ⟨_, _, jp, jg, rfl, unhide HB⟩
    · rw [newN_nat (unhide HN)] at hj
      have HB := hide (Box0.make (w := w) (q := y1.heap.size + 1) (nv := .slice na nn nc) (mv := .slice ao m.length cap) (((Kept.refl [] w).drew.trans k1).alloc (.cells (madeCells zeros5 (m.length * 5)) 73)) (snodes_start y1 m.length _ rfl) (hj.kept ((Kept.refl [] y1).alloc _) (by simp) (by simp)) (by have := k1.size; simp at this; omega) (by have := h1; simp at this; omega) (by have := h2; simp at this; omega) (by
        have a1 := lt_of_cell hj.c0
        obtain ⟨_, _, _, _, _, _, hnn, _⟩ := hj.nodes
        have a2 := hnn.lt
        omega) (by simp))
      clear hj h1 h2 k1
      go_wp2_with fail
      go_meet
      case rel => exact ⟨_, _, jp, jg, rfl, unhide HB⟩
  case rest =>
    obtain ⟨p, g, jp, jg, rfl, hc⟩ := hcut
    have hb := (unhide hc).cells
    have d4 : wc.cell? ⟨p, 4, none⟩ = some (.pointer (some ⟨jp, 0, none⟩)) := by rw [cell_of_block hb]; rfl
    have d5 : wc.cell? ⟨p, 5, none⟩ = some .nilFunc := by rw [cell_of_block hb]; rfl
    have df : wc.frozen? ⟨p, 5, none⟩ = false := by simp only [World.frozen?, hb]; rfl
    have HF0 := hide (unhide hc).forest
    clear hb hc HV hmk
    generalize hbase : wc.heap.size = base at *
    generalize hw1 : wc.setCell ⟨p, 5, none⟩ (.func (.func 33) #[.pointer (some ⟨jp, 0, none⟩)] #[]) = w1 at *
    go_wp2
    clear d4 d5 df hw1 hbase
    obtain ⟨i, hi, hz0, hz1, hz2⟩ := info_parts infoInt
    go_loopw [27] (fun cv wr => ∃ (k : Nat) (ve : Value), k ≤ m.length ∧ cv = .int .i64 (k : Int) ∧ Hid (FAt w wr p g jp jg base m.length (.slice na nn nc) (.slice ao m.length cap) ve (plantF m k))) (fun cv _ => m.length - (intOf cv).toNat)
    case atStart => exact ⟨0, _, Nat.zero_le _, rfl, by rw [plantF_zero]; exact unhide HF0⟩
    case round =>
      clear HF0
      obtain ⟨k, ve, hk, rfl, hh⟩ := hrel
      by_cases hlt : k < m.length
      · have k0 : (0 : Int) ≤ (k : Int) := by omega
        have k1 : (k : Int) < (m.length : Int) := by omega
        have hF := unhide hh
        have c2 := hF.c2
        have l0 := hF.nodes.lab k hlt
        have l1 := hF.nodes.dep k hlt
        have l2 := hF.nodes.up k hlt
        have l3 := hF.nodes.bf k hlt
        have l4 := hF.nodes.bt k hlt
        have f0 := hF.nodes.free (k * 5)
        have f1 := hF.nodes.free (k * 5 + 1)
        have f2 := hF.nodes.free (k * 5 + 2)
        have f3 := hF.nodes.free (k * 5 + 3)
        have f4 := hF.nodes.free (k * 5 + 4)
        have H1 := hF.lay hlt 0 0 (-1)
        have HR := fisRoot_any H1 (unhide HM) rfl hlt
        by_cases hr : m.getD k 0 = -1
        · rw [decide_eq_true hr] at HR
          have e2 := H1.c2
          have g0 := H1.nodes.lab k hlt
          have q0 := H1.nodes.free (k * 5)
          have H2 := H1.setLab hlt 1
          have e3 := H2.c3
          have b2 := H2.hb
          have own2 := H2.own
          have hql := plantF_len m k
          have own2' : World.ownsRow _ base 3 1 ve (plantF m k).q.length ((plantF m k).q.map (Value.int .i64)) := own2
          have HH2 := hide H2
          have HST := hide (fun v => plant_yes (k := k) (v := v) hr)
          have HNN := hide (show m.length ≤ 70000 from unhide HN)
          replace HR := hide HR
          have hql2 : (plantF m k).q.length ≤ 70000 := by have := unhide HN; omega
          clear hF H1 H2 hh hr own2 hql
          generalize hq : (plantF m k).q = qq at *
          have HQ := hide hq
          generalize hw2 : nodeW wr g k 0 0 (-1) = w2 at *
          unfold nodeW at hw2
          generalize hw3 : w2.setCell ⟨g, k * 5, none⟩ (.int .i64 1) = w3 at *
          clear hq
          go_wp2_with fail
          refine (unhide HR).mono ?_
          rintro e w' ⟨rfl, rfl⟩
          clear HR
          go_wp2_with (first | (at_builtin; refine wpList_append_own_at _ rfl (.tmp 51) (.tmp 53) 22 rfl base 3 i (.int .i64 0) 1 8 Try.underlying22 hi hz0 hz1 hz2 rfl (by decide) _ _ _ rfl (own2'.alloc _) _ 1 _ [.int .i64 (k : Int)] rfl rfl (one_cell' _ _ _ (by simp)) (by simp [Value.oneCell']) (by unfold maxLen; omega) (by omega) (by simp; omega) ?_; intro v' w5 own5 g5 _ _; obtain ⟨ao5, cap5, rfl⟩ := own_formM own5; obtain ⟨p3, pf⟩ := (unhide HH2).pushAt g5))
          have HFIN := hide (show FAt w (w5.setCell ⟨p, 3, none⟩ (.slice ao5 (qq.length + 1) cap5)) p g jp jg base m.length (.slice na nn nc) (.slice ao m.length cap) (.slice ao5 (qq.length + 1) cap5) (plantF m (k + 1)) from by
            have h3 := (unhide HH2).push (x := (k : Int)) g5 (by rw [show ({ nodeS (plantF m k) k 0 0 (-1) with lab := upd (nodeS (plantF m k) k 0 0 (-1)).lab k 1 } : FS).q = qq from unhide HQ]; exact own5)
            refine h3.like (fun v _ => (unhide HST v).1) (fun v _ => ?_) (fun v _ => (unhide HST v).2.1) (fun v _ => ?_) (fun v _ => ?_) (by rw [(unhide HST 0).2.2, ← unhide HQ]; rfl) rfl rfl
            · show (0 : Int) = upd (plantF m k).dep k 0 v
              unfold upd; split <;> rfl
            · show (0 : Int) = upd (plantF m k).bf k 0 v
              unfold upd; split <;> rfl
            · show (0 : Int) = upd (plantF m k).bt k 0 v
              unfold upd; split <;> rfl)
          clear own5 g5 own2' HH2
          go_wp2
          go_roundw
          case rel => exact ⟨k + 1, _, by omega, by go_num, unhide HFIN⟩
          case measure => simp [intOf]; omega
        · rw [decide_eq_false hr] at HR
          replace HR := hide HR
          have HFIN := hide (show FAt w (nodeW wr g k 0 0 (-1)) p g jp jg base m.length (.slice na nn nc) (.slice ao m.length cap) ve (plantF m (k + 1)) from by
            refine H1.like (fun v _ => (plant_no hr).1) (fun v _ => ?_) (fun v _ => (plant_no hr).2.1) (fun v _ => ?_) (fun v _ => ?_) (plant_no (v := 0) hr).2.2 rfl rfl
            · show (0 : Int) = upd (plantF m k).dep k 0 v
              unfold upd; split <;> rfl
            · show (0 : Int) = upd (plantF m k).bf k 0 v
              unfold upd; split <;> rfl
            · show (0 : Int) = upd (plantF m k).bt k 0 v
              unfold upd; split <;> rfl)
          clear hF H1 hh hr
          generalize hw2 : nodeW wr g k 0 0 (-1) = w2 at *
          unfold nodeW at hw2
          go_wp2_with fail
          refine (unhide HR).mono ?_
          rintro e w' ⟨rfl, rfl⟩
          clear HR
          go_wp2
          go_roundw
          case rel => exact ⟨k + 1, _, by omega, by go_num, unhide HFIN⟩
          case measure => simp [intOf]; omega
      · have e : k = m.length := by omega
        subst e
        go_wp2
        go_ret
        exact ⟨p, g, jp, jg, base, ve, rfl, unhide hh⟩
end
end Go.Proofs.Ytfilhbkenedchab

namespace Go.Proofs.Ytfilhbkenedchab
open Go.RowKit

theorem ints_nil (w : World) : IntsAt w (.slice none 0 0) [] := ⟨none, 0, rfl, Nat.le_refl _, Nat.zero_le _, fun h => absurd h (by simp)⟩
theorem new_nil (b : Nat) (w : World) : NewInts b w (.slice none 0 0) [] := ⟨ints_nil w, fresh_nil⟩
/-- What a look tells: nothing, and the search goes on; or a path. -/
def LookPost (N : Nat) (es : List E) (m : List Int) (F F' : FS) (T : Nat) (tk : Nat → Nat → Prop) (v u : Nat) (pth : List Int) : Prop :=
  (pth = [] ∧ F.q <+: F'.q ∧ Run N es m F' (T + 1) (tkMore tk v u)) ∨ (Aug (N : Int) es m pth ∧ 0 ≤ F'.k ∧ F'.k ≤ 2 * (mtF N m : Int) + (T : Int) + (pth.length : Int))
section
variable {w0 w : World} {p g jp jg base N : Nat} {nv mv ve : Value} {F : FS} {m : List Int} {es : List E} {T : Nat} {tk : Nat → Nat → Prop}
theorem ftake_run (h : FAt w0 w p g jp jg base N nv mv ve F) (hm : IntsAt w0 mv m) (hml : m.length = N) (hR : Run N es m F T tk) {v u : Nat} (hq : (v : Int) ∈ F.q) (hu : u < N) (ht : trn (v : Int) (u : Int) ∈ es) (hT : T ≤ 200000) (hN : N ≤ 4096) :
    Calls Try.prog 35 #[.pointer (some ⟨p, 0, none⟩), .int .i64 (v : Int), .int .i64 (u : Int)] w fun e w' => ∃ r pth ve' F', e = .returned r ∧ NewInts w0.heap.size w' r pth ∧ FAt w0 w' p g jp jg base N nv mv ve' F' ∧ LookPost N es m F F' T tk v u pth := by
  have hmt : mtF N m ≤ N := cntB_N _
  obtain ⟨ev, od, B, par, P, hI, k0, kp, _⟩ := id hR
  obtain ⟨hv, _⟩ := hI.inQ hq
  have hB := hI.bLt
  rcases (hI.labs hu).2.2.2 with hl | hl | hl
  · obtain ⟨z, z1, z2, d1, d2, d3, hR'⟩ := hR.out hq hu ht hl
    refine (ftake_out h hm hml hv hu z2 z1 ⟨d1, by omega⟩ (by omega) hl ⟨k0, by omega⟩).mono ?_
    rintro e w' ⟨rfl, ve', h'⟩
    exact ⟨_, [], ve', _, rfl, new_nil _ w', h', Or.inl ⟨rfl, ⟨_, rfl⟩, hR'⟩⟩
  · rcases hR.ring hq hu ht hl hT hN with ⟨top, n, n1, n2, F1, F2, a1, a2, a3, a4, a5, a6, a7, a8⟩ | ⟨n, rv, ru, lv, lu, a1, a2, a3, a4, a5, a6, a7, a8, a9, a10, a11⟩
    · refine (ftake_ring h hm hml hv hu a1 a2 hB a3 a4 a5 a6 hl).mono ?_
      rintro e w' ⟨rfl, ve', h'⟩
      exact ⟨_, [], ve', _, rfl, new_nil _ w', h', Or.inl ⟨rfl, a7, a8⟩⟩
    · refine (ftake_path h hm hml hv hu a1 hB a2 a3 a4 a5 a6 a7 a8 a9 hl).mono ?_
      rintro e w' ⟨r, rfl, hi, h'⟩
      refine ⟨r, _, ve, _, rfl, hi, h', Or.inr ⟨a10, ?_, ?_⟩⟩
      · show 0 ≤ F.k + 1 + _ + _; omega
      · show F.k + 1 + 2 * (n : Int) + ((lv.length + lu.length + 1 : Nat) : Int) ≤ _
        simp only [List.length_append, List.length_reverse, List.length_cons, List.length_nil]
        push_cast
        omega
  · refine (ftake_odd h hu hl ⟨k0, by omega⟩).mono ?_
    rintro e w' ⟨rfl, h'⟩
    exact ⟨_, [], ve, _, rfl, new_nil _ w', h', Or.inl ⟨rfl, List.prefix_rfl, hR.odd hq hu hl⟩⟩
/-- All has been looked at. -/
theorem Run.done (h : Run N es m F T tk) (hall : ∀ x ∈ F.q, ∀ u : Nat, (u : Int) ∈ nearL x es → tk x.toNat u) (hT : T ≤ 2 * es.length) :
    0 ≤ F.k ∧ F.k ≤ 8 * (es.length : Int) ∧ LabIs N es m ((List.range N).map F.lab) ∧ ∃ ev od B, Spent N es m ev od B ∧ ∀ v, v < N → ((List.range N).map F.lab).getD v 0 = if ev v = true then 1 else if od v = true then 2 else 0 := by
  obtain ⟨ev, od, B, par, P, hI, k0, kp, t1, t2⟩ := h
  have hmt := mtF_le hI.t.mt
  have hme := mate_few hI.t.mt
  have hok := (right_rise (mateB_iff.1 hI.t.mt).1).2.2.2.2
  have htk : ∀ u w : Nat, u < N → ev u = true → trn (u : Int) (w : Int) ∈ es → tk u w := fun u w hu he ht => by
    have := hall (u : Int) ((hI.qe _).2 ⟨u, hu, he, rfl⟩) w ((near_trn hok).2 ht)
    rwa [Int.toNat_natCast] at this
  have hS := hI.t.spent (fun u w hu hw he ht _ => by
    have k := htk u w hu he ht
    obtain ⟨_, _, _, k4⟩ := t1 u w k
    rcases k4 with k4 | k4
    · exact Or.inr ⟨k4, (t2 u w k (htk w u hw k4 (by rw [trn_comm]; exact ht))).symm⟩
    · exact Or.inl k4)
  have hgd : ∀ v, v < N → ((List.range N).map F.lab).getD v 0 = if ev v = true then 1 else if od v = true then 2 else 0 := fun v hv => by
    rw [← hI.lab v hv]
    simp [List.getD, hv]
  refine ⟨k0, by omega, ⟨by simp, fun v hv => ?_⟩, ev, od, B, hS, hgd⟩
  rw [hgd v hv]
  obtain ⟨l1, l2⟩ := hI.t.labels hS hv
  refine ⟨fun c => by rw [if_pos (l1.1 c)], fun c d => ?_, fun c d => ?_⟩
  · have c' : ev v = false := by cases e : ev v; rfl; exact absurd (l1.2 e) c
    rw [c', if_neg (by simp), if_pos ((l2 c').1 d)]
  · have c' : ev v = false := by cases e : ev v; rfl; exact absurd (l1.2 e) c
    rw [c', if_neg (by simp), if_neg (fun e => d ((l2 c').2 e))]
/-- A path was found within the bound. -/
theorem look_bound {pth : List Int} {k : Int} (hA : Aug (N : Int) es m pth) (hk : k ≤ 2 * (mtF N m : Int) + (T : Int) + (pth.length : Int)) (hT : T + 1 ≤ 2 * es.length) : k ≤ 8 * (es.length : Int) := by
  have h1 := hA.short
  have h2 := mtF_le hA.mate
  obtain ⟨y, hy, hs⟩ := hA.size
  have h3 := mate_few hy
  omega
/-- At the start. -/
theorem Run.begin (hm : mateB (N : Int) es m = true) : Run N es m (plantF m N) 0 (fun _ _ => False) := by
  have hI := FInv.begin (F := plantF m N) hm (fun v hv => by unfold plantF; simp only [hv, true_and]) (fun _ _ => rfl) (fun v hv => by unfold plantF; simp only [hv, if_true]) (fun _ _ => rfl) (by
    unfold plantF
    refine List.Pairwise.map _ ?_ (List.Pairwise.filter _ List.nodup_range)
    intro a b hab e
    exact hab (by omega)) (fun x => by
    unfold plantF
    simp only [List.mem_map, List.mem_filter, List.mem_range, beq_iff_eq]
    constructor
    · rintro ⟨v, ⟨h1, h2⟩, h3⟩; exact ⟨v, h1, h2, h3.symm⟩
    · rintro ⟨v, h1, h2, h3⟩; exact ⟨v, ⟨h1, h2⟩, h3.symm⟩) (fun v => v)
  refine ⟨_, _, _, _, _, hI, Int.le_refl _, ?_, fun _ _ h => h.elim, fun _ _ h => h.elim⟩
  have e1 : nbF N m (fun v => decide (m.getD v 0 = -1)) (fun v => v) = 0 := by
    unfold nbF cntB
    rw [List.length_eq_zero_iff, List.filter_eq_nil_iff]
    intro v _
    simp
  have e2 : outF N (fun v => decide (m.getD v 0 = -1)) (fun _ => false) ≤ mtF N m := by
    unfold outF mtF
    refine cntB_le (fun v _ e => ?_)
    by_cases c : m.getD v 0 = -1 <;> simp_all
  rw [e1]
  show (0 : Int) + _ + _ ≤ _
  omega
end
end Go.Proofs.Ytfilhbkenedchab
