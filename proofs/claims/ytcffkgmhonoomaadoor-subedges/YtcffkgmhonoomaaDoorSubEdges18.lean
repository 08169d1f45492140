/- The reference's Less. garlandplay.Put. garlandplay.Some; a graph in a variable. SUB: edges that are taken away, and put again. -/
import Derived.Test.YtcffkgmhonoomaaDoorSubEdges17
import Derived.Deep.RegionHeld3
import Derived.Deep.RegionLawGrows
import Derived.Test.YtcffkgmhonoomaaDoorSubEdges10
namespace Go.Proofs.YtcffkgmhonoomaaDoor
open Go.RowKit

theorem EdgesAt.keptIf {w w' : World} {v : Value} {es : List E} {bs : List Nat} (h : EdgesAt w v es) (k : Kept bs w w') (hb : 0 < es.length → ∀ a n c, v = .slice (some a) n c → a.block ∉ bs) : EdgesAt w' v es := by
  obtain ⟨ao, cap, rfl, hc, hm, h⟩ := h
  refine ⟨ao, cap, rfl, hc, hm, fun h0 => ?_⟩
  obtain ⟨g, o, rfl, hg⟩ := h h0
  exact ⟨g, o, rfl, hg.keptAt k (hb h0 _ _ _ rfl)⟩
/-- The graph's box is written anew, beside the answer's. -/
structure Lb (w W : World) (n : Int) (v : Value) (xs : List E) : Prop where
  fr : Fr w W n v
  e0 : W.frozen? ⟨w.heap.size, 0, none⟩ = false
  e1 : W.frozen? ⟨w.heap.size, 1, none⟩ = false
  at' : EdgesAt W v xs
  off : 0 < xs.length → ∀ a x y, v = .slice (some a) x y → a.block ≠ w.heap.size ∧ a.block ≠ w.heap.size + 1
theorem Lb.go {w W W' : World} {n : Int} {v : Value} {xs : List E} (h : Lb w W n v xs) (k : Kept [] W W') : Lb w W' n v xs :=
  ⟨h.fr.go k, kept_free h.fr.c0 h.e0 k, kept_free h.fr.c1 h.e1 k, h.at'.kept k, h.off⟩
theorem Lb.start {w : World} {n : Int} {v : Value} {es : List E} (h : EdgesAt w v es) (t u : TypeId) : Lb w ((w.alloc (.cells #[.int .i64 n, v] t)).alloc (.cells #[.int .i64 0, .slice none 0 0] u)) n v es := by
  have F := Fr.start w n v t u
  have hb : ((w.alloc (.cells #[.int .i64 n, v] t)).alloc (.cells #[.int .i64 0, .slice none 0 0] u)).heap[w.heap.size]? = some (.cells #[.int .i64 n, v] t) := by
    rw [Below.heap_alloc _ _ _ (by simp)]; exact new_block w _
  refine ⟨F, by simp only [World.frozen?, hb]; rfl, by simp only [World.frozen?, hb]; rfl, h.kept F.kept, fun h0 a x y e => ?_⟩
  obtain ⟨ao, cap, rfl, _, _, hh⟩ := h
  obtain ⟨g, o, ha, hg⟩ := hh h0
  subst ha
  cases e
  have := hg.lt
  simp only
  omega
/-- The box, written. -/
theorem Lb.put {w W W' : World} {n : Int} {v r : Value} {xs ys : List E} (h : Lb w W n v xs) (k : Kept [] W W') (hr : EdgesAt W' r ys) (hf : FreshAt (w.heap.size + 2) r) : Lb w ((W'.setCell ⟨w.heap.size, 0, none⟩ (.int .i64 n)).setCell ⟨w.heap.size, 1, none⟩ r) n r ys := by
  have h2 := h.go k
  have ks : Kept [w.heap.size] W' ((W'.setCell ⟨w.heap.size, 0, none⟩ (.int .i64 n)).setCell ⟨w.heap.size, 1, none⟩ r) := ((Kept.refl _ _).setCell (Or.inl (by simp)) _).setCell (Or.inl (by simp)) _
  have c0 := h2.fr.c0; have c1 := h2.fr.c1; have e0 := h2.e0; have e1 := h2.e1
  refine ⟨⟨?_, ?_, kept_cell' h2.fr.r0 ks (by simp), kept_cell' h2.fr.r1 ks (by simp), kept_free' h2.fr.r0 h2.fr.f0 ks (by simp), kept_free' h2.fr.r1 h2.fr.f1 ks (by simp), h2.fr.kept.trans' ks (by simp)⟩, ?_, ?_, hr.keptAt ks (fun a x y e => by have := hf a x y e; simp; omega), fun _ a x y e => by have := hf a x y e; omega⟩
  · go_simp
  · go_simp
  · go_simp
  · go_simp
theorem less_right {n : Int} {es xs : List E} (hr : rightB n es = true) (h1 : Rise xs) (h2 : ∀ e ∈ xs, e ∈ es) : rightB n xs = true := by
  obtain ⟨a, b, c, d, e⟩ := right_rise hr
  refine rise_right a b ?_ h1 (fun x hx => e x (h2 x hx))
  have : xs.length ≤ es.length := by
    rw [← filter_sub d h1 h2]; exact List.length_filter_le _ _
  omega
end Go.Proofs.YtcffkgmhonoomaaDoor

namespace Go.Proofs.YtcffkgmhonoomaaDoor
open Go.RowKit

set_option maxRecDepth 20000 in
set_option maxHeartbeats 4000000 in
theorem putG_fresh {w : World} {n : Int} {v : Value} {es : List E} (h : EdgesAt w v es) (a b : Int) :
    Calls Tryd.prog 24 #[gv n v, ev a b] w fun e w' => ∃ r, e = .returned (.tuple #[gv (addN n es a b) r, .int .i64 (addErr n es a b)]) ∧ EdgesAt w' r (addE n es a b) ∧ FreshAt w.heap.size r ∧ Kept [] w w' := by
  obtain ⟨ao, cap, rfl, _⟩ := h.shape
  have KB := (((Kept.refl [] w).alloc (.cells #[.int .i64 n, .slice ao es.length cap] 24)).alloc (.cells #[.int .i64 a, .int .i64 b] 30)).alloc (.cells #[.int .i64 0, .slice none 0 0] 24)
  have HA := hide (radd_any (n := n) (h.kept KB) a b)
  have HK := hide KB
  generalize addN n es a b = nn at *
  generalize addE n es a b = ee at *
  generalize addErr n es a b = er at *
  clear h KB
  go_enter Tryd.func24, Tryd.ntmps24
  go_wp2_with fail
  refine (unhide HA).mono ?_
  rintro e w1 ⟨r, rfl, hr, hf, k1⟩
  obtain ⟨r0, r1⟩ := box2 k1 (by simp)
  obtain ⟨f0, f1⟩ := box2f k1
  simp only [World.size_alloc] at r0 r1 f0 f1
  obtain ⟨ro, rm, rc, rfl⟩ := hr.form
  have ks : Kept [w.heap.size + 2] w1 ((w1.setCell ⟨w.heap.size + 2, 0, none⟩ (.int .i64 nn)).setCell ⟨w.heap.size + 2, 1, none⟩ (.slice ro rm rc)) := ((Kept.refl _ _).setCell (Or.inl (by simp)) _).setCell (Or.inl (by simp)) _
  have HT := hide (show EdgesAt ((w1.setCell ⟨w.heap.size + 2, 0, none⟩ (.int .i64 nn)).setCell ⟨w.heap.size + 2, 1, none⟩ (.slice ro rm rc)) (.slice ro rm rc) ee ∧ FreshAt w.heap.size (.slice ro rm rc) ∧ Kept [] w ((w1.setCell ⟨w.heap.size + 2, 0, none⟩ (.int .i64 nn)).setCell ⟨w.heap.size + 2, 1, none⟩ (.slice ro rm rc)) from
    ⟨hr.keptAt ks (fun a x y e => by have := hf a x y e; simp at this ⊢; omega), fun a x y e => by (have := hf a x y e; simp at this; omega), ((unhide HK).trans k1).trans' ks (by simp)⟩)
  clear hr hf k1 ks
  go_wp2
  refine bodyPost_ret (v := .tuple #[gv nn (.slice ro rm rc), .int .i64 er]) (by simp [results, Tryd.results24, go_sem, r0, r1]) rfl ?_
  first | exact ⟨_, rfl, unhide HT⟩ | exact ⟨_, unhide HT⟩
theorem putG_any {w : World} {n : Int} {v : Value} {es : List E} (h : EdgesAt w v es) (a b : Int) :
    Calls Tryd.prog 24 #[gv n v, ev a b] w fun e w' => ∃ r, e = .returned (.tuple #[gv (addN n es a b) r, .int .i64 (addErr n es a b)]) ∧ EdgesAt w' r (addE n es a b) ∧ Kept [] w w' :=
  (putG_fresh h a b).mono fun _ _ ⟨r, h1, h2, _, h4⟩ => ⟨r, h1, h2, h4⟩
end Go.Proofs.YtcffkgmhonoomaaDoor

namespace Go.Proofs.YtcffkgmhonoomaaDoor
open Go.RowKit

/-- A graph in a variable, its edges beside. -/
structure GVar (w : World) (p : Nat) (n : Int) (v : Value) (es : List E) : Prop where
  a : w.cell? ⟨p, 0, none⟩ = some (.int .i64 n)
  b : w.cell? ⟨p, 1, none⟩ = some v
  e : EdgesAt w v es
theorem GVar.kept {w w' : World} {p : Nat} {n : Int} {v : Value} {es : List E} (h : GVar w p n v es) (k : Kept [] w w') : GVar w' p n v es := ⟨kept_cell h.a k, kept_cell h.b k, h.e.kept k⟩
theorem GVar.new {w : World} {n : Int} {v : Value} {es : List E} (h : EdgesAt w v es) (t : TypeId) : GVar (w.alloc (.cells #[.int .i64 n, v] t)) w.heap.size n v es :=
  ⟨(box2 (Kept.refl [] _) (by simp)).1, (box2 (Kept.refl [] _) (by simp)).2, h.kept ((Kept.refl [] w).alloc _)⟩

set_option maxRecDepth 20000 in
set_option maxHeartbeats 4000000 in
theorem some_any (w : World) (N : Nat) (v : Value) (x : Int) : Calls Tryd.prog 21 #[gv N v, .int .u64 x] w fun e w' => ∃ r xs, e = .returned r ∧ IntsAt w' r xs ∧ xs.Pairwise (· < ·) ∧ (∀ y ∈ xs, 0 ≤ y ∧ y < (N : Int)) ∧ xs.length ≤ 64 ∧ FreshAt w.heap.size r ∧ Kept [] w w' := by
  obtain ⟨i, hi, hz0, hz1, hz2⟩ := info_parts infoInt
  go_enter Tryd.func21, Tryd.ntmps21
  go_wp2
  obtain ⟨b0, b1⟩ := box2 (Kept.refl [] (w.alloc (.cells #[.int .i64 (N : Int), v] 24))) (by simp)
  have KB := hide ((Kept.refl [] w).alloc (.cells #[.int .i64 (N : Int), v] 24))
  have hbs : w.heap.size < (w.alloc (.cells #[.int .i64 (N : Int), v] 24)).heap.size := by simp
  generalize w.alloc (.cells #[.int .i64 (N : Int), v] 24) = w1 at *
  go_loopw [5, 6] (fun lv vv wr => ∃ (k : Nat) (xs : List Int), k ≤ 64 ∧ vv = .int .i64 k ∧ wr.ownsRow w1.heap.size 3 1 lv xs.length (xs.map (Value.int .i64)) ∧ xs.length ≤ k ∧ Hid (Kept [] w1 wr ∧ xs.Pairwise (· < ·) ∧ ∀ y ∈ xs, (0 ≤ y ∧ y < (N : Int)) ∧ y < (k : Int))) (fun _ vv _ => 64 - (intOf vv).toNat)
  case atStart => exact ⟨0, [], Nat.zero_le _, rfl, ⟨rfl, Or.inl ⟨rfl, rfl⟩⟩, Nat.zero_le _, Kept.refl _ _, .nil, by simp⟩
  case round =>
    obtain ⟨k, xs, hk, rfl, hown, hxl, hh⟩ := hrel
    have c0 := kept_cell b0 (unhide hh).1
    by_cases hc : (k : Int) < (N : Int) ∧ (k : Int) < 64
    · obtain ⟨hc1, hc2⟩ := hc
      have hws := (unhide hh).1.size
      have HNO := hide (show ∀ y ∈ xs, (0 ≤ y ∧ y < (N : Int)) ∧ y < ((k + 1 : Nat) : Int) from fun y hy => by have := (unhide hh).2.2 y hy; omega)
      have HYES := hide (show (xs ++ [(k : Int)]).Pairwise (· < ·) ∧ ∀ y ∈ xs ++ [(k : Int)], (0 ≤ y ∧ y < (N : Int)) ∧ y < ((k + 1 : Nat) : Int) from ⟨by
          rw [List.pairwise_append]
          refine ⟨(unhide hh).2.1, by simp, fun a ha b hb => ?_⟩
          simp at hb; subst hb
          exact ((unhide hh).2.2 a ha).2, fun y hy => by
          rcases List.mem_append.1 hy with h | h
          · exact unhide HNO y h
          · simp at h; omega⟩)
      go_wp2_with (first | (at_builtin; refine wpList_append_own _ rfl (.tmp 23) (.tmp 25) 25 rfl w1.heap.size 3 i (.int .i64 0) 1 8 Tryd.underlying25 hi hz0 hz1 hz2 rfl (by decide) _ _ _ rfl (hown.alloc _) _ 1 _ [.int .i64 (k : Int)] rfl rfl (one_cell' _ _ _ (by simp)) (by simp [Value.oneCell']) (by unfold maxLen; omega) (by omega) (by simp; omega) ?_; intro v' w4 own4 g4 _))
      · have HK4 := hide (((unhide hh).1.alloc _).grown g4 (fun j hj => Or.inr (own_block hown j hj)))
        go_roundw
        case rel => exact ⟨k + 1, xs ++ [(k : Int)], by omega, by go_num, by rw [List.length_append, List.map_append]; exact own4, by simp; omega, unhide HK4, unhide HYES⟩
        case measure => simp [intOf]; omega
      · go_roundw
        case rel => exact ⟨k + 1, xs, by omega, by go_num, hown, by omega, (unhide hh).1, (unhide hh).2.1, unhide HNO⟩
        case measure => simp [intOf]; omega
    · have HF := hide (ints_of_owns hown)
      have HKF := hide ((unhide KB).trans (unhide hh).1)
      have HC := hide hc
      clear hc
      go_wp2
      all_goals first
        | (exfalso; have hc := unhide HC; omega)
        | (go_ret
           exact ⟨_, rfl, xs, (unhide HF).1, (unhide hh).2.1, fun y hy => ((unhide hh).2.2 y hy).1, by omega, fun a n c e => by have := (unhide HF).2 a n c e; omega, unhide HKF⟩)
        | (go_ret
           exact ⟨_, xs, rfl, (unhide HF).1, (unhide hh).2.1, fun y hy => ((unhide hh).2.2 y hy).1, by omega, fun a n c e => by have := (unhide HF).2 a n c e; omega, unhide HKF⟩)

end Go.Proofs.YtcffkgmhonoomaaDoor

namespace Go.Proofs.YtcffkgmhonoomaaDoor
open Go.RowKit

/-- Some edges of a graph, each turned. -/
structure Turned (es l : List E) (k : Nat) : Prop where
  sub : (l.map fun e => trn e.1 e.2).Sublist (es.take k)
  ok : ∀ e ∈ l, e.2 < e.1
theorem Turned.start (es : List E) : Turned es [] 0 := ⟨by simp, by simp⟩
theorem Turned.no {es l : List E} {k : Nat} (h : Turned es l k) (hk : k < es.length) : Turned es l (k + 1) := ⟨h.sub.trans (by rw [take_snocE hk]; exact List.sublist_append_left _ _), h.ok⟩
theorem Turned.yes {es l : List E} {k : Nat} (h : Turned es l k) (hk : k < es.length) {a b : Int} (ha : eA es k = a) (hb : eB es k = b) (hab : a < b) : Turned es (l ++ [(b, a)]) (k + 1) := by
  refine ⟨?_, fun e he => ?_⟩
  · rw [take_snocE hk, List.map_append, ha, hb]
    refine h.sub.append ?_
    have : trn b a = (a, b) := by unfold trn; rw [show min b a = a by omega, show max b a = b by omega]
    simp [this]
  · rcases List.mem_append.1 he with h1 | h1
    · exact h.ok e h1
    · simp at h1; subst h1; exact hab
/-- What is taken away of l, behind k edges put again. -/
structure PutTo (es l : List E) (k : Nat) (b : List E) : Prop where
  rise : Rise b
  mem : ∀ x, x ∈ b ↔ x ∈ es ∧ x ∉ (l.map fun e => trn e.1 e.2).drop k
theorem turned_less {es l : List E} (hr : Rise es) (h : Turned es l es.length) : ∃ b, lessR es l = some b ∧ PutTo es l 0 b ∧ b.length + l.length = es.length := by
  have hs := h.sub
  rw [List.take_length] at hs
  have hn := (rise_nodup hr).sublist hs
  have hall : ∀ e ∈ l, trn e.1 e.2 ∈ es := fun e he => hs.mem (List.mem_map.2 ⟨e, he, rfl⟩)
  have he := (lessR_eq l hr).1 ⟨hall, hn⟩
  refine ⟨_, he, ⟨hr.filter _, fun x => by rw [List.mem_filter, List.drop_zero]; simp⟩, ?_⟩
  have hp : ((es.filter fun x => decide (x ∉ l.map fun e => trn e.1 e.2)) ++ (l.map fun e => trn e.1 e.2)).Perm es := by
    refine (List.perm_ext_iff_of_nodup ?_ (rise_nodup hr)).2 (fun x => ?_)
    · rw [List.nodup_append]
      exact ⟨(rise_nodup hr).filter _, hn, fun a ha b hb e => by subst e; rw [List.mem_filter] at ha; simpa using absurd hb (by simpa using ha.2)⟩
    · rw [List.mem_append, List.mem_filter]
      constructor
      · rintro (h1 | h1)
        · exact h1.1
        · exact hs.mem h1
      · intro h1
        by_cases c : x ∈ l.map fun e => trn e.1 e.2
        · exact Or.inr c
        · exact Or.inl ⟨h1, by simpa using c⟩
  have := hp.length_eq
  rw [List.length_append, List.length_map] at this
  exact this
theorem PutTo.step {n : Int} {es l b : List E} {k : Nat} (hr : rightB n es = true) (ht : Turned es l es.length) (hl : es.length < 65536) (h : PutTo es l k b) (hk : k < l.length) : addErr n b (eA l k) (eB l k) = 0 ∧ PutTo es l (k + 1) (insE b (trn (eA l k) (eB l k))) := by
  obtain ⟨_, _, _, h3, h4⟩ := right_rise hr
  have hs := ht.sub
  rw [List.take_length] at hs
  have hn := (rise_nodup h3).sublist hs
  have hkm : k < (l.map fun e => trn e.1 e.2).length := by simpa using hk
  have hd : (l.map fun e => trn e.1 e.2).drop k = trn (eA l k) (eB l k) :: (l.map fun e => trn e.1 e.2).drop (k + 1) := by
    rw [List.drop_eq_getElem_cons hkm, List.getElem_map, e_elem hk]
  have hm : trn (eA l k) (eB l k) ∈ es := hs.mem (List.mem_of_mem_drop (i := k) (by rw [hd]; simp))
  have hnb : trn (eA l k) (eB l k) ∉ b := fun hb => ((h.mem _).1 hb).2 (by rw [hd]; simp)
  have hrb := less_right hr h.rise (fun e he => ((h.mem e).1 he).1)
  have hbl := (right_rise hrb).2.2.1
  have hok := okE_iff.1 (h4 _ hm)
  have hlt := ht.ok _ (List.getElem_mem hk)
  rw [e_elem hk] at hlt
  unfold trn at hok
  simp only at hok hlt
  have hbl2 : b.length ≤ es.length := by rw [← filter_sub h3 h.rise (fun e he => ((h.mem e).1 he).1)]; exact List.length_filter_le _ _
  refine ⟨?_, insE_rise h.rise hnb, fun x => ?_⟩
  · unfold addErr
    rw [if_neg (by simp [hrb]), if_neg (by omega), if_neg (by omega), if_neg hnb, if_neg (by omega)]
  · rw [insE_perm.mem_iff, List.mem_cons, h.mem x, hd, List.mem_cons]
    have hnd := hn.sublist (List.drop_sublist k _)
    rw [hd, List.nodup_cons] at hnd
    constructor
    · rintro (h1 | ⟨h1, h2⟩)
      · subst h1; exact ⟨hm, hnd.1⟩
      · exact ⟨h1, fun c => h2 (Or.inr c)⟩
    · rintro ⟨h1, h2⟩
      by_cases c : x = trn (eA l k) (eB l k)
      · exact Or.inl c
      · exact Or.inr ⟨h1, fun d => by rcases d with d | d; exact c d; exact h2 d⟩
theorem PutTo.whole {es l b : List E} (hr : Rise es) (h : PutTo es l l.length b) : b = es := by
  refine rise_eq ((List.perm_ext_iff_of_nodup (rise_nodup h.rise) (rise_nodup hr)).2 (fun x => ?_)) h.rise hr
  rw [h.mem x, List.drop_eq_nil_of_le (by simp)]
  simp
theorem put_gone {n : Int} {es l b : List E} (hr : rightB n es = true) (h : PutTo es l 0 b) (h0 : 0 < l.length) : lessErr n b (l.take 1) = 7 := by
  have hrb := less_right hr h.rise (fun e he => ((h.mem e).1 he).1)
  match l, h0 with
  | e :: r, _ =>
    have hnb : trn e.1 e.2 ∉ b := fun hb => ((h.mem _).1 hb).2 (by simp)
    unfold lessErr
    rw [hrb, if_pos rfl]
    simp [lessR, hnb]
end Go.Proofs.YtcffkgmhonoomaaDoor
