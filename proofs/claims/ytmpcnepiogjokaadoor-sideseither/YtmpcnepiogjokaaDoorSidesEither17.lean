/- Lists of lists in memory. restOf: what is left of a graph, without some vertices. nearOf: the neighbours of each vertex. -/
import Derived.Test.YtmpcnepiogjokaaDoorSidesEither16
import Derived.Maps.AppendAt
namespace Go.Proofs.YtmpcnepiogjokaaDoor
open Go.RowKit

/-- A slice of slices of numbers. -/
def ListsAt (w : World) (v : Value) (L : List (List Int)) : Prop :=
  ∃ ao cap, v = .slice ao L.length cap ∧ L.length ≤ cap ∧ L.length ≤ maxLen ∧ (0 < L.length → ∃ g o, ao = some ⟨g, o, none⟩ ∧ ∀ i, i < L.length → ∃ u, w.cell? ⟨g, o + i, none⟩ = some u ∧ IntsAt w u (L.getD i []))
theorem ListsAt.kept {w w' : World} {v : Value} {L : List (List Int)} (h : ListsAt w v L) (k : Kept [] w w') : ListsAt w' v L := by
  obtain ⟨ao, cap, rfl, h1, h2, h3⟩ := h
  refine ⟨ao, cap, rfl, h1, h2, fun h0 => ?_⟩
  obtain ⟨g, o, rfl, hc⟩ := h3 h0
  exact ⟨g, o, rfl, fun i hi => by obtain ⟨u, hu, hv⟩ := hc i hi; exact ⟨u, kept_cell hu k, hv.kept k⟩⟩
theorem ListsAt.nil (w : World) (cap : Nat) (ao : Option Addr) : ListsAt w (.slice ao 0 cap) [] := ⟨ao, cap, rfl, Nat.zero_le _, Nat.zero_le _, fun h => by simp at h⟩
theorem ListsAt.shape {w : World} {v : Value} {L : List (List Int)} (h : ListsAt w v L) : ∃ ao cap, v = .slice ao L.length cap ∧ L.length ≤ maxLen ∧ (0 < L.length → ∃ g o, ao = some ⟨g, o, none⟩ ∧ ∀ i, i < L.length → ∃ u, w.cell? ⟨g, o + i, none⟩ = some u ∧ IntsAt w u (L.getD i [])) := by
  obtain ⟨ao, cap, rfl, h1, h2, h3⟩ := h
  exact ⟨ao, cap, rfl, h2, h3⟩
/-- A row of lists that is being made. -/
structure LRow (w : World) (B b : Nat) (lv : Value) (L : List (List Int)) (vals : List Value) : Prop where
  own : w.ownsRow B 25 1 lv L.length vals
  each : ∀ i u, vals[i]? = some u → IntsAt w u (L.getD i []) ∧ ∃ a n c, u = .slice (some a) n c ∧ a.block ≠ b ∧ lv.ownBlock ≠ some a.block ∧ a.block < w.heap.size ∧ B ≤ a.block
theorem LRow.start (w : World) (B b : Nat) : LRow w B b (.slice none 0 0) [] [] := ⟨⟨rfl, Or.inl ⟨rfl, rfl⟩⟩, by simp⟩
theorem own_freeE {w w' : World} {base e size n b : Nat} {v : Value} {xs : List Value} (h : w.ownsRow base e size v n xs) (k : Kept [b] w w') (hb : b < base) : w'.ownsRow base e size v n xs := by
  obtain ⟨h1, h2⟩ := h
  refine ⟨h1, ?_⟩
  rcases h2 with h2 | ⟨g, cap, cur, hv, hg, hh, h5, h6, h7, h8⟩
  · exact Or.inl h2
  · refine Or.inr ⟨g, cap, cur, hv, hg, ?_, h5, h6, h7, h8⟩
    have hl : g < w.heap.size := by
      by_cases hl : g < w.heap.size
      · exact hl
      · rw [Array.getElem?_eq_none (by omega)] at hh; simp at hh
    rw [k.block g hl (by simp; omega)]; exact hh
theorem LRow.kept {w w' : World} {B b : Nat} {lv : Value} {L : List (List Int)} {vals : List Value} (h : LRow w B b lv L vals) (k : Kept [b] w w') (hb : b < B) : LRow w' B b lv L vals :=
  ⟨own_freeE h.own k hb, fun i u hu => by
    obtain ⟨h1, a, n, c, rfl, h2, h3, h4, h5⟩ := h.each i u hu
    exact ⟨h1.keptAt k (fun a' m c' e => by cases e; simpa using h2), a, n, c, rfl, h2, h3, Nat.lt_of_lt_of_le h4 k.size, h5⟩⟩
/-- A list more. -/
theorem LRow.push {w w' : World} {B b : Nat} {lv v' : Value} {L : List (List Int)} {vals : List Value} (h : LRow w B b lv L vals) {l : List Int} {a : Addr} {n c : Nat} {o : Obj} (hu : IntsAt w (.slice (some a) n c) l) (ha : a.block ≠ b) (hal : lv.ownBlock ≠ some a.block) (halt : a.block < w.heap.size) (haB : B ≤ a.block)
    (own : w'.ownsRow B 25 1 v' (L.length + 1) (vals ++ [.slice (some a) n c])) (hg : (w.alloc o).grownBy w' lv.ownBlock) (hat : v'.ownBlock = lv.ownBlock ∨ v'.ownBlock = some (w.heap.size + 1)) : LRow w' B b v' (L ++ [l]) (vals ++ [.slice (some a) n c]) := by
  have hlen : vals.length = L.length := by simpa using h.own.1
  have kk : Kept lv.ownBlock.toList w w' := (((Kept.refl [] w).alloc o).mono (by simp)).trans (grown_kept hg)
  have hne : ∀ a : Addr, lv.ownBlock ≠ some a.block → a.block < w.heap.size → v'.ownBlock ≠ some a.block := fun a h1 h2 e => by
    rcases hat with h3 | h3
    · exact h1 (by rw [← h3]; exact e)
    · rw [h3] at e; simp at e; omega
  refine ⟨by rw [List.length_append]; exact own, fun i u hi => ?_⟩
  by_cases hlt : i < L.length
  · rw [List.getElem?_append_left (by omega)] at hi
    obtain ⟨h1, a', n', c', rfl, h2, h3, h4, h5⟩ := h.each i u hi
    refine ⟨?_, a', n', c', rfl, h2, hne a' h3 h4, Nat.lt_of_lt_of_le h4 kk.size, h5⟩
    rw [show (L ++ [l]).getD i [] = L.getD i [] by simp [List.getD, List.getElem?_append_left hlt]]
    exact h1.keptAt kk (fun a2 m c2 e => by cases e; intro hm; exact h3 (by simpa using hm))
  · have hil := (List.getElem?_eq_some_iff.1 hi).1
    simp at hil
    have e : i = vals.length := by omega
    subst e
    simp at hi
    subst hi
    refine ⟨?_, a, n, c, rfl, ha, hne a hal halt, Nat.lt_of_lt_of_le halt kk.size, haB⟩
    rw [show (L ++ [l]).getD vals.length [] = l by rw [hlen]; simp [List.getD]]
    exact hu.keptAt kk (fun a2 m c2 e => by cases e; intro hm; exact hal (by simpa using hm))
theorem LRow.lists {w : World} {B b : Nat} {lv : Value} {L : List (List Int)} {vals : List Value} (h : LRow w B b lv L vals) : ListsAt w lv L := by
  have hlen : vals.length = L.length := by simpa using h.own.1
  rcases h.own.2 with ⟨rfl, h0⟩ | ⟨g, cap, cur, rfl, hg, hb, h5, h6, h7, h8⟩
  · have : L = [] := List.eq_nil_of_length_eq_zero h0
    subst this
    exact ListsAt.nil _ _ _
  · refine ⟨some ⟨g, 0, none⟩, cap, rfl, h5, by omega, fun _ => ⟨g, 0, rfl, fun i hi => ?_⟩⟩
    obtain ⟨u, hu⟩ : ∃ u, vals[i]? = some u := ⟨vals[i]'(by omega), by simp⟩
    refine ⟨u, ?_, (h.each i u hu).1⟩
    rw [cell_of_block hb, ← hu, ← h8, Nat.mul_one, List.getElem?_take_of_lt hi]
    simp
/-- Lists that lie in blocks from B on. -/
def FreshL (B : Nat) (w : World) (v : Value) (L : List (List Int)) : Prop := ∀ a n c, v = .slice (some a) n c → 0 < L.length → B ≤ a.block ∧ ∀ i, i < L.length → ∃ u, w.cell? ⟨a.block, a.off + i, none⟩ = some u ∧ ∀ a' n' c', u = .slice (some a') n' c' → B ≤ a'.block
theorem LRow.freshL {w : World} {B b : Nat} {lv : Value} {L : List (List Int)} {vals : List Value} (h : LRow w B b lv L vals) : FreshL B w lv L := by
  intro a n c e h0
  have hlen : vals.length = L.length := by simpa using h.own.1
  rcases h.own.2 with ⟨e2, _⟩ | ⟨g, cap, cur, e2, hg, hb, h5, h6, h7, h8⟩
  · rw [e2] at e; cases e
  · rw [e2] at e
    simp at e
    obtain ⟨rfl, rfl, rfl⟩ := e
    refine ⟨hg, fun i hi => ?_⟩
    obtain ⟨u, hu⟩ : ∃ u, vals[i]? = some u := ⟨vals[i]'(by omega), by simp⟩
    obtain ⟨_, a2, n2, c2, rfl, _, _, _, hB⟩ := h.each i u hu
    refine ⟨.slice (some a2) n2 c2, ?_, fun a' n' c' e => by cases e; exact hB⟩
    show w.cell? ⟨g, 0 + i, none⟩ = _
    rw [cell_of_block hb, ← hu, ← h8, Nat.mul_one, List.getElem?_take_of_lt hi]
    simp
def lenV : Value → Nat
  | .slice _ n _ => n
  | _ => 0
/-- As many pieces as vertices at most. -/
theorem Taken.len {es : List E} {S T : Int → Prop} {L : List (List Int)} {N : Nat} (h : Taken es S T L) (hb : ∀ x, S x → 0 ≤ x ∧ x < (N : Int)) : L.length ≤ N := by
  have h1 : (L.map (fun l => l.headD 0)).Nodup := by
    unfold List.Nodup
    rw [List.pairwise_map]
    exact h.heads.imp (fun {a b} h e => by omega)
  have := len_bound (N := N) h1 (fun x hx => by
    obtain ⟨l, hl, rfl⟩ := List.mem_map.1 hx
    have hne := h.ne l hl
    cases l with
    | nil => exact absurd rfl hne
    | cons y r => exact hb _ (h.cls _ hl y (by simp)).1)
  simpa using this
end Go.Proofs.YtmpcnepiogjokaaDoor

namespace Go.Proofs.YtmpcnepiogjokaaDoor
open Go.RowKit

set_option maxRecDepth 20000 in
set_option maxHeartbeats 4000000 in
theorem restOf_no {w : World} {n : Int} {v u : Value} {es : List E} (h : EdgesAt w v es) (hr : rightB n es = false) :
    Calls Tryd.prog 34 #[gv n v, u] w fun e w' => ∃ q, e = .returned (.pointer (some ⟨q, 0, none⟩)) ∧ w'.cell? ⟨q, 0, none⟩ = some (.slice none 0 0) ∧ w'.cell? ⟨q, 1, none⟩ = some (.pointer none) ∧ Kept [] w w' := by
  obtain ⟨ao, cap, rfl, _⟩ := h.shape
  have HR := right_any (n := n) (h.kept ((Kept.refl [] w).alloc (.cells #[.int .i64 n, .slice ao es.length cap] 24)))
  rw [hr] at HR
  have HR2 := hide HR
  clear HR h
  go_enter Tryd.func34, Tryd.ntmps34
  go_wp2_with fail
  refine (unhide HR2).mono ?_
  rintro e w1 ⟨rfl, k1⟩
  go_wp2
  go_ret
  refine ⟨w1.heap.size, rfl, ?_, ?_, (((Kept.refl [] w).alloc _).trans k1).alloc _⟩
  · rw [cell_of_block (new_block w1 _)]; rfl
  · rw [cell_of_block (new_block w1 _)]; rfl

/-- The rest of a graph, laid; its rows are still being made. -/
structure Laid (p q g N s b m d : Nat) (n : Int) (v : Value) (ws : Nat → Nat) (wr : World) : Prop where
  near : wr.cell? ⟨q, 0, none⟩ = some (.slice (some ⟨g, 0, none⟩) N N)
  left : wr.cell? ⟨q, 1, none⟩ = some (.pointer (some ⟨s, 0, none⟩))
  set : SetAt wr s b N m d ws
  b0 : wr.cell? ⟨p, 0, none⟩ = some (.int .i64 n)
  b1 : wr.cell? ⟨p, 1, none⟩ = some v
  qb : q ≠ b
  gb : g ≠ b
  pb : p ≠ b
  qg : q ≠ g
  sg : s ≠ g
  pg : p ≠ g
theorem Laid.wrote {p q g N s b m d : Nat} {n : Int} {v : Value} {ws ws' : Nat → Nat} {wr w' : World} (h : Laid p q g N s b m d n v ws wr) (k : Kept [b] wr w') (hs : SetAt w' s b N m d ws') : Laid p q g N s b m d n v ws' w' :=
  ⟨kept_cell' h.near k (by simpa using h.qb), kept_cell' h.left k (by simpa using h.qb), hs, kept_cell' h.b0 k (by simpa using h.pb), kept_cell' h.b1 k (by simpa using h.pb), h.qb, h.gb, h.pb, h.qg, h.sg, h.pg⟩
theorem Laid.kept {p q g N s b m d : Nat} {n : Int} {v : Value} {ws : Nat → Nat} {wr w' : World} (h : Laid p q g N s b m d n v ws wr) (k : Kept [g] wr w') : Laid p q g N s b m d n v ws w' :=
  ⟨kept_cell' h.near k (by simpa using h.qg), kept_cell' h.left k (by simpa using h.qg), h.set.kept k (by simpa using h.sg) (by simpa using h.gb.symm), kept_cell' h.b0 k (by simpa using h.pg), kept_cell' h.b1 k (by simpa using h.pg), h.qb, h.gb, h.pb, h.qg, h.sg, h.pg⟩

set_option maxRecDepth 20000 in
set_option maxHeartbeats 8000000 in
theorem restOf_yes {w : World} {N : Nat} {v u : Value} {es : List E} {xs : List Int} (h : EdgesAt w v es) (hx : IntsAt w u xs) (hr : rightB (N : Int) es = true) (hT : Tab w) :
    Calls Tryd.prog 34 #[gv N v, u] w fun e w' => ∃ q g s b m d ws, e = .returned (.pointer (some ⟨q, 0, none⟩)) ∧ RestAt w' q g N N s b m d es ws ∧ w.heap.size ≤ b ∧ (∀ x, Has ws x ↔ (0 ≤ x ∧ x < (N : Int)) ∧ x ∉ xs) ∧ Kept [] w w' := by
  obtain ⟨i, hi, hz0, hz1, hz2⟩ := info_parts infoInt
  obtain ⟨ao, cap, rfl, _⟩ := h.shape
  obtain ⟨xo, xc, rfl, hxm, _⟩ := hx.shape
  have hxmI : (xs.length : Int) ≤ 9223372036854775807 := by unfold maxLen at hxm; omega
  obtain ⟨_, hN, hel, hrise, hok⟩ := right_rise hr
  have KB := (Kept.refl [] w).alloc (.cells #[.int .i64 (N : Int), .slice ao es.length cap] 24)
  have HR := right_any (n := (N : Int)) (h.kept KB)
  rw [hr] at HR
  have HR2 := hide HR
  have HH := hide h
  have HXX := hide hx
  have HT := hide hT
  have hmk := make_lists N (by omega)
  have HOK := hide hok
  clear HR h hx hT hr hrise hok hxm
  go_enter Tryd.func34, Tryd.ntmps34
  go_wp2_with fail
  refine (unhide HR2).mono ?_
  rintro e w1 ⟨rfl, k1⟩
  obtain ⟨b0, b1⟩ := box2 k1 (by simp)
  have HK1 := hide (KB.trans k1)
  have HNW := hide (fun W (k : Kept [] w1 W) => new_any W (N : Int) ((((unhide HT).kept (unhide HK1) (by simp)).kept k (by simp))))
  rw [show newRoom (N : Int) = N by unfold newRoom; omega] at HNW
  have hsz1 : w.heap.size < w1.heap.size := lt_of_cell b0
  clear k1 KB
  go_wp2_with fail
  go_region_held3 (fun W => W.cell? ⟨w.heap.size, 0, none⟩ = some (.int .i64 (N : Int))) (first | exact kept_cell b0 K2 | exact alloc_cell (kept_cell b0 K2) _ | exact alloc_cell (alloc_cell (kept_cell b0 K2) _) _ | go_keep)
    (first | (go_at_call 52; refine (unhide HNW _ (by repeat' first | exact Kept.refl _ _ | apply Kept.drew | apply Kept.alloc)).mono ?_; rintro e w2 ⟨s, b, rfl, hset, k2, hs2, hb2⟩; have K2 : Kept [] w1 w2 := by (refine Kept.trans ?_ k2; repeat' first | exact Kept.refl _ _ | apply Kept.drew | apply Kept.alloc)))
  · have hs3 : (w1.alloc (.cells (madeCells #[.slice none 0 0] N) 25)).heap.size ≤ s := hs2
    have hb3 : (w1.alloc (.cells (madeCells #[.slice none 0 0] N) 25)).heap.size ≤ b := hb2
    simp at hs3 hb3
    have hbl := hset.bl
    have hsl := hset.sl
    have hk2 : Kept [] (w1.alloc (.cells (madeCells #[.slice none 0 0] N) 25)) w2 := (Kept.refl [] _).drew.trans k2
    have hk3 := (Kept.refl [] w2).alloc (.cells #[.slice (some ⟨w1.heap.size, 0, none⟩) N N, .pointer (some ⟨s, 0, none⟩)] 77)
    have hsz2 : w1.heap.size < w2.heap.size := by have := hk2.size; simp at this; omega
    have GB : (w2.alloc (.cells #[.slice (some ⟨w1.heap.size, 0, none⟩) N N, .pointer (some ⟨s, 0, none⟩)] 77)).heap[w1.heap.size]? = some (.cells (madeCells #[.slice none 0 0] N) 25 (0, 0)) := by
      rw [Below.heap_alloc _ _ _ hsz2, hk2.block _ (by simp) (by simp)]; exact new_block w1 _
    have QB := box2 (Kept.refl [] (w2.alloc (.cells #[.slice (some ⟨w1.heap.size, 0, none⟩) N N, .pointer (some ⟨s, 0, none⟩)] 77))) (by simp)
    have LAID : Laid w.heap.size w2.heap.size w1.heap.size N s b ((N + 63) / 64) ((N + 63) / 64) N (.slice ao es.length cap) (fun _ => 0) (w2.alloc (.cells #[.slice (some ⟨w1.heap.size, 0, none⟩) N N, .pointer (some ⟨s, 0, none⟩)] 77)) :=
      ⟨QB.1, QB.2, hset.kept hk3 (by simp) (by simp), kept_cell b0 (K2.trans hk3), kept_cell b1 (K2.trans hk3), by omega, by omega, by omega, by omega, by omega, by omega⟩
    have KW := hide ((unhide HK1).trans (K2.trans hk3))
    have hgl : w1.heap.size < (w2.alloc (.cells #[.slice (some ⟨w1.heap.size, 0, none⟩) N N, .pointer (some ⟨s, 0, none⟩)] 77)).heap.size := by simp; omega
    have HGE := hide (show w.heap.size ≤ b by omega)
    have HGG := hide (show w.heap.size ≤ w1.heap.size by omega)
    clear hset k2 K2 QB hk2 hk3 hs2 hb2 hs3 hb3 hbl hsl hsz2 b0 b1 hsz1
    generalize w2.alloc (.cells #[.slice (some ⟨w1.heap.size, 0, none⟩) N N, .pointer (some ⟨s, 0, none⟩)] 77) = W4 at *
    generalize w2.heap.size = q at *
    generalize w1.heap.size = g at *
    have HGB := hide GB
    have HLA := hide LAID
    have hpw := hide (rfl : w.heap.size = w.heap.size)
    have c0 := LAID.b0; have c1 := LAID.b1; have cn := LAID.near; have cl := LAID.left
    have hmx := LAID.set.most
    clear GB LAID hmk
    go_wp2
    go_loopw [26] (fun cc wr => ∃ (k : Nat) (ws : Nat → Nat), k ≤ N ∧ cc = .int .i64 k ∧ Hid (Laid w.heap.size q g N s b ((N + 63) / 64) ((N + 63) / 64) N (.slice ao es.length cap) ws wr ∧ Kept [b] W4 wr ∧ ∀ x, Has ws x ↔ 0 ≤ x ∧ x < (k : Int))) (fun cc _ => N - (intOf cc).toNat)
    case atStart => exact ⟨0, _, Nat.zero_le _, rfl, unhide HLA, Kept.refl _ _, fun x => by unfold Has hasI; rw [mem_zero]; simp <;> omega⟩
    case round =>
      obtain ⟨k, ws, hk, rfl, hh⟩ := hrel
      clear c0 c1 cn cl
      have cl := (unhide hh).1.left
      have c1 := (unhide hh).1.b1
      by_cases hlt : k < N
      · go_wp2_with fail
        refine (bput_any (unhide hh).1.set (k : Int)).mono ?_
        rintro e w3 ⟨rfl, hs, kb⟩
        have H3 := hide (And.intro ((unhide hh).1.wrote kb hs) (And.intro ((unhide hh).2.1.trans kb) (show ∀ x, Has (putS N ws (k : Int)) x ↔ 0 ≤ x ∧ x < ((k + 1 : Nat) : Int) from fun x => by rw [has_put, (unhide hh).2.2 x]; omega)))
        clear hs kb cl c1
        go_wp2
        go_roundw
        case rel => exact ⟨k + 1, _, by omega, by go_num, unhide H3⟩
        case measure => simp [intOf]; omega
      · have HALL := hide (show ∀ x, Has ws x ↔ (0 ≤ x ∧ x < (N : Int)) ∧ x ∉ xs.take 0 from fun x => by rw [(unhide hh).2.2 x]; simp <;> omega)
        go_wp2
        go_loopw [38] (fun cc wr => ∃ (k : Nat) (ws : Nat → Nat), k ≤ xs.length ∧ cc = .int .i64 k ∧ Hid (Laid w.heap.size q g N s b ((N + 63) / 64) ((N + 63) / 64) N (.slice ao es.length cap) ws wr ∧ Kept [b] W4 wr ∧ ∀ x, Has ws x ↔ (0 ≤ x ∧ x < (N : Int)) ∧ x ∉ xs.take k)) (fun cc _ => xs.length - (intOf cc).toNat)
        case atStart => exact ⟨0, ws, Nat.zero_le _, rfl, (unhide hh).1, (unhide hh).2.1, unhide HALL⟩
        case round =>
          obtain ⟨k2, ws2, hk2, rfl, hh2⟩ := hrel
          clear cl c1
          have cl := (unhide hh2).1.left
          have c1 := (unhide hh2).1.b1
          have KWR := hide ((unhide KW).trans' (unhide hh2).2.1 (fun i hi => by simp at hi; subst hi; exact Or.inr (unhide HGE)))
          by_cases hlt2 : k2 < xs.length
          · obtain ⟨xo2, xc2, hv2, _, hin2⟩ := ((unhide HXX).kept (unhide KWR)).shape
            obtain ⟨xg, xf, he2, hcell⟩ := hin2 (by omega)
            have hxo : xo = some ⟨xg, xf, none⟩ := by simp at hv2; rw [hv2.1, he2]
            subst hxo
            have d1 := hcell k2 hlt2
            have HTK := hide (show xs.take (k2 + 1) = xs.take k2 ++ [xs.getD k2 0] by rw [List.take_succ_eq_append_getElem hlt2, getD_elem hlt2])
            generalize xs.getD k2 0 = x at *
            clear hcell hin2 hv2 he2
            have t0 : (0 : Int) ≤ (k2 : Int) := by omega
            have t1 : (k2 : Int) < (xs.length : Int) := by omega
            go_wp2_with fail
            refine (drop_any (unhide hh2).1.set x).mono ?_
            rintro e w3 ⟨rfl, hs, kb⟩
            have H3 := hide (And.intro ((unhide hh2).1.wrote kb hs) (And.intro ((unhide hh2).2.1.trans kb) (show ∀ y, Has (dropS ws2 x) y ↔ (0 ≤ y ∧ y < (N : Int)) ∧ y ∉ xs.take (k2 + 1) from fun y => by rw [has_drop, (unhide hh2).2.2 y, unhide HTK]; simp [and_assoc])))
            clear hs kb cl c1 d1
            go_wp2
            go_roundw
            case rel => exact ⟨k2 + 1, _, by omega, by go_num, unhide H3⟩
            case measure => simp [intOf]; omega
          · have HFIN := hide (show ∀ x, Has ws2 x ↔ (0 ≤ x ∧ x < (N : Int)) ∧ x ∉ xs from fun x => by rw [(unhide hh2).2.2 x, List.take_of_length_le (by omega)])
            obtain ⟨W5, hW5⟩ : ∃ W5, W5 = wr := ⟨wr, rfl⟩
            subst hW5
            have hg5 : g < W5.heap.size := Nat.lt_of_lt_of_le hgl (unhide hh2).2.1.size
            have hb5 : b < W5.heap.size := (unhide hh2).1.set.bl
            have GR := hide (Grid.start (B := W5.heap.size) (show W5.heap[g]? = some (.cells (madeCells #[.slice none 0 0] N) 25 (0, 0)) by rw [(unhide hh2).2.1.block g hgl (by simpa using (unhide hh2).1.gb)]; exact unhide HGB))
            go_wp2
            go_loopw [52] (fun cc wr => ∃ (k : Nat) (vs : Nat → Value), k ≤ es.length ∧ cc = .int .i64 k ∧ Hid (Grid wr W5.heap.size g N (fun i => nearL (i : Int) (es.take k)) vs ∧ Kept [g] W5 wr)) (fun cc _ => es.length - (intOf cc).toNat)
            case atStart => exact ⟨0, _, Nat.zero_le _, rfl, (unhide GR).congr (fun i _ => rfl), Kept.refl _ _⟩
            case round =>
              obtain ⟨k3, vs, hk3, rfl, hh3⟩ := hrel
              have L3 := hide ((unhide hh2).1.kept (unhide hh3).2)
              have KW3 := hide ((unhide KWR).trans' (unhide hh3).2 (fun i hi => by simp at hi; subst hi; exact Or.inr (unhide HGG)))
              clear cl c1
              by_cases hlt3 : k3 < es.length
              · obtain ⟨ao2, _, hv2, _, _, hin2⟩ := ((unhide HH).kept (unhide KW3)).shape
                obtain ⟨eg, eo, he2, hin⟩ := hin2 (by omega)
                have hao : ao = some ⟨eg, eo, none⟩ := by simp at hv2; rw [hv2.1, he2]
                subst hao
                have d0 := hin.a k3 hlt3; have d1 := hin.b k3 hlt3
                have ok := okE_iff.1 (unhide HOK _ (at_mem hlt3))
                have HST := hide (fun i : Nat => nearL_step (v := (i : Int)) (es := es) (k := k3) hlt3 rfl rfl)
                unfold at_ at ok
                simp only at ok
                obtain ⟨an, ha⟩ := Int.eq_ofNat_of_zero_le ok.1
                obtain ⟨bn, hb⟩ := Int.eq_ofNat_of_zero_le (show 0 ≤ eB es k3 by omega)
                rw [ha, hb] at ok
                rw [ha] at d0; rw [hb] at d1
                rw [ha, hb] at HST
                have anN : an < N := by omega
                have bnN : bn < N := by omega
                have hab : an < bn := by omega
                clear hin hin2 hv2 he2 ha hb ok
                have HLEN := hide (fun i : Nat => Nat.le_trans (nearL_len (i : Int) (es.take k3)) (Nat.le_trans (List.length_take_le _ _) (Nat.le_of_lt hlt3)))
                have cn0 := alloc_cell (unhide L3).near (.cells #[.int .i64 (an : Int), .int .i64 (bn : Int)] 43)
                obtain ⟨ea0, eb0⟩ := box2 (Kept.refl [] (wr.alloc (.cells #[.int .i64 (an : Int), .int .i64 (bn : Int)] 43))) (by simp)
                have hgr : g < wr.heap.size := Nat.lt_of_lt_of_le hg5 (unhide hh3).2.size
                have G0 := hide ((unhide hh3).1.kept hgr ((Kept.refl [] wr).alloc (.cells #[.int .i64 (an : Int), .int .i64 (bn : Int)] 43)))
                have HKb := hide ((unhide hh3).2.trans (((Kept.refl [] wr).alloc (.cells #[.int .i64 (an : Int), .int .i64 (bn : Int)] 43)).mono (by simp)))
                have HLT := hide (fun i hi => own_lt ((unhide hh3).1.own i hi))
                have t0 : (0 : Int) ≤ (k3 : Int) := by omega
                have t1 : (k3 : Int) < (es.length : Int) := by omega
                have a0 : (0 : Int) ≤ (an : Int) := by omega
                have a1 : (an : Int) < (N : Int) := by omega
                have b0' : (0 : Int) ≤ (bn : Int) := by omega
                have b1' : (bn : Int) < (N : Int) := by omega
                have cb1 := (unhide L3).b1
                go_wp2_with fail
                generalize hwb : wr.alloc (.cells #[.int .i64 (an : Int), .int .i64 (bn : Int)] 43) = wb at *
                have hpe : g ≠ wr.heap.size := by omega
                generalize wr.heap.size = pe at *
                clear hwb d0 d1 cb1
                have HNO := hide (show ∀ i, i < N → ∀ k, (vs i).ownBlock = some k → q ≠ k ∧ pe ≠ k from fun i hi k hk => ⟨by have := own_block ((unhide hh3).1.own i hi) k hk; have := lt_of_cell (unhide hh2).1.near; omega, by have := unhide HLT i hi k hk; omega⟩)
                have HNG := hide (show ∀ i, i < N → ∀ k, (vs i).ownBlock = some k → g ≠ k from fun i hi k hk => by have := own_block ((unhide hh3).1.own i hi) k hk; omega)
                have rowc0 := (unhide G0).cell an anN
                have fz0 := (unhide G0).free an
                have OW0 := (unhide G0).own an anN
                have hqg : q ≠ g := (unhide hh2).1.qg
                have hpg : pe ≠ g := hpe.symm
                have hWb : W5.heap.size ≤ wb.heap.size := (unhide HKb).size
                have rowd0 := alloc_cell rowc0 (.cells #[.int .i64 (bn : Int)] 3)
                refine wp_region_held_drew (S := (fun W => W.cell? ⟨q, 0, none⟩ = some (.slice (some ⟨g, 0, none⟩) N N) ∧ W.cell? ⟨pe, 0, none⟩ = some (.int .i64 (an : Int)) ∧ W.cell? ⟨pe, 1, none⟩ = some (.int .i64 (bn : Int)))) (by kernel_rfl) ⟨cn0, ea0, eb0⟩ (fun hHeld => ?_)
                refine take_on 0 56 (v := ?_) rfl rfl (by kernel_rfl) (by kernel_rfl) (by kernel_rfl) (fun _ _ _ h => h) (by kernel_rfl) (by intro w hSw; (try dsimp only at hSw); go_simp; first | done | with_reducible rfl) (by assumption) ?_
                simp only [Act.put, List.setIfInBounds_toArray, List.set_cons_zero, List.set_cons_succ]
                refine take_on 1 57 (v := ?_) rfl rfl (by kernel_rfl) (by kernel_rfl) (by kernel_rfl) (fun _ _ _ h => h) (by kernel_rfl) (by intro w hSw; (try dsimp only at hSw); go_simp; first | done | with_reducible rfl) (by assumption) ?_
                simp only [Act.put, List.setIfInBounds_toArray, List.set_cons_zero, List.set_cons_succ]
                refine take_on 2 58 (v := ?_) rfl rfl (by kernel_rfl) (by kernel_rfl) (by kernel_rfl) (fun _ _ _ h => h) (by kernel_rfl) (by intro w hSw; (try dsimp only at hSw); go_simp; first | done | with_reducible rfl) (by assumption) ?_
                simp only [Act.put, List.setIfInBounds_toArray, List.set_cons_zero, List.set_cons_succ]
                refine take_on 3 59 (v := ?_) rfl rfl (by kernel_rfl) (by kernel_rfl) (by kernel_rfl) (fun _ _ _ h => h) (by kernel_rfl) (by intro w hSw; (try dsimp only at hSw); go_simp; first | done | with_reducible rfl) (by assumption) ?_
                simp only [Act.put, List.setIfInBounds_toArray, List.set_cons_zero, List.set_cons_succ]
                refine take_on 4 60 (v := ?_) rfl rfl (by kernel_rfl) (by kernel_rfl) (by kernel_rfl) (fun _ _ _ h => h) (by kernel_rfl) (by intro w hSw; (try dsimp only at hSw); go_simp; first | done | with_reducible rfl) (by assumption) ?_
                simp only [Act.put, List.setIfInBounds_toArray, List.set_cons_zero, List.set_cons_succ]
                refine take_on 5 61 (v := ?_) rfl rfl (by kernel_rfl) (by kernel_rfl) (by kernel_rfl) (fun _ _ _ h => h) (by kernel_rfl) (by intro w hSw; (try dsimp only at hSw); go_simp; first | done | with_reducible rfl) (by assumption) ?_
                simp only [Act.put, List.setIfInBounds_toArray, List.set_cons_zero, List.set_cons_succ]
                refine take_on 6 62 (v := ?_) rfl rfl (by kernel_rfl) (by kernel_rfl) (by kernel_rfl) (fun _ _ _ h => h) (by kernel_rfl) (by intro w hSw; (try dsimp only at hSw); go_simp; first | done | with_reducible rfl) (by assumption) ?_
                simp only [Act.put, List.setIfInBounds_toArray, List.set_cons_zero, List.set_cons_succ]
                refine take_on 7 63 (v := ?_) rfl rfl (by kernel_rfl) (by kernel_rfl) (by kernel_rfl) (fun _ _ _ h => h) (by kernel_rfl) (by intro w hSw; (try dsimp only at hSw); go_simp; first | done | with_reducible rfl) (by assumption) ?_
                simp only [Act.put, List.setIfInBounds_toArray, List.set_cons_zero, List.set_cons_succ]
                refine take_on 8 64 (v := ?_) rfl rfl (by kernel_rfl) (by kernel_rfl) (by kernel_rfl) (fun _ _ _ h => h) (by kernel_rfl) (by intro w hSw; (try dsimp only at hSw); go_simp; first | done | with_reducible rfl) (by assumption) ?_
                simp only [Act.put, List.setIfInBounds_toArray, List.set_cons_zero, List.set_cons_succ]
                refine take_on 9 65 (v := ?_) rfl rfl (by kernel_rfl) (by kernel_rfl) (by kernel_rfl) (fun _ _ _ h => h) (by kernel_rfl) (by intro w hSw; (try dsimp only at hSw); go_simp; first | done | with_reducible rfl) (by assumption) ?_
                simp only [Act.put, List.setIfInBounds_toArray, List.set_cons_zero, List.set_cons_succ]
                refine take_on 10 66 (v := ?_) rfl rfl (by kernel_rfl) (by kernel_rfl) (by kernel_rfl) (fun _ _ _ h => h) (by kernel_rfl) (by intro w hSw; (try dsimp only at hSw); go_simp; first | done | with_reducible rfl) (by assumption) ?_
                simp only [Act.put, List.setIfInBounds_toArray, List.set_cons_zero, List.set_cons_succ]
                refine take_on 11 67 (v := ?_) rfl rfl (by kernel_rfl) (by kernel_rfl) (by kernel_rfl) (fun _ _ _ h => h) (by kernel_rfl) (by intro w hSw; (try dsimp only at hSw); go_simp; first | done | with_reducible rfl) (by assumption) ?_
                simp only [Act.put, List.setIfInBounds_toArray, List.set_cons_zero, List.set_cons_succ]
                refine take_on 12 68 (v := ?_) rfl rfl (by kernel_rfl) (by kernel_rfl) (by kernel_rfl) (fun _ _ _ h => h) (by kernel_rfl) (by intro w hSw; (try dsimp only at hSw); go_simp; first | done | with_reducible rfl) (by assumption) ?_
                simp only [Act.put, List.setIfInBounds_toArray, List.set_cons_zero, List.set_cons_succ]
                refine take_on 14 70 (v := ?_) rfl rfl (by kernel_rfl) (by kernel_rfl) (by kernel_rfl) (fun _ _ _ h => h) (by kernel_rfl) (by intro w hSw; (try dsimp only at hSw); go_simp; first | done | with_reducible rfl) (by assumption) ?_
                simp only [Act.put, List.setIfInBounds_toArray, List.set_cons_zero, List.set_cons_succ]
                refine take_on 15 71 (v := ?_) rfl rfl (by kernel_rfl) (by kernel_rfl) (by kernel_rfl) (fun _ _ _ h => h) (by kernel_rfl) (by intro w hSw; (try dsimp only at hSw); go_simp; first | done | with_reducible rfl) (by assumption) ?_
                simp only [Act.put, List.setIfInBounds_toArray, List.set_cons_zero, List.set_cons_succ]
                refine wpAnyH_ready (rs := [13, 16]) (by kernel_rfl) (by simp) ?_
                refine AllReadyH.cons rfl (fun K hK => ?_) (AllReadyH.cons rfl (fun K hK => ?_) AllReadyH.nil)
                · go_simp
                  refine hK.out _ _ ⟨cn0, ea0, eb0⟩ (fun hHeld => ?_)
                  clear hK K
                  refine wpAnyH_ready (rs := [16]) (by kernel_rfl) (by simp) ?_
                  refine AllReadyH.cons rfl (fun K hK => ?_) AllReadyH.nil
                  go_simp
                  refine hK.out _ _ ⟨alloc_cell cn0 _, alloc_cell ea0 _, alloc_cell eb0 _⟩ (fun hHeld => ?_)
                  clear hK K
                  refine wpAnyH_ready (rs := [17]) (by kernel_rfl) (by simp) ?_
                  refine AllReadyH.cons rfl (fun K hK => ?_) AllReadyH.nil
                  refine step_append_lies _ rfl (.tmp 69) (.tmp 72) 25 rfl W5.heap.size 3 i (.int .i64 0) 1 8 Tryd.underlying25 hi hz0 hz1 hz2 rfl (by decide) (vs an) (nearL (an : Int) (es.take k3)).length ((nearL (an : Int) (es.take k3)).map (Value.int .i64)) rfl ((OW0.alloc (.cells #[.int .i64 (bn : Int)] 3)).drew) ⟨wb.heap.size, 0, none⟩ 1 1 [.int .i64 (bn : Int)] rfl rfl (one_cell' _ _ _ rfl) (by simp [Value.oneCell']) (by decide) (by have := unhide HLEN an; unfold maxLen; omega) (by have := unhide HLEN an; omega) (by simp; omega) (wb.heap.size + 1) (by simp) ?_
                  intro gg0 cap0 x0 own0 gr0 li0 lt0
                  have kg0 : Kept (vs an).ownBlock.toList (wb.alloc (.cells #[.int .i64 (bn : Int)] 3)) x0 := (Kept.refl _ _).drew.trans (grown_kept gr0)
                  have cn1 := kept_cell' (alloc_cell cn0 (.cells #[.int .i64 (bn : Int)] 3)) kg0 (by simpa using fun h => (unhide HNO an anN _ h).1 rfl)
                  have ea1 := kept_cell' (alloc_cell ea0 (.cells #[.int .i64 (bn : Int)] 3)) kg0 (by simpa using fun h => (unhide HNO an anN _ h).2 rfl)
                  have eb1 := kept_cell' (alloc_cell eb0 (.cells #[.int .i64 (bn : Int)] 3)) kg0 (by simpa using fun h => (unhide HNO an anN _ h).2 rfl)
                  have rowe0 := kept_cell' rowd0 kg0 (by simpa using fun h => (unhide HNG an anN _ h) rfl)
                  have frz0 := kept_free' rowd0 (kept_free rowc0 fz0 ((Kept.refl [] wb).alloc (.cells #[.int .i64 (bn : Int)] 3))) kg0 (by simpa using fun h => (unhide HNG an anN _ h) rfl)
                  change K (Act.put _ (some 73) _) _
                  refine hK.out _ _ ⟨cn1, ea1, eb1⟩ (fun hHeld => ?_)
                  clear hK K
                  simp only [Act.put, List.setIfInBounds_toArray, List.set_cons_zero, List.set_cons_succ]
                  refine take_on 18 74 (v := ?_) rfl rfl (by kernel_rfl) (by kernel_rfl) (by kernel_rfl) (fun _ _ _ h => h) (by kernel_rfl) (by intro w hSw; (try dsimp only at hSw); go_simp; first | done | with_reducible rfl) (by assumption) ?_
                  simp only [Act.put, List.setIfInBounds_toArray, List.set_cons_zero, List.set_cons_succ]
                  refine wpAnyH_ready (rs := [19]) (by kernel_rfl) (by simp) ?_
                  refine AllReadyH.cons rfl (fun K hK => ?_) AllReadyH.nil
                  go_simp
                  refine hK.out _ _ ⟨by rw [cell_set_ne hqg]; assumption, by rw [cell_set_ne hpg]; assumption, by rw [cell_set_ne hpg]; assumption⟩ (fun hHeld => ?_)
                  clear hK K
                  refine wpAnyH_done (by kernel_rfl) ?_ _
                  have gq0 : (wb.alloc (.cells #[.int .i64 (bn : Int)] 3)).grownBy x0 (vs an).ownBlock := ⟨gr0.os, gr0.tape, gr0.output, gr0.size, gr0.block⟩
                  have G1 := hide ((unhide G0).push hg5 hWb anN (y := (bn : Int)) own0 gq0 li0)
                  have HKc := hide (((unhide HKb).trans (((Kept.refl [] wb).alloc (.cells #[.int .i64 (bn : Int)] 3)).mono (by simp))).trans' kg0 (fun j hj => Or.inr (own_block OW0 j (by simpa using hj))) |>.setCell (p := ⟨g, an, none⟩) (Or.inl (by simp)) (.slice (some ⟨gg0, 0, none⟩) ((nearL (an : Int) (es.take k3)).length + 1) cap0))
                  have cn2 : (x0.setCell ⟨g, an, none⟩ (.slice (some ⟨gg0, 0, none⟩) ((nearL (an : Int) (es.take k3)).length + 1) cap0)).cell? ⟨q, 0, none⟩ = some (.slice (some ⟨g, 0, none⟩) N N) := by rw [cell_set_ne hqg]; exact cn1
                  have ea2 : (x0.setCell ⟨g, an, none⟩ (.slice (some ⟨gg0, 0, none⟩) ((nearL (an : Int) (es.take k3)).length + 1) cap0)).cell? ⟨pe, 0, none⟩ = some (.int .i64 (an : Int)) := by rw [cell_set_ne hpg]; exact ea1
                  have eb2 : (x0.setCell ⟨g, an, none⟩ (.slice (some ⟨gg0, 0, none⟩) ((nearL (an : Int) (es.take k3)).length + 1) cap0)).cell? ⟨pe, 1, none⟩ = some (.int .i64 (bn : Int)) := by rw [cell_set_ne hpg]; exact eb1
                  have hne : ¬ bn = an := by omega
                  clear gq0 gr0 kg0 own0 li0 lt0 cn1 ea1 eb1 rowe0 frz0 rowc0 rowd0 fz0 OW0 cn0 ea0 eb0
                  go_wp2_with fail
                  generalize x0.setCell ⟨g, an, none⟩ (.slice (some ⟨gg0, 0, none⟩) ((nearL (an : Int) (es.take k3)).length + 1) cap0) = wc at *
                  have rowc2 := (unhide G1).cell bn bnN
                  have fz2 := (unhide G1).free bn
                  have OW2 := (unhide G1).own bn bnN
                  simp only [if_neg hne] at rowc2 OW2
                  have hWc : W5.heap.size ≤ wc.heap.size := (unhide HKc).size
                  have rowd2 := alloc_cell rowc2 (.cells #[.int .i64 (an : Int)] 3)
                  refine wp_region_held_drew (S := (fun W => W.cell? ⟨q, 0, none⟩ = some (.slice (some ⟨g, 0, none⟩) N N) ∧ W.cell? ⟨pe, 0, none⟩ = some (.int .i64 (an : Int)) ∧ W.cell? ⟨pe, 1, none⟩ = some (.int .i64 (bn : Int)))) (by kernel_rfl) ⟨cn2, ea2, eb2⟩ (fun hHeld => ?_)
                  refine take_on 0 75 (v := ?_) rfl rfl (by kernel_rfl) (by kernel_rfl) (by kernel_rfl) (fun _ _ _ h => h) (by kernel_rfl) (by intro w hSw; (try dsimp only at hSw); go_simp; first | done | with_reducible rfl) (by assumption) ?_
                  simp only [Act.put, List.setIfInBounds_toArray, List.set_cons_zero, List.set_cons_succ]
                  refine take_on 1 76 (v := ?_) rfl rfl (by kernel_rfl) (by kernel_rfl) (by kernel_rfl) (fun _ _ _ h => h) (by kernel_rfl) (by intro w hSw; (try dsimp only at hSw); go_simp; first | done | with_reducible rfl) (by assumption) ?_
                  simp only [Act.put, List.setIfInBounds_toArray, List.set_cons_zero, List.set_cons_succ]
                  refine take_on 2 77 (v := ?_) rfl rfl (by kernel_rfl) (by kernel_rfl) (by kernel_rfl) (fun _ _ _ h => h) (by kernel_rfl) (by intro w hSw; (try dsimp only at hSw); go_simp; first | done | with_reducible rfl) (by assumption) ?_
                  simp only [Act.put, List.setIfInBounds_toArray, List.set_cons_zero, List.set_cons_succ]
                  refine take_on 3 78 (v := ?_) rfl rfl (by kernel_rfl) (by kernel_rfl) (by kernel_rfl) (fun _ _ _ h => h) (by kernel_rfl) (by intro w hSw; (try dsimp only at hSw); go_simp; first | done | with_reducible rfl) (by assumption) ?_
                  simp only [Act.put, List.setIfInBounds_toArray, List.set_cons_zero, List.set_cons_succ]
                  refine take_on 4 79 (v := ?_) rfl rfl (by kernel_rfl) (by kernel_rfl) (by kernel_rfl) (fun _ _ _ h => h) (by kernel_rfl) (by intro w hSw; (try dsimp only at hSw); go_simp; first | done | with_reducible rfl) (by assumption) ?_
                  simp only [Act.put, List.setIfInBounds_toArray, List.set_cons_zero, List.set_cons_succ]
                  refine take_on 5 80 (v := ?_) rfl rfl (by kernel_rfl) (by kernel_rfl) (by kernel_rfl) (fun _ _ _ h => h) (by kernel_rfl) (by intro w hSw; (try dsimp only at hSw); go_simp; first | done | with_reducible rfl) (by assumption) ?_
                  simp only [Act.put, List.setIfInBounds_toArray, List.set_cons_zero, List.set_cons_succ]
                  refine take_on 6 81 (v := ?_) rfl rfl (by kernel_rfl) (by kernel_rfl) (by kernel_rfl) (fun _ _ _ h => h) (by kernel_rfl) (by intro w hSw; (try dsimp only at hSw); go_simp; first | done | with_reducible rfl) (by assumption) ?_
                  simp only [Act.put, List.setIfInBounds_toArray, List.set_cons_zero, List.set_cons_succ]
                  refine take_on 7 82 (v := ?_) rfl rfl (by kernel_rfl) (by kernel_rfl) (by kernel_rfl) (fun _ _ _ h => h) (by kernel_rfl) (by intro w hSw; (try dsimp only at hSw); go_simp; first | done | with_reducible rfl) (by assumption) ?_
                  simp only [Act.put, List.setIfInBounds_toArray, List.set_cons_zero, List.set_cons_succ]
                  refine take_on 8 83 (v := ?_) rfl rfl (by kernel_rfl) (by kernel_rfl) (by kernel_rfl) (fun _ _ _ h => h) (by kernel_rfl) (by intro w hSw; (try dsimp only at hSw); go_simp; first | done | with_reducible rfl) (by assumption) ?_
                  simp only [Act.put, List.setIfInBounds_toArray, List.set_cons_zero, List.set_cons_succ]
                  refine take_on 9 84 (v := ?_) rfl rfl (by kernel_rfl) (by kernel_rfl) (by kernel_rfl) (fun _ _ _ h => h) (by kernel_rfl) (by intro w hSw; (try dsimp only at hSw); go_simp; first | done | with_reducible rfl) (by assumption) ?_
                  simp only [Act.put, List.setIfInBounds_toArray, List.set_cons_zero, List.set_cons_succ]
                  refine take_on 10 85 (v := ?_) rfl rfl (by kernel_rfl) (by kernel_rfl) (by kernel_rfl) (fun _ _ _ h => h) (by kernel_rfl) (by intro w hSw; (try dsimp only at hSw); go_simp; first | done | with_reducible rfl) (by assumption) ?_
                  simp only [Act.put, List.setIfInBounds_toArray, List.set_cons_zero, List.set_cons_succ]
                  refine take_on 11 86 (v := ?_) rfl rfl (by kernel_rfl) (by kernel_rfl) (by kernel_rfl) (fun _ _ _ h => h) (by kernel_rfl) (by intro w hSw; (try dsimp only at hSw); go_simp; first | done | with_reducible rfl) (by assumption) ?_
                  simp only [Act.put, List.setIfInBounds_toArray, List.set_cons_zero, List.set_cons_succ]
                  refine take_on 12 87 (v := ?_) rfl rfl (by kernel_rfl) (by kernel_rfl) (by kernel_rfl) (fun _ _ _ h => h) (by kernel_rfl) (by intro w hSw; (try dsimp only at hSw); go_simp; first | done | with_reducible rfl) (by assumption) ?_
                  simp only [Act.put, List.setIfInBounds_toArray, List.set_cons_zero, List.set_cons_succ]
                  refine take_on 14 89 (v := ?_) rfl rfl (by kernel_rfl) (by kernel_rfl) (by kernel_rfl) (fun _ _ _ h => h) (by kernel_rfl) (by intro w hSw; (try dsimp only at hSw); go_simp; first | done | with_reducible rfl) (by assumption) ?_
                  simp only [Act.put, List.setIfInBounds_toArray, List.set_cons_zero, List.set_cons_succ]
                  refine take_on 15 90 (v := ?_) rfl rfl (by kernel_rfl) (by kernel_rfl) (by kernel_rfl) (fun _ _ _ h => h) (by kernel_rfl) (by intro w hSw; (try dsimp only at hSw); go_simp; first | done | with_reducible rfl) (by assumption) ?_
                  simp only [Act.put, List.setIfInBounds_toArray, List.set_cons_zero, List.set_cons_succ]
                  refine wpAnyH_ready (rs := [13, 16]) (by kernel_rfl) (by simp) ?_
                  refine AllReadyH.cons rfl (fun K hK => ?_) (AllReadyH.cons rfl (fun K hK => ?_) AllReadyH.nil)
                  · go_simp
                    refine hK.out _ _ ⟨cn2, ea2, eb2⟩ (fun hHeld => ?_)
                    clear hK K
                    refine wpAnyH_ready (rs := [16]) (by kernel_rfl) (by simp) ?_
                    refine AllReadyH.cons rfl (fun K hK => ?_) AllReadyH.nil
                    go_simp
                    refine hK.out _ _ ⟨alloc_cell cn2 _, alloc_cell ea2 _, alloc_cell eb2 _⟩ (fun hHeld => ?_)
                    clear hK K
                    refine wpAnyH_ready (rs := [17]) (by kernel_rfl) (by simp) ?_
                    refine AllReadyH.cons rfl (fun K hK => ?_) AllReadyH.nil
                    refine step_append_lies _ rfl (.tmp 88) (.tmp 91) 25 rfl W5.heap.size 3 i (.int .i64 0) 1 8 Tryd.underlying25 hi hz0 hz1 hz2 rfl (by decide) (vs bn) (nearL (bn : Int) (es.take k3)).length ((nearL (bn : Int) (es.take k3)).map (Value.int .i64)) rfl ((OW2.alloc (.cells #[.int .i64 (an : Int)] 3)).drew) ⟨wc.heap.size, 0, none⟩ 1 1 [.int .i64 (an : Int)] rfl rfl (one_cell' _ _ _ rfl) (by simp [Value.oneCell']) (by decide) (by have := unhide HLEN bn; unfold maxLen; omega) (by have := unhide HLEN bn; omega) (by simp; omega) (wc.heap.size + 1) (by simp) ?_
                    intro gg2 cap2 x2 own2 gr2 li2 lt2
                    have kg2 : Kept (vs bn).ownBlock.toList (wc.alloc (.cells #[.int .i64 (an : Int)] 3)) x2 := (Kept.refl _ _).drew.trans (grown_kept gr2)
                    have cn3 := kept_cell' (alloc_cell cn2 (.cells #[.int .i64 (an : Int)] 3)) kg2 (by simpa using fun h => (unhide HNO bn bnN _ h).1 rfl)
                    have ea3 := kept_cell' (alloc_cell ea2 (.cells #[.int .i64 (an : Int)] 3)) kg2 (by simpa using fun h => (unhide HNO bn bnN _ h).2 rfl)
                    have eb3 := kept_cell' (alloc_cell eb2 (.cells #[.int .i64 (an : Int)] 3)) kg2 (by simpa using fun h => (unhide HNO bn bnN _ h).2 rfl)
                    have rowe2 := kept_cell' rowd2 kg2 (by simpa using fun h => (unhide HNG bn bnN _ h) rfl)
                    have frz2 := kept_free' rowd2 (kept_free rowc2 fz2 ((Kept.refl [] wc).alloc (.cells #[.int .i64 (an : Int)] 3))) kg2 (by simpa using fun h => (unhide HNG bn bnN _ h) rfl)
                    change K (Act.put _ (some 92) _) _
                    refine hK.out _ _ ⟨cn3, ea3, eb3⟩ (fun hHeld => ?_)
                    clear hK K
                    simp only [Act.put, List.setIfInBounds_toArray, List.set_cons_zero, List.set_cons_succ]
                    refine take_on 18 93 (v := ?_) rfl rfl (by kernel_rfl) (by kernel_rfl) (by kernel_rfl) (fun _ _ _ h => h) (by kernel_rfl) (by intro w hSw; (try dsimp only at hSw); go_simp; first | done | with_reducible rfl) (by assumption) ?_
                    simp only [Act.put, List.setIfInBounds_toArray, List.set_cons_zero, List.set_cons_succ]
                    refine wpAnyH_ready (rs := [19]) (by kernel_rfl) (by simp) ?_
                    refine AllReadyH.cons rfl (fun K hK => ?_) AllReadyH.nil
                    go_simp
                    refine hK.out _ _ ⟨by rw [cell_set_ne hqg]; assumption, by rw [cell_set_ne hpg]; assumption, by rw [cell_set_ne hpg]; assumption⟩ (fun hHeld => ?_)
                    clear hK K
                    refine wpAnyH_done (by kernel_rfl) ?_ _
                    have gq2 : (wc.alloc (.cells #[.int .i64 (an : Int)] 3)).grownBy x2 (vs bn).ownBlock := ⟨gr2.os, gr2.tape, gr2.output, gr2.size, gr2.block⟩
                    have G2 := (unhide G1).push (a := bn) hg5 hWc bnN (y := (an : Int)) (g' := gg2) (cap' := cap2) (by simp only [if_neg hne]; exact own2) (by simp only [if_neg hne]; exact gq2) (by simp only [if_neg hne]; exact li2)
                    simp only [if_neg hne] at G2
                    have HG2 := hide (G2.congr (f' := fun i => nearL (i : Int) (es.take (k3 + 1))) (fun i hi => by
                      rw [unhide HST i]
                      unfold nearE
                      by_cases e1 : i = bn
                      · subst e1
                        rw [if_pos rfl, if_neg (by simp only; omega), if_pos rfl]
                      · rw [if_neg e1]
                        by_cases e2 : i = an
                        · subst e2
                          rw [if_pos rfl, if_pos rfl]
                        · rw [if_neg e2, if_neg (by simp only; omega), if_neg (by simp only; omega), List.append_nil]))
                    have HKd := hide (((unhide HKc).trans (((Kept.refl [] wc).alloc (.cells #[.int .i64 (an : Int)] 3)).mono (by simp))).trans' kg2 (fun j hj => Or.inr (own_block ((unhide hh3).1.own bn bnN) j (by simpa using hj))) |>.setCell (p := ⟨g, bn, none⟩) (Or.inl (by simp)) (.slice (some ⟨gg2, 0, none⟩) ((nearL (bn : Int) (es.take k3)).length + 1) cap2))
                    clear G2 gq2 gr2 kg2 own2 li2 lt2 cn3 ea3 eb3 rowe2 frz2 rowc2 rowd2 fz2 OW2 cn2 ea2 eb2
                    go_wp2
                    go_roundw
                    case rel => exact ⟨k3 + 1, _, by omega, by go_num, unhide HG2, unhide HKd⟩
                    case measure => simp [intOf]; omega
                  · go_simp
                    refine hK.out _ _ ⟨alloc_cell cn2 _, alloc_cell ea2 _, alloc_cell eb2 _⟩ (fun hHeld => ?_)
                    clear hK K
                    refine wpAnyH_ready (rs := [13]) (by kernel_rfl) (by simp) ?_
                    refine AllReadyH.cons rfl (fun K hK => ?_) AllReadyH.nil
                    go_simp
                    refine hK.out _ _ ⟨alloc_cell cn2 _, alloc_cell ea2 _, alloc_cell eb2 _⟩ (fun hHeld => ?_)
                    clear hK K
                    refine wpAnyH_ready (rs := [17]) (by kernel_rfl) (by simp) ?_
                    refine AllReadyH.cons rfl (fun K hK => ?_) AllReadyH.nil
                    refine step_append_lies _ rfl (.tmp 88) (.tmp 91) 25 rfl W5.heap.size 3 i (.int .i64 0) 1 8 Tryd.underlying25 hi hz0 hz1 hz2 rfl (by decide) (vs bn) (nearL (bn : Int) (es.take k3)).length ((nearL (bn : Int) (es.take k3)).map (Value.int .i64)) rfl ((OW2.alloc (.cells #[.int .i64 (an : Int)] 3)).drew) ⟨wc.heap.size, 0, none⟩ 1 1 [.int .i64 (an : Int)] rfl rfl (one_cell' _ _ _ rfl) (by simp [Value.oneCell']) (by decide) (by have := unhide HLEN bn; unfold maxLen; omega) (by have := unhide HLEN bn; omega) (by simp; omega) (wc.heap.size + 1) (by simp) ?_
                    intro gg2 cap2 x2 own2 gr2 li2 lt2
                    have kg2 : Kept (vs bn).ownBlock.toList (wc.alloc (.cells #[.int .i64 (an : Int)] 3)) x2 := (Kept.refl _ _).drew.trans (grown_kept gr2)
                    have cn3 := kept_cell' (alloc_cell cn2 (.cells #[.int .i64 (an : Int)] 3)) kg2 (by simpa using fun h => (unhide HNO bn bnN _ h).1 rfl)
                    have ea3 := kept_cell' (alloc_cell ea2 (.cells #[.int .i64 (an : Int)] 3)) kg2 (by simpa using fun h => (unhide HNO bn bnN _ h).2 rfl)
                    have eb3 := kept_cell' (alloc_cell eb2 (.cells #[.int .i64 (an : Int)] 3)) kg2 (by simpa using fun h => (unhide HNO bn bnN _ h).2 rfl)
                    have rowe2 := kept_cell' rowd2 kg2 (by simpa using fun h => (unhide HNG bn bnN _ h) rfl)
                    have frz2 := kept_free' rowd2 (kept_free rowc2 fz2 ((Kept.refl [] wc).alloc (.cells #[.int .i64 (an : Int)] 3))) kg2 (by simpa using fun h => (unhide HNG bn bnN _ h) rfl)
                    change K (Act.put _ (some 92) _) _
                    refine hK.out _ _ ⟨cn3, ea3, eb3⟩ (fun hHeld => ?_)
                    clear hK K
                    simp only [Act.put, List.setIfInBounds_toArray, List.set_cons_zero, List.set_cons_succ]
                    refine take_on 18 93 (v := ?_) rfl rfl (by kernel_rfl) (by kernel_rfl) (by kernel_rfl) (fun _ _ _ h => h) (by kernel_rfl) (by intro w hSw; (try dsimp only at hSw); go_simp; first | done | with_reducible rfl) (by assumption) ?_
                    simp only [Act.put, List.setIfInBounds_toArray, List.set_cons_zero, List.set_cons_succ]
                    refine wpAnyH_ready (rs := [19]) (by kernel_rfl) (by simp) ?_
                    refine AllReadyH.cons rfl (fun K hK => ?_) AllReadyH.nil
                    go_simp
                    refine hK.out _ _ ⟨by rw [cell_set_ne hqg]; assumption, by rw [cell_set_ne hpg]; assumption, by rw [cell_set_ne hpg]; assumption⟩ (fun hHeld => ?_)
                    clear hK K
                    refine wpAnyH_done (by kernel_rfl) ?_ _
                    have gq2 : (wc.alloc (.cells #[.int .i64 (an : Int)] 3)).grownBy x2 (vs bn).ownBlock := ⟨gr2.os, gr2.tape, gr2.output, gr2.size, gr2.block⟩
                    have G2 := (unhide G1).push (a := bn) hg5 hWc bnN (y := (an : Int)) (g' := gg2) (cap' := cap2) (by simp only [if_neg hne]; exact own2) (by simp only [if_neg hne]; exact gq2) (by simp only [if_neg hne]; exact li2)
                    simp only [if_neg hne] at G2
                    have HG2 := hide (G2.congr (f' := fun i => nearL (i : Int) (es.take (k3 + 1))) (fun i hi => by
                      rw [unhide HST i]
                      unfold nearE
                      by_cases e1 : i = bn
                      · subst e1
                        rw [if_pos rfl, if_neg (by simp only; omega), if_pos rfl]
                      · rw [if_neg e1]
                        by_cases e2 : i = an
                        · subst e2
                          rw [if_pos rfl, if_pos rfl]
                        · rw [if_neg e2, if_neg (by simp only; omega), if_neg (by simp only; omega), List.append_nil]))
                    have HKd := hide (((unhide HKc).trans (((Kept.refl [] wc).alloc (.cells #[.int .i64 (an : Int)] 3)).mono (by simp))).trans' kg2 (fun j hj => Or.inr (own_block ((unhide hh3).1.own bn bnN) j (by simpa using hj))) |>.setCell (p := ⟨g, bn, none⟩) (Or.inl (by simp)) (.slice (some ⟨gg2, 0, none⟩) ((nearL (bn : Int) (es.take k3)).length + 1) cap2))
                    clear G2 gq2 gr2 kg2 own2 li2 lt2 cn3 ea3 eb3 rowe2 frz2 rowc2 rowd2 fz2 OW2 cn2 ea2 eb2
                    go_wp2
                    go_roundw
                    case rel => exact ⟨k3 + 1, _, by omega, by go_num, unhide HG2, unhide HKd⟩
                    case measure => simp [intOf]; omega
                · go_simp
                  refine hK.out _ _ ⟨alloc_cell cn0 _, alloc_cell ea0 _, alloc_cell eb0 _⟩ (fun hHeld => ?_)
                  clear hK K
                  refine wpAnyH_ready (rs := [13]) (by kernel_rfl) (by simp) ?_
                  refine AllReadyH.cons rfl (fun K hK => ?_) AllReadyH.nil
                  go_simp
                  refine hK.out _ _ ⟨alloc_cell cn0 _, alloc_cell ea0 _, alloc_cell eb0 _⟩ (fun hHeld => ?_)
                  clear hK K
                  refine wpAnyH_ready (rs := [17]) (by kernel_rfl) (by simp) ?_
                  refine AllReadyH.cons rfl (fun K hK => ?_) AllReadyH.nil
                  refine step_append_lies _ rfl (.tmp 69) (.tmp 72) 25 rfl W5.heap.size 3 i (.int .i64 0) 1 8 Tryd.underlying25 hi hz0 hz1 hz2 rfl (by decide) (vs an) (nearL (an : Int) (es.take k3)).length ((nearL (an : Int) (es.take k3)).map (Value.int .i64)) rfl ((OW0.alloc (.cells #[.int .i64 (bn : Int)] 3)).drew) ⟨wb.heap.size, 0, none⟩ 1 1 [.int .i64 (bn : Int)] rfl rfl (one_cell' _ _ _ rfl) (by simp [Value.oneCell']) (by decide) (by have := unhide HLEN an; unfold maxLen; omega) (by have := unhide HLEN an; omega) (by simp; omega) (wb.heap.size + 1) (by simp) ?_
                  intro gg0 cap0 x0 own0 gr0 li0 lt0
                  have kg0 : Kept (vs an).ownBlock.toList (wb.alloc (.cells #[.int .i64 (bn : Int)] 3)) x0 := (Kept.refl _ _).drew.trans (grown_kept gr0)
                  have cn1 := kept_cell' (alloc_cell cn0 (.cells #[.int .i64 (bn : Int)] 3)) kg0 (by simpa using fun h => (unhide HNO an anN _ h).1 rfl)
                  have ea1 := kept_cell' (alloc_cell ea0 (.cells #[.int .i64 (bn : Int)] 3)) kg0 (by simpa using fun h => (unhide HNO an anN _ h).2 rfl)
                  have eb1 := kept_cell' (alloc_cell eb0 (.cells #[.int .i64 (bn : Int)] 3)) kg0 (by simpa using fun h => (unhide HNO an anN _ h).2 rfl)
                  have rowe0 := kept_cell' rowd0 kg0 (by simpa using fun h => (unhide HNG an anN _ h) rfl)
                  have frz0 := kept_free' rowd0 (kept_free rowc0 fz0 ((Kept.refl [] wb).alloc (.cells #[.int .i64 (bn : Int)] 3))) kg0 (by simpa using fun h => (unhide HNG an anN _ h) rfl)
                  change K (Act.put _ (some 73) _) _
                  refine hK.out _ _ ⟨cn1, ea1, eb1⟩ (fun hHeld => ?_)
                  clear hK K
                  simp only [Act.put, List.setIfInBounds_toArray, List.set_cons_zero, List.set_cons_succ]
                  refine take_on 18 74 (v := ?_) rfl rfl (by kernel_rfl) (by kernel_rfl) (by kernel_rfl) (fun _ _ _ h => h) (by kernel_rfl) (by intro w hSw; (try dsimp only at hSw); go_simp; first | done | with_reducible rfl) (by assumption) ?_
                  simp only [Act.put, List.setIfInBounds_toArray, List.set_cons_zero, List.set_cons_succ]
                  refine wpAnyH_ready (rs := [19]) (by kernel_rfl) (by simp) ?_
                  refine AllReadyH.cons rfl (fun K hK => ?_) AllReadyH.nil
                  go_simp
                  refine hK.out _ _ ⟨by rw [cell_set_ne hqg]; assumption, by rw [cell_set_ne hpg]; assumption, by rw [cell_set_ne hpg]; assumption⟩ (fun hHeld => ?_)
                  clear hK K
                  refine wpAnyH_done (by kernel_rfl) ?_ _
                  have gq0 : (wb.alloc (.cells #[.int .i64 (bn : Int)] 3)).grownBy x0 (vs an).ownBlock := ⟨gr0.os, gr0.tape, gr0.output, gr0.size, gr0.block⟩
                  have G1 := hide ((unhide G0).push hg5 hWb anN (y := (bn : Int)) own0 gq0 li0)
                  have HKc := hide (((unhide HKb).trans (((Kept.refl [] wb).alloc (.cells #[.int .i64 (bn : Int)] 3)).mono (by simp))).trans' kg0 (fun j hj => Or.inr (own_block OW0 j (by simpa using hj))) |>.setCell (p := ⟨g, an, none⟩) (Or.inl (by simp)) (.slice (some ⟨gg0, 0, none⟩) ((nearL (an : Int) (es.take k3)).length + 1) cap0))
                  have cn2 : (x0.setCell ⟨g, an, none⟩ (.slice (some ⟨gg0, 0, none⟩) ((nearL (an : Int) (es.take k3)).length + 1) cap0)).cell? ⟨q, 0, none⟩ = some (.slice (some ⟨g, 0, none⟩) N N) := by rw [cell_set_ne hqg]; exact cn1
                  have ea2 : (x0.setCell ⟨g, an, none⟩ (.slice (some ⟨gg0, 0, none⟩) ((nearL (an : Int) (es.take k3)).length + 1) cap0)).cell? ⟨pe, 0, none⟩ = some (.int .i64 (an : Int)) := by rw [cell_set_ne hpg]; exact ea1
                  have eb2 : (x0.setCell ⟨g, an, none⟩ (.slice (some ⟨gg0, 0, none⟩) ((nearL (an : Int) (es.take k3)).length + 1) cap0)).cell? ⟨pe, 1, none⟩ = some (.int .i64 (bn : Int)) := by rw [cell_set_ne hpg]; exact eb1
                  have hne : ¬ bn = an := by omega
                  clear gq0 gr0 kg0 own0 li0 lt0 cn1 ea1 eb1 rowe0 frz0 rowc0 rowd0 fz0 OW0 cn0 ea0 eb0
                  go_wp2_with fail
                  generalize x0.setCell ⟨g, an, none⟩ (.slice (some ⟨gg0, 0, none⟩) ((nearL (an : Int) (es.take k3)).length + 1) cap0) = wc at *
                  have rowc2 := (unhide G1).cell bn bnN
                  have fz2 := (unhide G1).free bn
                  have OW2 := (unhide G1).own bn bnN
                  simp only [if_neg hne] at rowc2 OW2
                  have hWc : W5.heap.size ≤ wc.heap.size := (unhide HKc).size
                  have rowd2 := alloc_cell rowc2 (.cells #[.int .i64 (an : Int)] 3)
                  refine wp_region_held_drew (S := (fun W => W.cell? ⟨q, 0, none⟩ = some (.slice (some ⟨g, 0, none⟩) N N) ∧ W.cell? ⟨pe, 0, none⟩ = some (.int .i64 (an : Int)) ∧ W.cell? ⟨pe, 1, none⟩ = some (.int .i64 (bn : Int)))) (by kernel_rfl) ⟨cn2, ea2, eb2⟩ (fun hHeld => ?_)
                  refine take_on 0 75 (v := ?_) rfl rfl (by kernel_rfl) (by kernel_rfl) (by kernel_rfl) (fun _ _ _ h => h) (by kernel_rfl) (by intro w hSw; (try dsimp only at hSw); go_simp; first | done | with_reducible rfl) (by assumption) ?_
                  simp only [Act.put, List.setIfInBounds_toArray, List.set_cons_zero, List.set_cons_succ]
                  refine take_on 1 76 (v := ?_) rfl rfl (by kernel_rfl) (by kernel_rfl) (by kernel_rfl) (fun _ _ _ h => h) (by kernel_rfl) (by intro w hSw; (try dsimp only at hSw); go_simp; first | done | with_reducible rfl) (by assumption) ?_
                  simp only [Act.put, List.setIfInBounds_toArray, List.set_cons_zero, List.set_cons_succ]
                  refine take_on 2 77 (v := ?_) rfl rfl (by kernel_rfl) (by kernel_rfl) (by kernel_rfl) (fun _ _ _ h => h) (by kernel_rfl) (by intro w hSw; (try dsimp only at hSw); go_simp; first | done | with_reducible rfl) (by assumption) ?_
                  simp only [Act.put, List.setIfInBounds_toArray, List.set_cons_zero, List.set_cons_succ]
                  refine take_on 3 78 (v := ?_) rfl rfl (by kernel_rfl) (by kernel_rfl) (by kernel_rfl) (fun _ _ _ h => h) (by kernel_rfl) (by intro w hSw; (try dsimp only at hSw); go_simp; first | done | with_reducible rfl) (by assumption) ?_
                  simp only [Act.put, List.setIfInBounds_toArray, List.set_cons_zero, List.set_cons_succ]
                  refine take_on 4 79 (v := ?_) rfl rfl (by kernel_rfl) (by kernel_rfl) (by kernel_rfl) (fun _ _ _ h => h) (by kernel_rfl) (by intro w hSw; (try dsimp only at hSw); go_simp; first | done | with_reducible rfl) (by assumption) ?_
                  simp only [Act.put, List.setIfInBounds_toArray, List.set_cons_zero, List.set_cons_succ]
                  refine take_on 5 80 (v := ?_) rfl rfl (by kernel_rfl) (by kernel_rfl) (by kernel_rfl) (fun _ _ _ h => h) (by kernel_rfl) (by intro w hSw; (try dsimp only at hSw); go_simp; first | done | with_reducible rfl) (by assumption) ?_
                  simp only [Act.put, List.setIfInBounds_toArray, List.set_cons_zero, List.set_cons_succ]
                  refine take_on 6 81 (v := ?_) rfl rfl (by kernel_rfl) (by kernel_rfl) (by kernel_rfl) (fun _ _ _ h => h) (by kernel_rfl) (by intro w hSw; (try dsimp only at hSw); go_simp; first | done | with_reducible rfl) (by assumption) ?_
                  simp only [Act.put, List.setIfInBounds_toArray, List.set_cons_zero, List.set_cons_succ]
                  refine take_on 7 82 (v := ?_) rfl rfl (by kernel_rfl) (by kernel_rfl) (by kernel_rfl) (fun _ _ _ h => h) (by kernel_rfl) (by intro w hSw; (try dsimp only at hSw); go_simp; first | done | with_reducible rfl) (by assumption) ?_
                  simp only [Act.put, List.setIfInBounds_toArray, List.set_cons_zero, List.set_cons_succ]
                  refine take_on 8 83 (v := ?_) rfl rfl (by kernel_rfl) (by kernel_rfl) (by kernel_rfl) (fun _ _ _ h => h) (by kernel_rfl) (by intro w hSw; (try dsimp only at hSw); go_simp; first | done | with_reducible rfl) (by assumption) ?_
                  simp only [Act.put, List.setIfInBounds_toArray, List.set_cons_zero, List.set_cons_succ]
                  refine take_on 9 84 (v := ?_) rfl rfl (by kernel_rfl) (by kernel_rfl) (by kernel_rfl) (fun _ _ _ h => h) (by kernel_rfl) (by intro w hSw; (try dsimp only at hSw); go_simp; first | done | with_reducible rfl) (by assumption) ?_
                  simp only [Act.put, List.setIfInBounds_toArray, List.set_cons_zero, List.set_cons_succ]
                  refine take_on 10 85 (v := ?_) rfl rfl (by kernel_rfl) (by kernel_rfl) (by kernel_rfl) (fun _ _ _ h => h) (by kernel_rfl) (by intro w hSw; (try dsimp only at hSw); go_simp; first | done | with_reducible rfl) (by assumption) ?_
                  simp only [Act.put, List.setIfInBounds_toArray, List.set_cons_zero, List.set_cons_succ]
                  refine take_on 11 86 (v := ?_) rfl rfl (by kernel_rfl) (by kernel_rfl) (by kernel_rfl) (fun _ _ _ h => h) (by kernel_rfl) (by intro w hSw; (try dsimp only at hSw); go_simp; first | done | with_reducible rfl) (by assumption) ?_
                  simp only [Act.put, List.setIfInBounds_toArray, List.set_cons_zero, List.set_cons_succ]
                  refine take_on 12 87 (v := ?_) rfl rfl (by kernel_rfl) (by kernel_rfl) (by kernel_rfl) (fun _ _ _ h => h) (by kernel_rfl) (by intro w hSw; (try dsimp only at hSw); go_simp; first | done | with_reducible rfl) (by assumption) ?_
                  simp only [Act.put, List.setIfInBounds_toArray, List.set_cons_zero, List.set_cons_succ]
                  refine take_on 14 89 (v := ?_) rfl rfl (by kernel_rfl) (by kernel_rfl) (by kernel_rfl) (fun _ _ _ h => h) (by kernel_rfl) (by intro w hSw; (try dsimp only at hSw); go_simp; first | done | with_reducible rfl) (by assumption) ?_
                  simp only [Act.put, List.setIfInBounds_toArray, List.set_cons_zero, List.set_cons_succ]
                  refine take_on 15 90 (v := ?_) rfl rfl (by kernel_rfl) (by kernel_rfl) (by kernel_rfl) (fun _ _ _ h => h) (by kernel_rfl) (by intro w hSw; (try dsimp only at hSw); go_simp; first | done | with_reducible rfl) (by assumption) ?_
                  simp only [Act.put, List.setIfInBounds_toArray, List.set_cons_zero, List.set_cons_succ]
                  refine wpAnyH_ready (rs := [13, 16]) (by kernel_rfl) (by simp) ?_
                  refine AllReadyH.cons rfl (fun K hK => ?_) (AllReadyH.cons rfl (fun K hK => ?_) AllReadyH.nil)
                  · go_simp
                    refine hK.out _ _ ⟨cn2, ea2, eb2⟩ (fun hHeld => ?_)
                    clear hK K
                    refine wpAnyH_ready (rs := [16]) (by kernel_rfl) (by simp) ?_
                    refine AllReadyH.cons rfl (fun K hK => ?_) AllReadyH.nil
                    go_simp
                    refine hK.out _ _ ⟨alloc_cell cn2 _, alloc_cell ea2 _, alloc_cell eb2 _⟩ (fun hHeld => ?_)
                    clear hK K
                    refine wpAnyH_ready (rs := [17]) (by kernel_rfl) (by simp) ?_
                    refine AllReadyH.cons rfl (fun K hK => ?_) AllReadyH.nil
                    refine step_append_lies _ rfl (.tmp 88) (.tmp 91) 25 rfl W5.heap.size 3 i (.int .i64 0) 1 8 Tryd.underlying25 hi hz0 hz1 hz2 rfl (by decide) (vs bn) (nearL (bn : Int) (es.take k3)).length ((nearL (bn : Int) (es.take k3)).map (Value.int .i64)) rfl ((OW2.alloc (.cells #[.int .i64 (an : Int)] 3)).drew) ⟨wc.heap.size, 0, none⟩ 1 1 [.int .i64 (an : Int)] rfl rfl (one_cell' _ _ _ rfl) (by simp [Value.oneCell']) (by decide) (by have := unhide HLEN bn; unfold maxLen; omega) (by have := unhide HLEN bn; omega) (by simp; omega) (wc.heap.size + 1) (by simp) ?_
                    intro gg2 cap2 x2 own2 gr2 li2 lt2
                    have kg2 : Kept (vs bn).ownBlock.toList (wc.alloc (.cells #[.int .i64 (an : Int)] 3)) x2 := (Kept.refl _ _).drew.trans (grown_kept gr2)
                    have cn3 := kept_cell' (alloc_cell cn2 (.cells #[.int .i64 (an : Int)] 3)) kg2 (by simpa using fun h => (unhide HNO bn bnN _ h).1 rfl)
                    have ea3 := kept_cell' (alloc_cell ea2 (.cells #[.int .i64 (an : Int)] 3)) kg2 (by simpa using fun h => (unhide HNO bn bnN _ h).2 rfl)
                    have eb3 := kept_cell' (alloc_cell eb2 (.cells #[.int .i64 (an : Int)] 3)) kg2 (by simpa using fun h => (unhide HNO bn bnN _ h).2 rfl)
                    have rowe2 := kept_cell' rowd2 kg2 (by simpa using fun h => (unhide HNG bn bnN _ h) rfl)
                    have frz2 := kept_free' rowd2 (kept_free rowc2 fz2 ((Kept.refl [] wc).alloc (.cells #[.int .i64 (an : Int)] 3))) kg2 (by simpa using fun h => (unhide HNG bn bnN _ h) rfl)
                    change K (Act.put _ (some 92) _) _
                    refine hK.out _ _ ⟨cn3, ea3, eb3⟩ (fun hHeld => ?_)
                    clear hK K
                    simp only [Act.put, List.setIfInBounds_toArray, List.set_cons_zero, List.set_cons_succ]
                    refine take_on 18 93 (v := ?_) rfl rfl (by kernel_rfl) (by kernel_rfl) (by kernel_rfl) (fun _ _ _ h => h) (by kernel_rfl) (by intro w hSw; (try dsimp only at hSw); go_simp; first | done | with_reducible rfl) (by assumption) ?_
                    simp only [Act.put, List.setIfInBounds_toArray, List.set_cons_zero, List.set_cons_succ]
                    refine wpAnyH_ready (rs := [19]) (by kernel_rfl) (by simp) ?_
                    refine AllReadyH.cons rfl (fun K hK => ?_) AllReadyH.nil
                    go_simp
                    refine hK.out _ _ ⟨by rw [cell_set_ne hqg]; assumption, by rw [cell_set_ne hpg]; assumption, by rw [cell_set_ne hpg]; assumption⟩ (fun hHeld => ?_)
                    clear hK K
                    refine wpAnyH_done (by kernel_rfl) ?_ _
                    have gq2 : (wc.alloc (.cells #[.int .i64 (an : Int)] 3)).grownBy x2 (vs bn).ownBlock := ⟨gr2.os, gr2.tape, gr2.output, gr2.size, gr2.block⟩
                    have G2 := (unhide G1).push (a := bn) hg5 hWc bnN (y := (an : Int)) (g' := gg2) (cap' := cap2) (by simp only [if_neg hne]; exact own2) (by simp only [if_neg hne]; exact gq2) (by simp only [if_neg hne]; exact li2)
                    simp only [if_neg hne] at G2
                    have HG2 := hide (G2.congr (f' := fun i => nearL (i : Int) (es.take (k3 + 1))) (fun i hi => by
                      rw [unhide HST i]
                      unfold nearE
                      by_cases e1 : i = bn
                      · subst e1
                        rw [if_pos rfl, if_neg (by simp only; omega), if_pos rfl]
                      · rw [if_neg e1]
                        by_cases e2 : i = an
                        · subst e2
                          rw [if_pos rfl, if_pos rfl]
                        · rw [if_neg e2, if_neg (by simp only; omega), if_neg (by simp only; omega), List.append_nil]))
                    have HKd := hide (((unhide HKc).trans (((Kept.refl [] wc).alloc (.cells #[.int .i64 (an : Int)] 3)).mono (by simp))).trans' kg2 (fun j hj => Or.inr (own_block ((unhide hh3).1.own bn bnN) j (by simpa using hj))) |>.setCell (p := ⟨g, bn, none⟩) (Or.inl (by simp)) (.slice (some ⟨gg2, 0, none⟩) ((nearL (bn : Int) (es.take k3)).length + 1) cap2))
                    clear G2 gq2 gr2 kg2 own2 li2 lt2 cn3 ea3 eb3 rowe2 frz2 rowc2 rowd2 fz2 OW2 cn2 ea2 eb2
                    go_wp2
                    go_roundw
                    case rel => exact ⟨k3 + 1, _, by omega, by go_num, unhide HG2, unhide HKd⟩
                    case measure => simp [intOf]; omega
                  · go_simp
                    refine hK.out _ _ ⟨alloc_cell cn2 _, alloc_cell ea2 _, alloc_cell eb2 _⟩ (fun hHeld => ?_)
                    clear hK K
                    refine wpAnyH_ready (rs := [13]) (by kernel_rfl) (by simp) ?_
                    refine AllReadyH.cons rfl (fun K hK => ?_) AllReadyH.nil
                    go_simp
                    refine hK.out _ _ ⟨alloc_cell cn2 _, alloc_cell ea2 _, alloc_cell eb2 _⟩ (fun hHeld => ?_)
                    clear hK K
                    refine wpAnyH_ready (rs := [17]) (by kernel_rfl) (by simp) ?_
                    refine AllReadyH.cons rfl (fun K hK => ?_) AllReadyH.nil
                    refine step_append_lies _ rfl (.tmp 88) (.tmp 91) 25 rfl W5.heap.size 3 i (.int .i64 0) 1 8 Tryd.underlying25 hi hz0 hz1 hz2 rfl (by decide) (vs bn) (nearL (bn : Int) (es.take k3)).length ((nearL (bn : Int) (es.take k3)).map (Value.int .i64)) rfl ((OW2.alloc (.cells #[.int .i64 (an : Int)] 3)).drew) ⟨wc.heap.size, 0, none⟩ 1 1 [.int .i64 (an : Int)] rfl rfl (one_cell' _ _ _ rfl) (by simp [Value.oneCell']) (by decide) (by have := unhide HLEN bn; unfold maxLen; omega) (by have := unhide HLEN bn; omega) (by simp; omega) (wc.heap.size + 1) (by simp) ?_
                    intro gg2 cap2 x2 own2 gr2 li2 lt2
                    have kg2 : Kept (vs bn).ownBlock.toList (wc.alloc (.cells #[.int .i64 (an : Int)] 3)) x2 := (Kept.refl _ _).drew.trans (grown_kept gr2)
                    have cn3 := kept_cell' (alloc_cell cn2 (.cells #[.int .i64 (an : Int)] 3)) kg2 (by simpa using fun h => (unhide HNO bn bnN _ h).1 rfl)
                    have ea3 := kept_cell' (alloc_cell ea2 (.cells #[.int .i64 (an : Int)] 3)) kg2 (by simpa using fun h => (unhide HNO bn bnN _ h).2 rfl)
                    have eb3 := kept_cell' (alloc_cell eb2 (.cells #[.int .i64 (an : Int)] 3)) kg2 (by simpa using fun h => (unhide HNO bn bnN _ h).2 rfl)
                    have rowe2 := kept_cell' rowd2 kg2 (by simpa using fun h => (unhide HNG bn bnN _ h) rfl)
                    have frz2 := kept_free' rowd2 (kept_free rowc2 fz2 ((Kept.refl [] wc).alloc (.cells #[.int .i64 (an : Int)] 3))) kg2 (by simpa using fun h => (unhide HNG bn bnN _ h) rfl)
                    change K (Act.put _ (some 92) _) _
                    refine hK.out _ _ ⟨cn3, ea3, eb3⟩ (fun hHeld => ?_)
                    clear hK K
                    simp only [Act.put, List.setIfInBounds_toArray, List.set_cons_zero, List.set_cons_succ]
                    refine take_on 18 93 (v := ?_) rfl rfl (by kernel_rfl) (by kernel_rfl) (by kernel_rfl) (fun _ _ _ h => h) (by kernel_rfl) (by intro w hSw; (try dsimp only at hSw); go_simp; first | done | with_reducible rfl) (by assumption) ?_
                    simp only [Act.put, List.setIfInBounds_toArray, List.set_cons_zero, List.set_cons_succ]
                    refine wpAnyH_ready (rs := [19]) (by kernel_rfl) (by simp) ?_
                    refine AllReadyH.cons rfl (fun K hK => ?_) AllReadyH.nil
                    go_simp
                    refine hK.out _ _ ⟨by rw [cell_set_ne hqg]; assumption, by rw [cell_set_ne hpg]; assumption, by rw [cell_set_ne hpg]; assumption⟩ (fun hHeld => ?_)
                    clear hK K
                    refine wpAnyH_done (by kernel_rfl) ?_ _
                    have gq2 : (wc.alloc (.cells #[.int .i64 (an : Int)] 3)).grownBy x2 (vs bn).ownBlock := ⟨gr2.os, gr2.tape, gr2.output, gr2.size, gr2.block⟩
                    have G2 := (unhide G1).push (a := bn) hg5 hWc bnN (y := (an : Int)) (g' := gg2) (cap' := cap2) (by simp only [if_neg hne]; exact own2) (by simp only [if_neg hne]; exact gq2) (by simp only [if_neg hne]; exact li2)
                    simp only [if_neg hne] at G2
                    have HG2 := hide (G2.congr (f' := fun i => nearL (i : Int) (es.take (k3 + 1))) (fun i hi => by
                      rw [unhide HST i]
                      unfold nearE
                      by_cases e1 : i = bn
                      · subst e1
                        rw [if_pos rfl, if_neg (by simp only; omega), if_pos rfl]
                      · rw [if_neg e1]
                        by_cases e2 : i = an
                        · subst e2
                          rw [if_pos rfl, if_pos rfl]
                        · rw [if_neg e2, if_neg (by simp only; omega), if_neg (by simp only; omega), List.append_nil]))
                    have HKd := hide (((unhide HKc).trans (((Kept.refl [] wc).alloc (.cells #[.int .i64 (an : Int)] 3)).mono (by simp))).trans' kg2 (fun j hj => Or.inr (own_block ((unhide hh3).1.own bn bnN) j (by simpa using hj))) |>.setCell (p := ⟨g, bn, none⟩) (Or.inl (by simp)) (.slice (some ⟨gg2, 0, none⟩) ((nearL (bn : Int) (es.take k3)).length + 1) cap2))
                    clear G2 gq2 gr2 kg2 own2 li2 lt2 cn3 ea3 eb3 rowe2 frz2 rowc2 rowd2 fz2 OW2 cn2 ea2 eb2
                    go_wp2
                    go_roundw
                    case rel => exact ⟨k3 + 1, _, by omega, by go_num, unhide HG2, unhide HKd⟩
                    case measure => simp [intOf]; omega
              · have HDONE := hide (show RestAt wr q g N N s b ((N + 63) / 64) ((N + 63) / 64) es ws2 from ⟨(unhide L3).near, (unhide L3).left, by
                  have h1 := (unhide hh3).1.rows hg5 (unhide hh3).2.size hb5 (unhide hh2).1.gb
                  rw [show es.take k3 = es from List.take_of_length_le (by omega)] at h1
                  exact h1, (unhide L3).set, (unhide L3).qb, Nat.le_refl _⟩)
                go_wp2
                go_ret
                exact ⟨q, g, s, b, _, _, ws2, rfl, unhide HDONE, unhide HGE, unhide HFIN, unhide KW3⟩
  · have hs3 : w1.heap.size ≤ s := hs2
    have hb3 : w1.heap.size ≤ b := hb2
    have hbl := hset.bl
    have hsl := hset.sl
    have hk3 := ((Kept.refl [] w2).alloc (.cells (madeCells #[.slice none 0 0] N) 25)).alloc (.cells #[.slice (some ⟨w2.heap.size, 0, none⟩) N N, .pointer (some ⟨s, 0, none⟩)] 77)
    have GB : ((w2.alloc (.cells (madeCells #[.slice none 0 0] N) 25)).alloc (.cells #[.slice (some ⟨w2.heap.size, 0, none⟩) N N, .pointer (some ⟨s, 0, none⟩)] 77)).heap[w2.heap.size]? = some (.cells (madeCells #[.slice none 0 0] N) 25 (0, 0)) := by
      rw [Below.heap_alloc _ _ _ (by simp)]; exact new_block w2 _
    have QB := box2 (Kept.refl [] ((w2.alloc (.cells (madeCells #[.slice none 0 0] N) 25)).alloc (.cells #[.slice (some ⟨w2.heap.size, 0, none⟩) N N, .pointer (some ⟨s, 0, none⟩)] 77))) (by simp)
    rw [World.size_alloc] at QB
    have LAID : Laid w.heap.size (w2.heap.size + 1) w2.heap.size N s b ((N + 63) / 64) ((N + 63) / 64) N (.slice ao es.length cap) (fun _ => 0) ((w2.alloc (.cells (madeCells #[.slice none 0 0] N) 25)).alloc (.cells #[.slice (some ⟨w2.heap.size, 0, none⟩) N N, .pointer (some ⟨s, 0, none⟩)] 77)) :=
      ⟨QB.1, QB.2, hset.kept hk3 (by simp) (by simp), kept_cell b0 (K2.trans hk3), kept_cell b1 (K2.trans hk3), by omega, by omega, by omega, by omega, by omega, by have := K2.size; omega⟩
    have KW := hide ((unhide HK1).trans (K2.trans hk3))
    have hgl : w2.heap.size < ((w2.alloc (.cells (madeCells #[.slice none 0 0] N) 25)).alloc (.cells #[.slice (some ⟨w2.heap.size, 0, none⟩) N N, .pointer (some ⟨s, 0, none⟩)] 77)).heap.size := by simp; omega
    have HGE := hide (show w.heap.size ≤ b by omega)
    have HGG := hide (show w.heap.size ≤ w2.heap.size by have := K2.size; omega)
    clear hset k2 K2 QB hk3 hs2 hb2 hs3 hb3 hbl hsl b0 b1 hsz1
    generalize (w2.alloc (.cells (madeCells #[.slice none 0 0] N) 25)).alloc (.cells #[.slice (some ⟨w2.heap.size, 0, none⟩) N N, .pointer (some ⟨s, 0, none⟩)] 77) = W4 at *
    generalize w2.heap.size + 1 = q at *
    generalize w2.heap.size = g at *
    have HGB := hide GB
    have HLA := hide LAID
    have hpw := hide (rfl : w.heap.size = w.heap.size)
    have c0 := LAID.b0; have c1 := LAID.b1; have cn := LAID.near; have cl := LAID.left
    have hmx := LAID.set.most
    clear GB LAID hmk
    go_wp2
    go_loopw [26] (fun cc wr => ∃ (k : Nat) (ws : Nat → Nat), k ≤ N ∧ cc = .int .i64 k ∧ Hid (Laid w.heap.size q g N s b ((N + 63) / 64) ((N + 63) / 64) N (.slice ao es.length cap) ws wr ∧ Kept [b] W4 wr ∧ ∀ x, Has ws x ↔ 0 ≤ x ∧ x < (k : Int))) (fun cc _ => N - (intOf cc).toNat)
    case atStart => exact ⟨0, _, Nat.zero_le _, rfl, unhide HLA, Kept.refl _ _, fun x => by unfold Has hasI; rw [mem_zero]; simp <;> omega⟩
    case round =>
      obtain ⟨k, ws, hk, rfl, hh⟩ := hrel
      clear c0 c1 cn cl
      have cl := (unhide hh).1.left
      have c1 := (unhide hh).1.b1
      by_cases hlt : k < N
      · go_wp2_with fail
        refine (bput_any (unhide hh).1.set (k : Int)).mono ?_
        rintro e w3 ⟨rfl, hs, kb⟩
        have H3 := hide (And.intro ((unhide hh).1.wrote kb hs) (And.intro ((unhide hh).2.1.trans kb) (show ∀ x, Has (putS N ws (k : Int)) x ↔ 0 ≤ x ∧ x < ((k + 1 : Nat) : Int) from fun x => by rw [has_put, (unhide hh).2.2 x]; omega)))
        clear hs kb cl c1
        go_wp2
        go_roundw
        case rel => exact ⟨k + 1, _, by omega, by go_num, unhide H3⟩
        case measure => simp [intOf]; omega
      · have HALL := hide (show ∀ x, Has ws x ↔ (0 ≤ x ∧ x < (N : Int)) ∧ x ∉ xs.take 0 from fun x => by rw [(unhide hh).2.2 x]; simp <;> omega)
        go_wp2
        go_loopw [38] (fun cc wr => ∃ (k : Nat) (ws : Nat → Nat), k ≤ xs.length ∧ cc = .int .i64 k ∧ Hid (Laid w.heap.size q g N s b ((N + 63) / 64) ((N + 63) / 64) N (.slice ao es.length cap) ws wr ∧ Kept [b] W4 wr ∧ ∀ x, Has ws x ↔ (0 ≤ x ∧ x < (N : Int)) ∧ x ∉ xs.take k)) (fun cc _ => xs.length - (intOf cc).toNat)
        case atStart => exact ⟨0, ws, Nat.zero_le _, rfl, (unhide hh).1, (unhide hh).2.1, unhide HALL⟩
        case round =>
          obtain ⟨k2, ws2, hk2, rfl, hh2⟩ := hrel
          clear cl c1
          have cl := (unhide hh2).1.left
          have c1 := (unhide hh2).1.b1
          have KWR := hide ((unhide KW).trans' (unhide hh2).2.1 (fun i hi => by simp at hi; subst hi; exact Or.inr (unhide HGE)))
          by_cases hlt2 : k2 < xs.length
          · obtain ⟨xo2, xc2, hv2, _, hin2⟩ := ((unhide HXX).kept (unhide KWR)).shape
            obtain ⟨xg, xf, he2, hcell⟩ := hin2 (by omega)
            have hxo : xo = some ⟨xg, xf, none⟩ := by simp at hv2; rw [hv2.1, he2]
            subst hxo
            have d1 := hcell k2 hlt2
            have HTK := hide (show xs.take (k2 + 1) = xs.take k2 ++ [xs.getD k2 0] by rw [List.take_succ_eq_append_getElem hlt2, getD_elem hlt2])
            generalize xs.getD k2 0 = x at *
            clear hcell hin2 hv2 he2
            have t0 : (0 : Int) ≤ (k2 : Int) := by omega
            have t1 : (k2 : Int) < (xs.length : Int) := by omega
            go_wp2_with fail
            refine (drop_any (unhide hh2).1.set x).mono ?_
            rintro e w3 ⟨rfl, hs, kb⟩
            have H3 := hide (And.intro ((unhide hh2).1.wrote kb hs) (And.intro ((unhide hh2).2.1.trans kb) (show ∀ y, Has (dropS ws2 x) y ↔ (0 ≤ y ∧ y < (N : Int)) ∧ y ∉ xs.take (k2 + 1) from fun y => by rw [has_drop, (unhide hh2).2.2 y, unhide HTK]; simp [and_assoc])))
            clear hs kb cl c1 d1
            go_wp2
            go_roundw
            case rel => exact ⟨k2 + 1, _, by omega, by go_num, unhide H3⟩
            case measure => simp [intOf]; omega
          · have HFIN := hide (show ∀ x, Has ws2 x ↔ (0 ≤ x ∧ x < (N : Int)) ∧ x ∉ xs from fun x => by rw [(unhide hh2).2.2 x, List.take_of_length_le (by omega)])
            obtain ⟨W5, hW5⟩ : ∃ W5, W5 = wr := ⟨wr, rfl⟩
            subst hW5
            have hg5 : g < W5.heap.size := Nat.lt_of_lt_of_le hgl (unhide hh2).2.1.size
            have hb5 : b < W5.heap.size := (unhide hh2).1.set.bl
            have GR := hide (Grid.start (B := W5.heap.size) (show W5.heap[g]? = some (.cells (madeCells #[.slice none 0 0] N) 25 (0, 0)) by rw [(unhide hh2).2.1.block g hgl (by simpa using (unhide hh2).1.gb)]; exact unhide HGB))
            go_wp2
            go_loopw [52] (fun cc wr => ∃ (k : Nat) (vs : Nat → Value), k ≤ es.length ∧ cc = .int .i64 k ∧ Hid (Grid wr W5.heap.size g N (fun i => nearL (i : Int) (es.take k)) vs ∧ Kept [g] W5 wr)) (fun cc _ => es.length - (intOf cc).toNat)
            case atStart => exact ⟨0, _, Nat.zero_le _, rfl, (unhide GR).congr (fun i _ => rfl), Kept.refl _ _⟩
            case round =>
              obtain ⟨k3, vs, hk3, rfl, hh3⟩ := hrel
              have L3 := hide ((unhide hh2).1.kept (unhide hh3).2)
              have KW3 := hide ((unhide KWR).trans' (unhide hh3).2 (fun i hi => by simp at hi; subst hi; exact Or.inr (unhide HGG)))
              clear cl c1
              by_cases hlt3 : k3 < es.length
              · obtain ⟨ao2, _, hv2, _, _, hin2⟩ := ((unhide HH).kept (unhide KW3)).shape
                obtain ⟨eg, eo, he2, hin⟩ := hin2 (by omega)
                have hao : ao = some ⟨eg, eo, none⟩ := by simp at hv2; rw [hv2.1, he2]
                subst hao
                have d0 := hin.a k3 hlt3; have d1 := hin.b k3 hlt3
                have ok := okE_iff.1 (unhide HOK _ (at_mem hlt3))
                have HST := hide (fun i : Nat => nearL_step (v := (i : Int)) (es := es) (k := k3) hlt3 rfl rfl)
                unfold at_ at ok
                simp only at ok
                obtain ⟨an, ha⟩ := Int.eq_ofNat_of_zero_le ok.1
                obtain ⟨bn, hb⟩ := Int.eq_ofNat_of_zero_le (show 0 ≤ eB es k3 by omega)
                rw [ha, hb] at ok
                rw [ha] at d0; rw [hb] at d1
                rw [ha, hb] at HST
                have anN : an < N := by omega
                have bnN : bn < N := by omega
                have hab : an < bn := by omega
                clear hin hin2 hv2 he2 ha hb ok
                have HLEN := hide (fun i : Nat => Nat.le_trans (nearL_len (i : Int) (es.take k3)) (Nat.le_trans (List.length_take_le _ _) (Nat.le_of_lt hlt3)))
                have cn0 := alloc_cell (unhide L3).near (.cells #[.int .i64 (an : Int), .int .i64 (bn : Int)] 43)
                obtain ⟨ea0, eb0⟩ := box2 (Kept.refl [] (wr.alloc (.cells #[.int .i64 (an : Int), .int .i64 (bn : Int)] 43))) (by simp)
                have hgr : g < wr.heap.size := Nat.lt_of_lt_of_le hg5 (unhide hh3).2.size
                have G0 := hide ((unhide hh3).1.kept hgr ((Kept.refl [] wr).alloc (.cells #[.int .i64 (an : Int), .int .i64 (bn : Int)] 43)))
                have HKb := hide ((unhide hh3).2.trans (((Kept.refl [] wr).alloc (.cells #[.int .i64 (an : Int), .int .i64 (bn : Int)] 43)).mono (by simp)))
                have HLT := hide (fun i hi => own_lt ((unhide hh3).1.own i hi))
                have t0 : (0 : Int) ≤ (k3 : Int) := by omega
                have t1 : (k3 : Int) < (es.length : Int) := by omega
                have a0 : (0 : Int) ≤ (an : Int) := by omega
                have a1 : (an : Int) < (N : Int) := by omega
                have b0' : (0 : Int) ≤ (bn : Int) := by omega
                have b1' : (bn : Int) < (N : Int) := by omega
                have cb1 := (unhide L3).b1
                go_wp2_with fail
                generalize hwb : wr.alloc (.cells #[.int .i64 (an : Int), .int .i64 (bn : Int)] 43) = wb at *
                have hpe : g ≠ wr.heap.size := by omega
                generalize wr.heap.size = pe at *
                clear hwb d0 d1 cb1
                have HNO := hide (show ∀ i, i < N → ∀ k, (vs i).ownBlock = some k → q ≠ k ∧ pe ≠ k from fun i hi k hk => ⟨by have := own_block ((unhide hh3).1.own i hi) k hk; have := lt_of_cell (unhide hh2).1.near; omega, by have := unhide HLT i hi k hk; omega⟩)
                have HNG := hide (show ∀ i, i < N → ∀ k, (vs i).ownBlock = some k → g ≠ k from fun i hi k hk => by have := own_block ((unhide hh3).1.own i hi) k hk; omega)
                have rowc0 := (unhide G0).cell an anN
                have fz0 := (unhide G0).free an
                have OW0 := (unhide G0).own an anN
                have hqg : q ≠ g := (unhide hh2).1.qg
                have hpg : pe ≠ g := hpe.symm
                have hWb : W5.heap.size ≤ wb.heap.size := (unhide HKb).size
                have rowd0 := alloc_cell rowc0 (.cells #[.int .i64 (bn : Int)] 3)
                refine wp_region_held_drew (S := (fun W => W.cell? ⟨q, 0, none⟩ = some (.slice (some ⟨g, 0, none⟩) N N) ∧ W.cell? ⟨pe, 0, none⟩ = some (.int .i64 (an : Int)) ∧ W.cell? ⟨pe, 1, none⟩ = some (.int .i64 (bn : Int)))) (by kernel_rfl) ⟨cn0, ea0, eb0⟩ (fun hHeld => ?_)
                refine take_on 0 56 (v := ?_) rfl rfl (by kernel_rfl) (by kernel_rfl) (by kernel_rfl) (fun _ _ _ h => h) (by kernel_rfl) (by intro w hSw; (try dsimp only at hSw); go_simp; first | done | with_reducible rfl) (by assumption) ?_
                simp only [Act.put, List.setIfInBounds_toArray, List.set_cons_zero, List.set_cons_succ]
                refine take_on 1 57 (v := ?_) rfl rfl (by kernel_rfl) (by kernel_rfl) (by kernel_rfl) (fun _ _ _ h => h) (by kernel_rfl) (by intro w hSw; (try dsimp only at hSw); go_simp; first | done | with_reducible rfl) (by assumption) ?_
                simp only [Act.put, List.setIfInBounds_toArray, List.set_cons_zero, List.set_cons_succ]
                refine take_on 2 58 (v := ?_) rfl rfl (by kernel_rfl) (by kernel_rfl) (by kernel_rfl) (fun _ _ _ h => h) (by kernel_rfl) (by intro w hSw; (try dsimp only at hSw); go_simp; first | done | with_reducible rfl) (by assumption) ?_
                simp only [Act.put, List.setIfInBounds_toArray, List.set_cons_zero, List.set_cons_succ]
                refine take_on 3 59 (v := ?_) rfl rfl (by kernel_rfl) (by kernel_rfl) (by kernel_rfl) (fun _ _ _ h => h) (by kernel_rfl) (by intro w hSw; (try dsimp only at hSw); go_simp; first | done | with_reducible rfl) (by assumption) ?_
                simp only [Act.put, List.setIfInBounds_toArray, List.set_cons_zero, List.set_cons_succ]
                refine take_on 4 60 (v := ?_) rfl rfl (by kernel_rfl) (by kernel_rfl) (by kernel_rfl) (fun _ _ _ h => h) (by kernel_rfl) (by intro w hSw; (try dsimp only at hSw); go_simp; first | done | with_reducible rfl) (by assumption) ?_
                simp only [Act.put, List.setIfInBounds_toArray, List.set_cons_zero, List.set_cons_succ]
                refine take_on 5 61 (v := ?_) rfl rfl (by kernel_rfl) (by kernel_rfl) (by kernel_rfl) (fun _ _ _ h => h) (by kernel_rfl) (by intro w hSw; (try dsimp only at hSw); go_simp; first | done | with_reducible rfl) (by assumption) ?_
                simp only [Act.put, List.setIfInBounds_toArray, List.set_cons_zero, List.set_cons_succ]
                refine take_on 6 62 (v := ?_) rfl rfl (by kernel_rfl) (by kernel_rfl) (by kernel_rfl) (fun _ _ _ h => h) (by kernel_rfl) (by intro w hSw; (try dsimp only at hSw); go_simp; first | done | with_reducible rfl) (by assumption) ?_
                simp only [Act.put, List.setIfInBounds_toArray, List.set_cons_zero, List.set_cons_succ]
                refine take_on 7 63 (v := ?_) rfl rfl (by kernel_rfl) (by kernel_rfl) (by kernel_rfl) (fun _ _ _ h => h) (by kernel_rfl) (by intro w hSw; (try dsimp only at hSw); go_simp; first | done | with_reducible rfl) (by assumption) ?_
                simp only [Act.put, List.setIfInBounds_toArray, List.set_cons_zero, List.set_cons_succ]
                refine take_on 8 64 (v := ?_) rfl rfl (by kernel_rfl) (by kernel_rfl) (by kernel_rfl) (fun _ _ _ h => h) (by kernel_rfl) (by intro w hSw; (try dsimp only at hSw); go_simp; first | done | with_reducible rfl) (by assumption) ?_
                simp only [Act.put, List.setIfInBounds_toArray, List.set_cons_zero, List.set_cons_succ]
                refine take_on 9 65 (v := ?_) rfl rfl (by kernel_rfl) (by kernel_rfl) (by kernel_rfl) (fun _ _ _ h => h) (by kernel_rfl) (by intro w hSw; (try dsimp only at hSw); go_simp; first | done | with_reducible rfl) (by assumption) ?_
                simp only [Act.put, List.setIfInBounds_toArray, List.set_cons_zero, List.set_cons_succ]
                refine take_on 10 66 (v := ?_) rfl rfl (by kernel_rfl) (by kernel_rfl) (by kernel_rfl) (fun _ _ _ h => h) (by kernel_rfl) (by intro w hSw; (try dsimp only at hSw); go_simp; first | done | with_reducible rfl) (by assumption) ?_
                simp only [Act.put, List.setIfInBounds_toArray, List.set_cons_zero, List.set_cons_succ]
                refine take_on 11 67 (v := ?_) rfl rfl (by kernel_rfl) (by kernel_rfl) (by kernel_rfl) (fun _ _ _ h => h) (by kernel_rfl) (by intro w hSw; (try dsimp only at hSw); go_simp; first | done | with_reducible rfl) (by assumption) ?_
                simp only [Act.put, List.setIfInBounds_toArray, List.set_cons_zero, List.set_cons_succ]
                refine take_on 12 68 (v := ?_) rfl rfl (by kernel_rfl) (by kernel_rfl) (by kernel_rfl) (fun _ _ _ h => h) (by kernel_rfl) (by intro w hSw; (try dsimp only at hSw); go_simp; first | done | with_reducible rfl) (by assumption) ?_
                simp only [Act.put, List.setIfInBounds_toArray, List.set_cons_zero, List.set_cons_succ]
                refine take_on 14 70 (v := ?_) rfl rfl (by kernel_rfl) (by kernel_rfl) (by kernel_rfl) (fun _ _ _ h => h) (by kernel_rfl) (by intro w hSw; (try dsimp only at hSw); go_simp; first | done | with_reducible rfl) (by assumption) ?_
                simp only [Act.put, List.setIfInBounds_toArray, List.set_cons_zero, List.set_cons_succ]
                refine take_on 15 71 (v := ?_) rfl rfl (by kernel_rfl) (by kernel_rfl) (by kernel_rfl) (fun _ _ _ h => h) (by kernel_rfl) (by intro w hSw; (try dsimp only at hSw); go_simp; first | done | with_reducible rfl) (by assumption) ?_
                simp only [Act.put, List.setIfInBounds_toArray, List.set_cons_zero, List.set_cons_succ]
                refine wpAnyH_ready (rs := [13, 16]) (by kernel_rfl) (by simp) ?_
                refine AllReadyH.cons rfl (fun K hK => ?_) (AllReadyH.cons rfl (fun K hK => ?_) AllReadyH.nil)
                · go_simp
                  refine hK.out _ _ ⟨cn0, ea0, eb0⟩ (fun hHeld => ?_)
                  clear hK K
                  refine wpAnyH_ready (rs := [16]) (by kernel_rfl) (by simp) ?_
                  refine AllReadyH.cons rfl (fun K hK => ?_) AllReadyH.nil
                  go_simp
                  refine hK.out _ _ ⟨alloc_cell cn0 _, alloc_cell ea0 _, alloc_cell eb0 _⟩ (fun hHeld => ?_)
                  clear hK K
                  refine wpAnyH_ready (rs := [17]) (by kernel_rfl) (by simp) ?_
                  refine AllReadyH.cons rfl (fun K hK => ?_) AllReadyH.nil
                  refine step_append_lies _ rfl (.tmp 69) (.tmp 72) 25 rfl W5.heap.size 3 i (.int .i64 0) 1 8 Tryd.underlying25 hi hz0 hz1 hz2 rfl (by decide) (vs an) (nearL (an : Int) (es.take k3)).length ((nearL (an : Int) (es.take k3)).map (Value.int .i64)) rfl ((OW0.alloc (.cells #[.int .i64 (bn : Int)] 3)).drew) ⟨wb.heap.size, 0, none⟩ 1 1 [.int .i64 (bn : Int)] rfl rfl (one_cell' _ _ _ rfl) (by simp [Value.oneCell']) (by decide) (by have := unhide HLEN an; unfold maxLen; omega) (by have := unhide HLEN an; omega) (by simp; omega) (wb.heap.size + 1) (by simp) ?_
                  intro gg0 cap0 x0 own0 gr0 li0 lt0
                  have kg0 : Kept (vs an).ownBlock.toList (wb.alloc (.cells #[.int .i64 (bn : Int)] 3)) x0 := (Kept.refl _ _).drew.trans (grown_kept gr0)
                  have cn1 := kept_cell' (alloc_cell cn0 (.cells #[.int .i64 (bn : Int)] 3)) kg0 (by simpa using fun h => (unhide HNO an anN _ h).1 rfl)
                  have ea1 := kept_cell' (alloc_cell ea0 (.cells #[.int .i64 (bn : Int)] 3)) kg0 (by simpa using fun h => (unhide HNO an anN _ h).2 rfl)
                  have eb1 := kept_cell' (alloc_cell eb0 (.cells #[.int .i64 (bn : Int)] 3)) kg0 (by simpa using fun h => (unhide HNO an anN _ h).2 rfl)
                  have rowe0 := kept_cell' rowd0 kg0 (by simpa using fun h => (unhide HNG an anN _ h) rfl)
                  have frz0 := kept_free' rowd0 (kept_free rowc0 fz0 ((Kept.refl [] wb).alloc (.cells #[.int .i64 (bn : Int)] 3))) kg0 (by simpa using fun h => (unhide HNG an anN _ h) rfl)
                  change K (Act.put _ (some 73) _) _
                  refine hK.out _ _ ⟨cn1, ea1, eb1⟩ (fun hHeld => ?_)
                  clear hK K
                  simp only [Act.put, List.setIfInBounds_toArray, List.set_cons_zero, List.set_cons_succ]
                  refine take_on 18 74 (v := ?_) rfl rfl (by kernel_rfl) (by kernel_rfl) (by kernel_rfl) (fun _ _ _ h => h) (by kernel_rfl) (by intro w hSw; (try dsimp only at hSw); go_simp; first | done | with_reducible rfl) (by assumption) ?_
                  simp only [Act.put, List.setIfInBounds_toArray, List.set_cons_zero, List.set_cons_succ]
                  refine wpAnyH_ready (rs := [19]) (by kernel_rfl) (by simp) ?_
                  refine AllReadyH.cons rfl (fun K hK => ?_) AllReadyH.nil
                  go_simp
                  refine hK.out _ _ ⟨by rw [cell_set_ne hqg]; assumption, by rw [cell_set_ne hpg]; assumption, by rw [cell_set_ne hpg]; assumption⟩ (fun hHeld => ?_)
                  clear hK K
                  refine wpAnyH_done (by kernel_rfl) ?_ _
                  have gq0 : (wb.alloc (.cells #[.int .i64 (bn : Int)] 3)).grownBy x0 (vs an).ownBlock := ⟨gr0.os, gr0.tape, gr0.output, gr0.size, gr0.block⟩
                  have G1 := hide ((unhide G0).push hg5 hWb anN (y := (bn : Int)) own0 gq0 li0)
                  have HKc := hide (((unhide HKb).trans (((Kept.refl [] wb).alloc (.cells #[.int .i64 (bn : Int)] 3)).mono (by simp))).trans' kg0 (fun j hj => Or.inr (own_block OW0 j (by simpa using hj))) |>.setCell (p := ⟨g, an, none⟩) (Or.inl (by simp)) (.slice (some ⟨gg0, 0, none⟩) ((nearL (an : Int) (es.take k3)).length + 1) cap0))
                  have cn2 : (x0.setCell ⟨g, an, none⟩ (.slice (some ⟨gg0, 0, none⟩) ((nearL (an : Int) (es.take k3)).length + 1) cap0)).cell? ⟨q, 0, none⟩ = some (.slice (some ⟨g, 0, none⟩) N N) := by rw [cell_set_ne hqg]; exact cn1
                  have ea2 : (x0.setCell ⟨g, an, none⟩ (.slice (some ⟨gg0, 0, none⟩) ((nearL (an : Int) (es.take k3)).length + 1) cap0)).cell? ⟨pe, 0, none⟩ = some (.int .i64 (an : Int)) := by rw [cell_set_ne hpg]; exact ea1
                  have eb2 : (x0.setCell ⟨g, an, none⟩ (.slice (some ⟨gg0, 0, none⟩) ((nearL (an : Int) (es.take k3)).length + 1) cap0)).cell? ⟨pe, 1, none⟩ = some (.int .i64 (bn : Int)) := by rw [cell_set_ne hpg]; exact eb1
                  have hne : ¬ bn = an := by omega
                  clear gq0 gr0 kg0 own0 li0 lt0 cn1 ea1 eb1 rowe0 frz0 rowc0 rowd0 fz0 OW0 cn0 ea0 eb0
                  go_wp2_with fail
                  generalize x0.setCell ⟨g, an, none⟩ (.slice (some ⟨gg0, 0, none⟩) ((nearL (an : Int) (es.take k3)).length + 1) cap0) = wc at *
                  have rowc2 := (unhide G1).cell bn bnN
                  have fz2 := (unhide G1).free bn
                  have OW2 := (unhide G1).own bn bnN
                  simp only [if_neg hne] at rowc2 OW2
                  have hWc : W5.heap.size ≤ wc.heap.size := (unhide HKc).size
                  have rowd2 := alloc_cell rowc2 (.cells #[.int .i64 (an : Int)] 3)
                  refine wp_region_held_drew (S := (fun W => W.cell? ⟨q, 0, none⟩ = some (.slice (some ⟨g, 0, none⟩) N N) ∧ W.cell? ⟨pe, 0, none⟩ = some (.int .i64 (an : Int)) ∧ W.cell? ⟨pe, 1, none⟩ = some (.int .i64 (bn : Int)))) (by kernel_rfl) ⟨cn2, ea2, eb2⟩ (fun hHeld => ?_)
                  refine take_on 0 75 (v := ?_) rfl rfl (by kernel_rfl) (by kernel_rfl) (by kernel_rfl) (fun _ _ _ h => h) (by kernel_rfl) (by intro w hSw; (try dsimp only at hSw); go_simp; first | done | with_reducible rfl) (by assumption) ?_
                  simp only [Act.put, List.setIfInBounds_toArray, List.set_cons_zero, List.set_cons_succ]
                  refine take_on 1 76 (v := ?_) rfl rfl (by kernel_rfl) (by kernel_rfl) (by kernel_rfl) (fun _ _ _ h => h) (by kernel_rfl) (by intro w hSw; (try dsimp only at hSw); go_simp; first | done | with_reducible rfl) (by assumption) ?_
                  simp only [Act.put, List.setIfInBounds_toArray, List.set_cons_zero, List.set_cons_succ]
                  refine take_on 2 77 (v := ?_) rfl rfl (by kernel_rfl) (by kernel_rfl) (by kernel_rfl) (fun _ _ _ h => h) (by kernel_rfl) (by intro w hSw; (try dsimp only at hSw); go_simp; first | done | with_reducible rfl) (by assumption) ?_
                  simp only [Act.put, List.setIfInBounds_toArray, List.set_cons_zero, List.set_cons_succ]
                  refine take_on 3 78 (v := ?_) rfl rfl (by kernel_rfl) (by kernel_rfl) (by kernel_rfl) (fun _ _ _ h => h) (by kernel_rfl) (by intro w hSw; (try dsimp only at hSw); go_simp; first | done | with_reducible rfl) (by assumption) ?_
                  simp only [Act.put, List.setIfInBounds_toArray, List.set_cons_zero, List.set_cons_succ]
                  refine take_on 4 79 (v := ?_) rfl rfl (by kernel_rfl) (by kernel_rfl) (by kernel_rfl) (fun _ _ _ h => h) (by kernel_rfl) (by intro w hSw; (try dsimp only at hSw); go_simp; first | done | with_reducible rfl) (by assumption) ?_
                  simp only [Act.put, List.setIfInBounds_toArray, List.set_cons_zero, List.set_cons_succ]
                  refine take_on 5 80 (v := ?_) rfl rfl (by kernel_rfl) (by kernel_rfl) (by kernel_rfl) (fun _ _ _ h => h) (by kernel_rfl) (by intro w hSw; (try dsimp only at hSw); go_simp; first | done | with_reducible rfl) (by assumption) ?_
                  simp only [Act.put, List.setIfInBounds_toArray, List.set_cons_zero, List.set_cons_succ]
                  refine take_on 6 81 (v := ?_) rfl rfl (by kernel_rfl) (by kernel_rfl) (by kernel_rfl) (fun _ _ _ h => h) (by kernel_rfl) (by intro w hSw; (try dsimp only at hSw); go_simp; first | done | with_reducible rfl) (by assumption) ?_
                  simp only [Act.put, List.setIfInBounds_toArray, List.set_cons_zero, List.set_cons_succ]
                  refine take_on 7 82 (v := ?_) rfl rfl (by kernel_rfl) (by kernel_rfl) (by kernel_rfl) (fun _ _ _ h => h) (by kernel_rfl) (by intro w hSw; (try dsimp only at hSw); go_simp; first | done | with_reducible rfl) (by assumption) ?_
                  simp only [Act.put, List.setIfInBounds_toArray, List.set_cons_zero, List.set_cons_succ]
                  refine take_on 8 83 (v := ?_) rfl rfl (by kernel_rfl) (by kernel_rfl) (by kernel_rfl) (fun _ _ _ h => h) (by kernel_rfl) (by intro w hSw; (try dsimp only at hSw); go_simp; first | done | with_reducible rfl) (by assumption) ?_
                  simp only [Act.put, List.setIfInBounds_toArray, List.set_cons_zero, List.set_cons_succ]
                  refine take_on 9 84 (v := ?_) rfl rfl (by kernel_rfl) (by kernel_rfl) (by kernel_rfl) (fun _ _ _ h => h) (by kernel_rfl) (by intro w hSw; (try dsimp only at hSw); go_simp; first | done | with_reducible rfl) (by assumption) ?_
                  simp only [Act.put, List.setIfInBounds_toArray, List.set_cons_zero, List.set_cons_succ]
                  refine take_on 10 85 (v := ?_) rfl rfl (by kernel_rfl) (by kernel_rfl) (by kernel_rfl) (fun _ _ _ h => h) (by kernel_rfl) (by intro w hSw; (try dsimp only at hSw); go_simp; first | done | with_reducible rfl) (by assumption) ?_
                  simp only [Act.put, List.setIfInBounds_toArray, List.set_cons_zero, List.set_cons_succ]
                  refine take_on 11 86 (v := ?_) rfl rfl (by kernel_rfl) (by kernel_rfl) (by kernel_rfl) (fun _ _ _ h => h) (by kernel_rfl) (by intro w hSw; (try dsimp only at hSw); go_simp; first | done | with_reducible rfl) (by assumption) ?_
                  simp only [Act.put, List.setIfInBounds_toArray, List.set_cons_zero, List.set_cons_succ]
                  refine take_on 12 87 (v := ?_) rfl rfl (by kernel_rfl) (by kernel_rfl) (by kernel_rfl) (fun _ _ _ h => h) (by kernel_rfl) (by intro w hSw; (try dsimp only at hSw); go_simp; first | done | with_reducible rfl) (by assumption) ?_
                  simp only [Act.put, List.setIfInBounds_toArray, List.set_cons_zero, List.set_cons_succ]
                  refine take_on 14 89 (v := ?_) rfl rfl (by kernel_rfl) (by kernel_rfl) (by kernel_rfl) (fun _ _ _ h => h) (by kernel_rfl) (by intro w hSw; (try dsimp only at hSw); go_simp; first | done | with_reducible rfl) (by assumption) ?_
                  simp only [Act.put, List.setIfInBounds_toArray, List.set_cons_zero, List.set_cons_succ]
                  refine take_on 15 90 (v := ?_) rfl rfl (by kernel_rfl) (by kernel_rfl) (by kernel_rfl) (fun _ _ _ h => h) (by kernel_rfl) (by intro w hSw; (try dsimp only at hSw); go_simp; first | done | with_reducible rfl) (by assumption) ?_
                  simp only [Act.put, List.setIfInBounds_toArray, List.set_cons_zero, List.set_cons_succ]
                  refine wpAnyH_ready (rs := [13, 16]) (by kernel_rfl) (by simp) ?_
                  refine AllReadyH.cons rfl (fun K hK => ?_) (AllReadyH.cons rfl (fun K hK => ?_) AllReadyH.nil)
                  · go_simp
                    refine hK.out _ _ ⟨cn2, ea2, eb2⟩ (fun hHeld => ?_)
                    clear hK K
                    refine wpAnyH_ready (rs := [16]) (by kernel_rfl) (by simp) ?_
                    refine AllReadyH.cons rfl (fun K hK => ?_) AllReadyH.nil
                    go_simp
                    refine hK.out _ _ ⟨alloc_cell cn2 _, alloc_cell ea2 _, alloc_cell eb2 _⟩ (fun hHeld => ?_)
                    clear hK K
                    refine wpAnyH_ready (rs := [17]) (by kernel_rfl) (by simp) ?_
                    refine AllReadyH.cons rfl (fun K hK => ?_) AllReadyH.nil
                    refine step_append_lies _ rfl (.tmp 88) (.tmp 91) 25 rfl W5.heap.size 3 i (.int .i64 0) 1 8 Tryd.underlying25 hi hz0 hz1 hz2 rfl (by decide) (vs bn) (nearL (bn : Int) (es.take k3)).length ((nearL (bn : Int) (es.take k3)).map (Value.int .i64)) rfl ((OW2.alloc (.cells #[.int .i64 (an : Int)] 3)).drew) ⟨wc.heap.size, 0, none⟩ 1 1 [.int .i64 (an : Int)] rfl rfl (one_cell' _ _ _ rfl) (by simp [Value.oneCell']) (by decide) (by have := unhide HLEN bn; unfold maxLen; omega) (by have := unhide HLEN bn; omega) (by simp; omega) (wc.heap.size + 1) (by simp) ?_
                    intro gg2 cap2 x2 own2 gr2 li2 lt2
                    have kg2 : Kept (vs bn).ownBlock.toList (wc.alloc (.cells #[.int .i64 (an : Int)] 3)) x2 := (Kept.refl _ _).drew.trans (grown_kept gr2)
                    have cn3 := kept_cell' (alloc_cell cn2 (.cells #[.int .i64 (an : Int)] 3)) kg2 (by simpa using fun h => (unhide HNO bn bnN _ h).1 rfl)
                    have ea3 := kept_cell' (alloc_cell ea2 (.cells #[.int .i64 (an : Int)] 3)) kg2 (by simpa using fun h => (unhide HNO bn bnN _ h).2 rfl)
                    have eb3 := kept_cell' (alloc_cell eb2 (.cells #[.int .i64 (an : Int)] 3)) kg2 (by simpa using fun h => (unhide HNO bn bnN _ h).2 rfl)
                    have rowe2 := kept_cell' rowd2 kg2 (by simpa using fun h => (unhide HNG bn bnN _ h) rfl)
                    have frz2 := kept_free' rowd2 (kept_free rowc2 fz2 ((Kept.refl [] wc).alloc (.cells #[.int .i64 (an : Int)] 3))) kg2 (by simpa using fun h => (unhide HNG bn bnN _ h) rfl)
                    change K (Act.put _ (some 92) _) _
                    refine hK.out _ _ ⟨cn3, ea3, eb3⟩ (fun hHeld => ?_)
                    clear hK K
                    simp only [Act.put, List.setIfInBounds_toArray, List.set_cons_zero, List.set_cons_succ]
                    refine take_on 18 93 (v := ?_) rfl rfl (by kernel_rfl) (by kernel_rfl) (by kernel_rfl) (fun _ _ _ h => h) (by kernel_rfl) (by intro w hSw; (try dsimp only at hSw); go_simp; first | done | with_reducible rfl) (by assumption) ?_
                    simp only [Act.put, List.setIfInBounds_toArray, List.set_cons_zero, List.set_cons_succ]
                    refine wpAnyH_ready (rs := [19]) (by kernel_rfl) (by simp) ?_
                    refine AllReadyH.cons rfl (fun K hK => ?_) AllReadyH.nil
                    go_simp
                    refine hK.out _ _ ⟨by rw [cell_set_ne hqg]; assumption, by rw [cell_set_ne hpg]; assumption, by rw [cell_set_ne hpg]; assumption⟩ (fun hHeld => ?_)
                    clear hK K
                    refine wpAnyH_done (by kernel_rfl) ?_ _
                    have gq2 : (wc.alloc (.cells #[.int .i64 (an : Int)] 3)).grownBy x2 (vs bn).ownBlock := ⟨gr2.os, gr2.tape, gr2.output, gr2.size, gr2.block⟩
                    have G2 := (unhide G1).push (a := bn) hg5 hWc bnN (y := (an : Int)) (g' := gg2) (cap' := cap2) (by simp only [if_neg hne]; exact own2) (by simp only [if_neg hne]; exact gq2) (by simp only [if_neg hne]; exact li2)
                    simp only [if_neg hne] at G2
                    have HG2 := hide (G2.congr (f' := fun i => nearL (i : Int) (es.take (k3 + 1))) (fun i hi => by
                      rw [unhide HST i]
                      unfold nearE
                      by_cases e1 : i = bn
                      · subst e1
                        rw [if_pos rfl, if_neg (by simp only; omega), if_pos rfl]
                      · rw [if_neg e1]
                        by_cases e2 : i = an
                        · subst e2
                          rw [if_pos rfl, if_pos rfl]
                        · rw [if_neg e2, if_neg (by simp only; omega), if_neg (by simp only; omega), List.append_nil]))
                    have HKd := hide (((unhide HKc).trans (((Kept.refl [] wc).alloc (.cells #[.int .i64 (an : Int)] 3)).mono (by simp))).trans' kg2 (fun j hj => Or.inr (own_block ((unhide hh3).1.own bn bnN) j (by simpa using hj))) |>.setCell (p := ⟨g, bn, none⟩) (Or.inl (by simp)) (.slice (some ⟨gg2, 0, none⟩) ((nearL (bn : Int) (es.take k3)).length + 1) cap2))
                    clear G2 gq2 gr2 kg2 own2 li2 lt2 cn3 ea3 eb3 rowe2 frz2 rowc2 rowd2 fz2 OW2 cn2 ea2 eb2
                    go_wp2
                    go_roundw
                    case rel => exact ⟨k3 + 1, _, by omega, by go_num, unhide HG2, unhide HKd⟩
                    case measure => simp [intOf]; omega
                  · go_simp
                    refine hK.out _ _ ⟨alloc_cell cn2 _, alloc_cell ea2 _, alloc_cell eb2 _⟩ (fun hHeld => ?_)
                    clear hK K
                    refine wpAnyH_ready (rs := [13]) (by kernel_rfl) (by simp) ?_
                    refine AllReadyH.cons rfl (fun K hK => ?_) AllReadyH.nil
                    go_simp
                    refine hK.out _ _ ⟨alloc_cell cn2 _, alloc_cell ea2 _, alloc_cell eb2 _⟩ (fun hHeld => ?_)
                    clear hK K
                    refine wpAnyH_ready (rs := [17]) (by kernel_rfl) (by simp) ?_
                    refine AllReadyH.cons rfl (fun K hK => ?_) AllReadyH.nil
                    refine step_append_lies _ rfl (.tmp 88) (.tmp 91) 25 rfl W5.heap.size 3 i (.int .i64 0) 1 8 Tryd.underlying25 hi hz0 hz1 hz2 rfl (by decide) (vs bn) (nearL (bn : Int) (es.take k3)).length ((nearL (bn : Int) (es.take k3)).map (Value.int .i64)) rfl ((OW2.alloc (.cells #[.int .i64 (an : Int)] 3)).drew) ⟨wc.heap.size, 0, none⟩ 1 1 [.int .i64 (an : Int)] rfl rfl (one_cell' _ _ _ rfl) (by simp [Value.oneCell']) (by decide) (by have := unhide HLEN bn; unfold maxLen; omega) (by have := unhide HLEN bn; omega) (by simp; omega) (wc.heap.size + 1) (by simp) ?_
                    intro gg2 cap2 x2 own2 gr2 li2 lt2
                    have kg2 : Kept (vs bn).ownBlock.toList (wc.alloc (.cells #[.int .i64 (an : Int)] 3)) x2 := (Kept.refl _ _).drew.trans (grown_kept gr2)
                    have cn3 := kept_cell' (alloc_cell cn2 (.cells #[.int .i64 (an : Int)] 3)) kg2 (by simpa using fun h => (unhide HNO bn bnN _ h).1 rfl)
                    have ea3 := kept_cell' (alloc_cell ea2 (.cells #[.int .i64 (an : Int)] 3)) kg2 (by simpa using fun h => (unhide HNO bn bnN _ h).2 rfl)
                    have eb3 := kept_cell' (alloc_cell eb2 (.cells #[.int .i64 (an : Int)] 3)) kg2 (by simpa using fun h => (unhide HNO bn bnN _ h).2 rfl)
                    have rowe2 := kept_cell' rowd2 kg2 (by simpa using fun h => (unhide HNG bn bnN _ h) rfl)
                    have frz2 := kept_free' rowd2 (kept_free rowc2 fz2 ((Kept.refl [] wc).alloc (.cells #[.int .i64 (an : Int)] 3))) kg2 (by simpa using fun h => (unhide HNG bn bnN _ h) rfl)
                    change K (Act.put _ (some 92) _) _
                    refine hK.out _ _ ⟨cn3, ea3, eb3⟩ (fun hHeld => ?_)
                    clear hK K
                    simp only [Act.put, List.setIfInBounds_toArray, List.set_cons_zero, List.set_cons_succ]
                    refine take_on 18 93 (v := ?_) rfl rfl (by kernel_rfl) (by kernel_rfl) (by kernel_rfl) (fun _ _ _ h => h) (by kernel_rfl) (by intro w hSw; (try dsimp only at hSw); go_simp; first | done | with_reducible rfl) (by assumption) ?_
                    simp only [Act.put, List.setIfInBounds_toArray, List.set_cons_zero, List.set_cons_succ]
                    refine wpAnyH_ready (rs := [19]) (by kernel_rfl) (by simp) ?_
                    refine AllReadyH.cons rfl (fun K hK => ?_) AllReadyH.nil
                    go_simp
                    refine hK.out _ _ ⟨by rw [cell_set_ne hqg]; assumption, by rw [cell_set_ne hpg]; assumption, by rw [cell_set_ne hpg]; assumption⟩ (fun hHeld => ?_)
                    clear hK K
                    refine wpAnyH_done (by kernel_rfl) ?_ _
                    have gq2 : (wc.alloc (.cells #[.int .i64 (an : Int)] 3)).grownBy x2 (vs bn).ownBlock := ⟨gr2.os, gr2.tape, gr2.output, gr2.size, gr2.block⟩
                    have G2 := (unhide G1).push (a := bn) hg5 hWc bnN (y := (an : Int)) (g' := gg2) (cap' := cap2) (by simp only [if_neg hne]; exact own2) (by simp only [if_neg hne]; exact gq2) (by simp only [if_neg hne]; exact li2)
                    simp only [if_neg hne] at G2
                    have HG2 := hide (G2.congr (f' := fun i => nearL (i : Int) (es.take (k3 + 1))) (fun i hi => by
                      rw [unhide HST i]
                      unfold nearE
                      by_cases e1 : i = bn
                      · subst e1
                        rw [if_pos rfl, if_neg (by simp only; omega), if_pos rfl]
                      · rw [if_neg e1]
                        by_cases e2 : i = an
                        · subst e2
                          rw [if_pos rfl, if_pos rfl]
                        · rw [if_neg e2, if_neg (by simp only; omega), if_neg (by simp only; omega), List.append_nil]))
                    have HKd := hide (((unhide HKc).trans (((Kept.refl [] wc).alloc (.cells #[.int .i64 (an : Int)] 3)).mono (by simp))).trans' kg2 (fun j hj => Or.inr (own_block ((unhide hh3).1.own bn bnN) j (by simpa using hj))) |>.setCell (p := ⟨g, bn, none⟩) (Or.inl (by simp)) (.slice (some ⟨gg2, 0, none⟩) ((nearL (bn : Int) (es.take k3)).length + 1) cap2))
                    clear G2 gq2 gr2 kg2 own2 li2 lt2 cn3 ea3 eb3 rowe2 frz2 rowc2 rowd2 fz2 OW2 cn2 ea2 eb2
                    go_wp2
                    go_roundw
                    case rel => exact ⟨k3 + 1, _, by omega, by go_num, unhide HG2, unhide HKd⟩
                    case measure => simp [intOf]; omega
                · go_simp
                  refine hK.out _ _ ⟨alloc_cell cn0 _, alloc_cell ea0 _, alloc_cell eb0 _⟩ (fun hHeld => ?_)
                  clear hK K
                  refine wpAnyH_ready (rs := [13]) (by kernel_rfl) (by simp) ?_
                  refine AllReadyH.cons rfl (fun K hK => ?_) AllReadyH.nil
                  go_simp
                  refine hK.out _ _ ⟨alloc_cell cn0 _, alloc_cell ea0 _, alloc_cell eb0 _⟩ (fun hHeld => ?_)
                  clear hK K
                  refine wpAnyH_ready (rs := [17]) (by kernel_rfl) (by simp) ?_
                  refine AllReadyH.cons rfl (fun K hK => ?_) AllReadyH.nil
                  refine step_append_lies _ rfl (.tmp 69) (.tmp 72) 25 rfl W5.heap.size 3 i (.int .i64 0) 1 8 Tryd.underlying25 hi hz0 hz1 hz2 rfl (by decide) (vs an) (nearL (an : Int) (es.take k3)).length ((nearL (an : Int) (es.take k3)).map (Value.int .i64)) rfl ((OW0.alloc (.cells #[.int .i64 (bn : Int)] 3)).drew) ⟨wb.heap.size, 0, none⟩ 1 1 [.int .i64 (bn : Int)] rfl rfl (one_cell' _ _ _ rfl) (by simp [Value.oneCell']) (by decide) (by have := unhide HLEN an; unfold maxLen; omega) (by have := unhide HLEN an; omega) (by simp; omega) (wb.heap.size + 1) (by simp) ?_
                  intro gg0 cap0 x0 own0 gr0 li0 lt0
                  have kg0 : Kept (vs an).ownBlock.toList (wb.alloc (.cells #[.int .i64 (bn : Int)] 3)) x0 := (Kept.refl _ _).drew.trans (grown_kept gr0)
                  have cn1 := kept_cell' (alloc_cell cn0 (.cells #[.int .i64 (bn : Int)] 3)) kg0 (by simpa using fun h => (unhide HNO an anN _ h).1 rfl)
                  have ea1 := kept_cell' (alloc_cell ea0 (.cells #[.int .i64 (bn : Int)] 3)) kg0 (by simpa using fun h => (unhide HNO an anN _ h).2 rfl)
                  have eb1 := kept_cell' (alloc_cell eb0 (.cells #[.int .i64 (bn : Int)] 3)) kg0 (by simpa using fun h => (unhide HNO an anN _ h).2 rfl)
                  have rowe0 := kept_cell' rowd0 kg0 (by simpa using fun h => (unhide HNG an anN _ h) rfl)
                  have frz0 := kept_free' rowd0 (kept_free rowc0 fz0 ((Kept.refl [] wb).alloc (.cells #[.int .i64 (bn : Int)] 3))) kg0 (by simpa using fun h => (unhide HNG an anN _ h) rfl)
                  change K (Act.put _ (some 73) _) _
                  refine hK.out _ _ ⟨cn1, ea1, eb1⟩ (fun hHeld => ?_)
                  clear hK K
                  simp only [Act.put, List.setIfInBounds_toArray, List.set_cons_zero, List.set_cons_succ]
                  refine take_on 18 74 (v := ?_) rfl rfl (by kernel_rfl) (by kernel_rfl) (by kernel_rfl) (fun _ _ _ h => h) (by kernel_rfl) (by intro w hSw; (try dsimp only at hSw); go_simp; first | done | with_reducible rfl) (by assumption) ?_
                  simp only [Act.put, List.setIfInBounds_toArray, List.set_cons_zero, List.set_cons_succ]
                  refine wpAnyH_ready (rs := [19]) (by kernel_rfl) (by simp) ?_
                  refine AllReadyH.cons rfl (fun K hK => ?_) AllReadyH.nil
                  go_simp
                  refine hK.out _ _ ⟨by rw [cell_set_ne hqg]; assumption, by rw [cell_set_ne hpg]; assumption, by rw [cell_set_ne hpg]; assumption⟩ (fun hHeld => ?_)
                  clear hK K
                  refine wpAnyH_done (by kernel_rfl) ?_ _
                  have gq0 : (wb.alloc (.cells #[.int .i64 (bn : Int)] 3)).grownBy x0 (vs an).ownBlock := ⟨gr0.os, gr0.tape, gr0.output, gr0.size, gr0.block⟩
                  have G1 := hide ((unhide G0).push hg5 hWb anN (y := (bn : Int)) own0 gq0 li0)
                  have HKc := hide (((unhide HKb).trans (((Kept.refl [] wb).alloc (.cells #[.int .i64 (bn : Int)] 3)).mono (by simp))).trans' kg0 (fun j hj => Or.inr (own_block OW0 j (by simpa using hj))) |>.setCell (p := ⟨g, an, none⟩) (Or.inl (by simp)) (.slice (some ⟨gg0, 0, none⟩) ((nearL (an : Int) (es.take k3)).length + 1) cap0))
                  have cn2 : (x0.setCell ⟨g, an, none⟩ (.slice (some ⟨gg0, 0, none⟩) ((nearL (an : Int) (es.take k3)).length + 1) cap0)).cell? ⟨q, 0, none⟩ = some (.slice (some ⟨g, 0, none⟩) N N) := by rw [cell_set_ne hqg]; exact cn1
                  have ea2 : (x0.setCell ⟨g, an, none⟩ (.slice (some ⟨gg0, 0, none⟩) ((nearL (an : Int) (es.take k3)).length + 1) cap0)).cell? ⟨pe, 0, none⟩ = some (.int .i64 (an : Int)) := by rw [cell_set_ne hpg]; exact ea1
                  have eb2 : (x0.setCell ⟨g, an, none⟩ (.slice (some ⟨gg0, 0, none⟩) ((nearL (an : Int) (es.take k3)).length + 1) cap0)).cell? ⟨pe, 1, none⟩ = some (.int .i64 (bn : Int)) := by rw [cell_set_ne hpg]; exact eb1
                  have hne : ¬ bn = an := by omega
                  clear gq0 gr0 kg0 own0 li0 lt0 cn1 ea1 eb1 rowe0 frz0 rowc0 rowd0 fz0 OW0 cn0 ea0 eb0
                  go_wp2_with fail
                  generalize x0.setCell ⟨g, an, none⟩ (.slice (some ⟨gg0, 0, none⟩) ((nearL (an : Int) (es.take k3)).length + 1) cap0) = wc at *
                  have rowc2 := (unhide G1).cell bn bnN
                  have fz2 := (unhide G1).free bn
                  have OW2 := (unhide G1).own bn bnN
                  simp only [if_neg hne] at rowc2 OW2
                  have hWc : W5.heap.size ≤ wc.heap.size := (unhide HKc).size
                  have rowd2 := alloc_cell rowc2 (.cells #[.int .i64 (an : Int)] 3)
                  refine wp_region_held_drew (S := (fun W => W.cell? ⟨q, 0, none⟩ = some (.slice (some ⟨g, 0, none⟩) N N) ∧ W.cell? ⟨pe, 0, none⟩ = some (.int .i64 (an : Int)) ∧ W.cell? ⟨pe, 1, none⟩ = some (.int .i64 (bn : Int)))) (by kernel_rfl) ⟨cn2, ea2, eb2⟩ (fun hHeld => ?_)
                  refine take_on 0 75 (v := ?_) rfl rfl (by kernel_rfl) (by kernel_rfl) (by kernel_rfl) (fun _ _ _ h => h) (by kernel_rfl) (by intro w hSw; (try dsimp only at hSw); go_simp; first | done | with_reducible rfl) (by assumption) ?_
                  simp only [Act.put, List.setIfInBounds_toArray, List.set_cons_zero, List.set_cons_succ]
                  refine take_on 1 76 (v := ?_) rfl rfl (by kernel_rfl) (by kernel_rfl) (by kernel_rfl) (fun _ _ _ h => h) (by kernel_rfl) (by intro w hSw; (try dsimp only at hSw); go_simp; first | done | with_reducible rfl) (by assumption) ?_
                  simp only [Act.put, List.setIfInBounds_toArray, List.set_cons_zero, List.set_cons_succ]
                  refine take_on 2 77 (v := ?_) rfl rfl (by kernel_rfl) (by kernel_rfl) (by kernel_rfl) (fun _ _ _ h => h) (by kernel_rfl) (by intro w hSw; (try dsimp only at hSw); go_simp; first | done | with_reducible rfl) (by assumption) ?_
                  simp only [Act.put, List.setIfInBounds_toArray, List.set_cons_zero, List.set_cons_succ]
                  refine take_on 3 78 (v := ?_) rfl rfl (by kernel_rfl) (by kernel_rfl) (by kernel_rfl) (fun _ _ _ h => h) (by kernel_rfl) (by intro w hSw; (try dsimp only at hSw); go_simp; first | done | with_reducible rfl) (by assumption) ?_
                  simp only [Act.put, List.setIfInBounds_toArray, List.set_cons_zero, List.set_cons_succ]
                  refine take_on 4 79 (v := ?_) rfl rfl (by kernel_rfl) (by kernel_rfl) (by kernel_rfl) (fun _ _ _ h => h) (by kernel_rfl) (by intro w hSw; (try dsimp only at hSw); go_simp; first | done | with_reducible rfl) (by assumption) ?_
                  simp only [Act.put, List.setIfInBounds_toArray, List.set_cons_zero, List.set_cons_succ]
                  refine take_on 5 80 (v := ?_) rfl rfl (by kernel_rfl) (by kernel_rfl) (by kernel_rfl) (fun _ _ _ h => h) (by kernel_rfl) (by intro w hSw; (try dsimp only at hSw); go_simp; first | done | with_reducible rfl) (by assumption) ?_
                  simp only [Act.put, List.setIfInBounds_toArray, List.set_cons_zero, List.set_cons_succ]
                  refine take_on 6 81 (v := ?_) rfl rfl (by kernel_rfl) (by kernel_rfl) (by kernel_rfl) (fun _ _ _ h => h) (by kernel_rfl) (by intro w hSw; (try dsimp only at hSw); go_simp; first | done | with_reducible rfl) (by assumption) ?_
                  simp only [Act.put, List.setIfInBounds_toArray, List.set_cons_zero, List.set_cons_succ]
                  refine take_on 7 82 (v := ?_) rfl rfl (by kernel_rfl) (by kernel_rfl) (by kernel_rfl) (fun _ _ _ h => h) (by kernel_rfl) (by intro w hSw; (try dsimp only at hSw); go_simp; first | done | with_reducible rfl) (by assumption) ?_
                  simp only [Act.put, List.setIfInBounds_toArray, List.set_cons_zero, List.set_cons_succ]
                  refine take_on 8 83 (v := ?_) rfl rfl (by kernel_rfl) (by kernel_rfl) (by kernel_rfl) (fun _ _ _ h => h) (by kernel_rfl) (by intro w hSw; (try dsimp only at hSw); go_simp; first | done | with_reducible rfl) (by assumption) ?_
                  simp only [Act.put, List.setIfInBounds_toArray, List.set_cons_zero, List.set_cons_succ]
                  refine take_on 9 84 (v := ?_) rfl rfl (by kernel_rfl) (by kernel_rfl) (by kernel_rfl) (fun _ _ _ h => h) (by kernel_rfl) (by intro w hSw; (try dsimp only at hSw); go_simp; first | done | with_reducible rfl) (by assumption) ?_
                  simp only [Act.put, List.setIfInBounds_toArray, List.set_cons_zero, List.set_cons_succ]
                  refine take_on 10 85 (v := ?_) rfl rfl (by kernel_rfl) (by kernel_rfl) (by kernel_rfl) (fun _ _ _ h => h) (by kernel_rfl) (by intro w hSw; (try dsimp only at hSw); go_simp; first | done | with_reducible rfl) (by assumption) ?_
                  simp only [Act.put, List.setIfInBounds_toArray, List.set_cons_zero, List.set_cons_succ]
                  refine take_on 11 86 (v := ?_) rfl rfl (by kernel_rfl) (by kernel_rfl) (by kernel_rfl) (fun _ _ _ h => h) (by kernel_rfl) (by intro w hSw; (try dsimp only at hSw); go_simp; first | done | with_reducible rfl) (by assumption) ?_
                  simp only [Act.put, List.setIfInBounds_toArray, List.set_cons_zero, List.set_cons_succ]
                  refine take_on 12 87 (v := ?_) rfl rfl (by kernel_rfl) (by kernel_rfl) (by kernel_rfl) (fun _ _ _ h => h) (by kernel_rfl) (by intro w hSw; (try dsimp only at hSw); go_simp; first | done | with_reducible rfl) (by assumption) ?_
                  simp only [Act.put, List.setIfInBounds_toArray, List.set_cons_zero, List.set_cons_succ]
                  refine take_on 14 89 (v := ?_) rfl rfl (by kernel_rfl) (by kernel_rfl) (by kernel_rfl) (fun _ _ _ h => h) (by kernel_rfl) (by intro w hSw; (try dsimp only at hSw); go_simp; first | done | with_reducible rfl) (by assumption) ?_
                  simp only [Act.put, List.setIfInBounds_toArray, List.set_cons_zero, List.set_cons_succ]
                  refine take_on 15 90 (v := ?_) rfl rfl (by kernel_rfl) (by kernel_rfl) (by kernel_rfl) (fun _ _ _ h => h) (by kernel_rfl) (by intro w hSw; (try dsimp only at hSw); go_simp; first | done | with_reducible rfl) (by assumption) ?_
                  simp only [Act.put, List.setIfInBounds_toArray, List.set_cons_zero, List.set_cons_succ]
                  refine wpAnyH_ready (rs := [13, 16]) (by kernel_rfl) (by simp) ?_
                  refine AllReadyH.cons rfl (fun K hK => ?_) (AllReadyH.cons rfl (fun K hK => ?_) AllReadyH.nil)
                  · go_simp
                    refine hK.out _ _ ⟨cn2, ea2, eb2⟩ (fun hHeld => ?_)
                    clear hK K
                    refine wpAnyH_ready (rs := [16]) (by kernel_rfl) (by simp) ?_
                    refine AllReadyH.cons rfl (fun K hK => ?_) AllReadyH.nil
                    go_simp
                    refine hK.out _ _ ⟨alloc_cell cn2 _, alloc_cell ea2 _, alloc_cell eb2 _⟩ (fun hHeld => ?_)
                    clear hK K
                    refine wpAnyH_ready (rs := [17]) (by kernel_rfl) (by simp) ?_
                    refine AllReadyH.cons rfl (fun K hK => ?_) AllReadyH.nil
                    refine step_append_lies _ rfl (.tmp 88) (.tmp 91) 25 rfl W5.heap.size 3 i (.int .i64 0) 1 8 Tryd.underlying25 hi hz0 hz1 hz2 rfl (by decide) (vs bn) (nearL (bn : Int) (es.take k3)).length ((nearL (bn : Int) (es.take k3)).map (Value.int .i64)) rfl ((OW2.alloc (.cells #[.int .i64 (an : Int)] 3)).drew) ⟨wc.heap.size, 0, none⟩ 1 1 [.int .i64 (an : Int)] rfl rfl (one_cell' _ _ _ rfl) (by simp [Value.oneCell']) (by decide) (by have := unhide HLEN bn; unfold maxLen; omega) (by have := unhide HLEN bn; omega) (by simp; omega) (wc.heap.size + 1) (by simp) ?_
                    intro gg2 cap2 x2 own2 gr2 li2 lt2
                    have kg2 : Kept (vs bn).ownBlock.toList (wc.alloc (.cells #[.int .i64 (an : Int)] 3)) x2 := (Kept.refl _ _).drew.trans (grown_kept gr2)
                    have cn3 := kept_cell' (alloc_cell cn2 (.cells #[.int .i64 (an : Int)] 3)) kg2 (by simpa using fun h => (unhide HNO bn bnN _ h).1 rfl)
                    have ea3 := kept_cell' (alloc_cell ea2 (.cells #[.int .i64 (an : Int)] 3)) kg2 (by simpa using fun h => (unhide HNO bn bnN _ h).2 rfl)
                    have eb3 := kept_cell' (alloc_cell eb2 (.cells #[.int .i64 (an : Int)] 3)) kg2 (by simpa using fun h => (unhide HNO bn bnN _ h).2 rfl)
                    have rowe2 := kept_cell' rowd2 kg2 (by simpa using fun h => (unhide HNG bn bnN _ h) rfl)
                    have frz2 := kept_free' rowd2 (kept_free rowc2 fz2 ((Kept.refl [] wc).alloc (.cells #[.int .i64 (an : Int)] 3))) kg2 (by simpa using fun h => (unhide HNG bn bnN _ h) rfl)
                    change K (Act.put _ (some 92) _) _
                    refine hK.out _ _ ⟨cn3, ea3, eb3⟩ (fun hHeld => ?_)
                    clear hK K
                    simp only [Act.put, List.setIfInBounds_toArray, List.set_cons_zero, List.set_cons_succ]
                    refine take_on 18 93 (v := ?_) rfl rfl (by kernel_rfl) (by kernel_rfl) (by kernel_rfl) (fun _ _ _ h => h) (by kernel_rfl) (by intro w hSw; (try dsimp only at hSw); go_simp; first | done | with_reducible rfl) (by assumption) ?_
                    simp only [Act.put, List.setIfInBounds_toArray, List.set_cons_zero, List.set_cons_succ]
                    refine wpAnyH_ready (rs := [19]) (by kernel_rfl) (by simp) ?_
                    refine AllReadyH.cons rfl (fun K hK => ?_) AllReadyH.nil
                    go_simp
                    refine hK.out _ _ ⟨by rw [cell_set_ne hqg]; assumption, by rw [cell_set_ne hpg]; assumption, by rw [cell_set_ne hpg]; assumption⟩ (fun hHeld => ?_)
                    clear hK K
                    refine wpAnyH_done (by kernel_rfl) ?_ _
                    have gq2 : (wc.alloc (.cells #[.int .i64 (an : Int)] 3)).grownBy x2 (vs bn).ownBlock := ⟨gr2.os, gr2.tape, gr2.output, gr2.size, gr2.block⟩
                    have G2 := (unhide G1).push (a := bn) hg5 hWc bnN (y := (an : Int)) (g' := gg2) (cap' := cap2) (by simp only [if_neg hne]; exact own2) (by simp only [if_neg hne]; exact gq2) (by simp only [if_neg hne]; exact li2)
                    simp only [if_neg hne] at G2
                    have HG2 := hide (G2.congr (f' := fun i => nearL (i : Int) (es.take (k3 + 1))) (fun i hi => by
                      rw [unhide HST i]
                      unfold nearE
                      by_cases e1 : i = bn
                      · subst e1
                        rw [if_pos rfl, if_neg (by simp only; omega), if_pos rfl]
                      · rw [if_neg e1]
                        by_cases e2 : i = an
                        · subst e2
                          rw [if_pos rfl, if_pos rfl]
                        · rw [if_neg e2, if_neg (by simp only; omega), if_neg (by simp only; omega), List.append_nil]))
                    have HKd := hide (((unhide HKc).trans (((Kept.refl [] wc).alloc (.cells #[.int .i64 (an : Int)] 3)).mono (by simp))).trans' kg2 (fun j hj => Or.inr (own_block ((unhide hh3).1.own bn bnN) j (by simpa using hj))) |>.setCell (p := ⟨g, bn, none⟩) (Or.inl (by simp)) (.slice (some ⟨gg2, 0, none⟩) ((nearL (bn : Int) (es.take k3)).length + 1) cap2))
                    clear G2 gq2 gr2 kg2 own2 li2 lt2 cn3 ea3 eb3 rowe2 frz2 rowc2 rowd2 fz2 OW2 cn2 ea2 eb2
                    go_wp2
                    go_roundw
                    case rel => exact ⟨k3 + 1, _, by omega, by go_num, unhide HG2, unhide HKd⟩
                    case measure => simp [intOf]; omega
                  · go_simp
                    refine hK.out _ _ ⟨alloc_cell cn2 _, alloc_cell ea2 _, alloc_cell eb2 _⟩ (fun hHeld => ?_)
                    clear hK K
                    refine wpAnyH_ready (rs := [13]) (by kernel_rfl) (by simp) ?_
                    refine AllReadyH.cons rfl (fun K hK => ?_) AllReadyH.nil
                    go_simp
                    refine hK.out _ _ ⟨alloc_cell cn2 _, alloc_cell ea2 _, alloc_cell eb2 _⟩ (fun hHeld => ?_)
                    clear hK K
                    refine wpAnyH_ready (rs := [17]) (by kernel_rfl) (by simp) ?_
                    refine AllReadyH.cons rfl (fun K hK => ?_) AllReadyH.nil
                    refine step_append_lies _ rfl (.tmp 88) (.tmp 91) 25 rfl W5.heap.size 3 i (.int .i64 0) 1 8 Tryd.underlying25 hi hz0 hz1 hz2 rfl (by decide) (vs bn) (nearL (bn : Int) (es.take k3)).length ((nearL (bn : Int) (es.take k3)).map (Value.int .i64)) rfl ((OW2.alloc (.cells #[.int .i64 (an : Int)] 3)).drew) ⟨wc.heap.size, 0, none⟩ 1 1 [.int .i64 (an : Int)] rfl rfl (one_cell' _ _ _ rfl) (by simp [Value.oneCell']) (by decide) (by have := unhide HLEN bn; unfold maxLen; omega) (by have := unhide HLEN bn; omega) (by simp; omega) (wc.heap.size + 1) (by simp) ?_
                    intro gg2 cap2 x2 own2 gr2 li2 lt2
                    have kg2 : Kept (vs bn).ownBlock.toList (wc.alloc (.cells #[.int .i64 (an : Int)] 3)) x2 := (Kept.refl _ _).drew.trans (grown_kept gr2)
                    have cn3 := kept_cell' (alloc_cell cn2 (.cells #[.int .i64 (an : Int)] 3)) kg2 (by simpa using fun h => (unhide HNO bn bnN _ h).1 rfl)
                    have ea3 := kept_cell' (alloc_cell ea2 (.cells #[.int .i64 (an : Int)] 3)) kg2 (by simpa using fun h => (unhide HNO bn bnN _ h).2 rfl)
                    have eb3 := kept_cell' (alloc_cell eb2 (.cells #[.int .i64 (an : Int)] 3)) kg2 (by simpa using fun h => (unhide HNO bn bnN _ h).2 rfl)
                    have rowe2 := kept_cell' rowd2 kg2 (by simpa using fun h => (unhide HNG bn bnN _ h) rfl)
                    have frz2 := kept_free' rowd2 (kept_free rowc2 fz2 ((Kept.refl [] wc).alloc (.cells #[.int .i64 (an : Int)] 3))) kg2 (by simpa using fun h => (unhide HNG bn bnN _ h) rfl)
                    change K (Act.put _ (some 92) _) _
                    refine hK.out _ _ ⟨cn3, ea3, eb3⟩ (fun hHeld => ?_)
                    clear hK K
                    simp only [Act.put, List.setIfInBounds_toArray, List.set_cons_zero, List.set_cons_succ]
                    refine take_on 18 93 (v := ?_) rfl rfl (by kernel_rfl) (by kernel_rfl) (by kernel_rfl) (fun _ _ _ h => h) (by kernel_rfl) (by intro w hSw; (try dsimp only at hSw); go_simp; first | done | with_reducible rfl) (by assumption) ?_
                    simp only [Act.put, List.setIfInBounds_toArray, List.set_cons_zero, List.set_cons_succ]
                    refine wpAnyH_ready (rs := [19]) (by kernel_rfl) (by simp) ?_
                    refine AllReadyH.cons rfl (fun K hK => ?_) AllReadyH.nil
                    go_simp
                    refine hK.out _ _ ⟨by rw [cell_set_ne hqg]; assumption, by rw [cell_set_ne hpg]; assumption, by rw [cell_set_ne hpg]; assumption⟩ (fun hHeld => ?_)
                    clear hK K
                    refine wpAnyH_done (by kernel_rfl) ?_ _
                    have gq2 : (wc.alloc (.cells #[.int .i64 (an : Int)] 3)).grownBy x2 (vs bn).ownBlock := ⟨gr2.os, gr2.tape, gr2.output, gr2.size, gr2.block⟩
                    have G2 := (unhide G1).push (a := bn) hg5 hWc bnN (y := (an : Int)) (g' := gg2) (cap' := cap2) (by simp only [if_neg hne]; exact own2) (by simp only [if_neg hne]; exact gq2) (by simp only [if_neg hne]; exact li2)
                    simp only [if_neg hne] at G2
                    have HG2 := hide (G2.congr (f' := fun i => nearL (i : Int) (es.take (k3 + 1))) (fun i hi => by
                      rw [unhide HST i]
                      unfold nearE
                      by_cases e1 : i = bn
                      · subst e1
                        rw [if_pos rfl, if_neg (by simp only; omega), if_pos rfl]
                      · rw [if_neg e1]
                        by_cases e2 : i = an
                        · subst e2
                          rw [if_pos rfl, if_pos rfl]
                        · rw [if_neg e2, if_neg (by simp only; omega), if_neg (by simp only; omega), List.append_nil]))
                    have HKd := hide (((unhide HKc).trans (((Kept.refl [] wc).alloc (.cells #[.int .i64 (an : Int)] 3)).mono (by simp))).trans' kg2 (fun j hj => Or.inr (own_block ((unhide hh3).1.own bn bnN) j (by simpa using hj))) |>.setCell (p := ⟨g, bn, none⟩) (Or.inl (by simp)) (.slice (some ⟨gg2, 0, none⟩) ((nearL (bn : Int) (es.take k3)).length + 1) cap2))
                    clear G2 gq2 gr2 kg2 own2 li2 lt2 cn3 ea3 eb3 rowe2 frz2 rowc2 rowd2 fz2 OW2 cn2 ea2 eb2
                    go_wp2
                    go_roundw
                    case rel => exact ⟨k3 + 1, _, by omega, by go_num, unhide HG2, unhide HKd⟩
                    case measure => simp [intOf]; omega
              · have HDONE := hide (show RestAt wr q g N N s b ((N + 63) / 64) ((N + 63) / 64) es ws2 from ⟨(unhide L3).near, (unhide L3).left, by
                  have h1 := (unhide hh3).1.rows hg5 (unhide hh3).2.size hb5 (unhide hh2).1.gb
                  rw [show es.take k3 = es from List.take_of_length_le (by omega)] at h1
                  exact h1, (unhide L3).set, (unhide L3).qb, Nat.le_refl _⟩)
                go_wp2
                go_ret
                exact ⟨q, g, s, b, _, _, ws2, rfl, unhide HDONE, unhide HGE, unhide HFIN, unhide KW3⟩
end Go.Proofs.YtmpcnepiogjokaaDoor

namespace Go.Proofs.YtmpcnepiogjokaaDoor
open Go.RowKit

/-- The neighbours of each vertex, in memory, in blocks from B on and below T. -/
structure NearAt (w : World) (B T g N : Nat) (es : List E) : Prop where
  gB : B ≤ g ∧ g < T
  row : ∀ i, i < N → ∃ v, w.cell? ⟨g, i, none⟩ = some v ∧ IntsAt w v (nearL (i : Int) es) ∧ ∀ a m c, v = .slice (some a) m c → B ≤ a.block ∧ a.block < T
theorem NearAt.kept {w w' : World} {B T g N : Nat} {es : List E} {bs : List Nat} (h : NearAt w B T g N es) (k : Kept bs w w') (hb : ∀ x, x ∈ bs → x < B ∨ T ≤ x) : NearAt w' B T g N es :=
  ⟨h.gB, fun i hi => by
    obtain ⟨v, h1, h2, h3⟩ := h.row i hi
    exact ⟨v, by rw [k.cell (lt_of_cell h1) (fun hm => by have := hb _ hm; have := h.gB; omega)]; exact h1, h2.keptAt k (fun a m c e hm => by have := hb _ hm; have := h3 a m c e; omega), h3⟩⟩

set_option maxRecDepth 20000 in
set_option maxHeartbeats 8000000 in
theorem nearOf_any {w : World} {N : Nat} {v : Value} {es : List E} (h : EdgesAt w v es) (hr : rightB (N : Int) es = true) :
    Calls Tryd.prog 46 #[gv N v] w fun e w' => ∃ g, e = .returned (.slice (some ⟨g, 0, none⟩) N N) ∧ NearAt w' w.heap.size w'.heap.size g N es ∧ Kept [] w w' := by
  obtain ⟨i, hi, hz0, hz1, hz2⟩ := info_parts infoInt
  obtain ⟨ao, cap, rfl, _⟩ := h.shape
  obtain ⟨_, hN, hel, _, hok⟩ := right_rise hr
  have HOK := hide hok
  have HH := hide h
  have hmk := make_lists N (by omega)
  clear h hr hok
  go_enter Tryd.func46, Tryd.ntmps46
  go_wp2
  clear hmk
  have hs5 : (w.alloc (.cells #[.int .i64 (N : Int), .slice ao es.length cap] 24)).heap.size = w.heap.size + 1 := by simp
  have GB : ((w.alloc (.cells #[.int .i64 (N : Int), .slice ao es.length cap] 24)).alloc (.cells (madeCells #[.slice none 0 0] N) 25)).heap[w.heap.size + 1]? = some (.cells (madeCells #[.slice none 0 0] N) 25 (0, 0)) := by
    rw [← hs5]; exact new_block _ _
  have KW := hide (((Kept.refl [] w).alloc (.cells #[.int .i64 (N : Int), .slice ao es.length cap] 24)).alloc (.cells (madeCells #[.slice none 0 0] N) 25))
  have GR := hide (Grid.start (B := ((w.alloc (.cells #[.int .i64 (N : Int), .slice ao es.length cap] 24)).alloc (.cells (madeCells #[.slice none 0 0] N) 25)).heap.size) GB)
  have hg5 : w.heap.size + 1 < ((w.alloc (.cells #[.int .i64 (N : Int), .slice ao es.length cap] 24)).alloc (.cells (madeCells #[.slice none 0 0] N) 25)).heap.size := by simp
  have HGW := hide (show w.heap.size ≤ w.heap.size + 1 by omega)
  clear GB hs5
  try rw [World.size_alloc]
  generalize (w.alloc (.cells #[.int .i64 (N : Int), .slice ao es.length cap] 24)).alloc (.cells (madeCells #[.slice none 0 0] N) 25) = W5 at *
  generalize w.heap.size + 1 = g at *
  go_loopw [12] (fun cc wr => ∃ (k : Nat) (vs : Nat → Value), k ≤ es.length ∧ cc = .int .i64 k ∧ Hid (Grid wr W5.heap.size g N (fun i => nearL (i : Int) (es.take k)) vs ∧ Kept [g] W5 wr)) (fun cc _ => es.length - (intOf cc).toNat)
  case atStart => exact ⟨0, _, Nat.zero_le _, rfl, (unhide GR).congr (fun i _ => rfl), Kept.refl _ _⟩
  case round =>
    obtain ⟨k3, vs, hk3, rfl, hh3⟩ := hrel
    have KW3 := hide ((unhide KW).trans' (unhide hh3).2 (fun i hi => by simp at hi; subst hi; exact Or.inr (unhide HGW)))
    by_cases hlt3 : k3 < es.length
    · obtain ⟨ao2, _, hv2, _, _, hin2⟩ := ((unhide HH).kept (unhide KW3)).shape
      obtain ⟨eg, eo, he2, hin⟩ := hin2 (by omega)
      have hao : ao = some ⟨eg, eo, none⟩ := by simp at hv2; rw [hv2.1, he2]
      subst hao
      have d0 := hin.a k3 hlt3; have d1 := hin.b k3 hlt3
      have ok := okE_iff.1 (unhide HOK _ (at_mem hlt3))
      have HST := hide (fun i : Nat => nearL_step (v := (i : Int)) (es := es) (k := k3) hlt3 rfl rfl)
      unfold at_ at ok
      simp only at ok
      obtain ⟨an, ha⟩ := Int.eq_ofNat_of_zero_le ok.1
      obtain ⟨bn, hb⟩ := Int.eq_ofNat_of_zero_le (show 0 ≤ eB es k3 by omega)
      rw [ha, hb] at ok
      rw [ha] at d0; rw [hb] at d1
      rw [ha, hb] at HST
      have anN : an < N := by omega
      have bnN : bn < N := by omega
      have hab : an < bn := by omega
      clear hin hin2 hv2 he2 ha hb ok
      have HLEN := hide (fun i : Nat => Nat.le_trans (nearL_len (i : Int) (es.take k3)) (Nat.le_trans (List.length_take_le _ _) (Nat.le_of_lt hlt3)))
      obtain ⟨ea0, eb0⟩ := box2 (Kept.refl [] (wr.alloc (.cells #[.int .i64 (an : Int), .int .i64 (bn : Int)] 43))) (by simp)
      have hgr : g < wr.heap.size := Nat.lt_of_lt_of_le hg5 (unhide hh3).2.size
      have G0 := hide ((unhide hh3).1.kept hgr ((Kept.refl [] wr).alloc (.cells #[.int .i64 (an : Int), .int .i64 (bn : Int)] 43)))
      have HKb := hide ((unhide hh3).2.trans (((Kept.refl [] wr).alloc (.cells #[.int .i64 (an : Int), .int .i64 (bn : Int)] 43)).mono (by simp)))
      have HLT := hide (fun i hi => own_lt ((unhide hh3).1.own i hi))
      have t0 : (0 : Int) ≤ (k3 : Int) := by omega
      have t1 : (k3 : Int) < (es.length : Int) := by omega
      have a0 : (0 : Int) ≤ (an : Int) := by omega
      have a1 : (an : Int) < (N : Int) := by omega
      have b0' : (0 : Int) ≤ (bn : Int) := by omega
      have b1' : (bn : Int) < (N : Int) := by omega
      go_wp2_with fail
      generalize hwb : wr.alloc (.cells #[.int .i64 (an : Int), .int .i64 (bn : Int)] 43) = wb at *
      have hpe : g ≠ wr.heap.size := by omega
      generalize wr.heap.size = pe at *
      clear hwb d0 d1
      have HNO := hide (show ∀ i, i < N → ∀ k, (vs i).ownBlock = some k → pe ≠ k from fun i hi k hk => by have := unhide HLT i hi k hk; omega)
      have HNG := hide (show ∀ i, i < N → ∀ k, (vs i).ownBlock = some k → g ≠ k from fun i hi k hk => by have := own_block ((unhide hh3).1.own i hi) k hk; omega)
      have rowc0 := (unhide G0).cell an anN
      have fz0 := (unhide G0).free an
      have OW0 := (unhide G0).own an anN
      have hpg : pe ≠ g := hpe.symm
      have hWb : W5.heap.size ≤ wb.heap.size := (unhide HKb).size
      have rowd0 := alloc_cell rowc0 (.cells #[.int .i64 (bn : Int)] 3)
      refine wp_region_held_drew (S := (fun W => W.cell? ⟨pe, 0, none⟩ = some (.int .i64 (an : Int)) ∧ W.cell? ⟨pe, 1, none⟩ = some (.int .i64 (bn : Int)))) (by kernel_rfl) ⟨ea0, eb0⟩ (fun hHeld => ?_)
      refine take_on 0 16 (v := ?_) rfl rfl (by kernel_rfl) (by kernel_rfl) (by kernel_rfl) (fun _ _ _ h => h) (by kernel_rfl) (by intro w hSw; (try dsimp only at hSw); go_simp; first | done | with_reducible rfl) (by assumption) ?_
      simp only [Act.put, List.setIfInBounds_toArray, List.set_cons_zero, List.set_cons_succ]
      refine take_on 1 17 (v := ?_) rfl rfl (by kernel_rfl) (by kernel_rfl) (by kernel_rfl) (fun _ _ _ h => h) (by kernel_rfl) (by intro w hSw; (try dsimp only at hSw); go_simp; first | done | with_reducible rfl) (by assumption) ?_
      simp only [Act.put, List.setIfInBounds_toArray, List.set_cons_zero, List.set_cons_succ]
      refine take_on 2 18 (v := ?_) rfl rfl (by kernel_rfl) (by kernel_rfl) (by kernel_rfl) (fun _ _ _ h => h) (by kernel_rfl) (by intro w hSw; (try dsimp only at hSw); go_simp; first | done | with_reducible rfl) (by assumption) ?_
      simp only [Act.put, List.setIfInBounds_toArray, List.set_cons_zero, List.set_cons_succ]
      refine take_on 3 19 (v := ?_) rfl rfl (by kernel_rfl) (by kernel_rfl) (by kernel_rfl) (fun _ _ _ h => h) (by kernel_rfl) (by intro w hSw; (try dsimp only at hSw); go_simp; first | done | with_reducible rfl) (by assumption) ?_
      simp only [Act.put, List.setIfInBounds_toArray, List.set_cons_zero, List.set_cons_succ]
      refine take_on 4 20 (v := ?_) rfl rfl (by kernel_rfl) (by kernel_rfl) (by kernel_rfl) (fun _ _ _ h => h) (by kernel_rfl) (by intro w hSw; (try dsimp only at hSw); go_simp; first | done | with_reducible rfl) (by assumption) ?_
      simp only [Act.put, List.setIfInBounds_toArray, List.set_cons_zero, List.set_cons_succ]
      refine take_on 5 21 (v := ?_) rfl rfl (by kernel_rfl) (by kernel_rfl) (by kernel_rfl) (fun _ _ _ h => h) (by kernel_rfl) (by intro w hSw; (try dsimp only at hSw); go_simp; first | done | with_reducible rfl) (by assumption) ?_
      simp only [Act.put, List.setIfInBounds_toArray, List.set_cons_zero, List.set_cons_succ]
      refine take_on 6 22 (v := ?_) rfl rfl (by kernel_rfl) (by kernel_rfl) (by kernel_rfl) (fun _ _ _ h => h) (by kernel_rfl) (by intro w hSw; (try dsimp only at hSw); go_simp; first | done | with_reducible rfl) (by assumption) ?_
      simp only [Act.put, List.setIfInBounds_toArray, List.set_cons_zero, List.set_cons_succ]
      refine take_on 8 24 (v := ?_) rfl rfl (by kernel_rfl) (by kernel_rfl) (by kernel_rfl) (fun _ _ _ h => h) (by kernel_rfl) (by intro w hSw; (try dsimp only at hSw); go_simp; first | done | with_reducible rfl) (by assumption) ?_
      simp only [Act.put, List.setIfInBounds_toArray, List.set_cons_zero, List.set_cons_succ]
      refine take_on 9 25 (v := ?_) rfl rfl (by kernel_rfl) (by kernel_rfl) (by kernel_rfl) (fun _ _ _ h => h) (by kernel_rfl) (by intro w hSw; (try dsimp only at hSw); go_simp; first | done | with_reducible rfl) (by assumption) ?_
      simp only [Act.put, List.setIfInBounds_toArray, List.set_cons_zero, List.set_cons_succ]
      refine wpAnyH_ready (rs := [7, 10]) (by kernel_rfl) (by simp) ?_
      refine AllReadyH.cons rfl (fun K hK => ?_) (AllReadyH.cons rfl (fun K hK => ?_) AllReadyH.nil)
      · go_simp
        refine hK.out _ _ ⟨ea0, eb0⟩ (fun hHeld => ?_)
        clear hK K
        refine wpAnyH_ready (rs := [10]) (by kernel_rfl) (by simp) ?_
        refine AllReadyH.cons rfl (fun K hK => ?_) AllReadyH.nil
        go_simp
        refine hK.out _ _ ⟨alloc_cell ea0 _, alloc_cell eb0 _⟩ (fun hHeld => ?_)
        clear hK K
        refine wpAnyH_ready (rs := [11]) (by kernel_rfl) (by simp) ?_
        refine AllReadyH.cons rfl (fun K hK => ?_) AllReadyH.nil
        refine step_append_lies _ rfl (.tmp 23) (.tmp 26) 25 rfl W5.heap.size 3 i (.int .i64 0) 1 8 Tryd.underlying25 hi hz0 hz1 hz2 rfl (by decide) (vs an) (nearL (an : Int) (es.take k3)).length ((nearL (an : Int) (es.take k3)).map (Value.int .i64)) rfl ((OW0.alloc (.cells #[.int .i64 (bn : Int)] 3)).drew) ⟨wb.heap.size, 0, none⟩ 1 1 [.int .i64 (bn : Int)] rfl rfl (one_cell' _ _ _ rfl) (by simp [Value.oneCell']) (by decide) (by have := unhide HLEN an; unfold maxLen; omega) (by have := unhide HLEN an; omega) (by simp; omega) (wb.heap.size + 1) (by simp) ?_
        intro gg0 cap0 x0 own0 gr0 li0 lt0
        have kg0 : Kept (vs an).ownBlock.toList (wb.alloc (.cells #[.int .i64 (bn : Int)] 3)) x0 := (Kept.refl _ _).drew.trans (grown_kept gr0)
        have ea1 := kept_cell' (alloc_cell ea0 (.cells #[.int .i64 (bn : Int)] 3)) kg0 (by simpa using fun h => (unhide HNO an anN _ h) rfl)
        have eb1 := kept_cell' (alloc_cell eb0 (.cells #[.int .i64 (bn : Int)] 3)) kg0 (by simpa using fun h => (unhide HNO an anN _ h) rfl)
        have rowe0 := kept_cell' rowd0 kg0 (by simpa using fun h => (unhide HNG an anN _ h) rfl)
        have frz0 := kept_free' rowd0 (kept_free rowc0 fz0 ((Kept.refl [] wb).alloc (.cells #[.int .i64 (bn : Int)] 3))) kg0 (by simpa using fun h => (unhide HNG an anN _ h) rfl)
        change K (Act.put _ (some 27) _) _
        refine hK.out _ _ ⟨ea1, eb1⟩ (fun hHeld => ?_)
        clear hK K
        simp only [Act.put, List.setIfInBounds_toArray, List.set_cons_zero, List.set_cons_succ]
        refine take_on 12 28 (v := ?_) rfl rfl (by kernel_rfl) (by kernel_rfl) (by kernel_rfl) (fun _ _ _ h => h) (by kernel_rfl) (by intro w hSw; (try dsimp only at hSw); go_simp; first | done | with_reducible rfl) (by assumption) ?_
        simp only [Act.put, List.setIfInBounds_toArray, List.set_cons_zero, List.set_cons_succ]
        refine wpAnyH_ready (rs := [13]) (by kernel_rfl) (by simp) ?_
        refine AllReadyH.cons rfl (fun K hK => ?_) AllReadyH.nil
        go_simp
        refine hK.out _ _ ⟨by rw [cell_set_ne hpg]; assumption, by rw [cell_set_ne hpg]; assumption⟩ (fun hHeld => ?_)
        clear hK K
        refine wpAnyH_done (by kernel_rfl) ?_ _
        have gq0 : (wb.alloc (.cells #[.int .i64 (bn : Int)] 3)).grownBy x0 (vs an).ownBlock := ⟨gr0.os, gr0.tape, gr0.output, gr0.size, gr0.block⟩
        have G1 := hide ((unhide G0).push hg5 hWb anN (y := (bn : Int)) own0 gq0 li0)
        have HKc := hide (((unhide HKb).trans (((Kept.refl [] wb).alloc (.cells #[.int .i64 (bn : Int)] 3)).mono (by simp))).trans' kg0 (fun j hj => Or.inr (own_block OW0 j (by simpa using hj))) |>.setCell (p := ⟨g, an, none⟩) (Or.inl (by simp)) (.slice (some ⟨gg0, 0, none⟩) ((nearL (an : Int) (es.take k3)).length + 1) cap0))
        have ea2 : (x0.setCell ⟨g, an, none⟩ (.slice (some ⟨gg0, 0, none⟩) ((nearL (an : Int) (es.take k3)).length + 1) cap0)).cell? ⟨pe, 0, none⟩ = some (.int .i64 (an : Int)) := by rw [cell_set_ne hpg]; exact ea1
        have eb2 : (x0.setCell ⟨g, an, none⟩ (.slice (some ⟨gg0, 0, none⟩) ((nearL (an : Int) (es.take k3)).length + 1) cap0)).cell? ⟨pe, 1, none⟩ = some (.int .i64 (bn : Int)) := by rw [cell_set_ne hpg]; exact eb1
        have hne : ¬ bn = an := by omega
        clear gq0 gr0 kg0 own0 li0 lt0 ea1 eb1 rowe0 frz0 rowc0 rowd0 fz0 OW0 ea0 eb0
        go_wp2_with fail
        generalize x0.setCell ⟨g, an, none⟩ (.slice (some ⟨gg0, 0, none⟩) ((nearL (an : Int) (es.take k3)).length + 1) cap0) = wc at *
        have rowc2 := (unhide G1).cell bn bnN
        have fz2 := (unhide G1).free bn
        have OW2 := (unhide G1).own bn bnN
        simp only [if_neg hne] at rowc2 OW2
        have hWc : W5.heap.size ≤ wc.heap.size := (unhide HKc).size
        have rowd2 := alloc_cell rowc2 (.cells #[.int .i64 (an : Int)] 3)
        refine wp_region_held_drew (S := (fun W => W.cell? ⟨pe, 0, none⟩ = some (.int .i64 (an : Int)) ∧ W.cell? ⟨pe, 1, none⟩ = some (.int .i64 (bn : Int)))) (by kernel_rfl) ⟨ea2, eb2⟩ (fun hHeld => ?_)
        refine take_on 0 29 (v := ?_) rfl rfl (by kernel_rfl) (by kernel_rfl) (by kernel_rfl) (fun _ _ _ h => h) (by kernel_rfl) (by intro w hSw; (try dsimp only at hSw); go_simp; first | done | with_reducible rfl) (by assumption) ?_
        simp only [Act.put, List.setIfInBounds_toArray, List.set_cons_zero, List.set_cons_succ]
        refine take_on 1 30 (v := ?_) rfl rfl (by kernel_rfl) (by kernel_rfl) (by kernel_rfl) (fun _ _ _ h => h) (by kernel_rfl) (by intro w hSw; (try dsimp only at hSw); go_simp; first | done | with_reducible rfl) (by assumption) ?_
        simp only [Act.put, List.setIfInBounds_toArray, List.set_cons_zero, List.set_cons_succ]
        refine take_on 2 31 (v := ?_) rfl rfl (by kernel_rfl) (by kernel_rfl) (by kernel_rfl) (fun _ _ _ h => h) (by kernel_rfl) (by intro w hSw; (try dsimp only at hSw); go_simp; first | done | with_reducible rfl) (by assumption) ?_
        simp only [Act.put, List.setIfInBounds_toArray, List.set_cons_zero, List.set_cons_succ]
        refine take_on 3 32 (v := ?_) rfl rfl (by kernel_rfl) (by kernel_rfl) (by kernel_rfl) (fun _ _ _ h => h) (by kernel_rfl) (by intro w hSw; (try dsimp only at hSw); go_simp; first | done | with_reducible rfl) (by assumption) ?_
        simp only [Act.put, List.setIfInBounds_toArray, List.set_cons_zero, List.set_cons_succ]
        refine take_on 4 33 (v := ?_) rfl rfl (by kernel_rfl) (by kernel_rfl) (by kernel_rfl) (fun _ _ _ h => h) (by kernel_rfl) (by intro w hSw; (try dsimp only at hSw); go_simp; first | done | with_reducible rfl) (by assumption) ?_
        simp only [Act.put, List.setIfInBounds_toArray, List.set_cons_zero, List.set_cons_succ]
        refine take_on 5 34 (v := ?_) rfl rfl (by kernel_rfl) (by kernel_rfl) (by kernel_rfl) (fun _ _ _ h => h) (by kernel_rfl) (by intro w hSw; (try dsimp only at hSw); go_simp; first | done | with_reducible rfl) (by assumption) ?_
        simp only [Act.put, List.setIfInBounds_toArray, List.set_cons_zero, List.set_cons_succ]
        refine take_on 6 35 (v := ?_) rfl rfl (by kernel_rfl) (by kernel_rfl) (by kernel_rfl) (fun _ _ _ h => h) (by kernel_rfl) (by intro w hSw; (try dsimp only at hSw); go_simp; first | done | with_reducible rfl) (by assumption) ?_
        simp only [Act.put, List.setIfInBounds_toArray, List.set_cons_zero, List.set_cons_succ]
        refine take_on 8 37 (v := ?_) rfl rfl (by kernel_rfl) (by kernel_rfl) (by kernel_rfl) (fun _ _ _ h => h) (by kernel_rfl) (by intro w hSw; (try dsimp only at hSw); go_simp; first | done | with_reducible rfl) (by assumption) ?_
        simp only [Act.put, List.setIfInBounds_toArray, List.set_cons_zero, List.set_cons_succ]
        refine take_on 9 38 (v := ?_) rfl rfl (by kernel_rfl) (by kernel_rfl) (by kernel_rfl) (fun _ _ _ h => h) (by kernel_rfl) (by intro w hSw; (try dsimp only at hSw); go_simp; first | done | with_reducible rfl) (by assumption) ?_
        simp only [Act.put, List.setIfInBounds_toArray, List.set_cons_zero, List.set_cons_succ]
        refine wpAnyH_ready (rs := [7, 10]) (by kernel_rfl) (by simp) ?_
        refine AllReadyH.cons rfl (fun K hK => ?_) (AllReadyH.cons rfl (fun K hK => ?_) AllReadyH.nil)
        · go_simp
          refine hK.out _ _ ⟨ea2, eb2⟩ (fun hHeld => ?_)
          clear hK K
          refine wpAnyH_ready (rs := [10]) (by kernel_rfl) (by simp) ?_
          refine AllReadyH.cons rfl (fun K hK => ?_) AllReadyH.nil
          go_simp
          refine hK.out _ _ ⟨alloc_cell ea2 _, alloc_cell eb2 _⟩ (fun hHeld => ?_)
          clear hK K
          refine wpAnyH_ready (rs := [11]) (by kernel_rfl) (by simp) ?_
          refine AllReadyH.cons rfl (fun K hK => ?_) AllReadyH.nil
          refine step_append_lies _ rfl (.tmp 36) (.tmp 39) 25 rfl W5.heap.size 3 i (.int .i64 0) 1 8 Tryd.underlying25 hi hz0 hz1 hz2 rfl (by decide) (vs bn) (nearL (bn : Int) (es.take k3)).length ((nearL (bn : Int) (es.take k3)).map (Value.int .i64)) rfl ((OW2.alloc (.cells #[.int .i64 (an : Int)] 3)).drew) ⟨wc.heap.size, 0, none⟩ 1 1 [.int .i64 (an : Int)] rfl rfl (one_cell' _ _ _ rfl) (by simp [Value.oneCell']) (by decide) (by have := unhide HLEN bn; unfold maxLen; omega) (by have := unhide HLEN bn; omega) (by simp; omega) (wc.heap.size + 1) (by simp) ?_
          intro gg2 cap2 x2 own2 gr2 li2 lt2
          have kg2 : Kept (vs bn).ownBlock.toList (wc.alloc (.cells #[.int .i64 (an : Int)] 3)) x2 := (Kept.refl _ _).drew.trans (grown_kept gr2)
          have ea3 := kept_cell' (alloc_cell ea2 (.cells #[.int .i64 (an : Int)] 3)) kg2 (by simpa using fun h => (unhide HNO bn bnN _ h) rfl)
          have eb3 := kept_cell' (alloc_cell eb2 (.cells #[.int .i64 (an : Int)] 3)) kg2 (by simpa using fun h => (unhide HNO bn bnN _ h) rfl)
          have rowe2 := kept_cell' rowd2 kg2 (by simpa using fun h => (unhide HNG bn bnN _ h) rfl)
          have frz2 := kept_free' rowd2 (kept_free rowc2 fz2 ((Kept.refl [] wc).alloc (.cells #[.int .i64 (an : Int)] 3))) kg2 (by simpa using fun h => (unhide HNG bn bnN _ h) rfl)
          change K (Act.put _ (some 40) _) _
          refine hK.out _ _ ⟨ea3, eb3⟩ (fun hHeld => ?_)
          clear hK K
          simp only [Act.put, List.setIfInBounds_toArray, List.set_cons_zero, List.set_cons_succ]
          refine take_on 12 41 (v := ?_) rfl rfl (by kernel_rfl) (by kernel_rfl) (by kernel_rfl) (fun _ _ _ h => h) (by kernel_rfl) (by intro w hSw; (try dsimp only at hSw); go_simp; first | done | with_reducible rfl) (by assumption) ?_
          simp only [Act.put, List.setIfInBounds_toArray, List.set_cons_zero, List.set_cons_succ]
          refine wpAnyH_ready (rs := [13]) (by kernel_rfl) (by simp) ?_
          refine AllReadyH.cons rfl (fun K hK => ?_) AllReadyH.nil
          go_simp
          refine hK.out _ _ ⟨by rw [cell_set_ne hpg]; assumption, by rw [cell_set_ne hpg]; assumption⟩ (fun hHeld => ?_)
          clear hK K
          refine wpAnyH_done (by kernel_rfl) ?_ _
          have gq2 : (wc.alloc (.cells #[.int .i64 (an : Int)] 3)).grownBy x2 (vs bn).ownBlock := ⟨gr2.os, gr2.tape, gr2.output, gr2.size, gr2.block⟩
          have G2 := (unhide G1).push (a := bn) hg5 hWc bnN (y := (an : Int)) (g' := gg2) (cap' := cap2) (by simp only [if_neg hne]; exact own2) (by simp only [if_neg hne]; exact gq2) (by simp only [if_neg hne]; exact li2)
          simp only [if_neg hne] at G2
          have HG2 := hide (G2.congr (f' := fun i => nearL (i : Int) (es.take (k3 + 1))) (fun i hi => by
            rw [unhide HST i]
            unfold nearE
            by_cases e1 : i = bn
            · subst e1
              rw [if_pos rfl, if_neg (by simp only; omega), if_pos rfl]
            · rw [if_neg e1]
              by_cases e2 : i = an
              · subst e2
                rw [if_pos rfl, if_pos rfl]
              · rw [if_neg e2, if_neg (by simp only; omega), if_neg (by simp only; omega), List.append_nil]))
          have HKd := hide (((unhide HKc).trans (((Kept.refl [] wc).alloc (.cells #[.int .i64 (an : Int)] 3)).mono (by simp))).trans' kg2 (fun j hj => Or.inr (own_block ((unhide hh3).1.own bn bnN) j (by simpa using hj))) |>.setCell (p := ⟨g, bn, none⟩) (Or.inl (by simp)) (.slice (some ⟨gg2, 0, none⟩) ((nearL (bn : Int) (es.take k3)).length + 1) cap2))
          clear G2 gq2 gr2 kg2 own2 li2 lt2 ea3 eb3 rowe2 frz2 rowc2 rowd2 fz2 OW2 ea2 eb2
          go_wp2
          go_roundw
          case rel => exact ⟨k3 + 1, _, by omega, by go_num, unhide HG2, unhide HKd⟩
          case measure => simp [intOf]; omega
        · go_simp
          refine hK.out _ _ ⟨alloc_cell ea2 _, alloc_cell eb2 _⟩ (fun hHeld => ?_)
          clear hK K
          refine wpAnyH_ready (rs := [7]) (by kernel_rfl) (by simp) ?_
          refine AllReadyH.cons rfl (fun K hK => ?_) AllReadyH.nil
          go_simp
          refine hK.out _ _ ⟨alloc_cell ea2 _, alloc_cell eb2 _⟩ (fun hHeld => ?_)
          clear hK K
          refine wpAnyH_ready (rs := [11]) (by kernel_rfl) (by simp) ?_
          refine AllReadyH.cons rfl (fun K hK => ?_) AllReadyH.nil
          refine step_append_lies _ rfl (.tmp 36) (.tmp 39) 25 rfl W5.heap.size 3 i (.int .i64 0) 1 8 Tryd.underlying25 hi hz0 hz1 hz2 rfl (by decide) (vs bn) (nearL (bn : Int) (es.take k3)).length ((nearL (bn : Int) (es.take k3)).map (Value.int .i64)) rfl ((OW2.alloc (.cells #[.int .i64 (an : Int)] 3)).drew) ⟨wc.heap.size, 0, none⟩ 1 1 [.int .i64 (an : Int)] rfl rfl (one_cell' _ _ _ rfl) (by simp [Value.oneCell']) (by decide) (by have := unhide HLEN bn; unfold maxLen; omega) (by have := unhide HLEN bn; omega) (by simp; omega) (wc.heap.size + 1) (by simp) ?_
          intro gg2 cap2 x2 own2 gr2 li2 lt2
          have kg2 : Kept (vs bn).ownBlock.toList (wc.alloc (.cells #[.int .i64 (an : Int)] 3)) x2 := (Kept.refl _ _).drew.trans (grown_kept gr2)
          have ea3 := kept_cell' (alloc_cell ea2 (.cells #[.int .i64 (an : Int)] 3)) kg2 (by simpa using fun h => (unhide HNO bn bnN _ h) rfl)
          have eb3 := kept_cell' (alloc_cell eb2 (.cells #[.int .i64 (an : Int)] 3)) kg2 (by simpa using fun h => (unhide HNO bn bnN _ h) rfl)
          have rowe2 := kept_cell' rowd2 kg2 (by simpa using fun h => (unhide HNG bn bnN _ h) rfl)
          have frz2 := kept_free' rowd2 (kept_free rowc2 fz2 ((Kept.refl [] wc).alloc (.cells #[.int .i64 (an : Int)] 3))) kg2 (by simpa using fun h => (unhide HNG bn bnN _ h) rfl)
          change K (Act.put _ (some 40) _) _
          refine hK.out _ _ ⟨ea3, eb3⟩ (fun hHeld => ?_)
          clear hK K
          simp only [Act.put, List.setIfInBounds_toArray, List.set_cons_zero, List.set_cons_succ]
          refine take_on 12 41 (v := ?_) rfl rfl (by kernel_rfl) (by kernel_rfl) (by kernel_rfl) (fun _ _ _ h => h) (by kernel_rfl) (by intro w hSw; (try dsimp only at hSw); go_simp; first | done | with_reducible rfl) (by assumption) ?_
          simp only [Act.put, List.setIfInBounds_toArray, List.set_cons_zero, List.set_cons_succ]
          refine wpAnyH_ready (rs := [13]) (by kernel_rfl) (by simp) ?_
          refine AllReadyH.cons rfl (fun K hK => ?_) AllReadyH.nil
          go_simp
          refine hK.out _ _ ⟨by rw [cell_set_ne hpg]; assumption, by rw [cell_set_ne hpg]; assumption⟩ (fun hHeld => ?_)
          clear hK K
          refine wpAnyH_done (by kernel_rfl) ?_ _
          have gq2 : (wc.alloc (.cells #[.int .i64 (an : Int)] 3)).grownBy x2 (vs bn).ownBlock := ⟨gr2.os, gr2.tape, gr2.output, gr2.size, gr2.block⟩
          have G2 := (unhide G1).push (a := bn) hg5 hWc bnN (y := (an : Int)) (g' := gg2) (cap' := cap2) (by simp only [if_neg hne]; exact own2) (by simp only [if_neg hne]; exact gq2) (by simp only [if_neg hne]; exact li2)
          simp only [if_neg hne] at G2
          have HG2 := hide (G2.congr (f' := fun i => nearL (i : Int) (es.take (k3 + 1))) (fun i hi => by
            rw [unhide HST i]
            unfold nearE
            by_cases e1 : i = bn
            · subst e1
              rw [if_pos rfl, if_neg (by simp only; omega), if_pos rfl]
            · rw [if_neg e1]
              by_cases e2 : i = an
              · subst e2
                rw [if_pos rfl, if_pos rfl]
              · rw [if_neg e2, if_neg (by simp only; omega), if_neg (by simp only; omega), List.append_nil]))
          have HKd := hide (((unhide HKc).trans (((Kept.refl [] wc).alloc (.cells #[.int .i64 (an : Int)] 3)).mono (by simp))).trans' kg2 (fun j hj => Or.inr (own_block ((unhide hh3).1.own bn bnN) j (by simpa using hj))) |>.setCell (p := ⟨g, bn, none⟩) (Or.inl (by simp)) (.slice (some ⟨gg2, 0, none⟩) ((nearL (bn : Int) (es.take k3)).length + 1) cap2))
          clear G2 gq2 gr2 kg2 own2 li2 lt2 ea3 eb3 rowe2 frz2 rowc2 rowd2 fz2 OW2 ea2 eb2
          go_wp2
          go_roundw
          case rel => exact ⟨k3 + 1, _, by omega, by go_num, unhide HG2, unhide HKd⟩
          case measure => simp [intOf]; omega
      · go_simp
        refine hK.out _ _ ⟨alloc_cell ea0 _, alloc_cell eb0 _⟩ (fun hHeld => ?_)
        clear hK K
        refine wpAnyH_ready (rs := [7]) (by kernel_rfl) (by simp) ?_
        refine AllReadyH.cons rfl (fun K hK => ?_) AllReadyH.nil
        go_simp
        refine hK.out _ _ ⟨alloc_cell ea0 _, alloc_cell eb0 _⟩ (fun hHeld => ?_)
        clear hK K
        refine wpAnyH_ready (rs := [11]) (by kernel_rfl) (by simp) ?_
        refine AllReadyH.cons rfl (fun K hK => ?_) AllReadyH.nil
        refine step_append_lies _ rfl (.tmp 23) (.tmp 26) 25 rfl W5.heap.size 3 i (.int .i64 0) 1 8 Tryd.underlying25 hi hz0 hz1 hz2 rfl (by decide) (vs an) (nearL (an : Int) (es.take k3)).length ((nearL (an : Int) (es.take k3)).map (Value.int .i64)) rfl ((OW0.alloc (.cells #[.int .i64 (bn : Int)] 3)).drew) ⟨wb.heap.size, 0, none⟩ 1 1 [.int .i64 (bn : Int)] rfl rfl (one_cell' _ _ _ rfl) (by simp [Value.oneCell']) (by decide) (by have := unhide HLEN an; unfold maxLen; omega) (by have := unhide HLEN an; omega) (by simp; omega) (wb.heap.size + 1) (by simp) ?_
        intro gg0 cap0 x0 own0 gr0 li0 lt0
        have kg0 : Kept (vs an).ownBlock.toList (wb.alloc (.cells #[.int .i64 (bn : Int)] 3)) x0 := (Kept.refl _ _).drew.trans (grown_kept gr0)
        have ea1 := kept_cell' (alloc_cell ea0 (.cells #[.int .i64 (bn : Int)] 3)) kg0 (by simpa using fun h => (unhide HNO an anN _ h) rfl)
        have eb1 := kept_cell' (alloc_cell eb0 (.cells #[.int .i64 (bn : Int)] 3)) kg0 (by simpa using fun h => (unhide HNO an anN _ h) rfl)
        have rowe0 := kept_cell' rowd0 kg0 (by simpa using fun h => (unhide HNG an anN _ h) rfl)
        have frz0 := kept_free' rowd0 (kept_free rowc0 fz0 ((Kept.refl [] wb).alloc (.cells #[.int .i64 (bn : Int)] 3))) kg0 (by simpa using fun h => (unhide HNG an anN _ h) rfl)
        change K (Act.put _ (some 27) _) _
        refine hK.out _ _ ⟨ea1, eb1⟩ (fun hHeld => ?_)
        clear hK K
        simp only [Act.put, List.setIfInBounds_toArray, List.set_cons_zero, List.set_cons_succ]
        refine take_on 12 28 (v := ?_) rfl rfl (by kernel_rfl) (by kernel_rfl) (by kernel_rfl) (fun _ _ _ h => h) (by kernel_rfl) (by intro w hSw; (try dsimp only at hSw); go_simp; first | done | with_reducible rfl) (by assumption) ?_
        simp only [Act.put, List.setIfInBounds_toArray, List.set_cons_zero, List.set_cons_succ]
        refine wpAnyH_ready (rs := [13]) (by kernel_rfl) (by simp) ?_
        refine AllReadyH.cons rfl (fun K hK => ?_) AllReadyH.nil
        go_simp
        refine hK.out _ _ ⟨by rw [cell_set_ne hpg]; assumption, by rw [cell_set_ne hpg]; assumption⟩ (fun hHeld => ?_)
        clear hK K
        refine wpAnyH_done (by kernel_rfl) ?_ _
        have gq0 : (wb.alloc (.cells #[.int .i64 (bn : Int)] 3)).grownBy x0 (vs an).ownBlock := ⟨gr0.os, gr0.tape, gr0.output, gr0.size, gr0.block⟩
        have G1 := hide ((unhide G0).push hg5 hWb anN (y := (bn : Int)) own0 gq0 li0)
        have HKc := hide (((unhide HKb).trans (((Kept.refl [] wb).alloc (.cells #[.int .i64 (bn : Int)] 3)).mono (by simp))).trans' kg0 (fun j hj => Or.inr (own_block OW0 j (by simpa using hj))) |>.setCell (p := ⟨g, an, none⟩) (Or.inl (by simp)) (.slice (some ⟨gg0, 0, none⟩) ((nearL (an : Int) (es.take k3)).length + 1) cap0))
        have ea2 : (x0.setCell ⟨g, an, none⟩ (.slice (some ⟨gg0, 0, none⟩) ((nearL (an : Int) (es.take k3)).length + 1) cap0)).cell? ⟨pe, 0, none⟩ = some (.int .i64 (an : Int)) := by rw [cell_set_ne hpg]; exact ea1
        have eb2 : (x0.setCell ⟨g, an, none⟩ (.slice (some ⟨gg0, 0, none⟩) ((nearL (an : Int) (es.take k3)).length + 1) cap0)).cell? ⟨pe, 1, none⟩ = some (.int .i64 (bn : Int)) := by rw [cell_set_ne hpg]; exact eb1
        have hne : ¬ bn = an := by omega
        clear gq0 gr0 kg0 own0 li0 lt0 ea1 eb1 rowe0 frz0 rowc0 rowd0 fz0 OW0 ea0 eb0
        go_wp2_with fail
        generalize x0.setCell ⟨g, an, none⟩ (.slice (some ⟨gg0, 0, none⟩) ((nearL (an : Int) (es.take k3)).length + 1) cap0) = wc at *
        have rowc2 := (unhide G1).cell bn bnN
        have fz2 := (unhide G1).free bn
        have OW2 := (unhide G1).own bn bnN
        simp only [if_neg hne] at rowc2 OW2
        have hWc : W5.heap.size ≤ wc.heap.size := (unhide HKc).size
        have rowd2 := alloc_cell rowc2 (.cells #[.int .i64 (an : Int)] 3)
        refine wp_region_held_drew (S := (fun W => W.cell? ⟨pe, 0, none⟩ = some (.int .i64 (an : Int)) ∧ W.cell? ⟨pe, 1, none⟩ = some (.int .i64 (bn : Int)))) (by kernel_rfl) ⟨ea2, eb2⟩ (fun hHeld => ?_)
        refine take_on 0 29 (v := ?_) rfl rfl (by kernel_rfl) (by kernel_rfl) (by kernel_rfl) (fun _ _ _ h => h) (by kernel_rfl) (by intro w hSw; (try dsimp only at hSw); go_simp; first | done | with_reducible rfl) (by assumption) ?_
        simp only [Act.put, List.setIfInBounds_toArray, List.set_cons_zero, List.set_cons_succ]
        refine take_on 1 30 (v := ?_) rfl rfl (by kernel_rfl) (by kernel_rfl) (by kernel_rfl) (fun _ _ _ h => h) (by kernel_rfl) (by intro w hSw; (try dsimp only at hSw); go_simp; first | done | with_reducible rfl) (by assumption) ?_
        simp only [Act.put, List.setIfInBounds_toArray, List.set_cons_zero, List.set_cons_succ]
        refine take_on 2 31 (v := ?_) rfl rfl (by kernel_rfl) (by kernel_rfl) (by kernel_rfl) (fun _ _ _ h => h) (by kernel_rfl) (by intro w hSw; (try dsimp only at hSw); go_simp; first | done | with_reducible rfl) (by assumption) ?_
        simp only [Act.put, List.setIfInBounds_toArray, List.set_cons_zero, List.set_cons_succ]
        refine take_on 3 32 (v := ?_) rfl rfl (by kernel_rfl) (by kernel_rfl) (by kernel_rfl) (fun _ _ _ h => h) (by kernel_rfl) (by intro w hSw; (try dsimp only at hSw); go_simp; first | done | with_reducible rfl) (by assumption) ?_
        simp only [Act.put, List.setIfInBounds_toArray, List.set_cons_zero, List.set_cons_succ]
        refine take_on 4 33 (v := ?_) rfl rfl (by kernel_rfl) (by kernel_rfl) (by kernel_rfl) (fun _ _ _ h => h) (by kernel_rfl) (by intro w hSw; (try dsimp only at hSw); go_simp; first | done | with_reducible rfl) (by assumption) ?_
        simp only [Act.put, List.setIfInBounds_toArray, List.set_cons_zero, List.set_cons_succ]
        refine take_on 5 34 (v := ?_) rfl rfl (by kernel_rfl) (by kernel_rfl) (by kernel_rfl) (fun _ _ _ h => h) (by kernel_rfl) (by intro w hSw; (try dsimp only at hSw); go_simp; first | done | with_reducible rfl) (by assumption) ?_
        simp only [Act.put, List.setIfInBounds_toArray, List.set_cons_zero, List.set_cons_succ]
        refine take_on 6 35 (v := ?_) rfl rfl (by kernel_rfl) (by kernel_rfl) (by kernel_rfl) (fun _ _ _ h => h) (by kernel_rfl) (by intro w hSw; (try dsimp only at hSw); go_simp; first | done | with_reducible rfl) (by assumption) ?_
        simp only [Act.put, List.setIfInBounds_toArray, List.set_cons_zero, List.set_cons_succ]
        refine take_on 8 37 (v := ?_) rfl rfl (by kernel_rfl) (by kernel_rfl) (by kernel_rfl) (fun _ _ _ h => h) (by kernel_rfl) (by intro w hSw; (try dsimp only at hSw); go_simp; first | done | with_reducible rfl) (by assumption) ?_
        simp only [Act.put, List.setIfInBounds_toArray, List.set_cons_zero, List.set_cons_succ]
        refine take_on 9 38 (v := ?_) rfl rfl (by kernel_rfl) (by kernel_rfl) (by kernel_rfl) (fun _ _ _ h => h) (by kernel_rfl) (by intro w hSw; (try dsimp only at hSw); go_simp; first | done | with_reducible rfl) (by assumption) ?_
        simp only [Act.put, List.setIfInBounds_toArray, List.set_cons_zero, List.set_cons_succ]
        refine wpAnyH_ready (rs := [7, 10]) (by kernel_rfl) (by simp) ?_
        refine AllReadyH.cons rfl (fun K hK => ?_) (AllReadyH.cons rfl (fun K hK => ?_) AllReadyH.nil)
        · go_simp
          refine hK.out _ _ ⟨ea2, eb2⟩ (fun hHeld => ?_)
          clear hK K
          refine wpAnyH_ready (rs := [10]) (by kernel_rfl) (by simp) ?_
          refine AllReadyH.cons rfl (fun K hK => ?_) AllReadyH.nil
          go_simp
          refine hK.out _ _ ⟨alloc_cell ea2 _, alloc_cell eb2 _⟩ (fun hHeld => ?_)
          clear hK K
          refine wpAnyH_ready (rs := [11]) (by kernel_rfl) (by simp) ?_
          refine AllReadyH.cons rfl (fun K hK => ?_) AllReadyH.nil
          refine step_append_lies _ rfl (.tmp 36) (.tmp 39) 25 rfl W5.heap.size 3 i (.int .i64 0) 1 8 Tryd.underlying25 hi hz0 hz1 hz2 rfl (by decide) (vs bn) (nearL (bn : Int) (es.take k3)).length ((nearL (bn : Int) (es.take k3)).map (Value.int .i64)) rfl ((OW2.alloc (.cells #[.int .i64 (an : Int)] 3)).drew) ⟨wc.heap.size, 0, none⟩ 1 1 [.int .i64 (an : Int)] rfl rfl (one_cell' _ _ _ rfl) (by simp [Value.oneCell']) (by decide) (by have := unhide HLEN bn; unfold maxLen; omega) (by have := unhide HLEN bn; omega) (by simp; omega) (wc.heap.size + 1) (by simp) ?_
          intro gg2 cap2 x2 own2 gr2 li2 lt2
          have kg2 : Kept (vs bn).ownBlock.toList (wc.alloc (.cells #[.int .i64 (an : Int)] 3)) x2 := (Kept.refl _ _).drew.trans (grown_kept gr2)
          have ea3 := kept_cell' (alloc_cell ea2 (.cells #[.int .i64 (an : Int)] 3)) kg2 (by simpa using fun h => (unhide HNO bn bnN _ h) rfl)
          have eb3 := kept_cell' (alloc_cell eb2 (.cells #[.int .i64 (an : Int)] 3)) kg2 (by simpa using fun h => (unhide HNO bn bnN _ h) rfl)
          have rowe2 := kept_cell' rowd2 kg2 (by simpa using fun h => (unhide HNG bn bnN _ h) rfl)
          have frz2 := kept_free' rowd2 (kept_free rowc2 fz2 ((Kept.refl [] wc).alloc (.cells #[.int .i64 (an : Int)] 3))) kg2 (by simpa using fun h => (unhide HNG bn bnN _ h) rfl)
          change K (Act.put _ (some 40) _) _
          refine hK.out _ _ ⟨ea3, eb3⟩ (fun hHeld => ?_)
          clear hK K
          simp only [Act.put, List.setIfInBounds_toArray, List.set_cons_zero, List.set_cons_succ]
          refine take_on 12 41 (v := ?_) rfl rfl (by kernel_rfl) (by kernel_rfl) (by kernel_rfl) (fun _ _ _ h => h) (by kernel_rfl) (by intro w hSw; (try dsimp only at hSw); go_simp; first | done | with_reducible rfl) (by assumption) ?_
          simp only [Act.put, List.setIfInBounds_toArray, List.set_cons_zero, List.set_cons_succ]
          refine wpAnyH_ready (rs := [13]) (by kernel_rfl) (by simp) ?_
          refine AllReadyH.cons rfl (fun K hK => ?_) AllReadyH.nil
          go_simp
          refine hK.out _ _ ⟨by rw [cell_set_ne hpg]; assumption, by rw [cell_set_ne hpg]; assumption⟩ (fun hHeld => ?_)
          clear hK K
          refine wpAnyH_done (by kernel_rfl) ?_ _
          have gq2 : (wc.alloc (.cells #[.int .i64 (an : Int)] 3)).grownBy x2 (vs bn).ownBlock := ⟨gr2.os, gr2.tape, gr2.output, gr2.size, gr2.block⟩
          have G2 := (unhide G1).push (a := bn) hg5 hWc bnN (y := (an : Int)) (g' := gg2) (cap' := cap2) (by simp only [if_neg hne]; exact own2) (by simp only [if_neg hne]; exact gq2) (by simp only [if_neg hne]; exact li2)
          simp only [if_neg hne] at G2
          have HG2 := hide (G2.congr (f' := fun i => nearL (i : Int) (es.take (k3 + 1))) (fun i hi => by
            rw [unhide HST i]
            unfold nearE
            by_cases e1 : i = bn
            · subst e1
              rw [if_pos rfl, if_neg (by simp only; omega), if_pos rfl]
            · rw [if_neg e1]
              by_cases e2 : i = an
              · subst e2
                rw [if_pos rfl, if_pos rfl]
              · rw [if_neg e2, if_neg (by simp only; omega), if_neg (by simp only; omega), List.append_nil]))
          have HKd := hide (((unhide HKc).trans (((Kept.refl [] wc).alloc (.cells #[.int .i64 (an : Int)] 3)).mono (by simp))).trans' kg2 (fun j hj => Or.inr (own_block ((unhide hh3).1.own bn bnN) j (by simpa using hj))) |>.setCell (p := ⟨g, bn, none⟩) (Or.inl (by simp)) (.slice (some ⟨gg2, 0, none⟩) ((nearL (bn : Int) (es.take k3)).length + 1) cap2))
          clear G2 gq2 gr2 kg2 own2 li2 lt2 ea3 eb3 rowe2 frz2 rowc2 rowd2 fz2 OW2 ea2 eb2
          go_wp2
          go_roundw
          case rel => exact ⟨k3 + 1, _, by omega, by go_num, unhide HG2, unhide HKd⟩
          case measure => simp [intOf]; omega
        · go_simp
          refine hK.out _ _ ⟨alloc_cell ea2 _, alloc_cell eb2 _⟩ (fun hHeld => ?_)
          clear hK K
          refine wpAnyH_ready (rs := [7]) (by kernel_rfl) (by simp) ?_
          refine AllReadyH.cons rfl (fun K hK => ?_) AllReadyH.nil
          go_simp
          refine hK.out _ _ ⟨alloc_cell ea2 _, alloc_cell eb2 _⟩ (fun hHeld => ?_)
          clear hK K
          refine wpAnyH_ready (rs := [11]) (by kernel_rfl) (by simp) ?_
          refine AllReadyH.cons rfl (fun K hK => ?_) AllReadyH.nil
          refine step_append_lies _ rfl (.tmp 36) (.tmp 39) 25 rfl W5.heap.size 3 i (.int .i64 0) 1 8 Tryd.underlying25 hi hz0 hz1 hz2 rfl (by decide) (vs bn) (nearL (bn : Int) (es.take k3)).length ((nearL (bn : Int) (es.take k3)).map (Value.int .i64)) rfl ((OW2.alloc (.cells #[.int .i64 (an : Int)] 3)).drew) ⟨wc.heap.size, 0, none⟩ 1 1 [.int .i64 (an : Int)] rfl rfl (one_cell' _ _ _ rfl) (by simp [Value.oneCell']) (by decide) (by have := unhide HLEN bn; unfold maxLen; omega) (by have := unhide HLEN bn; omega) (by simp; omega) (wc.heap.size + 1) (by simp) ?_
          intro gg2 cap2 x2 own2 gr2 li2 lt2
          have kg2 : Kept (vs bn).ownBlock.toList (wc.alloc (.cells #[.int .i64 (an : Int)] 3)) x2 := (Kept.refl _ _).drew.trans (grown_kept gr2)
          have ea3 := kept_cell' (alloc_cell ea2 (.cells #[.int .i64 (an : Int)] 3)) kg2 (by simpa using fun h => (unhide HNO bn bnN _ h) rfl)
          have eb3 := kept_cell' (alloc_cell eb2 (.cells #[.int .i64 (an : Int)] 3)) kg2 (by simpa using fun h => (unhide HNO bn bnN _ h) rfl)
          have rowe2 := kept_cell' rowd2 kg2 (by simpa using fun h => (unhide HNG bn bnN _ h) rfl)
          have frz2 := kept_free' rowd2 (kept_free rowc2 fz2 ((Kept.refl [] wc).alloc (.cells #[.int .i64 (an : Int)] 3))) kg2 (by simpa using fun h => (unhide HNG bn bnN _ h) rfl)
          change K (Act.put _ (some 40) _) _
          refine hK.out _ _ ⟨ea3, eb3⟩ (fun hHeld => ?_)
          clear hK K
          simp only [Act.put, List.setIfInBounds_toArray, List.set_cons_zero, List.set_cons_succ]
          refine take_on 12 41 (v := ?_) rfl rfl (by kernel_rfl) (by kernel_rfl) (by kernel_rfl) (fun _ _ _ h => h) (by kernel_rfl) (by intro w hSw; (try dsimp only at hSw); go_simp; first | done | with_reducible rfl) (by assumption) ?_
          simp only [Act.put, List.setIfInBounds_toArray, List.set_cons_zero, List.set_cons_succ]
          refine wpAnyH_ready (rs := [13]) (by kernel_rfl) (by simp) ?_
          refine AllReadyH.cons rfl (fun K hK => ?_) AllReadyH.nil
          go_simp
          refine hK.out _ _ ⟨by rw [cell_set_ne hpg]; assumption, by rw [cell_set_ne hpg]; assumption⟩ (fun hHeld => ?_)
          clear hK K
          refine wpAnyH_done (by kernel_rfl) ?_ _
          have gq2 : (wc.alloc (.cells #[.int .i64 (an : Int)] 3)).grownBy x2 (vs bn).ownBlock := ⟨gr2.os, gr2.tape, gr2.output, gr2.size, gr2.block⟩
          have G2 := (unhide G1).push (a := bn) hg5 hWc bnN (y := (an : Int)) (g' := gg2) (cap' := cap2) (by simp only [if_neg hne]; exact own2) (by simp only [if_neg hne]; exact gq2) (by simp only [if_neg hne]; exact li2)
          simp only [if_neg hne] at G2
          have HG2 := hide (G2.congr (f' := fun i => nearL (i : Int) (es.take (k3 + 1))) (fun i hi => by
            rw [unhide HST i]
            unfold nearE
            by_cases e1 : i = bn
            · subst e1
              rw [if_pos rfl, if_neg (by simp only; omega), if_pos rfl]
            · rw [if_neg e1]
              by_cases e2 : i = an
              · subst e2
                rw [if_pos rfl, if_pos rfl]
              · rw [if_neg e2, if_neg (by simp only; omega), if_neg (by simp only; omega), List.append_nil]))
          have HKd := hide (((unhide HKc).trans (((Kept.refl [] wc).alloc (.cells #[.int .i64 (an : Int)] 3)).mono (by simp))).trans' kg2 (fun j hj => Or.inr (own_block ((unhide hh3).1.own bn bnN) j (by simpa using hj))) |>.setCell (p := ⟨g, bn, none⟩) (Or.inl (by simp)) (.slice (some ⟨gg2, 0, none⟩) ((nearL (bn : Int) (es.take k3)).length + 1) cap2))
          clear G2 gq2 gr2 kg2 own2 li2 lt2 ea3 eb3 rowe2 frz2 rowc2 rowd2 fz2 OW2 ea2 eb2
          go_wp2
          go_roundw
          case rel => exact ⟨k3 + 1, _, by omega, by go_num, unhide HG2, unhide HKd⟩
          case measure => simp [intOf]; omega
    · have HFIN := hide (show NearAt wr w.heap.size wr.heap.size g N es from ⟨⟨unhide HGW, Nat.lt_of_lt_of_le hg5 (unhide hh3).2.size⟩, fun i hi => ⟨vs i, (unhide hh3).1.cell i hi, by
        have h2 := (unhide hh3).1.own i hi
        rw [List.take_of_length_le (show es.length ≤ k3 by omega)] at h2
        exact (ints_of_owns h2).1, fun a m c e => by
          have h2 := (unhide hh3).1.own i hi
          have h3 := own_block h2 a.block (by rw [e]; rfl)
          have h4 := own_lt h2 a.block (by rw [e]; rfl)
          have h5 := (unhide KW).size
          omega⟩⟩)
      go_wp2
      go_ret
      exact ⟨g, rfl, unhide HFIN, unhide KW3⟩
end Go.Proofs.YtmpcnepiogjokaaDoor
