/- Lists of lists in memory. Without, All. All, Odd, Same. Same, Plain of numbers. Lists held against each other. Lists, Same; awake. Pieces of two graphs side by side; an edge more: plain mathematics. garlandplay.Beside, Shift, Put. garlandplay.Shift, Put. awake. garlandplay.Small: a graph that is right, of whatever numbers. garlandplay.Some; how many vertices pieces have. PiecesParity: the walk. -/
import Derived.Test.YtmpcnepiogjokaaDoorPiecesJoin16
import Derived.Maps.AppendAt
import Derived.Test.YtmpcnepiogjokaaDoorPiecesJoin1
import Derived.Test.YtmpcnepiogjokaaDoorPiecesJoin14
import Derived.Test.YtmpcnepiogjokaaDoorPiecesJoin11
import Derived.Test.YtmpcnepiogjokaaDoorPiecesJoin15
import Derived.Test.YtmpcnepiogjokaaDoorPiecesJoin2
namespace Go.Proofs.YtmpcnepiogjokaaDoor
open Go.RowKit

/-- A slice of slices of numbers. -/
def ListsAt (w : World) (v : Value) (L : List (List Int)) : Prop :=
  ∃ ao cap, v = .slice ao L.length cap ∧ L.length ≤ cap ∧ L.length ≤ maxLen ∧ (0 < L.length → ∃ g o, ao = some ⟨g, o, none⟩ ∧ ∀ i, i < L.length → ∃ u, w.cell? ⟨g, o + i, none⟩ = some u ∧ IntsAt w u (L.getD i []))
theorem ListsAt.kept {w w' : World} {v : Value} {L : List (List Int)} (h : ListsAt w v L) (k : Kept [] w w') : ListsAt w' v L := by
  obtain ⟨ao, cap, rfl, h1, h2, h3⟩ := h
  refine ⟨ao, cap, rfl, h1, h2, fun h0 => ?_⟩
  obtain ⟨g, o, rfl, hc⟩ := h3 h0
  exact ⟨g, o, rfl, fun i hi => by obtain ⟨u, hu, hv⟩ := hc i hi; exact ⟨u, kept_cell hu k, hv.kept k⟩⟩
theorem ListsAt.nil (w : World) (cap : Nat) (ao : Option Addr) : ListsAt w (.slice ao 0 cap) [] := ⟨ao, cap, rfl, Nat.zero_le _, Nat.zero_le _, fun h => by simp at h⟩
theorem ListsAt.shape {w : World} {v : Value} {L : List (List Int)} (h : ListsAt w v L) : ∃ ao cap, v = .slice ao L.length cap ∧ L.length ≤ maxLen ∧ (0 < L.length → ∃ g o, ao = some ⟨g, o, none⟩ ∧ ∀ i, i < L.length → ∃ u, w.cell? ⟨g, o + i, none⟩ = some u ∧ IntsAt w u (L.getD i [])) := by
  obtain ⟨ao, cap, rfl, h1, h2, h3⟩ := h
  exact ⟨ao, cap, rfl, h2, h3⟩
/-- A row of lists that is being made. -/
structure LRow (w : World) (B b : Nat) (lv : Value) (L : List (List Int)) (vals : List Value) : Prop where
  own : w.ownsRow B 25 1 lv L.length vals
  each : ∀ i u, vals[i]? = some u → IntsAt w u (L.getD i []) ∧ ∃ a n c, u = .slice (some a) n c ∧ a.block ≠ b ∧ lv.ownBlock ≠ some a.block ∧ a.block < w.heap.size
theorem LRow.start (w : World) (B b : Nat) : LRow w B b (.slice none 0 0) [] [] := ⟨⟨rfl, Or.inl ⟨rfl, rfl⟩⟩, by simp⟩
theorem own_freeE {w w' : World} {base e size n b : Nat} {v : Value} {xs : List Value} (h : w.ownsRow base e size v n xs) (k : Kept [b] w w') (hb : b < base) : w'.ownsRow base e size v n xs := by
  obtain ⟨h1, h2⟩ := h
  refine ⟨h1, ?_⟩
  rcases h2 with h2 | ⟨g, cap, cur, hv, hg, hh, h5, h6, h7, h8⟩
  · exact Or.inl h2
  · refine Or.inr ⟨g, cap, cur, hv, hg, ?_, h5, h6, h7, h8⟩
    have hl : g < w.heap.size := by
      by_cases hl : g < w.heap.size
      · exact hl
      · rw [Array.getElem?_eq_none (by omega)] at hh; simp at hh
    rw [k.block g hl (by simp; omega)]; exact hh
theorem LRow.kept {w w' : World} {B b : Nat} {lv : Value} {L : List (List Int)} {vals : List Value} (h : LRow w B b lv L vals) (k : Kept [b] w w') (hb : b < B) : LRow w' B b lv L vals :=
  ⟨own_freeE h.own k hb, fun i u hu => by
    obtain ⟨h1, a, n, c, rfl, h2, h3, h4⟩ := h.each i u hu
    exact ⟨h1.keptAt k (fun a' m c' e => by cases e; simpa using h2), a, n, c, rfl, h2, h3, Nat.lt_of_lt_of_le h4 k.size⟩⟩
/-- A list more. -/
theorem LRow.push {w w' : World} {B b : Nat} {lv v' : Value} {L : List (List Int)} {vals : List Value} (h : LRow w B b lv L vals) {l : List Int} {a : Addr} {n c : Nat} {o : Obj} (hu : IntsAt w (.slice (some a) n c) l) (ha : a.block ≠ b) (hal : lv.ownBlock ≠ some a.block) (halt : a.block < w.heap.size)
    (own : w'.ownsRow B 25 1 v' (L.length + 1) (vals ++ [.slice (some a) n c])) (hg : (w.alloc o).grownBy w' lv.ownBlock) (hat : v'.ownBlock = lv.ownBlock ∨ v'.ownBlock = some (w.heap.size + 1)) : LRow w' B b v' (L ++ [l]) (vals ++ [.slice (some a) n c]) := by
  have hlen : vals.length = L.length := by simpa using h.own.1
  have kk : Kept lv.ownBlock.toList w w' := (((Kept.refl [] w).alloc o).mono (by simp)).trans (grown_kept hg)
  have hne : ∀ a : Addr, lv.ownBlock ≠ some a.block → a.block < w.heap.size → v'.ownBlock ≠ some a.block := fun a h1 h2 e => by
    rcases hat with h3 | h3
    · exact h1 (by rw [← h3]; exact e)
    · rw [h3] at e; simp at e; omega
  refine ⟨by rw [List.length_append]; exact own, fun i u hi => ?_⟩
  by_cases hlt : i < L.length
  · rw [List.getElem?_append_left (by omega)] at hi
    obtain ⟨h1, a', n', c', rfl, h2, h3, h4⟩ := h.each i u hi
    refine ⟨?_, a', n', c', rfl, h2, hne a' h3 h4, Nat.lt_of_lt_of_le h4 kk.size⟩
    rw [show (L ++ [l]).getD i [] = L.getD i [] by simp [List.getD, List.getElem?_append_left hlt]]
    exact h1.keptAt kk (fun a2 m c2 e => by cases e; intro hm; exact h3 (by simpa using hm))
  · have hil := (List.getElem?_eq_some_iff.1 hi).1
    simp at hil
    have e : i = vals.length := by omega
    subst e
    simp at hi
    subst hi
    refine ⟨?_, a, n, c, rfl, ha, hne a hal halt, Nat.lt_of_lt_of_le halt kk.size⟩
    rw [show (L ++ [l]).getD vals.length [] = l by rw [hlen]; simp [List.getD]]
    exact hu.keptAt kk (fun a2 m c2 e => by cases e; intro hm; exact hal (by simpa using hm))
theorem LRow.lists {w : World} {B b : Nat} {lv : Value} {L : List (List Int)} {vals : List Value} (h : LRow w B b lv L vals) : ListsAt w lv L := by
  have hlen : vals.length = L.length := by simpa using h.own.1
  rcases h.own.2 with ⟨rfl, h0⟩ | ⟨g, cap, cur, rfl, hg, hb, h5, h6, h7, h8⟩
  · have : L = [] := List.eq_nil_of_length_eq_zero h0
    subst this
    exact ListsAt.nil _ _ _
  · refine ⟨some ⟨g, 0, none⟩, cap, rfl, h5, by omega, fun _ => ⟨g, 0, rfl, fun i hi => ?_⟩⟩
    obtain ⟨u, hu⟩ : ∃ u, vals[i]? = some u := ⟨vals[i]'(by omega), by simp⟩
    refine ⟨u, ?_, (h.each i u hu).1⟩
    rw [cell_of_block hb, ← hu, ← h8, Nat.mul_one, List.getElem?_take_of_lt hi]
    simp
def lenV : Value → Nat
  | .slice _ n _ => n
  | _ => 0
/-- As many pieces as vertices at most. -/
theorem Taken.len {es : List E} {S T : Int → Prop} {L : List (List Int)} {N : Nat} (h : Taken es S T L) (hb : ∀ x, S x → 0 ≤ x ∧ x < (N : Int)) : L.length ≤ N := by
  have h1 : (L.map (fun l => l.headD 0)).Nodup := by
    unfold List.Nodup
    rw [List.pairwise_map]
    exact h.heads.imp (fun {a b} h e => by omega)
  have := len_bound (N := N) h1 (fun x hx => by
    obtain ⟨l, hl, rfl⟩ := List.mem_map.1 hx
    have hne := h.ne l hl
    cases l with
    | nil => exact absurd rfl hne
    | cons y r => exact hb _ (h.cls _ hl y (by simp)).1)
  simpa using this
end Go.Proofs.YtmpcnepiogjokaaDoor

namespace Go.Proofs.YtmpcnepiogjokaaDoor
open Go.RowKit

/-- A vertex that is not out. -/
def Alive (n : Int) (xs : List Int) (x : Int) : Prop := (0 ≤ x ∧ x < n) ∧ x ∉ xs

set_option maxRecDepth 20000 in
set_option maxHeartbeats 4000000 in
theorem take_zero {w : World} {q : Nat} (h1 : w.cell? ⟨q, 1, none⟩ = some (.pointer none)) (x : Int) :
    Calls Tryd.prog 38 #[.pointer (some ⟨q, 0, none⟩), .int .i64 x] w fun e w' => e = .returned (.slice none 0 0) ∧ Kept [] w w' := by
  have HD := hide (drop_nil x w)
  go_enter Tryd.func38, Tryd.ntmps38
  go_wp2_with fail
  refine (unhide HD).mono ?_
  rintro e w1 ⟨rfl, m, rfl⟩
  go_wp2
  go_ret
  exact ⟨rfl, (Kept.refl [] w).drewN m⟩

set_option maxRecDepth 20000 in
set_option maxHeartbeats 4000000 in
theorem next_zero {w : World} {q : Nat} (h1 : w.cell? ⟨q, 1, none⟩ = some (.pointer none)) :
    Calls Tryd.prog 35 #[.pointer (some ⟨q, 0, none⟩)] w fun e w' => e = .returned (.slice none 0 0) ∧ Kept [] w w' := by
  have HL := hide (least_nil w 0)
  go_enter Tryd.func35, Tryd.ntmps35
  go_wp2_with fail
  refine (unhide HL).mono ?_
  rintro e w1 ⟨rfl, m, rfl⟩
  have HT := hide (take_zero (w := w.drewN m) (kept_cell h1 ((Kept.refl [] w).drewN m)) (-1))
  go_wp2_with fail
  refine (unhide HT).mono ?_
  rintro e w2 ⟨rfl, k2⟩
  go_wp2
  go_ret
  exact ⟨rfl, ((Kept.refl [] w).drewN m).trans k2⟩

set_option maxRecDepth 20000 in
set_option maxHeartbeats 4000000 in
theorem without_no {w : World} {n : Int} {v u : Value} {es : List E} (h : EdgesAt w v es) (hr : rightB n es = false) :
    Calls Tryd.prog 12 #[gv n v, u] w fun e w' => e = .returned (.slice none 0 0) ∧ Kept [] w w' := by
  obtain ⟨ao, cap, rfl, _⟩ := h.shape
  have HR := hide (restOf_no (u := u) (h.kept ((Kept.refl [] w).alloc (.cells #[.int .i64 n, .slice ao es.length cap] 24))) hr)
  clear h
  go_enter Tryd.func12, Tryd.ntmps12
  go_wp2_with fail
  refine (unhide HR).mono ?_
  rintro e w1 ⟨q, rfl, c0, c1, k1⟩
  have HN := hide (next_zero c1)
  clear c0 c1
  go_wp2_with fail
  refine (unhide HN).mono ?_
  rintro e w2 ⟨rfl, k2⟩
  go_wp2
  go_loopw [5, 7] (fun lv pv wr => lv = .slice none 0 0 ∧ pv = .slice none 0 0 ∧ wr = w2) (fun _ _ _ => 0)
  case atStart => exact ⟨rfl, rfl, rfl⟩
  case round =>
    obtain ⟨rfl, rfl, rfl⟩ := hrel
    go_wp2
    go_ret
    exact ⟨rfl, (((Kept.refl [] w).alloc _).trans k1).trans k2⟩

set_option maxRecDepth 20000 in
set_option maxHeartbeats 8000000 in
theorem without_yes {w : World} {N : Nat} {v u : Value} {es : List E} {xs : List Int} (h : EdgesAt w v es) (hx : IntsAt w u xs) (hr : rightB (N : Int) es = true) (hT : Tab w) :
    Calls Tryd.prog 12 #[gv N v, u] w fun e w' => ∃ r L, e = .returned r ∧ ListsAt w' r L ∧ IsPieces es (Alive N xs) L ∧ Kept [] w w' := by
  obtain ⟨i, hi, hz0, hz1, hz2⟩ := info_parts infoInts
  obtain ⟨ao, cap, rfl, _⟩ := h.shape
  have KB := (Kept.refl [] w).alloc (.cells #[.int .i64 (N : Int), .slice ao es.length cap] 24)
  have HR := hide (restOf_yes (h.kept KB) (hx.kept KB) hr (hT.kept KB (by simp)))
  obtain ⟨_, hN, _, _, hok⟩ := right_rise hr
  have HOK := hide hok
  have HT := hide hT
  have HAB := hide (show ∀ x, Alive (N : Int) xs x → 0 ≤ x ∧ x < (N : Int) from fun x hx => hx.1)
  clear h hx hr hok hT
  go_enter Tryd.func12, Tryd.ntmps12
  go_wp2_with fail
  refine (unhide HR).mono ?_
  rintro e w1 ⟨q, g, s, b, m, d, ws, rfl, R1, hbw, hH, k1⟩
  have hbw' : w.heap.size < b := by have := hbw; simp at this; omega
  have HK1 := hide (KB.trans k1)
  have hb1 : b < w1.heap.size := R1.set.bl
  have HTK := hide (Taken.start (es := es) (S := Alive (N : Int) xs))
  have HNX := hide (next_any R1 (unhide HOK) ((unhide HT).kept (unhide HK1) (by simp)))
  have HTE := hide (show ∀ x, Has ws x ↔ Alive (N : Int) xs x from hH)
  have HR1 := hide R1
  have HT1 := hide ((unhide HT).kept (unhide HK1) (by simp))
  have htb := R1.set.b0
  clear R1 hH k1 KB hbw
  go_wp2_with fail
  refine (unhide HNX).mono ?_
  rintro e w2 ⟨pv, l, ws', rfl, hpv, hfr, R2, k2, hcase⟩
  obtain ⟨po, pc, rfl, hlm, _⟩ := hpv.shape
  have HST := hide (show ∃ T : Int → Prop, Taken es (Alive (N : Int) xs) T [] ∧ ((l = [] ∧ ∀ x, ¬ T x) ∨ ∃ v, T v ∧ (∀ x, T x → v ≤ x) ∧ l.Pairwise (· < ·) ∧ (∀ y, y ∈ l ↔ Reach es T v y) ∧ ∀ y, Has ws' y ↔ T y ∧ y ∉ l) from
    ⟨Has ws, by
      have he : Has ws = Alive (N : Int) xs := funext fun x => propext (unhide HTE x)
      rw [he]; exact unhide HTK, hcase⟩)
  have HPV := hide hpv
  have HFP := hide (show 0 < l.length → ∃ a, po = some a ∧ a.block ≠ b ∧ a.block < w2.heap.size ∧ w1.heap.size ≤ a.block from fun h0 => by
    obtain ⟨_, _, hv, _, hin⟩ := hpv.shape
    obtain ⟨gg, oo, he, hcc⟩ := hin h0
    have e2 : po = some ⟨gg, oo, none⟩ := by simp at hv; rw [hv.1, he]
    have hfr2 := hfr ⟨gg, oo, none⟩ l.length pc (by rw [e2])
    exact ⟨_, e2, by simp only at hfr2 ⊢; omega, lt_of_cell (hcc 0 h0), hfr2⟩)
  have HS2 := hide R2.set
  have HK2 := hide k2
  have HL0 := hide (LRow.start w2 w1.heap.size b)
  clear hpv hfr R2 k2 hcase
  go_wp2
  go_loopw [5, 7] (fun lv pv wr => ∃ (L : List (List Int)) (vals : List Value) (l : List Int) (ws' : Nat → Nat) (T : Int → Prop) (lo po : Option Addr) (lc pc : Nat), lv = .slice lo L.length lc ∧ pv = .slice po l.length pc ∧ LRow wr w1.heap.size b lv L vals ∧ l.length ≤ maxLen ∧
      Hid (SetAt wr s b N m d ws' ∧ Kept [b] w1 wr ∧ Taken es (Alive (N : Int) xs) T L ∧ ((l = [] ∧ ∀ x, ¬ T x) ∨ ∃ v, T v ∧ (∀ x, T x → v ≤ x) ∧ l.Pairwise (· < ·) ∧ (∀ y, y ∈ l ↔ Reach es T v y) ∧ ∀ y, Has ws' y ↔ T y ∧ y ∉ l) ∧ IntsAt wr pv l ∧ (0 < l.length → ∃ a, po = some a ∧ a.block ≠ b ∧ a.block < wr.heap.size ∧ lv.ownBlock ≠ some a.block))) (fun lv _ _ => N + 1 - lenV lv)
  case atStart =>
    obtain ⟨T, h1, h2⟩ := unhide HST
    exact ⟨[], [], l, ws', T, none, po, 0, pc, rfl, rfl, unhide HL0, hlm, unhide HS2, unhide HK2, h1, h2, unhide HPV, fun h0 => by
      obtain ⟨a, e1, e2, e3, _⟩ := unhide HFP h0
      exact ⟨a, e1, e2, e3, by simp [Value.ownBlock]⟩⟩
  case round =>
    obtain ⟨L, vals, l2, ws2, T, lo, po2, lc, pc2, rfl, rfl, hrow, hlm2, hh⟩ := hrel
    have hLN := (unhide hh).2.2.1.len (unhide HAB)
    by_cases hl0 : 0 < (l2.length : Int)
    · obtain ⟨pa, rfl, hpb, hpl, hpo⟩ := (unhide hh).2.2.2.2.2 (by omega)
      have hown := hrow.own
      have HROW := hide hrow
      have hws : w1.heap.size ≤ wr.heap.size := (unhide hh).2.1.size
      clear hrow
      go_wp2_with (first | (at_builtin; refine wpList_append_own_at _ rfl (.tmp 19) (.tmp 21) 29 rfl w1.heap.size 25 i (.slice none 0 0) 1 24 Tryd.underlying29 hi hz0 hz1 hz2 rfl (by decide) _ _ _ rfl (hown.alloc _) _ 1 _ [.slice (some pa) l2.length pc2] rfl rfl (one_cell' _ _ _ (by simp)) (by simp [Value.oneCell']) (by unfold maxLen; omega) (by omega) (by simp; omega) ?_; intro v' w4 own4 g4 _ hat))
      have g5 : (wr.alloc (.cells #[.slice (some pa) l2.length pc2] 25)).grownBy w4 (Value.slice lo L.length lc).ownBlock := g4
      have hat5 : v'.ownBlock = (Value.slice lo L.length lc).ownBlock ∨ v'.ownBlock = some (wr.heap.size + 1) := by
        rcases hat with h | h
        · exact Or.inl h
        · exact Or.inr (by rw [h]; simp)
      have hob := own_block hown
      have KG : Kept (Value.slice lo L.length lc).ownBlock.toList wr w4 := (((Kept.refl [] wr).alloc _).mono (by simp)).trans (grown_kept g5)
      have HR4 := hide ((unhide HROW).push (unhide hh).2.2.2.2.1 hpb hpo hpl own4 g5 hat5)
      have hsl1 : s < w1.heap.size := (unhide HR1).set.sl
      have HS4 := hide ((unhide hh).1.kept KG (fun hm => by have := hob s (by simpa using hm); omega) (fun hm => by have := hob b (by simpa using hm); omega))
      have HK4 := hide ((unhide hh).2.1.trans' KG (fun k hk => Or.inr (hob k (by simpa using hk))))
      have HNX4 := hide (next_any ((unhide HR1).wrote (unhide HK4) (unhide HS4)) (unhide HOK) ((unhide HT1).kept (unhide HK4) (by simpa using htb.symm)))
      have HTN := hide (show Taken es (Alive (N : Int) xs) (Has ws2) (L ++ [l2]) by
        rcases (unhide hh).2.2.2.1 with ⟨h1, _⟩ | ⟨v, h1, h2, h3, h4, h5⟩
        · rw [h1] at hl0; simp at hl0
        · exact (unhide hh).2.2.1.next h1 h2 h3 h4 h5)
      obtain ⟨lo5, lc5, hv5⟩ : ∃ lo5 lc5, v' = .slice lo5 (L ++ [l2]).length lc5 := by
        rcases own4.2 with ⟨_, h0⟩ | ⟨g', cap', cur, hv, _⟩
        · omega
        · exact ⟨some ⟨g', 0, none⟩, cap', by rw [hv]; simp⟩
      have hvl : ∀ k, v'.ownBlock = some k → k < w4.heap.size := own_lt own4
      have HVL := hide hvl
      have HV5 := hide hv5
      clear g4 g5 hat hat5 hob KG own4 hvl hv5 hown
      refine (unhide HNX4).mono ?_
      rintro e w5 ⟨pv5, l5, ws5, rfl, hpv5, hfr5, R5, k5, hcase5⟩
      obtain ⟨po5, pc5, rfl, hlm5, _⟩ := hpv5.shape
      have HFP5 := hide (show 0 < l5.length → ∃ a, po5 = some a ∧ a.block ≠ b ∧ a.block < w5.heap.size ∧ v'.ownBlock ≠ some a.block from fun h0 => by
        obtain ⟨_, _, hv, _, hin⟩ := hpv5.shape
        obtain ⟨gg, oo, he, hcc⟩ := hin h0
        have e2 : po5 = some ⟨gg, oo, none⟩ := by simp at hv; rw [hv.1, he]
        have hfr2 := hfr5 ⟨gg, oo, none⟩ l5.length pc5 (by rw [e2])
        have hsz := (unhide HK4).size
        refine ⟨_, e2, by simp only at hfr2 ⊢; omega, lt_of_cell (hcc 0 h0), fun e => ?_⟩
        have := unhide HVL _ e
        simp only at hfr2 this
        omega)
      have HL5 := hide ((unhide HR4).kept k5 hb1)
      have HE := hide (And.intro R5.set (And.intro ((unhide HK4).trans k5) (And.intro (unhide HTN) (And.intro hcase5 hpv5))))
      clear hpv5 hfr5 R5 k5 hcase5
      go_wp2
      go_roundw
      case rel => exact ⟨L ++ [l2], _, l5, ws5, Has ws2, lo5, po5, lc5, pc5, unhide HV5, rfl, unhide HL5, hlm5, (unhide HE).1, (unhide HE).2.1, (unhide HE).2.2.1, (unhide HE).2.2.2.1, (unhide HE).2.2.2.2, unhide HFP5⟩
      case measure =>
        have e5 := unhide HV5
        subst e5
        simp [lenV]; omega
    · have HFIN := hide (show IsPieces es (Alive (N : Int) xs) L from (unhide hh).2.2.1.done (by
        rcases (unhide hh).2.2.2.1 with ⟨_, h2⟩ | ⟨v, h1, _, _, h4, _⟩
        · exact h2
        · have : v ∈ l2 := (h4 v).2 (.refl h1)
          have := List.length_pos_of_mem this
          omega))
      have HLS := hide hrow.lists
      have HKF := hide ((unhide HK1).trans' (unhide hh).2.1 (fun k hk => by simp at hk; subst hk; exact Or.inr (by omega)))
      clear hrow
      go_wp2
      go_ret
      exact ⟨_, rfl, L, unhide HLS, unhide HFIN, unhide HKF⟩
/-- Without. -/
theorem without_any {w : World} {n : Int} {v u : Value} {es : List E} {xs : List Int} (h : EdgesAt w v es) (hx : IntsAt w u xs) (hT : Tab w) :
    Calls Tryd.prog 12 #[gv n v, u] w fun e w' => ∃ r L, e = .returned r ∧ ListsAt w' r L ∧ (rightB n es = true → IsPieces es (Alive n xs) L) ∧ (rightB n es = false → L = []) ∧ Kept [] w w' := by
  cases hr : rightB n es
  · refine (without_no h hr).mono ?_
    rintro e w' ⟨rfl, k⟩
    exact ⟨_, [], rfl, ListsAt.nil _ _ _, (fun h => by cases h), fun _ => rfl, k⟩
  · obtain ⟨N, rfl⟩ := Int.eq_ofNat_of_zero_le (right_rise hr).1
    refine (without_yes h hx hr hT).mono ?_
    rintro e w' ⟨r, L, rfl, h1, h2, h3⟩
    exact ⟨r, L, rfl, h1, fun _ => h2, (fun h => by cases h), h3⟩
end Go.Proofs.YtmpcnepiogjokaaDoor

namespace Go.Proofs.YtmpcnepiogjokaaDoor
open Go.RowKit

/-- What Without tells of a graph. -/
def Pieces (n : Int) (es : List E) (xs : List Int) (L : List (List Int)) : Prop := (rightB n es = true → IsPieces es (Alive n xs) L) ∧ (rightB n es = false → L = [])
theorem Pieces.unique {n : Int} {es : List E} {xs : List Int} {L M : List (List Int)} (h : Pieces n es xs L) (k : Pieces n es xs M) : L = M := by
  cases hr : rightB n es
  · rw [h.2 hr, k.2 hr]
  · exact (h.1 hr).unique (k.1 hr)
theorem Pieces.len {n : Int} {es : List E} {xs : List Int} {L : List (List Int)} (h : Pieces n es xs L) : L.length ≤ 4096 := by
  cases hr : rightB n es
  · rw [h.2 hr]; simp
  · obtain ⟨N, rfl⟩ := Int.eq_ofNat_of_zero_le (right_rise hr).1
    have h1 := h.1 hr
    have hN := (right_rise hr).2.1
    have := (Taken.len (N := N) (T := fun _ => False) (S := Alive (N : Int) xs) (es := es) (L := L) ⟨h1.rise, h1.ne, h1.cls, h1.heads, fun x => ⟨fun f => f.elim, fun ⟨hx, hn⟩ => by obtain ⟨l, hl, hm⟩ := h1.all x hx; exact hn l hl hm⟩, fun _ _ _ f => f.elim⟩ (fun x hx => hx.1))
    omega
/-- How many have an odd number. -/
def oddL (L : List (List Int)) : Nat := (L.map fun l => l.length % 2).sum
theorem oddL_le (L : List (List Int)) : oddL L ≤ L.length := by
  induction L with
  | nil => simp [oddL]
  | cons l r ih => unfold oddL at *; simp only [List.map_cons, List.sum_cons, List.length_cons]; omega
theorem oddL_step {L : List (List Int)} {k : Nat} (h : k < L.length) : oddL (L.take (k + 1)) = oddL (L.take k) + (L.getD k []).length % 2 := by
  have e : L.getD k [] = L[k] := by simp [List.getD, h]
  unfold oddL
  rw [List.take_succ_eq_append_getElem h, e]
  simp only [List.map_append, List.sum_append, List.map_cons, List.map_nil, List.sum_cons, List.sum_nil, Nat.add_zero]

set_option maxRecDepth 20000 in
set_option maxHeartbeats 4000000 in
theorem all_any {w : World} {n : Int} {v : Value} {es : List E} (h : EdgesAt w v es) (hT : Tab w) :
    Calls Tryd.prog 14 #[gv n v] w fun e w' => ∃ r L, e = .returned r ∧ ListsAt w' r L ∧ Pieces n es [] L ∧ Kept [] w w' := by
  obtain ⟨ao, cap, rfl, _⟩ := h.shape
  have KB := (Kept.refl [] w).alloc (.cells #[.int .i64 n, .slice ao es.length cap] 24)
  have HW := hide (without_any (n := n) (h.kept KB) (u := .slice none 0 0) (xs := []) ⟨none, 0, rfl, Nat.le_refl _, Nat.zero_le _, fun h => by simp at h⟩ (hT.kept KB (by simp)))
  have HK := hide KB
  clear h hT KB
  go_enter Tryd.func14, Tryd.ntmps14
  go_wp2_with fail
  refine (unhide HW).mono ?_
  rintro e w1 ⟨r, L, rfl, hl, h1, h2, k1⟩
  have HP := hide (show ∃ r' L, Ending.returned r = .returned r' ∧ ListsAt w1 r' L ∧ Pieces n es [] L ∧ Kept [] w w1 from ⟨r, L, rfl, hl, ⟨h1, h2⟩, (unhide HK).trans k1⟩)
  obtain ⟨ro, rc, rfl, _⟩ := hl.shape
  clear hl h1 h2 k1
  go_wp2
  go_ret
  exact unhide HP

set_option maxRecDepth 20000 in
set_option maxHeartbeats 4000000 in
theorem odd_any {w : World} {n : Int} {v u : Value} {es : List E} {xs : List Int} (h : EdgesAt w v es) (hx : IntsAt w u xs) (hT : Tab w) :
    Calls Tryd.prog 15 #[gv n v, u] w fun e w' => ∃ L, e = .returned (.int .i64 (oddL L : Nat)) ∧ Pieces n es xs L ∧ Kept [] w w' := by
  obtain ⟨ao, cap, rfl, _⟩ := h.shape
  have KB := (Kept.refl [] w).alloc (.cells #[.int .i64 n, .slice ao es.length cap] 24)
  have HW := hide (without_any (n := n) (h.kept KB) (hx.kept KB) (hT.kept KB (by simp)))
  have HK := hide KB
  clear h hT KB hx
  go_enter Tryd.func15, Tryd.ntmps15
  go_wp2_with fail
  refine (unhide HW).mono ?_
  rintro e w1 ⟨r, L, rfl, hl, h1, h2, k1⟩
  have HP := hide (show Pieces n es xs L from ⟨h1, h2⟩)
  obtain ⟨ro, rc, rfl, hm, _⟩ := hl.shape
  have HL := hide hl
  have HK1 := hide ((unhide HK).trans k1)
  have hlen := (unhide HP).len
  clear hl h1 h2 k1 hm
  go_wp2
  go_loopw [5, 12] (fun cc kk wr => ∃ k : Nat, k ≤ L.length ∧ kk = .int .i64 k ∧ cc = .int .i64 (oddL (L.take k) : Nat) ∧ wr = w1) (fun _ kk _ => L.length - (intOf kk).toNat)
  case atStart => exact ⟨0, Nat.zero_le _, rfl, rfl, rfl⟩
  case round =>
    obtain ⟨k, hk, rfl, rfl, rfl⟩ := hrel
    have hol := oddL_le (L.take k)
    have hol2 : (L.take k).length ≤ k := List.length_take_le _ _
    by_cases hlt : k < L.length
    · obtain ⟨ro2, rc2, hv, _, hin⟩ := (unhide HL).shape
      obtain ⟨g, o, he, hc⟩ := hin (by omega)
      have e2 : ro = some ⟨g, o, none⟩ := by simp at hv; rw [hv.1, he]
      subst e2
      obtain ⟨u2, hu, hi2⟩ := hc k hlt
      obtain ⟨uo, uc, rfl, hum, _⟩ := hi2.shape
      have humI : ((L.getD k []).length : Int) ≤ 9223372036854775807 := by unfold maxLen at hum; omega
      have HS := hide (oddL_step hlt)
      have hmod : IntKind.i64.wrap (((L.getD k []).length : Int).tmod 2) = (((L.getD k []).length % 2 : Nat) : Int) := by
        rw [Int.tmod_eq_emod_of_nonneg (by omega), IntWalk.i64_left, IntWalk.wrap64_in _ (by omega)]; omega
      have k0 : (0 : Int) ≤ (k : Int) := by omega
      have k1 : (k : Int) < (L.length : Int) := by omega
      clear hv he hc hin hi2 hum
      generalize (L.getD k []).length = m at *
      go_wp2
      go_roundw
      case rel => exact ⟨k + 1, by omega, by go_num, by rw [unhide HS]; go_num, by first | rfl | trivial⟩
      case measure => simp [intOf]; omega
    · have HT := hide (show L.take k = L from List.take_of_length_le (by omega))
      go_wp2
      go_ret
      exact ⟨L, ret_int (by rw [unhide HT]), unhide HP, unhide HK1⟩
end Go.Proofs.YtmpcnepiogjokaaDoor

namespace Go.Proofs.YtmpcnepiogjokaaDoor
open Go.RowKit

theorem eq_of_getD {xs ys : List Int} (hl : xs.length = ys.length) (h : ∀ j, j < xs.length → xs.getD j 0 = ys.getD j 0) : xs = ys := by
  apply List.ext_getElem hl
  intro i h1 h2
  have := h i h1
  rw [getD_elem h1, getD_elem h2] at this
  exact this
set_option maxHeartbeats 400000 in
theorem one_any (w : World) (x y : Int) : Calls Tryd.prog 40 #[.int .i64 x, .int .i64 y] w fun e w' => e = .returned (.bool (x == y)) ∧ w' = w := by
  go_enter Tryd.func40, Tryd.ntmps40
  go_wp2
  go_ret
  exact ⟨rfl, rfl⟩
set_option maxHeartbeats 400000 in
theorem same_ne (w : World) (ao bo : Option Addr) (la ca lb cb : Nat) (f : Value) (hne : ((la : Int) != (lb : Int)) = true) :
    Calls Tryd.prog 39 #[.slice ao la ca, .slice bo lb cb, f] w fun e w' => e = .returned (.bool false) ∧ w' = w := by
  go_enter Tryd.func39, Tryd.ntmps39
  go_wp2
  go_ret
  exact ⟨rfl, rfl⟩
set_option maxHeartbeats 400000 in
theorem same_zero (w : World) (ao bo : Option Addr) (ca cb : Nat) (f : Value) :
    Calls Tryd.prog 39 #[.slice ao 0 ca, .slice bo 0 cb, f] w fun e w' => e = .returned (.bool true) ∧ w' = w := by
  go_enter Tryd.func39, Tryd.ntmps39
  go_wp2
  go_loop [7] (fun i => i = .int .i64 0) (fun _ => 0)
  case atStart => rfl
  case round =>
    subst hrel
    go_wp2
    go_ret
    exact ⟨rfl, rfl⟩
set_option maxHeartbeats 1000000 in
theorem same_core (w : World) (ga oa gb ob ca cb L : Nat) (xs ys : List Int) (hx : xs.length = L) (hy : ys.length = L) (hL : L ≤ 9223372036854775807) (hxc : Hid (∀ i, i < L → w.cell? ⟨ga, oa + i, none⟩ = some (.int .i64 (xs.getD i 0)))) (hyc : Hid (∀ i, i < L → w.cell? ⟨gb, ob + i, none⟩ = some (.int .i64 (ys.getD i 0)))) :
    Calls Tryd.prog 39 #[.slice (some ⟨ga, oa, none⟩) L ca, .slice (some ⟨gb, ob, none⟩) L cb, .func (.func 40) #[] #[]] w fun e w' => e = .returned (.bool (decide (xs = ys))) ∧ ∃ m, w' = w.drewN m := by
  have HX := hide hx
  have HY := hide hy
  clear hx hy
  go_enter Tryd.func39, Tryd.ntmps39
  go_wp2
  go_loopw [7] (fun i wr => ∃ k m : Nat, k ≤ L ∧ i = .int .i64 k ∧ wr = w.drewN m ∧ Hid (∀ j, j < k → xs.getD j 0 = ys.getD j 0)) (fun i _ => L - (intOf i).toNat)
  case atStart => exact ⟨0, 0, Nat.zero_le _, rfl, rfl, fun j h => by omega⟩
  case round =>
    obtain ⟨k, m, hk, rfl, hwr, hall⟩ := hrel
    have HW := hide hwr
    by_cases hlt : k < L
    · have hc1 : wr.cell? ⟨ga, oa + k, none⟩ = some (.int .i64 (xs.getD k 0)) := by rw [hwr]; exact unhide hxc k hlt
      have hc2 : wr.cell? ⟨gb, ob + k, none⟩ = some (.int .i64 (ys.getD k 0)) := by rw [hwr]; exact unhide hyc k hlt
      clear hwr
      by_cases he : xs.getD k 0 = ys.getD k 0
      · have hq : (xs.getD k 0 == ys.getD k 0) = true := by simpa using he
        have hall2 := hide (show ∀ j, j < k + 1 → xs.getD j 0 = ys.getD j 0 from fun j hj => by
          by_cases e : j = k
          · subst e; exact he
          · exact unhide hall j (by omega))
        clear he
        generalize xs.getD k 0 = x at *
        generalize ys.getD k 0 = y at *
        have hone := hide (fun W => one_any W x y)
        go_wp2_with fail
        go_quiet ((go_at_call 40; exact Calls.quiet_of_same (unhide hone _)))
        go_wp2
        go_roundw
        case rel => exact ⟨k + 1, m + nq, by omega, by go_num, by rw [unhide HW, World.drewN_drewN], hall2⟩
        case measure => simp [intOf]; omega
      · have hq : (xs.getD k 0 == ys.getD k 0) = false := by simpa using he
        have hfin := hide (show decide (xs = ys) = false by simp; intro e; exact he (by rw [e]))
        clear he
        generalize xs.getD k 0 = x at *
        generalize ys.getD k 0 = y at *
        have hone := hide (fun W => one_any W x y)
        go_wp2_with fail
        go_quiet ((go_at_call 40; exact Calls.quiet_of_same (unhide hone _)))
        go_wp2
        go_ret
        exact ⟨ret_bool (unhide hfin).symm, m + nq, by rw [unhide HW, World.drewN_drewN]⟩
    · have hfin := hide (show decide (xs = ys) = true by
        simp
        exact eq_of_getD (by rw [unhide HX, unhide HY]) (fun j hj => unhide hall j (by rw [unhide HX] at hj; omega)))
      clear hwr
      go_wp2
      go_ret
      exact ⟨ret_bool (unhide hfin).symm, m, unhide HW⟩

/-- Plain: are two lists the same? -/
theorem same_any {w : World} {a b : Value} {xs ys : List Int} (ha : IntsAt w a xs) (hb : IntsAt w b ys) :
    Calls Tryd.prog 39 #[a, b, .func (.func 40) #[] #[]] w fun e w' => e = .returned (.bool (decide (xs = ys))) ∧ ∃ m, w' = w.drewN m := by
  obtain ⟨ao, ca, rfl, hma, hca⟩ := ha.shape
  obtain ⟨bo, cb, rfl, hmb, hcb⟩ := hb.shape
  by_cases hl : xs.length = ys.length
  · by_cases h0 : xs.length = 0
    · have e1 : xs = [] := List.eq_nil_of_length_eq_zero h0
      have e2 : ys = [] := List.eq_nil_of_length_eq_zero (by omega)
      subst e1 e2
      exact (same_zero w ao bo ca cb _).mono fun e w' h => ⟨by rw [h.1]; simp, 0, h.2⟩
    · obtain ⟨ga, oa, rfl, h1⟩ := hca (by omega)
      obtain ⟨gb, ob, rfl, h2⟩ := hcb (by omega)
      unfold maxLen at hma
      rw [← hl] at h2 ⊢
      exact same_core w ga oa gb ob ca cb xs.length xs ys rfl hl.symm (by omega) (hide h1) (hide h2)
  · have e : decide (xs = ys) = false := by simp; intro h; exact hl (by rw [h])
    rw [e]
    exact (same_ne w ao bo _ ca _ cb _ (by simp; omega)).mono fun e w' h => ⟨h.1, 0, h.2⟩

set_option maxHeartbeats 400000 in
theorem plain_any {w : World} {a b : Value} {xs ys : List Int} (ha : IntsAt w a xs) (hb : IntsAt w b ys) :
    Calls Tryd.prog 22 #[a, b] w fun e w' => e = .returned (.bool (decide (xs = ys))) ∧ ∃ m, w' = w.drewN m := by
  have H := hide (same_any ha hb)
  clear ha hb
  go_enter Tryd.func22, Tryd.ntmps22
  go_wp2_with (go_at_call 39; refine (unhide H).mono ?_; rintro e w' ⟨rfl, m, rfl⟩)
  go_ret
  exact ⟨rfl, m, rfl⟩

end Go.Proofs.YtmpcnepiogjokaaDoor

namespace Go.Proofs.YtmpcnepiogjokaaDoor
open Go.RowKit

theorem lists_eq {L M : List (List Int)} (hl : L.length = M.length) (h : ∀ j, j < L.length → L.getD j [] = M.getD j []) : L = M := by
  apply List.ext_getElem hl
  intro i h1 h2
  have := h i h1
  simpa [List.getD, h1, h2] using this
set_option maxRecDepth 20000 in
set_option maxHeartbeats 1000000 in
theorem sameL_ne (w : World) (ao bo : Option Addr) (la ca lb cb : Nat) (f : Value) (hne : ((la : Int) != (lb : Int)) = true) :
    Calls Tryd.prog 33 #[.slice ao la ca, .slice bo lb cb, f] w fun e w' => e = .returned (.bool false) ∧ w' = w := by
  go_enter Tryd.func33, Tryd.ntmps33
  go_wp2
  go_ret
  exact ⟨rfl, rfl⟩
set_option maxRecDepth 20000 in
set_option maxHeartbeats 2000000 in
theorem sameL_core {w : World} {ao bo : Option Addr} {ca cb n : Nat} {L M : List (List Int)} (hL : L.length = n) (hM : M.length = n) (hn : (n : Int) ≤ 9223372036854775807)
    (hx : Hid (0 < n → ∃ g o, ao = some ⟨g, o, none⟩ ∧ ∀ i, i < n → ∃ u, w.cell? ⟨g, o + i, none⟩ = some u ∧ IntsAt w u (L.getD i [])))
    (hy : Hid (0 < n → ∃ g o, bo = some ⟨g, o, none⟩ ∧ ∀ i, i < n → ∃ u, w.cell? ⟨g, o + i, none⟩ = some u ∧ IntsAt w u (M.getD i []))) :
    Calls Tryd.prog 33 #[.slice ao n ca, .slice bo n cb, .func (.func 22) #[] #[]] w fun e w' => e = .returned (.bool (decide (L = M))) ∧ ∃ m, w' = w.drewN m := by
  have HL := hide hL
  have HM := hide hM
  clear hL hM
  go_enter Tryd.func33, Tryd.ntmps33
  go_wp2
  go_loopw [7] (fun i wr => ∃ k m : Nat, k ≤ n ∧ i = .int .i64 k ∧ wr = w.drewN m ∧ Hid (∀ j, j < k → L.getD j [] = M.getD j [])) (fun i _ => n - (intOf i).toNat)
  case atStart => exact ⟨0, 0, Nat.zero_le _, rfl, rfl, fun j h => by omega⟩
  case round =>
    obtain ⟨k, m, hk, rfl, hwr, hall⟩ := hrel
    have HW := hide hwr
    by_cases hlt : k < n
    · obtain ⟨ga, oa, rfl, ha⟩ := unhide hx (by omega)
      obtain ⟨gb, ob, rfl, hb⟩ := unhide hy (by omega)
      obtain ⟨ua, hua, hia⟩ := ha k hlt
      obtain ⟨ub, hub, hib⟩ := hb k hlt
      have hc1 : wr.cell? ⟨ga, oa + k, none⟩ = some ua := by rw [hwr]; exact hua
      have hc2 : wr.cell? ⟨gb, ob + k, none⟩ = some ub := by rw [hwr]; exact hub
      have hpl := hide (fun W q (hW : W = w.drewN q) => by
        have := plain_any (hia.kept ((Kept.refl [] w).drewN q)) (hib.kept ((Kept.refl [] w).drewN q))
        rw [← hW] at this
        exact this)
      have k0 : (0 : Int) ≤ (k : Int) := by omega
      have k1 : (k : Int) < (n : Int) := by omega
      obtain ⟨pa, qa, ra, rfl⟩ : ∃ pa qa ra, ua = .slice pa qa ra := by obtain ⟨x, y, rfl, _⟩ := hia.shape; exact ⟨_, _, _, rfl⟩
      obtain ⟨pb, qb, rb, rfl⟩ : ∃ pb qb rb, ub = .slice pb qb rb := by obtain ⟨x, y, rfl, _⟩ := hib.shape; exact ⟨_, _, _, rfl⟩
      clear hwr ha hb hua hub hia hib
      cases he : decide (L.getD k [] = M.getD k [])
      · have hfin := hide (show decide (L = M) = false by simp; intro e; subst e; simp at he)
        have hpl2 := hide (fun W q (hW : W = w.drewN q) => he ▸ unhide hpl W q hW)
        clear hpl he
        go_wp2_with fail
        go_quiet ((go_at_call 22; exact Calls.quiet_of (unhide hpl2 _ _ (by rw [unhide HW, World.drewN_drewN]))))
        go_wp2
        go_ret
        exact ⟨ret_bool (unhide hfin).symm, m + nq, by rw [unhide HW, World.drewN_drewN]⟩
      · have hall2 := hide (show ∀ j, j < k + 1 → L.getD j [] = M.getD j [] from fun j hj => by
          by_cases e : j = k
          · subst e; simpa using he
          · exact unhide hall j (by omega))
        have hpl2 := hide (fun W q (hW : W = w.drewN q) => he ▸ unhide hpl W q hW)
        clear hpl he
        go_wp2_with fail
        go_quiet ((go_at_call 22; exact Calls.quiet_of (unhide hpl2 _ _ (by rw [unhide HW, World.drewN_drewN]))))
        go_wp2
        go_roundw
        case rel => exact ⟨k + 1, m + nq, by omega, by go_num, by rw [unhide HW, World.drewN_drewN], hall2⟩
        case measure => simp [intOf]; omega
    · have hfin := hide (show decide (L = M) = true by
        simp
        exact lists_eq (by rw [unhide HL, unhide HM]) (fun j hj => unhide hall j (by rw [unhide HL] at hj; omega)))
      clear hwr
      go_wp2
      go_ret
      exact ⟨ret_bool (unhide hfin).symm, m, unhide HW⟩
end Go.Proofs.YtmpcnepiogjokaaDoor

namespace Go.Proofs.YtmpcnepiogjokaaDoor
open Go.RowKit

theorem sameL_any {w : World} {a b : Value} {L M : List (List Int)} (ha : ListsAt w a L) (hb : ListsAt w b M) :
    Calls Tryd.prog 33 #[a, b, .func (.func 22) #[] #[]] w fun e w' => e = .returned (.bool (decide (L = M))) ∧ ∃ m, w' = w.drewN m := by
  obtain ⟨ao, ca, rfl, hma, hca⟩ := ha.shape
  obtain ⟨bo, cb, rfl, hmb, hcb⟩ := hb.shape
  by_cases hl : L.length = M.length
  · unfold maxLen at hma
    rw [← hl] at hcb ⊢
    exact sameL_core rfl hl.symm (by omega) (hide hca) (hide hcb)
  · have e : decide (L = M) = false := by simp; intro h; exact hl (by rw [h])
    rw [e]
    exact (sameL_ne w ao bo _ ca _ cb _ (by simp; omega)).mono fun e w' h => ⟨h.1, 0, h.2⟩
set_option maxRecDepth 20000 in
set_option maxHeartbeats 400000 in
theorem lists_any {w : World} {a b : Value} {L M : List (List Int)} (ha : ListsAt w a L) (hb : ListsAt w b M) :
    Calls Tryd.prog 11 #[a, b] w fun e w' => e = .returned (.bool (decide (L = M))) ∧ ∃ m, w' = w.drewN m := by
  have H := hide (sameL_any ha hb)
  clear ha hb
  go_enter Tryd.func11, Tryd.ntmps11
  go_wp2_with (go_at_call 33; refine (unhide H).mono ?_; rintro e w' ⟨rfl, m, rfl⟩)
  go_ret
  exact ⟨rfl, m, rfl⟩

/-- Are two in one piece? -/
def SameP (n : Int) (es : List E) (a b : Int) : Prop := rightB n es = true ∧ Reach es (Alive n []) a b
theorem intsNil (w : World) : IntsAt w (.slice none 0 0) [] := ⟨none, 0, rfl, Nat.le_refl _, Nat.zero_le _, fun h => by simp at h⟩

set_option maxRecDepth 20000 in
set_option maxHeartbeats 4000000 in
theorem psame_any {w : World} {n : Int} {v : Value} {es : List E} (h : EdgesAt w v es) (hT : Tab w) (a b : Int) :
    Calls Tryd.prog 17 #[gv n v, .int .i64 a, .int .i64 b] w fun e w' => ∃ c, e = .returned (.bool c) ∧ (c = true ↔ SameP n es a b) ∧ Kept [] w w' := by
  obtain ⟨ao, cap, rfl, _⟩ := h.shape
  have KB := (Kept.refl [] w).alloc (.cells #[.int .i64 n, .slice ao es.length cap] 24)
  cases hr : rightB n es
  · have HR := hide (restOf_no (u := .slice none 0 0) (h.kept KB) hr)
    have HN := hide (show ¬ SameP n es a b from fun hs => by rw [hs.1] at hr; cases hr)
    have HK := hide KB
    clear h hT KB
    go_enter Tryd.func17, Tryd.ntmps17
    go_wp2_with fail
    refine (unhide HR).mono ?_
    rintro e w1 ⟨q, rfl, c0, c1, k1⟩
    have HT := hide (take_zero c1 a)
    clear c0 c1
    go_wp2_with fail
    refine (unhide HT).mono ?_
    rintro e w2 ⟨rfl, k2⟩
    have HC := hide (containsI_any (intsNil w2) b)
    go_wp2_with fail
    refine (unhide HC).mono ?_
    rintro e w3 ⟨rfl, rfl⟩
    go_wp2
    go_ret
    exact ⟨_, rfl, by simp; exact unhide HN, ((unhide HK).trans k1).trans k2⟩
  · obtain ⟨N, rfl⟩ := Int.eq_ofNat_of_zero_le (right_rise hr).1
    have HR := hide (restOf_yes (xs := []) (h.kept KB) (intsNil _) hr (hT.kept KB (by simp)))
    have HOK := hide (right_rise hr).2.2.2.2
    have HRT := hide hr
    have HK := hide KB
    clear h hT KB hr
    go_enter Tryd.func17, Tryd.ntmps17
    go_wp2_with fail
    refine (unhide HR).mono ?_
    rintro e w1 ⟨q, g, s, b', m, d, ws, rfl, R1, hbw, hH, k1⟩
    have HT := hide (take_any R1 (unhide HOK) a)
    have HW := hide (show Has ws = Alive (N : Int) [] from funext fun x => propext (hH x))
    have hbw' : w.heap.size < b' := by have := hbw; simp at this; omega
    clear R1 hH hbw
    go_wp2_with fail
    refine (unhide HT).mono ?_
    rintro e w2 ⟨r, l, ws', rfl, hr1, hf, R2, k2, h1, h2⟩
    have HC := hide (containsI_any hr1 b)
    have HS := hide (show (decide (b ∈ l) = true ↔ SameP (N : Int) es a b) by
      unfold SameP
      rw [← unhide HW]
      simp only [decide_eq_true_eq, unhide HRT, true_and]
      cases hx : hasI ws a
      · rw [(h1 hx).1]
        simp
        intro hR
        have := hR.left
        unfold Has at this
        rw [hx] at this; cases this
      · exact (h2 hx).2.1 b)
    obtain ⟨ro, rc, rfl, _⟩ := hr1.shape
    have HK2 := hide (((unhide HK).trans k1).trans' k2 (fun k hk => by simp at hk; subst hk; exact Or.inr (by omega)))
    clear hr1 hf R2 k2 h1 h2
    go_wp2_with fail
    refine (unhide HC).mono ?_
    rintro e w3 ⟨rfl, rfl⟩
    go_wp2
    go_ret
    exact ⟨_, rfl, unhide HS, unhide HK2⟩

def es0 : List E := [(0, 1), (1, 2)]
theorem adj0 {x y : Int} : Adj es0 x y ↔ (x = 0 ∧ y = 1) ∨ (x = 1 ∧ y = 2) ∨ (y = 0 ∧ x = 1) ∨ (y = 1 ∧ x = 2) := by
  unfold Adj es0
  simp [Prod.ext_iff]
  omega
theorem alive0 {x : Int} : Alive 4 [] x ↔ 0 ≤ x ∧ x < 4 := by unfold Alive; simp
theorem reach0 {x y : Int} (hx : x = 0 ∨ x = 1 ∨ x = 2) (hy : y = 0 ∨ y = 1 ∨ y = 2) : Reach es0 (Alive 4 []) x y := by
  have r1 : Reach es0 (Alive 4 []) 1 0 := (Reach.refl (alive0.2 (by omega))).step (adj0.2 (by omega)) (alive0.2 (by omega))
  have r2 : Reach es0 (Alive 4 []) 1 2 := (Reach.refl (alive0.2 (by omega))).step (adj0.2 (by omega)) (alive0.2 (by omega))
  have h1 : ∀ z, z = 0 ∨ z = 1 ∨ z = 2 → Reach es0 (Alive 4 []) 1 z := by
    rintro z (rfl | rfl | rfl)
    · exact r1
    · exact Reach.refl (alive0.2 (by omega))
    · exact r2
  exact (h1 x hx).symm.trans (h1 y hy)
theorem pieces0 : IsPieces es0 (Alive 4 []) [[0, 1, 2], [3]] where
  rise := by simp
  ne := by simp
  heads := by simp
  all x hx := by
    rw [alive0] at hx
    by_cases e : x = 3
    · exact ⟨[3], by simp, by simp [e]⟩
    · exact ⟨[0, 1, 2], by simp, by simp; omega⟩
  cls l hl x hx := by
    simp at hl
    rcases hl with rfl | rfl
    · simp at hx
      refine ⟨alive0.2 (by omega), fun y => ⟨fun hy => reach0 hx (by simpa using hy), fun hr => ?_⟩⟩
      refine hr.closed (P := fun y => y ∈ [0, 1, 2]) (by simpa using hx) (fun y z hy _ ha _ => ?_)
      rw [adj0] at ha
      simp at hy ⊢
      omega
    · simp at hx
      subst hx
      refine ⟨alive0.2 (by omega), fun y => ⟨fun hy => by simp at hy; subst hy; exact Reach.refl (alive0.2 (by omega)), fun hr => ?_⟩⟩
      refine hr.closed (P := fun y => y ∈ [3]) (by simp) (fun y z hy _ ha _ => ?_)
      rw [adj0] at ha
      simp at hy
      omega
theorem right0 : rightB 4 es0 = true := by decide +kernel
theorem Pieces.zero {L : List (List Int)} (h : Pieces 4 es0 [] L) : L = [[0, 1, 2], [3]] := (h.1 right0).unique pieces0
theorem same0 : SameP 4 es0 0 2 := ⟨right0, reach0 (by omega) (by omega)⟩
end Go.Proofs.YtmpcnepiogjokaaDoor

namespace Go.Proofs.YtmpcnepiogjokaaDoor
open Go.RowKit

/-- Edges, so many more at each end. -/
def shiftE (n : Int) (hs : List E) : List E := hs.map fun e => (e.1 + n, e.2 + n)
/-- Edges of two graphs side by side. -/
def besideE (n : Int) (es hs : List E) : List E := es ++ shiftE n hs
theorem mem_shiftE {n : Int} {hs : List E} {x y : Int} : (x, y) ∈ shiftE n hs ↔ (x - n, y - n) ∈ hs := by
  unfold shiftE
  rw [List.mem_map]
  constructor
  · rintro ⟨⟨a, b⟩, h, e⟩
    simp only [Prod.mk.injEq] at e
    rw [show x - n = a by omega, show y - n = b by omega]; exact h
  · intro h
    exact ⟨_, h, by simp only [Prod.mk.injEq]; omega⟩
theorem beside_right {n m : Int} {es hs : List E} (hr : rightB n es = true) (hk : rightB m hs = true) (hnm : n + m ≤ 4096) (hl : es.length + hs.length ≤ 65536) : rightB (n + m) (besideE n es hs) = true := by
  obtain ⟨n0, _, _, r1, ok1⟩ := right_rise hr
  obtain ⟨m0, _, _, r2, ok2⟩ := right_rise hk
  refine rise_right (by omega) hnm (by simp [besideE, shiftE]; exact hl) ?_ ?_
  · unfold Rise besideE
    rw [List.pairwise_append]
    refine ⟨r1, ?_, ?_⟩
    · unfold shiftE
      rw [List.pairwise_map]
      refine r2.imp (fun {a b} h => ?_)
      rw [eLt_iff] at *; simp only; omega
    · rintro ⟨a, b⟩ h1 ⟨c, d⟩ h2
      rw [mem_shiftE] at h2
      have o1 := okE_iff.1 (ok1 _ h1)
      have o2 := okE_iff.1 (ok2 _ h2)
      rw [eLt_iff]; simp only at *; omega
  · rintro ⟨a, b⟩ he
    rw [okE_iff]
    rcases List.mem_append.1 he with he | he
    · have := okE_iff.1 (ok1 _ he); simp only at *; omega
    · rw [mem_shiftE] at he
      have := okE_iff.1 (ok2 _ he); simp only at *; omega
theorem adj_beside {n : Int} {es hs : List E} {x y : Int} : Adj (besideE n es hs) x y ↔ Adj es x y ∨ Adj hs (x - n) (y - n) := by
  unfold Adj besideE
  simp only [List.mem_append, mem_shiftE]
  constructor
  · rintro ((h | h) | (h | h)) <;> simp [h]
  · rintro ((h | h) | (h | h)) <;> simp [h]
theorem adj_in {n : Int} {es : List E} (hok : ∀ e ∈ es, okE n e = true) {x y : Int} (h : Adj es x y) : (0 ≤ x ∧ x < n) ∧ (0 ≤ y ∧ y < n) := by
  rcases h with h | h
  · have := okE_iff.1 (hok _ h); simp only at this; omega
  · have := okE_iff.1 (hok _ h); simp only at this; omega
theorem alive_nil {n x : Int} : Alive n [] x ↔ 0 ≤ x ∧ x < n := by unfold Alive; simp
theorem reach_low {n m : Int} {es hs : List E} (ok1 : ∀ e ∈ es, okE n e = true) (ok2 : ∀ e ∈ hs, okE m e = true) (m0 : 0 ≤ m) {x y : Int} (hx : 0 ≤ x ∧ x < n) : Reach (besideE n es hs) (Alive (n + m) []) x y ↔ Reach es (Alive n []) x y := by
  constructor
  · intro h
    refine h.closed (P := fun y => Reach es (Alive n []) x y) (.refl (alive_nil.2 hx)) (fun y z hy _ ha _ => ?_)
    have hyr := alive_nil.1 hy.right
    rcases adj_beside.1 ha with ha | ha
    · exact hy.step ha (alive_nil.2 (adj_in ok1 ha).2)
    · have := (adj_in ok2 ha).1; omega
  · intro h
    refine h.closed (P := fun y => Reach (besideE n es hs) (Alive (n + m) []) x y) (.refl (alive_nil.2 (by omega))) (fun y z hy _ ha hz => ?_)
    have := alive_nil.1 hz
    exact hy.step (adj_beside.2 (Or.inl ha)) (alive_nil.2 (by omega))
theorem reach_high {n m : Int} {es hs : List E} (ok1 : ∀ e ∈ es, okE n e = true) (ok2 : ∀ e ∈ hs, okE m e = true) (n0 : 0 ≤ n) {x y : Int} (hx : 0 ≤ x ∧ x < m) : Reach (besideE n es hs) (Alive (n + m) []) (x + n) y ↔ Reach hs (Alive m []) x (y - n) := by
  constructor
  · intro h
    refine h.closed (P := fun y => Reach hs (Alive m []) x (y - n)) (by rw [show x + n - n = x by omega]; exact .refl (alive_nil.2 hx)) (fun y z hy _ ha _ => ?_)
    have hyr := alive_nil.1 hy.right
    rcases adj_beside.1 ha with ha | ha
    · have := (adj_in ok1 ha).1; omega
    · exact hy.step ha (alive_nil.2 (adj_in ok2 ha).2)
  · intro h
    have key := h.closed (P := fun z => Reach (besideE n es hs) (Alive (n + m) []) (x + n) (z + n)) (.refl (alive_nil.2 (by omega))) (fun y z hy _ ha hz => by
      have := alive_nil.1 hz
      exact hy.step (adj_beside.2 (Or.inr (by rw [show y + n - n = y by omega, show z + n - n = z by omega]; exact ha))) (alive_nil.2 (by omega)))
    rw [show y - n + n = y by omega] at key
    exact key
/-- Numbers, so many more each. -/
def shiftL (n : Int) (l : List Int) : List Int := l.map fun x => x + n
theorem mem_shiftL {n x : Int} {l : List Int} : x ∈ shiftL n l ↔ x - n ∈ l := by
  unfold shiftL
  rw [List.mem_map]
  constructor
  · rintro ⟨a, h, rfl⟩; rw [show a + n - n = a by omega]; exact h
  · intro h; exact ⟨_, h, by omega⟩
theorem headD_mem {l : List Int} (h : l ≠ []) : l.headD 0 ∈ l := by
  cases l with
  | nil => exact absurd rfl h
  | cons x r => simp
theorem shiftL_head {n : Int} {l : List Int} (h : l ≠ []) : (shiftL n l).headD 0 = l.headD 0 + n := by
  cases l with
  | nil => exact absurd rfl h
  | cons x r => simp [shiftL]
/-- The pieces of two graphs side by side. -/
theorem IsPieces.beside {n m : Int} {es hs : List E} {L M : List (List Int)} (h : IsPieces es (Alive n []) L) (k : IsPieces hs (Alive m []) M) (ok1 : ∀ e ∈ es, okE n e = true) (ok2 : ∀ e ∈ hs, okE m e = true) (n0 : 0 ≤ n) (m0 : 0 ≤ m) :
    IsPieces (besideE n es hs) (Alive (n + m) []) (L ++ M.map (shiftL n)) where
  rise l hl := by
    rcases List.mem_append.1 hl with hl | hl
    · exact h.rise l hl
    · obtain ⟨q, hq, rfl⟩ := List.mem_map.1 hl
      unfold shiftL
      rw [List.pairwise_map]
      exact (k.rise q hq).imp (fun {a b} h => by omega)
  ne l hl := by
    rcases List.mem_append.1 hl with hl | hl
    · exact h.ne l hl
    · obtain ⟨q, hq, rfl⟩ := List.mem_map.1 hl
      intro e
      exact k.ne q hq (by simpa [shiftL] using e)
  cls l hl x hx := by
    rcases List.mem_append.1 hl with hl | hl
    · have hc := h.cls l hl x hx
      have hxn := alive_nil.1 hc.1
      exact ⟨alive_nil.2 (by omega), fun y => by rw [hc.2 y, reach_low ok1 ok2 m0 hxn]⟩
    · obtain ⟨q, hq, rfl⟩ := List.mem_map.1 hl
      rw [mem_shiftL] at hx
      have hc := k.cls q hq _ hx
      have hxn := alive_nil.1 hc.1
      refine ⟨alive_nil.2 (by omega), fun y => ?_⟩
      have := reach_high (y := y) ok1 ok2 n0 hxn
      rw [show x - n + n = x by omega] at this
      rw [mem_shiftL, hc.2 (y - n), this]
  heads := by
    rw [List.pairwise_append]
    refine ⟨h.heads, ?_, ?_⟩
    · rw [List.pairwise_map]
      refine k.heads.imp_of_mem (fun {a b} ha hb hlt => ?_)
      rw [shiftL_head (k.ne a ha), shiftL_head (k.ne b hb)]; omega
    · intro a ha b hb
      obtain ⟨q, hq, rfl⟩ := List.mem_map.1 hb
      rw [shiftL_head (k.ne q hq)]
      have h1 := alive_nil.1 (h.cls a ha _ (headD_mem (h.ne a ha))).1
      have h2 := alive_nil.1 (k.cls q hq _ (headD_mem (k.ne q hq))).1
      omega
  all x hx := by
    have hx' := alive_nil.1 hx
    by_cases hlt : x < n
    · obtain ⟨l, hl, hm⟩ := h.all x (alive_nil.2 (by omega))
      exact ⟨l, by simp [hl], hm⟩
    · obtain ⟨l, hl, hm⟩ := k.all (x - n) (alive_nil.2 (by omega))
      exact ⟨shiftL n l, List.mem_append.2 (Or.inr (List.mem_map.2 ⟨l, hl, rfl⟩)), mem_shiftL.2 hm⟩
theorem adj_ins {es : List E} {a b x y : Int} : Adj (insE es (trn a b)) x y ↔ Adj es x y ∨ (x = a ∧ y = b) ∨ (x = b ∧ y = a) := by
  unfold Adj
  simp only [insE_mem, trn, Prod.mk.injEq]
  constructor
  · rintro ((h | h) | (h | h))
    · right; omega
    · exact Or.inl (Or.inl h)
    · right; omega
    · exact Or.inl (Or.inr h)
  · rintro ((h | h) | h)
    · exact Or.inl (Or.inr h)
    · exact Or.inr (Or.inr h)
    · by_cases c : x ≤ y
      · exact Or.inl (Or.inl (by omega))
      · exact Or.inr (Or.inl (by omega))
theorem Reach.ins {es : List E} {S : Int → Prop} {a b x y : Int} (h : Reach es S x y) : Reach (insE es (trn a b)) S x y :=
  h.closed (P := fun y => Reach (insE es (trn a b)) S x y) (.refl h.left) (fun _ _ hy _ ha hz => hy.step (adj_ins.2 (Or.inl ha)) hz)
theorem reach_ins {es : List E} {S : Int → Prop} {a b x y : Int} (ha : S a) (hb : S b) : Reach (insE es (trn a b)) S x y ↔ Reach es S x y ∨ (Reach es S x a ∧ Reach es S b y) ∨ (Reach es S x b ∧ Reach es S a y) := by
  constructor
  · intro h
    refine h.closed (P := fun y => Reach es S x y ∨ (Reach es S x a ∧ Reach es S b y) ∨ (Reach es S x b ∧ Reach es S a y)) (Or.inl (.refl h.left)) (fun y z hy _ hadj hz => ?_)
    rcases adj_ins.1 hadj with hadj | ⟨rfl, rfl⟩ | ⟨rfl, rfl⟩
    · rcases hy with hy | ⟨h1, h2⟩ | ⟨h1, h2⟩
      · exact Or.inl (hy.step hadj hz)
      · exact Or.inr (Or.inl ⟨h1, h2.step hadj hz⟩)
      · exact Or.inr (Or.inr ⟨h1, h2.step hadj hz⟩)
    · rcases hy with hy | ⟨h1, h2⟩ | ⟨h1, h2⟩
      · exact Or.inr (Or.inl ⟨hy, .refl hb⟩)
      · exact Or.inr (Or.inl ⟨h1, .refl hb⟩)
      · exact Or.inl h1
    · rcases hy with hy | ⟨h1, h2⟩ | ⟨h1, h2⟩
      · exact Or.inr (Or.inr ⟨hy, .refl ha⟩)
      · exact Or.inl h1
      · exact Or.inr (Or.inr ⟨h1, .refl ha⟩)
  · have st : Reach (insE es (trn a b)) S a b := (Reach.refl ha).step (adj_ins.2 (Or.inr (Or.inl ⟨rfl, rfl⟩))) hb
    rintro (h | ⟨h1, h2⟩ | ⟨h1, h2⟩)
    · exact h.ins
    · exact (h1.ins.trans st).trans h2.ins
    · exact (h1.ins.trans st.symm).trans h2.ins
/-- An edge more within a piece. -/
theorem IsPieces.within {es : List E} {S : Int → Prop} {a b : Int} {L : List (List Int)} (h : IsPieces es S L) (hr : Reach es S a b) : IsPieces (insE es (trn a b)) S L :=
  ⟨h.rise, h.ne, fun l hl x hx => ⟨(h.cls l hl x hx).1, fun y => by
    rw [(h.cls l hl x hx).2 y, reach_ins hr.left hr.right]
    exact ⟨Or.inl, by
      rintro (h | ⟨h1, h2⟩ | ⟨h1, h2⟩)
      · exact h
      · exact (h1.trans hr).trans h2
      · exact (h1.trans hr.symm).trans h2⟩⟩, h.heads, h.all⟩
/-- The least of its piece. -/
def Hd (es : List E) (S : Int → Prop) (v : Int) : Prop := S v ∧ ∀ y, Reach es S v y → v ≤ y
theorem rise_head_le {l : List Int} (h : l.Pairwise (· < ·)) {x : Int} (hx : x ∈ l) : l.headD 0 ≤ x := by
  cases l with
  | nil => simp at hx
  | cons y r =>
    simp only [List.headD_cons]
    rcases List.mem_cons.1 hx with rfl | hx
    · exact Int.le_refl _
    · exact Int.le_of_lt ((List.pairwise_cons.1 h).1 _ hx)
theorem IsPieces.hd {es : List E} {S : Int → Prop} {L : List (List Int)} (h : IsPieces es S L) {v : Int} : v ∈ L.map (fun l => l.headD 0) ↔ Hd es S v := by
  rw [List.mem_map]
  constructor
  · rintro ⟨l, hl, rfl⟩
    have hm := headD_mem (h.ne l hl)
    have hc := h.cls l hl _ hm
    exact ⟨hc.1, fun y hy => rise_head_le (h.rise l hl) ((hc.2 y).2 hy)⟩
  · rintro ⟨hS, hv⟩
    obtain ⟨l, hl, hm⟩ := h.all v hS
    refine ⟨l, hl, ?_⟩
    have h1 := rise_head_le (h.rise l hl) hm
    have h2 := hv _ (((h.cls l hl v hm).2 _).1 (headD_mem (h.ne l hl)))
    omega
theorem IsPieces.hd_rise {es : List E} {S : Int → Prop} {L : List (List Int)} (h : IsPieces es S L) : (L.map (fun l => l.headD 0)).Pairwise (· < ·) := by
  rw [List.pairwise_map]; exact h.heads
theorem filter_ne_len {l : List Int} (h : l.Nodup) {x : Int} (hx : x ∈ l) : (l.filter fun y => decide (y ≠ x)).length + 1 = l.length := by
  induction l with
  | nil => simp at hx
  | cons y r ih =>
    have hn := List.nodup_cons.1 h
    rcases List.mem_cons.1 hx with e | e
    · subst e
      have : (r.filter fun z => decide (z ≠ x)) = r := List.filter_eq_self.2 (fun z hz => by simp; intro e; subst e; exact hn.1 hz)
      simp only [List.filter_cons, ne_eq, not_true_eq_false, decide_false, Bool.false_eq_true, if_false, List.length_cons]
      rw [this]
    · have hne : y ≠ x := fun e2 => hn.1 (by rw [e2]; exact e)
      simp only [List.filter_cons, ne_eq, hne, not_false_eq_true, decide_true, if_true, List.length_cons]
      have := ih hn.2 e
      simp only [ne_eq] at this
      omega
/-- An edge more that joins two pieces: one piece less. -/
theorem IsPieces.across {es : List E} {S : Int → Prop} {a b : Int} {L M : List (List Int)} (h : IsPieces es S L) (k : IsPieces (insE es (trn a b)) S M) (ha : S a) (hb : S b) (hno : ¬ Reach es S a b) : M.length + 1 = L.length := by
  obtain ⟨la, hla, hma⟩ := h.all a ha
  obtain ⟨lb, hlb, hmb⟩ := h.all b hb
  have ca := h.cls la hla a hma
  have cb := h.cls lb hlb b hmb
  have ra : Reach es S a (la.headD 0) := (ca.2 _).1 (headD_mem (h.ne la hla))
  have rb : Reach es S b (lb.headD 0) := (cb.2 _).1 (headD_mem (h.ne lb hlb))
  have da : Hd es S (la.headD 0) := h.hd.1 (List.mem_map.2 ⟨la, hla, rfl⟩)
  have db : Hd es S (lb.headD 0) := h.hd.1 (List.mem_map.2 ⟨lb, hlb, rfl⟩)
  generalize la.headD 0 = p at *
  generalize lb.headD 0 = q at *
  have hpq : p ≠ q := fun e => hno (by subst e; exact ra.trans rb.symm)
  have huq : ∀ v w, Hd es S v → Hd es S w → Reach es S v w → v = w := fun v w hv hw hr => by
    have := hv.2 _ hr; have := hw.2 _ hr.symm; omega
  have key : ∀ v, Hd (insE es (trn a b)) S v ↔ Hd es S v ∧ v ≠ max p q := by
    intro v
    constructor
    · intro hv
      refine ⟨⟨hv.1, fun y hy => hv.2 y hy.ins⟩, fun e => ?_⟩
      have rpq : Reach (insE es (trn a b)) S p q := (reach_ins ha hb).2 (Or.inr (Or.inl ⟨ra.symm, rb⟩))
      by_cases hlt : p < q
      · have e2 : v = q := by omega
        subst e2
        have := hv.2 _ rpq.symm; omega
      · have e2 : v = p := by omega
        subst e2
        have := hv.2 _ rpq; omega
    · rintro ⟨hv, hne⟩
      refine ⟨hv.1, fun y hy => ?_⟩
      rcases (reach_ins ha hb).1 hy with h1 | ⟨h1, h2⟩ | ⟨h1, h2⟩
      · exact hv.2 y h1
      · have e : v = p := huq v p hv da (h1.trans ra)
        have := db.2 y (rb.symm.trans h2)
        omega
      · have e : v = q := huq v q hv db (h1.trans rb)
        have := da.2 y (ra.symm.trans h2)
        omega
  have hmx : max p q ∈ L.map (fun l => l.headD 0) := by
    rw [h.hd]
    by_cases hlt : p < q
    · rw [show max p q = q by omega]; exact db
    · rw [show max p q = p by omega]; exact da
  have e : M.map (fun l => l.headD 0) = (L.map (fun l => l.headD 0)).filter fun y => decide (y ≠ max p q) := by
    refine rising_eq k.hd_rise (h.hd_rise.filter _) (fun x => ?_)
    rw [k.hd, key, List.mem_filter, h.hd]
    simp
  have hlen := filter_ne_len (pair_irr h.hd_rise) hmx
  rw [← e] at hlen
  simpa using hlen
end Go.Proofs.YtmpcnepiogjokaaDoor

namespace Go.Proofs.YtmpcnepiogjokaaDoor
open Go.RowKit

theorem two_cells {w : World} (x y : Value) (t : TypeId) {p : Nat} (hp : p = w.heap.size) : ∀ j u, [x, y][j]? = some u → (w.alloc (.cells #[x, y] t)).cell? ((⟨p, 0, none⟩ : Addr).add j) = some u := by
  subst hp
  exact World.news_of_block (new_block w (.cells #[x, y] t))
theorem own_form3' {w : World} {base e size n : Nat} {v : Value} {xs : List Value} (h : w.ownsRow base e size v n xs) : ∃ ao m cap, v = .slice ao m cap := by
  rcases h.2 with ⟨rfl, _⟩ | ⟨g, cap, cur, rfl, _⟩
  · exact ⟨_, _, _, rfl⟩
  · exact ⟨_, _, _, rfl⟩
/-- What Beside goes on, in memory: boxes p2, p3, the answer's p4, out's p5. -/
structure Bs (w W : World) (B p5 : Nat) (n m : Int) (u r : Value) (fs : List E) : Prop where
  g0 : W.cell? ⟨w.heap.size, 0, none⟩ = some (.int .i64 n)
  g1 : W.cell? ⟨w.heap.size + 1, 1, none⟩ = some u
  r0 : W.cell? ⟨w.heap.size + 2, 0, none⟩ = some (.int .i64 0)
  r1 : W.cell? ⟨w.heap.size + 2, 1, none⟩ = some (.slice none 0 0)
  e0 : W.frozen? ⟨w.heap.size + 2, 0, none⟩ = false
  e1 : W.frozen? ⟨w.heap.size + 2, 1, none⟩ = false
  o0 : W.cell? ⟨p5, 0, none⟩ = some (.int .i64 (n + m))
  o1 : W.cell? ⟨p5, 1, none⟩ = some r
  f1 : W.frozen? ⟨p5, 1, none⟩ = false
  own : OwnE W B r fs
  ne : r.ownBlock ≠ some p5
  B0 : w.heap.size + 3 ≤ B
  p50 : w.heap.size + 3 ≤ p5
  Bw : B ≤ W.heap.size
  kept : Kept [] w W
theorem Bs.push {w W x5 : World} {B p5 : Nat} {n m : Int} {u : Value} {ro : Option Addr} {rc : Nat} {fs : List E} (h : Bs w W B p5 n m u (.slice ro fs.length rc) fs) {a b : Int} {gg cap5 : Nat}
    (own5 : x5.ownsRow B 43 2 (.slice (some ⟨gg, 0, none⟩) (fs.length + 1) cap5) (fs.length + 1) (flatE fs ++ [.int .i64 a, .int .i64 b]))
    (gr5 : (W.alloc (.cells #[.int .i64 a, .int .i64 b] 43)).grownBy x5 (Value.slice ro fs.length rc).ownBlock) (li5 : (Value.slice ro fs.length rc).ownBlock = some gg ∨ gg = W.heap.size + 1) :
    Bs w (x5.setCell ⟨p5, 1, none⟩ (.slice (some ⟨gg, 0, none⟩) (fs.length + 1) cap5)) B p5 n m u (.slice (some ⟨gg, 0, none⟩) (fs ++ [(a, b)]).length cap5) (fs ++ [(a, b)]) := by
  have hlen : (fs ++ [(a, b)]).length = fs.length + 1 := by simp
  have hob := own_block (show W.ownsRow B 43 2 (.slice ro fs.length rc) fs.length (flatE fs) from h.own)
  have kg : Kept (Value.slice ro fs.length rc).ownBlock.toList W x5 := (((Kept.refl [] W).alloc _).mono (by simp)).trans (grown_kept gr5)
  have hB := h.B0
  have hp := h.p50
  have hp5 := lt_of_cell h.o1
  have nb : ∀ q, q < B → q ∉ (Value.slice ro fs.length rc).ownBlock.toList := fun q hq hm => by have := hob q (by simpa using hm); omega
  have n5 : p5 ∉ (Value.slice ro fs.length rc).ownBlock.toList := fun hm => h.ne (by simpa using hm)
  have o1' := kept_cell' h.o1 kg n5
  have f1' := kept_free' h.o1 h.f1 kg n5
  have gne : gg ≠ p5 := by
    rcases li5 with h1 | h1
    · exact fun e => h.ne (by rw [h1, e])
    · omega
  have ks : Kept [p5] x5 (x5.setCell ⟨p5, 1, none⟩ (.slice (some ⟨gg, 0, none⟩) (fs.length + 1) cap5)) := (Kept.refl _ _).setCell (Or.inl (by simp)) _
  rw [hlen]
  refine ⟨?_, ?_, ?_, ?_, ?_, ?_, ?_, ?_, ?_, ?_, ?_, hB, hp, Nat.le_trans h.Bw (Nat.le_trans kg.size ks.size), ?_⟩
  · exact kept_cell' (kept_cell' h.g0 kg (nb _ (by omega))) ks (by simp; omega)
  · exact kept_cell' (kept_cell' h.g1 kg (nb _ (by omega))) ks (by simp; omega)
  · exact kept_cell' (kept_cell' h.r0 kg (nb _ (by omega))) ks (by simp; omega)
  · exact kept_cell' (kept_cell' h.r1 kg (nb _ (by omega))) ks (by simp; omega)
  · exact kept_free' (kept_cell' h.r0 kg (nb _ (by omega))) (kept_free' h.r0 h.e0 kg (nb _ (by omega))) ks (by simp; omega)
  · exact kept_free' (kept_cell' h.r1 kg (nb _ (by omega))) (kept_free' h.r1 h.e1 kg (nb _ (by omega))) ks (by simp; omega)
  · rw [cell_set_off (by omega)]; exact kept_cell' h.o0 kg n5
  · exact cell_set_eq o1'
  · rw [frozen_set]; exact f1'
  · have own6 : OwnE x5 B (.slice (some ⟨gg, 0, none⟩) (fs.length + 1) cap5) (fs ++ [(a, b)]) := by
      unfold OwnE; rw [hlen, flatE_app]; exact own5
    obtain ⟨h1, h2⟩ := own6
    rcases h2 with ⟨h2, _⟩ | ⟨g, cap, cur, hv, hg, hh, h5, h6, h7, h8⟩
    · cases h2
    · refine ⟨h1, Or.inr ⟨g, cap, cur, hv, hg, ?_, h5, h6, h7, h8⟩⟩
      have e : gg = g := by simp at hv; exact hv.1
      rw [ks.block g (by rcases Nat.lt_or_ge g x5.heap.size with hb | hb; exact hb; rw [Array.getElem?_eq_none (by omega)] at hh; simp at hh) (by simp; omega)]
      exact hh
  · simp [Value.ownBlock]; exact gne
  · exact (h.kept.trans' kg (fun q hq => Or.inr (by have := hob q (by simpa using hq); omega))).setCell (Or.inr (by show w.heap.size ≤ p5; omega)) _
/-- Four boxes at once. -/
theorem boxes3 (w : World) (a b c d : Value) (t : TypeId) (W : World) (k : Kept [] (((w.alloc (.cells #[a, b] t)).alloc (.cells #[c, d] t)).alloc (.cells #[.int .i64 0, .slice none 0 0] t)) W) :
    (W.cell? ⟨w.heap.size, 0, none⟩ = some a ∧ W.cell? ⟨w.heap.size, 1, none⟩ = some b) ∧ (W.cell? ⟨w.heap.size + 1, 0, none⟩ = some c ∧ W.cell? ⟨w.heap.size + 1, 1, none⟩ = some d) ∧ (W.cell? ⟨w.heap.size + 2, 0, none⟩ = some (.int .i64 0) ∧ W.cell? ⟨w.heap.size + 2, 1, none⟩ = some (.slice none 0 0)) ∧ W.frozen? ⟨w.heap.size + 2, 0, none⟩ = false ∧ W.frozen? ⟨w.heap.size + 2, 1, none⟩ = false := by
  have k1 := ((Kept.refl [] (w.alloc (.cells #[a, b] t))).alloc (.cells #[c, d] t)).alloc (.cells #[.int .i64 0, .slice none 0 0] t)
  have k2 := (Kept.refl [] ((w.alloc (.cells #[a, b] t)).alloc (.cells #[c, d] t))).alloc (.cells #[.int .i64 0, .slice none 0 0] t)
  have h1 := box2 (k1.trans k) (by simp)
  have h2 := box2 (k2.trans k) (by simp)
  have h3 := box2 k (by simp)
  have h4 := box2f k
  simp only [World.size_alloc] at h2 h3 h4
  exact ⟨h1, h2, h3, h4⟩

set_option maxRecDepth 20000 in
set_option maxHeartbeats 8000000 in
theorem beside_any {w : World} {n m : Int} {v u : Value} {es hs : List E} (h : EdgesAt w v es) (hu : EdgesAt w u hs) (hn : 0 ≤ n ∧ n ≤ 4096) (hm : 0 ≤ m ∧ m ≤ 4096) (hok : ∀ e ∈ hs, okE m e = true) (hl1 : es.length ≤ 10000) (hl2 : hs.length ≤ 10000) :
    Calls Tryd.prog 21 #[gv n v, gv m u] w fun e w' => ∃ r, e = .returned (gv (n + m) r) ∧ EdgesAt w' r (besideE n es hs) ∧ FreshAt w.heap.size r ∧ Kept [] w w' := by
  obtain ⟨i, hi, hz0, hz1, hz2⟩ := info_parts infoEdge
  obtain ⟨ao, cap, rfl, _⟩ := h.shape
  obtain ⟨ho, hcap, rfl, _⟩ := hu.shape
  have HV := hide (fun W (k : Kept [] w W) => h.kept k)
  have HU := hide (fun W (k : Kept [] w W) => hu.kept k)
  have HOK := hide hok
  obtain ⟨hn0, hn1⟩ := hn
  obtain ⟨hm0, hm1⟩ := hm
  clear h hu hok
  have KB := (((Kept.refl [] w).alloc (.cells #[.int .i64 n, .slice ao es.length cap] 24)).alloc (.cells #[.int .i64 m, .slice ho hs.length hcap] 24)).alloc (.cells #[.int .i64 0, .slice none 0 0] 24)
  have HBX := hide (boxes3 w (.int .i64 n) (.slice ao es.length cap) (.int .i64 m) (.slice ho hs.length hcap) 24)
  have hwr : IntKind.i64.wrap (n + m) = n + m := by rw [IntWalk.i64_left, IntWalk.wrap64_in _ (by omega)]
  go_enter Tryd.func21, Tryd.ntmps21
  go_wp2_with fail
  have HKB := hide KB
  have hsz : (((w.alloc (.cells #[.int .i64 n, .slice ao es.length cap] 24)).alloc (.cells #[.int .i64 m, .slice ho hs.length hcap] 24)).alloc (.cells #[.int .i64 0, .slice none 0 0] 24)).heap.size = w.heap.size + 3 := by simp
  have BX := unhide HBX _ (Kept.refl [] _)
  obtain ⟨⟨a0, a1⟩, ⟨b0, b1⟩, _⟩ := BX
  clear KB
  generalize ((w.alloc (.cells #[.int .i64 n, .slice ao es.length cap] 24)).alloc (.cells #[.int .i64 m, .slice ho hs.length hcap] 24)).alloc (.cells #[.int .i64 0, .slice none 0 0] 24) = W3 at *
  have HSZ := hide hsz
  clear hsz
  have HL := hide (show ∀ W, Kept [] W3 W → W.cell? ⟨w.heap.size, 0, none⟩ = some (.int .i64 n) ∧ W.cell? ⟨w.heap.size, 1, none⟩ = some (.slice ao es.length cap) ∧ W.cell? ⟨w.heap.size + 1, 0, none⟩ = some (.int .i64 m) from fun W k => ⟨kept_cell a0 k, kept_cell a1 k, kept_cell b0 k⟩)
  go_region_held3 (fun W => W.cell? ⟨w.heap.size, 0, none⟩ = some (.int .i64 n) ∧ W.cell? ⟨w.heap.size, 1, none⟩ = some (.slice ao es.length cap) ∧ W.cell? ⟨w.heap.size + 1, 0, none⟩ = some (.int .i64 m)) (first | exact unhide HL _ K2 | exact unhide HL _ (K2.alloc _) | exact ⟨(cell_set2 (by have := K2.size; have := unhide HSZ; omega)).trans (unhide HL _ K2).1, (cell_set2 (by have := K2.size; have := unhide HSZ; omega)).trans (unhide HL _ K2).2.1, (cell_set2 (by have := K2.size; have := unhide HSZ; omega)).trans (unhide HL _ K2).2.2⟩ | go_keep)
    (first
    | (refine step_append_src (by rfl) (.const (.slice none 0 0)) (.tmp 13) 22 (by rfl) (W3.heap.size + 1) 43 i (ev 0 0) 2 16 Tryd.underlying22 hi hz0 hz1 hz2 (by rfl) (by decide) (.slice none 0 0) 0 [] (by rfl) (OwnE.nil _ _) _ _ _ (by rfl) (EdgesAt.src (unhide HV _ (by repeat' first | exact unhide HKB | apply Kept.drewN | apply Kept.drew | apply Kept.alloc))) (by unfold maxLen; omega) (by omega) (by first | exact Nat.le_refl _ | simp) ?_; intro v2 w2 own2 g2; have kz : Kept [] (W3.alloc (.cells #[.int .i64 0, .slice none 0 0] 24)) w2 := (by refine Kept.grown ?_ g2 (by simp [Value.ownBlock]); first | exact Kept.refl _ _ | exact (Kept.refl _ _).drew | exact (Kept.refl _ _).drewN _); obtain ⟨z0, z1⟩ := box2 kz (by simp); obtain ⟨y0, y1⟩ := box2f kz; have K2 : Kept [] W3 w2 := ((Kept.refl [] W3).alloc _).trans kz; obtain ⟨so, sm, sc, rfl⟩ := own_form3' own2)
    | (refine step_append_src (by rfl) (.const (.slice none 0 0)) (.tmp 13) 22 (by rfl) W3.heap.size 43 i (ev 0 0) 2 16 Tryd.underlying22 hi hz0 hz1 hz2 (by rfl) (by decide) (.slice none 0 0) 0 [] (by rfl) (OwnE.nil _ _) _ _ _ (by rfl) (EdgesAt.src (unhide HV _ (by repeat' first | exact unhide HKB | apply Kept.drewN | apply Kept.drew | apply Kept.alloc))) (by unfold maxLen; omega) (by omega) (by first | exact Nat.le_refl _ | simp) ?_; intro v2 w2 own2 g2; have K2 : Kept [] W3 w2 := (by refine Kept.grown ?_ g2 (by simp [Value.ownBlock]); first | exact Kept.refl _ _ | exact (Kept.refl _ _).drew | exact (Kept.refl _ _).drewN _); obtain ⟨so, sm, sc, rfl⟩ := own_form3' own2))
  · have OW := own2
    have KW := hide ((unhide HKB).trans (K2.alloc (.cells #[.int .i64 (n + m), .slice so sm sc] 24)))
    obtain ⟨O0, O1⟩ := box2 (Kept.refl [] (w2.alloc (.cells #[.int .i64 (n + m), .slice so sm sc] 24))) (by simp)
    obtain ⟨F0, F1⟩ := box2f (Kept.refl [] (w2.alloc (.cells #[.int .i64 (n + m), .slice so sm sc] 24)))
    have hsm : sm = es.length := by
      rcases own2.2 with ⟨hv, h0⟩ | ⟨g, cap, cur, hv, _⟩
      · simp at hv; omega
      · simp at hv; omega
    subst hsm
    have BB := unhide HBX _ (K2.alloc (.cells #[.int .i64 (n + m), .slice so es.length sc] 24))
    have BS := hide (show Bs w (w2.alloc (.cells #[.int .i64 (n + m), .slice so es.length sc] 24)) W3.heap.size w2.heap.size n m (.slice ho hs.length hcap) (.slice so es.length sc) es from
      ⟨BB.1.1, BB.2.1.2, BB.2.2.1.1, BB.2.2.1.2, BB.2.2.2.1, BB.2.2.2.2, O0, O1, F1, (by have := (OwnE.app (es := []) (fs := es) (by simpa [flatE] using own2)); unfold OwnE at this ⊢; simpa using this.alloc _), (fun e => by have := own_lt own2 _ e; omega), (by have := unhide HSZ; omega), (by have := unhide HSZ; have := K2.size; omega), (by have := K2.size; simp; omega), unhide KW⟩)
    clear OW KW O0 O1 F0 F1 BB own2 g2 K2 a0 a1 b0 b1 HL HBX
    generalize w2.alloc (.cells #[.int .i64 (n + m), .slice so es.length sc] 24) = W5 at *
    generalize w2.heap.size = p5 at *
    generalize W3.heap.size = B at *
    go_wp2
    go_loopw [6] (fun kk wr => ∃ (k : Nat) (ro : Option Addr) (rc : Nat) (es2 : List E), k ≤ hs.length ∧ kk = .int .i64 k ∧ Hid (Bs w wr B p5 n m (.slice ho hs.length hcap) (.slice ro es2.length rc) es2 ∧ es2 = es ++ shiftE n (hs.take k))) (fun kk _ => hs.length - (intOf kk).toNat)
    case atStart => exact ⟨0, so, sc, es, Nat.zero_le _, rfl, unhide BS, by simp [shiftE]⟩
    case round =>
      obtain ⟨k, ro, rc, es2, hk, rfl, hh⟩ := hrel
      have g0 := (unhide hh).1.g0; have g1 := (unhide hh).1.g1
      by_cases hlt : k < hs.length
      · obtain ⟨ho2, _, hv2, _, _, hin2⟩ := (unhide HU w (Kept.refl [] w)).shape
        obtain ⟨eg, eo, he2, hin0⟩ := hin2 (by omega)
        have hao : ho = some ⟨eg, eo, none⟩ := by simp at hv2; rw [hv2.1, he2]
        subst hao
        have hegl := hin0.lt
        have hin := hin0.keptAt (unhide hh).1.kept (by simp)
        have d0 := hin.a k hlt; have d1 := hin.b k hlt
        have o1 := (unhide hh).1.o1; have f1 := (unhide hh).1.f1
        have hown : wr.ownsRow B 43 2 (.slice ro es2.length rc) es2.length (flatE es2) := (unhide hh).1.own
        have ok := okE_iff.1 (unhide HOK _ (at_mem hlt))
        have HTK := hide (show shiftE n (hs.take (k + 1)) = shiftE n (hs.take k) ++ [(eA hs k + n, eB hs k + n)] by
          unfold shiftE
          rw [List.take_succ_eq_append_getElem hlt, List.map_append, e_elem hlt]; rfl)
        unfold at_ at ok
        simp only at ok
        have hel2 : es2.length ≤ 20000 := by
          rw [(unhide hh).2]; simp [shiftE]; omega
        generalize eA hs k = xa at *
        generalize eB hs k = xb at *
        have hwa : IntKind.i64.wrap (xa + n) = xa + n := by rw [IntWalk.i64_left, IntWalk.wrap64_in _ (by omega)]
        have hwb : IntKind.i64.wrap (xb + n) = xb + n := by rw [IntWalk.i64_left, IntWalk.wrap64_in _ (by omega)]
        have t0 : (0 : Int) ≤ (k : Int) := by omega
        have t1 : (k : Int) < (hs.length : Int) := by omega
        have hB3 := (unhide hh).1.B0
        have hp53 := (unhide hh).1.p50
        have hBw : B ≤ wr.heap.size := (unhide hh).1.Bw
        have n25 : w.heap.size ≠ p5 := by omega
        have n35 : w.heap.size + 1 ≠ p5 := by omega
        have ne5 : eg ≠ p5 := by omega
        have hob := own_block hown
        have HNB := hide (show ∀ b, (Value.slice ro es2.length rc).ownBlock = some b → w.heap.size ≠ b ∧ w.heap.size + 1 ≠ b ∧ eg ≠ b ∧ p5 ≠ b from fun b hb => by
          have h1 := hob b hb
          exact ⟨by omega, by omega, by omega, fun e => (unhide hh).1.ne (by rw [hb, e])⟩)
        have HNEXT := hide (fun x5 gg cap5 own5 gr5 li5 => And.intro ((unhide hh).1.push (x5 := x5) (a := xa + n) (b := xb + n) (gg := gg) (cap5 := cap5) own5 gr5 li5) (show es2 ++ [(xa + n, xb + n)] = es ++ shiftE n (hs.take (k + 1)) by rw [unhide HTK, ← List.append_assoc, ← (unhide hh).2]))
        clear hin hin0 hin2 hv2 he2 ok hob
        have o1a := alloc_cell o1 (.cells #[.int .i64 (xa + n), .int .i64 (xb + n)] 43)
        go_wp2_with fail
        refine wp_region_held_drew (S := (fun W => W.cell? ⟨w.heap.size, 0, none⟩ = some (.int .i64 n) ∧ W.cell? ⟨w.heap.size + 1, 1, none⟩ = some (.slice (some ⟨eg, eo, none⟩) hs.length hcap) ∧ W.cell? ⟨eg, eo + k * 2, none⟩ = some (.int .i64 xa) ∧ W.cell? ⟨eg, eo + k * 2 + 1, none⟩ = some (.int .i64 xb))) (by kernel_rfl) ⟨g0, g1, d0, d1⟩ (fun hHeld => ?_)
        refine take_on 0 23 (v := ?_) rfl rfl (by kernel_rfl) (by kernel_rfl) (by kernel_rfl) (fun _ _ _ h => h) (by kernel_rfl) (by intro w hSw; (try dsimp only at hSw); go_simp; first | done | with_reducible rfl) (by assumption) ?_
        simp only [Act.put, List.setIfInBounds_toArray, List.set_cons_zero, List.set_cons_succ]
        refine take_on 2 25 (v := ?_) rfl rfl (by kernel_rfl) (by kernel_rfl) (by kernel_rfl) (fun _ _ _ h => h) (by kernel_rfl) (by intro w hSw; (try dsimp only at hSw); go_simp; first | done | with_reducible rfl) (by assumption) ?_
        simp only [Act.put, List.setIfInBounds_toArray, List.set_cons_zero, List.set_cons_succ]
        refine take_on 3 26 (v := ?_) rfl rfl (by kernel_rfl) (by kernel_rfl) (by kernel_rfl) (fun _ _ _ h => h) (by kernel_rfl) (by intro w hSw; (try dsimp only at hSw); go_simp; first | done | with_reducible rfl) (by assumption) ?_
        simp only [Act.put, List.setIfInBounds_toArray, List.set_cons_zero, List.set_cons_succ]
        refine take_on 4 27 (v := ?_) rfl rfl (by kernel_rfl) (by kernel_rfl) (by kernel_rfl) (fun _ _ _ h => h) (by kernel_rfl) (by intro w hSw; (try dsimp only at hSw); go_simp; first | done | with_reducible rfl) (by assumption) ?_
        simp only [Act.put, List.setIfInBounds_toArray, List.set_cons_zero, List.set_cons_succ]
        refine take_on 5 28 (v := ?_) rfl rfl (by kernel_rfl) (by kernel_rfl) (by kernel_rfl) (fun _ _ _ h => h) (by kernel_rfl) (by intro w hSw; (try dsimp only at hSw); go_simp; first | done | with_reducible rfl) (by assumption) ?_
        simp only [Act.put, List.setIfInBounds_toArray, List.set_cons_zero, List.set_cons_succ]
        refine take_on 6 29 (v := ?_) rfl rfl (by kernel_rfl) (by kernel_rfl) (by kernel_rfl) (fun _ _ _ h => h) (by kernel_rfl) (by intro w hSw; (try dsimp only at hSw); go_simp; first | done | with_reducible rfl) (by assumption) ?_
        simp only [Act.put, List.setIfInBounds_toArray, List.set_cons_zero, List.set_cons_succ]
        refine take_on 7 30 (v := ?_) rfl rfl (by kernel_rfl) (by kernel_rfl) (by kernel_rfl) (fun _ _ _ h => h) (by kernel_rfl) (by intro w hSw; (try dsimp only at hSw); go_simp; first | done | with_reducible rfl) (by assumption) ?_
        simp only [Act.put, List.setIfInBounds_toArray, List.set_cons_zero, List.set_cons_succ]
        refine take_on 8 31 (v := ?_) rfl rfl (by kernel_rfl) (by kernel_rfl) (by kernel_rfl) (fun _ _ _ h => h) (by kernel_rfl) (by intro w hSw; (try dsimp only at hSw); go_simp; first | done | with_reducible rfl) (by assumption) ?_
        simp only [Act.put, List.setIfInBounds_toArray, List.set_cons_zero, List.set_cons_succ]
        refine take_on 9 32 (v := ?_) rfl rfl (by kernel_rfl) (by kernel_rfl) (by kernel_rfl) (fun _ _ _ h => h) (by kernel_rfl) (by intro w hSw; (try dsimp only at hSw); go_simp; first | done | with_reducible rfl) (by assumption) ?_
        simp only [Act.put, List.setIfInBounds_toArray, List.set_cons_zero, List.set_cons_succ]
        refine take_on 10 33 (v := ?_) rfl rfl (by kernel_rfl) (by kernel_rfl) (by kernel_rfl) (fun _ _ _ h => h) (by kernel_rfl) (by intro w hSw; (try dsimp only at hSw); go_simp; first | done | with_reducible rfl) (by assumption) ?_
        simp only [Act.put, List.setIfInBounds_toArray, List.set_cons_zero, List.set_cons_succ]
        refine take_on 11 34 (v := ?_) rfl rfl (by kernel_rfl) (by kernel_rfl) (by kernel_rfl) (fun _ _ _ h => h) (by kernel_rfl) (by intro w hSw; (try dsimp only at hSw); go_simp; first | done | with_reducible rfl) (by assumption) ?_
        simp only [Act.put, List.setIfInBounds_toArray, List.set_cons_zero, List.set_cons_succ]
        refine take_on 12 35 (v := ?_) rfl rfl (by kernel_rfl) (by kernel_rfl) (by kernel_rfl) (fun _ _ _ h => h) (by kernel_rfl) (by intro w hSw; (try dsimp only at hSw); go_simp; first | done | with_reducible rfl) (by assumption) ?_
        simp only [Act.put, List.setIfInBounds_toArray, List.set_cons_zero, List.set_cons_succ]
        refine take_on 13 36 (v := ?_) rfl rfl (by kernel_rfl) (by kernel_rfl) (by kernel_rfl) (fun _ _ _ h => h) (by kernel_rfl) (by intro w hSw; (try dsimp only at hSw); go_simp; first | done | with_reducible rfl) (by assumption) ?_
        simp only [Act.put, List.setIfInBounds_toArray, List.set_cons_zero, List.set_cons_succ]
        refine take_on 14 37 (v := ?_) rfl rfl (by kernel_rfl) (by kernel_rfl) (by kernel_rfl) (fun _ _ _ h => h) (by kernel_rfl) (by intro w hSw; (try dsimp only at hSw); go_simp; first | done | with_reducible rfl) (by assumption) ?_
        simp only [Act.put, List.setIfInBounds_toArray, List.set_cons_zero, List.set_cons_succ]
        refine take_on 15 38 (v := ?_) rfl rfl (by kernel_rfl) (by kernel_rfl) (by kernel_rfl) (fun _ _ _ h => h) (by kernel_rfl) (by intro w hSw; (try dsimp only at hSw); go_simp; first | done | with_reducible rfl) (by assumption) ?_
        simp only [Act.put, List.setIfInBounds_toArray, List.set_cons_zero, List.set_cons_succ]
        refine take_on 16 39 (v := ?_) rfl rfl (by kernel_rfl) (by kernel_rfl) (by kernel_rfl) (fun _ _ _ h => h) (by kernel_rfl) (by intro w hSw; (try dsimp only at hSw); go_simp; first | done | with_reducible rfl) (by assumption) ?_
        simp only [Act.put, List.setIfInBounds_toArray, List.set_cons_zero, List.set_cons_succ]
        refine take_on 17 40 (v := ?_) rfl rfl (by kernel_rfl) (by kernel_rfl) (by kernel_rfl) (fun _ _ _ h => h) (by kernel_rfl) (by intro w hSw; (try dsimp only at hSw); go_simp; first | done | with_reducible rfl) (by assumption) ?_
        simp only [Act.put, List.setIfInBounds_toArray, List.set_cons_zero, List.set_cons_succ]
        refine take_on 18 41 (v := ?_) rfl rfl (by kernel_rfl) (by kernel_rfl) (by kernel_rfl) (fun _ _ _ h => h) (by kernel_rfl) (by intro w hSw; (try dsimp only at hSw); go_simp; first | done | with_reducible rfl) (by assumption) ?_
        simp only [Act.put, List.setIfInBounds_toArray, List.set_cons_zero, List.set_cons_succ]
        refine take_on 19 42 (v := ?_) rfl rfl (by kernel_rfl) (by kernel_rfl) (by kernel_rfl) (fun _ _ _ h => h) (by kernel_rfl) (by intro w hSw; (try dsimp only at hSw); go_simp; first | done | with_reducible rfl) (by assumption) ?_
        simp only [Act.put, List.setIfInBounds_toArray, List.set_cons_zero, List.set_cons_succ]
        refine take_on 20 43 (v := ?_) rfl rfl (by kernel_rfl) (by kernel_rfl) (by kernel_rfl) (fun _ _ _ h => h) (by kernel_rfl) (by intro w hSw; (try dsimp only at hSw); go_simp; first | done | with_reducible rfl) (by assumption) ?_
        simp only [Act.put, List.setIfInBounds_toArray, List.set_cons_zero, List.set_cons_succ]
        refine wpAnyH_ready (rs := [1, 21]) (by kernel_rfl) (by simp) ?_
        refine AllReadyH.cons rfl (fun K hK => ?_) (AllReadyH.cons rfl (fun K hK => ?_) AllReadyH.nil)
        · go_simp
          refine hK.out _ _ ⟨g0, g1, d0, d1⟩ (fun hHeld => ?_)
          clear hK K
          refine wpAnyH_ready (rs := [21]) (by kernel_rfl) (by simp) ?_
          refine AllReadyH.cons rfl (fun K hK => ?_) AllReadyH.nil
          go_simp
          refine hK.out _ _ ⟨alloc_cell g0 _, alloc_cell g1 _, alloc_cell d0 _, alloc_cell d1 _⟩ (fun hHeld => ?_)
          clear hK K
          refine wpAnyH_ready (rs := [22]) (by kernel_rfl) (by simp) ?_
          refine AllReadyH.cons rfl (fun K hK => ?_) AllReadyH.nil
          refine step_append_lies _ rfl (.tmp 24) (.tmp 44) 22 rfl B 43 i (ev 0 0) 2 16 Tryd.underlying22 hi hz0 hz1 hz2 rfl (by decide) (.slice ro es2.length rc) es2.length (flatE es2) rfl ((hown.alloc (.cells #[.int .i64 (xa + n), .int .i64 (xb + n)] 43)).drew) ⟨wr.heap.size, 0, none⟩ 1 1 [.int .i64 (xa + n), .int .i64 (xb + n)] rfl rfl (two_cells _ _ _ rfl) (by simp [Value.oneCell']) (by decide) (by unfold maxLen; omega) (by omega) (by simp; omega) (wr.heap.size + 1) (by simp) ?_
          intro gg cap5 x5 own5 gr5 li5 lt5
          have kg5 : Kept (Value.slice ro es2.length rc).ownBlock.toList (wr.alloc (.cells #[.int .i64 (xa + n), .int .i64 (xb + n)] 43)) x5 := (Kept.refl _ _).drew.trans (grown_kept gr5)
          have q0 := kept_cell' (alloc_cell g0 (.cells #[.int .i64 (xa + n), .int .i64 (xb + n)] 43)) kg5 (by simpa using fun h => (unhide HNB _ h).1 rfl)
          have q1 := kept_cell' (alloc_cell g1 (.cells #[.int .i64 (xa + n), .int .i64 (xb + n)] 43)) kg5 (by simpa using fun h => (unhide HNB _ h).2.1 rfl)
          have q2 := kept_cell' (alloc_cell d0 (.cells #[.int .i64 (xa + n), .int .i64 (xb + n)] 43)) kg5 (by simpa using fun h => (unhide HNB _ h).2.2.1 rfl)
          have q3 := kept_cell' (alloc_cell d1 (.cells #[.int .i64 (xa + n), .int .i64 (xb + n)] 43)) kg5 (by simpa using fun h => (unhide HNB _ h).2.2.1 rfl)
          have q4 := kept_cell' (alloc_cell o1 (.cells #[.int .i64 (xa + n), .int .i64 (xb + n)] 43)) kg5 (by simpa using fun h => (unhide HNB _ h).2.2.2 rfl)
          have q5 := kept_free' (alloc_cell o1 (.cells #[.int .i64 (xa + n), .int .i64 (xb + n)] 43)) (kept_free o1 f1 ((Kept.refl [] wr).alloc (.cells #[.int .i64 (xa + n), .int .i64 (xb + n)] 43))) kg5 (by simpa using fun h => (unhide HNB _ h).2.2.2 rfl)
          change K (Act.put _ (some 45) _) _
          refine hK.out _ _ ⟨q0, q1, q2, q3⟩ (fun hHeld => ?_)
          clear hK K
          simp only [Act.put, List.setIfInBounds_toArray, List.set_cons_zero, List.set_cons_succ]
          refine take_on 23 46 (v := ?_) rfl rfl (by kernel_rfl) (by kernel_rfl) (by kernel_rfl) (fun _ _ _ h => h) (by kernel_rfl) (by intro w hSw; (try dsimp only at hSw); go_simp; first | done | with_reducible rfl) (by assumption) ?_
          simp only [Act.put, List.setIfInBounds_toArray, List.set_cons_zero, List.set_cons_succ]
          refine wpAnyH_ready (rs := [24]) (by kernel_rfl) (by simp) ?_
          refine AllReadyH.cons rfl (fun K hK => ?_) AllReadyH.nil
          go_simp
          refine hK.out _ _ ⟨by rw [cell_set_ne n25]; assumption, by rw [cell_set_ne n35]; assumption, by rw [cell_set_ne ne5]; assumption, by rw [cell_set_ne ne5]; assumption⟩ (fun hHeld => ?_)
          clear hK K
          refine wpAnyH_done (by kernel_rfl) ?_ _
          have HNX := hide (unhide HNEXT x5 gg cap5 own5 ⟨gr5.os, gr5.tape, gr5.output, gr5.size, gr5.block⟩ li5)
          clear kg5 own5 gr5 li5 lt5 q0 q1 q2 q3 q4 q5
          go_wp2
          go_roundw
          case rel => exact ⟨k + 1, _, _, _, by omega, by go_num, unhide HNX⟩
          case measure => simp [intOf]; omega
        · go_simp
          refine hK.out _ _ ⟨alloc_cell g0 _, alloc_cell g1 _, alloc_cell d0 _, alloc_cell d1 _⟩ (fun hHeld => ?_)
          clear hK K
          refine wpAnyH_ready (rs := [1]) (by kernel_rfl) (by simp) ?_
          refine AllReadyH.cons rfl (fun K hK => ?_) AllReadyH.nil
          go_simp
          refine hK.out _ _ ⟨alloc_cell g0 _, alloc_cell g1 _, alloc_cell d0 _, alloc_cell d1 _⟩ (fun hHeld => ?_)
          clear hK K
          refine wpAnyH_ready (rs := [22]) (by kernel_rfl) (by simp) ?_
          refine AllReadyH.cons rfl (fun K hK => ?_) AllReadyH.nil
          refine step_append_lies _ rfl (.tmp 24) (.tmp 44) 22 rfl B 43 i (ev 0 0) 2 16 Tryd.underlying22 hi hz0 hz1 hz2 rfl (by decide) (.slice ro es2.length rc) es2.length (flatE es2) rfl ((hown.alloc (.cells #[.int .i64 (xa + n), .int .i64 (xb + n)] 43)).drew) ⟨wr.heap.size, 0, none⟩ 1 1 [.int .i64 (xa + n), .int .i64 (xb + n)] rfl rfl (two_cells _ _ _ rfl) (by simp [Value.oneCell']) (by decide) (by unfold maxLen; omega) (by omega) (by simp; omega) (wr.heap.size + 1) (by simp) ?_
          intro gg cap5 x5 own5 gr5 li5 lt5
          have kg5 : Kept (Value.slice ro es2.length rc).ownBlock.toList (wr.alloc (.cells #[.int .i64 (xa + n), .int .i64 (xb + n)] 43)) x5 := (Kept.refl _ _).drew.trans (grown_kept gr5)
          have q0 := kept_cell' (alloc_cell g0 (.cells #[.int .i64 (xa + n), .int .i64 (xb + n)] 43)) kg5 (by simpa using fun h => (unhide HNB _ h).1 rfl)
          have q1 := kept_cell' (alloc_cell g1 (.cells #[.int .i64 (xa + n), .int .i64 (xb + n)] 43)) kg5 (by simpa using fun h => (unhide HNB _ h).2.1 rfl)
          have q2 := kept_cell' (alloc_cell d0 (.cells #[.int .i64 (xa + n), .int .i64 (xb + n)] 43)) kg5 (by simpa using fun h => (unhide HNB _ h).2.2.1 rfl)
          have q3 := kept_cell' (alloc_cell d1 (.cells #[.int .i64 (xa + n), .int .i64 (xb + n)] 43)) kg5 (by simpa using fun h => (unhide HNB _ h).2.2.1 rfl)
          have q4 := kept_cell' (alloc_cell o1 (.cells #[.int .i64 (xa + n), .int .i64 (xb + n)] 43)) kg5 (by simpa using fun h => (unhide HNB _ h).2.2.2 rfl)
          have q5 := kept_free' (alloc_cell o1 (.cells #[.int .i64 (xa + n), .int .i64 (xb + n)] 43)) (kept_free o1 f1 ((Kept.refl [] wr).alloc (.cells #[.int .i64 (xa + n), .int .i64 (xb + n)] 43))) kg5 (by simpa using fun h => (unhide HNB _ h).2.2.2 rfl)
          change K (Act.put _ (some 45) _) _
          refine hK.out _ _ ⟨q0, q1, q2, q3⟩ (fun hHeld => ?_)
          clear hK K
          simp only [Act.put, List.setIfInBounds_toArray, List.set_cons_zero, List.set_cons_succ]
          refine take_on 23 46 (v := ?_) rfl rfl (by kernel_rfl) (by kernel_rfl) (by kernel_rfl) (fun _ _ _ h => h) (by kernel_rfl) (by intro w hSw; (try dsimp only at hSw); go_simp; first | done | with_reducible rfl) (by assumption) ?_
          simp only [Act.put, List.setIfInBounds_toArray, List.set_cons_zero, List.set_cons_succ]
          refine wpAnyH_ready (rs := [24]) (by kernel_rfl) (by simp) ?_
          refine AllReadyH.cons rfl (fun K hK => ?_) AllReadyH.nil
          go_simp
          refine hK.out _ _ ⟨by rw [cell_set_ne n25]; assumption, by rw [cell_set_ne n35]; assumption, by rw [cell_set_ne ne5]; assumption, by rw [cell_set_ne ne5]; assumption⟩ (fun hHeld => ?_)
          clear hK K
          refine wpAnyH_done (by kernel_rfl) ?_ _
          have HNX := hide (unhide HNEXT x5 gg cap5 own5 ⟨gr5.os, gr5.tape, gr5.output, gr5.size, gr5.block⟩ li5)
          clear kg5 own5 gr5 li5 lt5 q0 q1 q2 q3 q4 q5
          go_wp2
          go_roundw
          case rel => exact ⟨k + 1, _, _, _, by omega, by go_num, unhide HNX⟩
          case measure => simp [intOf]; omega
      · have HFS := hide (show es2 = besideE n es hs by rw [(unhide hh).2, List.take_of_length_le (by omega)]; rfl)
        have o0 := (unhide hh).1.o0; have o1 := (unhide hh).1.o1
        have r0 := (unhide hh).1.r0; have r1 := (unhide hh).1.r1; have e0 := (unhide hh).1.e0; have e1 := (unhide hh).1.e1
        have hB3 := (unhide hh).1.B0
        have ks : Kept [w.heap.size + 2] wr ((wr.setCell ⟨w.heap.size + 2, 0, none⟩ (.int .i64 (n + m))).setCell ⟨w.heap.size + 2, 1, none⟩ (.slice ro es2.length rc)) := ((Kept.refl _ _).setCell (Or.inl (by simp)) _).setCell (Or.inl (by simp)) _
        have hat := (unhide hh).1.own.at'
        have HT := hide (show EdgesAt ((wr.setCell ⟨w.heap.size + 2, 0, none⟩ (.int .i64 (n + m))).setCell ⟨w.heap.size + 2, 1, none⟩ (.slice ro es2.length rc)) (.slice ro es2.length rc) es2 ∧ FreshAt w.heap.size (.slice ro es2.length rc) ∧ Kept [] w ((wr.setCell ⟨w.heap.size + 2, 0, none⟩ (.int .i64 (n + m))).setCell ⟨w.heap.size + 2, 1, none⟩ (.slice ro es2.length rc)) from
          ⟨hat.1.keptAt ks (fun a x y e => by have := hat.2 a x y e; simp; omega), fun a x y e => by have := hat.2 a x y e; omega, (unhide hh).1.kept.trans' ks (by simp)⟩)
        clear hat ks hB3
        go_wp2
        refine bodyPost_ret (v := gv (n + m) (.slice ro es2.length rc)) (by simp [results, Tryd.results21, go_sem, r0, r1]) rfl ?_
        first | exact ⟨_, rfl, by rw [← unhide HFS]; exact (unhide HT).1, (unhide HT).2⟩ | exact ⟨_, by rw [← unhide HFS]; exact (unhide HT).1, (unhide HT).2⟩
  · have hsm : sm = es.length := by
      rcases own2.2 with ⟨hv, h0⟩ | ⟨g, cap, cur, hv, _⟩
      · simp at hv; omega
      · simp at hv; omega
    subst hsm
    have ks : Kept [W3.heap.size] w2 ((w2.setCell ⟨W3.heap.size, 0, none⟩ (.int .i64 (n + m))).setCell ⟨W3.heap.size, 1, none⟩ (.slice so es.length sc)) := ((Kept.refl _ _).setCell (Or.inl (by simp)) _).setCell (Or.inl (by simp)) _
    have K5 := K2.trans' ks (by simp)
    have KW := hide ((unhide HKB).trans K5)
    have O0 : ((w2.setCell ⟨W3.heap.size, 0, none⟩ (.int .i64 (n + m))).setCell ⟨W3.heap.size, 1, none⟩ (.slice so es.length sc)).cell? ⟨W3.heap.size, 0, none⟩ = some (.int .i64 (n + m)) := by go_simp
    have O1 : ((w2.setCell ⟨W3.heap.size, 0, none⟩ (.int .i64 (n + m))).setCell ⟨W3.heap.size, 1, none⟩ (.slice so es.length sc)).cell? ⟨W3.heap.size, 1, none⟩ = some (.slice so es.length sc) := by go_simp
    have F1 : ((w2.setCell ⟨W3.heap.size, 0, none⟩ (.int .i64 (n + m))).setCell ⟨W3.heap.size, 1, none⟩ (.slice so es.length sc)).frozen? ⟨W3.heap.size, 1, none⟩ = false := by go_simp
    have BB := unhide HBX _ K5
    have hnB := own_block own2
    have BS := hide (show Bs w ((w2.setCell ⟨W3.heap.size, 0, none⟩ (.int .i64 (n + m))).setCell ⟨W3.heap.size, 1, none⟩ (.slice so es.length sc)) (W3.heap.size + 1) W3.heap.size n m (.slice ho hs.length hcap) (.slice so es.length sc) es from
      ⟨BB.1.1, BB.2.1.2, BB.2.2.1.1, BB.2.2.1.2, BB.2.2.2.1, BB.2.2.2.2, O0, O1, F1, own_freeE (OwnE.app (es := []) (fs := es) (by simpa [flatE] using own2)) ks (by omega), (fun e => by have := hnB _ e; omega), (by have := unhide HSZ; omega), (by have := unhide HSZ; omega), (by have := kz.size; have := ks.size; simp at *; omega), unhide KW⟩)
    clear KW O0 O1 F1 BB own2 g2 K2 K5 ks a0 a1 b0 b1 HL HBX kz z0 z1 y0 y1 hnB
    generalize (w2.setCell ⟨W3.heap.size, 0, none⟩ (.int .i64 (n + m))).setCell ⟨W3.heap.size, 1, none⟩ (.slice so es.length sc) = W5 at *
    generalize W3.heap.size + 1 = B at *
    generalize W3.heap.size = p5 at *
    go_wp2
    go_loopw [6] (fun kk wr => ∃ (k : Nat) (ro : Option Addr) (rc : Nat) (es2 : List E), k ≤ hs.length ∧ kk = .int .i64 k ∧ Hid (Bs w wr B p5 n m (.slice ho hs.length hcap) (.slice ro es2.length rc) es2 ∧ es2 = es ++ shiftE n (hs.take k))) (fun kk _ => hs.length - (intOf kk).toNat)
    case atStart => exact ⟨0, so, sc, es, Nat.zero_le _, rfl, unhide BS, by simp [shiftE]⟩
    case round =>
      obtain ⟨k, ro, rc, es2, hk, rfl, hh⟩ := hrel
      have g0 := (unhide hh).1.g0; have g1 := (unhide hh).1.g1
      by_cases hlt : k < hs.length
      · obtain ⟨ho2, _, hv2, _, _, hin2⟩ := (unhide HU w (Kept.refl [] w)).shape
        obtain ⟨eg, eo, he2, hin0⟩ := hin2 (by omega)
        have hao : ho = some ⟨eg, eo, none⟩ := by simp at hv2; rw [hv2.1, he2]
        subst hao
        have hegl := hin0.lt
        have hin := hin0.keptAt (unhide hh).1.kept (by simp)
        have d0 := hin.a k hlt; have d1 := hin.b k hlt
        have o1 := (unhide hh).1.o1; have f1 := (unhide hh).1.f1
        have hown : wr.ownsRow B 43 2 (.slice ro es2.length rc) es2.length (flatE es2) := (unhide hh).1.own
        have ok := okE_iff.1 (unhide HOK _ (at_mem hlt))
        have HTK := hide (show shiftE n (hs.take (k + 1)) = shiftE n (hs.take k) ++ [(eA hs k + n, eB hs k + n)] by
          unfold shiftE
          rw [List.take_succ_eq_append_getElem hlt, List.map_append, e_elem hlt]; rfl)
        unfold at_ at ok
        simp only at ok
        have hel2 : es2.length ≤ 20000 := by
          rw [(unhide hh).2]; simp [shiftE]; omega
        generalize eA hs k = xa at *
        generalize eB hs k = xb at *
        have hwa : IntKind.i64.wrap (xa + n) = xa + n := by rw [IntWalk.i64_left, IntWalk.wrap64_in _ (by omega)]
        have hwb : IntKind.i64.wrap (xb + n) = xb + n := by rw [IntWalk.i64_left, IntWalk.wrap64_in _ (by omega)]
        have t0 : (0 : Int) ≤ (k : Int) := by omega
        have t1 : (k : Int) < (hs.length : Int) := by omega
        have hB3 := (unhide hh).1.B0
        have hp53 := (unhide hh).1.p50
        have hBw : B ≤ wr.heap.size := (unhide hh).1.Bw
        have n25 : w.heap.size ≠ p5 := by omega
        have n35 : w.heap.size + 1 ≠ p5 := by omega
        have ne5 : eg ≠ p5 := by omega
        have hob := own_block hown
        have HNB := hide (show ∀ b, (Value.slice ro es2.length rc).ownBlock = some b → w.heap.size ≠ b ∧ w.heap.size + 1 ≠ b ∧ eg ≠ b ∧ p5 ≠ b from fun b hb => by
          have h1 := hob b hb
          exact ⟨by omega, by omega, by omega, fun e => (unhide hh).1.ne (by rw [hb, e])⟩)
        have HNEXT := hide (fun x5 gg cap5 own5 gr5 li5 => And.intro ((unhide hh).1.push (x5 := x5) (a := xa + n) (b := xb + n) (gg := gg) (cap5 := cap5) own5 gr5 li5) (show es2 ++ [(xa + n, xb + n)] = es ++ shiftE n (hs.take (k + 1)) by rw [unhide HTK, ← List.append_assoc, ← (unhide hh).2]))
        clear hin hin0 hin2 hv2 he2 ok hob
        have o1a := alloc_cell o1 (.cells #[.int .i64 (xa + n), .int .i64 (xb + n)] 43)
        go_wp2_with fail
        refine wp_region_held_drew (S := (fun W => W.cell? ⟨w.heap.size, 0, none⟩ = some (.int .i64 n) ∧ W.cell? ⟨w.heap.size + 1, 1, none⟩ = some (.slice (some ⟨eg, eo, none⟩) hs.length hcap) ∧ W.cell? ⟨eg, eo + k * 2, none⟩ = some (.int .i64 xa) ∧ W.cell? ⟨eg, eo + k * 2 + 1, none⟩ = some (.int .i64 xb))) (by kernel_rfl) ⟨g0, g1, d0, d1⟩ (fun hHeld => ?_)
        refine take_on 0 23 (v := ?_) rfl rfl (by kernel_rfl) (by kernel_rfl) (by kernel_rfl) (fun _ _ _ h => h) (by kernel_rfl) (by intro w hSw; (try dsimp only at hSw); go_simp; first | done | with_reducible rfl) (by assumption) ?_
        simp only [Act.put, List.setIfInBounds_toArray, List.set_cons_zero, List.set_cons_succ]
        refine take_on 2 25 (v := ?_) rfl rfl (by kernel_rfl) (by kernel_rfl) (by kernel_rfl) (fun _ _ _ h => h) (by kernel_rfl) (by intro w hSw; (try dsimp only at hSw); go_simp; first | done | with_reducible rfl) (by assumption) ?_
        simp only [Act.put, List.setIfInBounds_toArray, List.set_cons_zero, List.set_cons_succ]
        refine take_on 3 26 (v := ?_) rfl rfl (by kernel_rfl) (by kernel_rfl) (by kernel_rfl) (fun _ _ _ h => h) (by kernel_rfl) (by intro w hSw; (try dsimp only at hSw); go_simp; first | done | with_reducible rfl) (by assumption) ?_
        simp only [Act.put, List.setIfInBounds_toArray, List.set_cons_zero, List.set_cons_succ]
        refine take_on 4 27 (v := ?_) rfl rfl (by kernel_rfl) (by kernel_rfl) (by kernel_rfl) (fun _ _ _ h => h) (by kernel_rfl) (by intro w hSw; (try dsimp only at hSw); go_simp; first | done | with_reducible rfl) (by assumption) ?_
        simp only [Act.put, List.setIfInBounds_toArray, List.set_cons_zero, List.set_cons_succ]
        refine take_on 5 28 (v := ?_) rfl rfl (by kernel_rfl) (by kernel_rfl) (by kernel_rfl) (fun _ _ _ h => h) (by kernel_rfl) (by intro w hSw; (try dsimp only at hSw); go_simp; first | done | with_reducible rfl) (by assumption) ?_
        simp only [Act.put, List.setIfInBounds_toArray, List.set_cons_zero, List.set_cons_succ]
        refine take_on 6 29 (v := ?_) rfl rfl (by kernel_rfl) (by kernel_rfl) (by kernel_rfl) (fun _ _ _ h => h) (by kernel_rfl) (by intro w hSw; (try dsimp only at hSw); go_simp; first | done | with_reducible rfl) (by assumption) ?_
        simp only [Act.put, List.setIfInBounds_toArray, List.set_cons_zero, List.set_cons_succ]
        refine take_on 7 30 (v := ?_) rfl rfl (by kernel_rfl) (by kernel_rfl) (by kernel_rfl) (fun _ _ _ h => h) (by kernel_rfl) (by intro w hSw; (try dsimp only at hSw); go_simp; first | done | with_reducible rfl) (by assumption) ?_
        simp only [Act.put, List.setIfInBounds_toArray, List.set_cons_zero, List.set_cons_succ]
        refine take_on 8 31 (v := ?_) rfl rfl (by kernel_rfl) (by kernel_rfl) (by kernel_rfl) (fun _ _ _ h => h) (by kernel_rfl) (by intro w hSw; (try dsimp only at hSw); go_simp; first | done | with_reducible rfl) (by assumption) ?_
        simp only [Act.put, List.setIfInBounds_toArray, List.set_cons_zero, List.set_cons_succ]
        refine take_on 9 32 (v := ?_) rfl rfl (by kernel_rfl) (by kernel_rfl) (by kernel_rfl) (fun _ _ _ h => h) (by kernel_rfl) (by intro w hSw; (try dsimp only at hSw); go_simp; first | done | with_reducible rfl) (by assumption) ?_
        simp only [Act.put, List.setIfInBounds_toArray, List.set_cons_zero, List.set_cons_succ]
        refine take_on 10 33 (v := ?_) rfl rfl (by kernel_rfl) (by kernel_rfl) (by kernel_rfl) (fun _ _ _ h => h) (by kernel_rfl) (by intro w hSw; (try dsimp only at hSw); go_simp; first | done | with_reducible rfl) (by assumption) ?_
        simp only [Act.put, List.setIfInBounds_toArray, List.set_cons_zero, List.set_cons_succ]
        refine take_on 11 34 (v := ?_) rfl rfl (by kernel_rfl) (by kernel_rfl) (by kernel_rfl) (fun _ _ _ h => h) (by kernel_rfl) (by intro w hSw; (try dsimp only at hSw); go_simp; first | done | with_reducible rfl) (by assumption) ?_
        simp only [Act.put, List.setIfInBounds_toArray, List.set_cons_zero, List.set_cons_succ]
        refine take_on 12 35 (v := ?_) rfl rfl (by kernel_rfl) (by kernel_rfl) (by kernel_rfl) (fun _ _ _ h => h) (by kernel_rfl) (by intro w hSw; (try dsimp only at hSw); go_simp; first | done | with_reducible rfl) (by assumption) ?_
        simp only [Act.put, List.setIfInBounds_toArray, List.set_cons_zero, List.set_cons_succ]
        refine take_on 13 36 (v := ?_) rfl rfl (by kernel_rfl) (by kernel_rfl) (by kernel_rfl) (fun _ _ _ h => h) (by kernel_rfl) (by intro w hSw; (try dsimp only at hSw); go_simp; first | done | with_reducible rfl) (by assumption) ?_
        simp only [Act.put, List.setIfInBounds_toArray, List.set_cons_zero, List.set_cons_succ]
        refine take_on 14 37 (v := ?_) rfl rfl (by kernel_rfl) (by kernel_rfl) (by kernel_rfl) (fun _ _ _ h => h) (by kernel_rfl) (by intro w hSw; (try dsimp only at hSw); go_simp; first | done | with_reducible rfl) (by assumption) ?_
        simp only [Act.put, List.setIfInBounds_toArray, List.set_cons_zero, List.set_cons_succ]
        refine take_on 15 38 (v := ?_) rfl rfl (by kernel_rfl) (by kernel_rfl) (by kernel_rfl) (fun _ _ _ h => h) (by kernel_rfl) (by intro w hSw; (try dsimp only at hSw); go_simp; first | done | with_reducible rfl) (by assumption) ?_
        simp only [Act.put, List.setIfInBounds_toArray, List.set_cons_zero, List.set_cons_succ]
        refine take_on 16 39 (v := ?_) rfl rfl (by kernel_rfl) (by kernel_rfl) (by kernel_rfl) (fun _ _ _ h => h) (by kernel_rfl) (by intro w hSw; (try dsimp only at hSw); go_simp; first | done | with_reducible rfl) (by assumption) ?_
        simp only [Act.put, List.setIfInBounds_toArray, List.set_cons_zero, List.set_cons_succ]
        refine take_on 17 40 (v := ?_) rfl rfl (by kernel_rfl) (by kernel_rfl) (by kernel_rfl) (fun _ _ _ h => h) (by kernel_rfl) (by intro w hSw; (try dsimp only at hSw); go_simp; first | done | with_reducible rfl) (by assumption) ?_
        simp only [Act.put, List.setIfInBounds_toArray, List.set_cons_zero, List.set_cons_succ]
        refine take_on 18 41 (v := ?_) rfl rfl (by kernel_rfl) (by kernel_rfl) (by kernel_rfl) (fun _ _ _ h => h) (by kernel_rfl) (by intro w hSw; (try dsimp only at hSw); go_simp; first | done | with_reducible rfl) (by assumption) ?_
        simp only [Act.put, List.setIfInBounds_toArray, List.set_cons_zero, List.set_cons_succ]
        refine take_on 19 42 (v := ?_) rfl rfl (by kernel_rfl) (by kernel_rfl) (by kernel_rfl) (fun _ _ _ h => h) (by kernel_rfl) (by intro w hSw; (try dsimp only at hSw); go_simp; first | done | with_reducible rfl) (by assumption) ?_
        simp only [Act.put, List.setIfInBounds_toArray, List.set_cons_zero, List.set_cons_succ]
        refine take_on 20 43 (v := ?_) rfl rfl (by kernel_rfl) (by kernel_rfl) (by kernel_rfl) (fun _ _ _ h => h) (by kernel_rfl) (by intro w hSw; (try dsimp only at hSw); go_simp; first | done | with_reducible rfl) (by assumption) ?_
        simp only [Act.put, List.setIfInBounds_toArray, List.set_cons_zero, List.set_cons_succ]
        refine wpAnyH_ready (rs := [1, 21]) (by kernel_rfl) (by simp) ?_
        refine AllReadyH.cons rfl (fun K hK => ?_) (AllReadyH.cons rfl (fun K hK => ?_) AllReadyH.nil)
        · go_simp
          refine hK.out _ _ ⟨g0, g1, d0, d1⟩ (fun hHeld => ?_)
          clear hK K
          refine wpAnyH_ready (rs := [21]) (by kernel_rfl) (by simp) ?_
          refine AllReadyH.cons rfl (fun K hK => ?_) AllReadyH.nil
          go_simp
          refine hK.out _ _ ⟨alloc_cell g0 _, alloc_cell g1 _, alloc_cell d0 _, alloc_cell d1 _⟩ (fun hHeld => ?_)
          clear hK K
          refine wpAnyH_ready (rs := [22]) (by kernel_rfl) (by simp) ?_
          refine AllReadyH.cons rfl (fun K hK => ?_) AllReadyH.nil
          refine step_append_lies _ rfl (.tmp 24) (.tmp 44) 22 rfl B 43 i (ev 0 0) 2 16 Tryd.underlying22 hi hz0 hz1 hz2 rfl (by decide) (.slice ro es2.length rc) es2.length (flatE es2) rfl ((hown.alloc (.cells #[.int .i64 (xa + n), .int .i64 (xb + n)] 43)).drew) ⟨wr.heap.size, 0, none⟩ 1 1 [.int .i64 (xa + n), .int .i64 (xb + n)] rfl rfl (two_cells _ _ _ rfl) (by simp [Value.oneCell']) (by decide) (by unfold maxLen; omega) (by omega) (by simp; omega) (wr.heap.size + 1) (by simp) ?_
          intro gg cap5 x5 own5 gr5 li5 lt5
          have kg5 : Kept (Value.slice ro es2.length rc).ownBlock.toList (wr.alloc (.cells #[.int .i64 (xa + n), .int .i64 (xb + n)] 43)) x5 := (Kept.refl _ _).drew.trans (grown_kept gr5)
          have q0 := kept_cell' (alloc_cell g0 (.cells #[.int .i64 (xa + n), .int .i64 (xb + n)] 43)) kg5 (by simpa using fun h => (unhide HNB _ h).1 rfl)
          have q1 := kept_cell' (alloc_cell g1 (.cells #[.int .i64 (xa + n), .int .i64 (xb + n)] 43)) kg5 (by simpa using fun h => (unhide HNB _ h).2.1 rfl)
          have q2 := kept_cell' (alloc_cell d0 (.cells #[.int .i64 (xa + n), .int .i64 (xb + n)] 43)) kg5 (by simpa using fun h => (unhide HNB _ h).2.2.1 rfl)
          have q3 := kept_cell' (alloc_cell d1 (.cells #[.int .i64 (xa + n), .int .i64 (xb + n)] 43)) kg5 (by simpa using fun h => (unhide HNB _ h).2.2.1 rfl)
          have q4 := kept_cell' (alloc_cell o1 (.cells #[.int .i64 (xa + n), .int .i64 (xb + n)] 43)) kg5 (by simpa using fun h => (unhide HNB _ h).2.2.2 rfl)
          have q5 := kept_free' (alloc_cell o1 (.cells #[.int .i64 (xa + n), .int .i64 (xb + n)] 43)) (kept_free o1 f1 ((Kept.refl [] wr).alloc (.cells #[.int .i64 (xa + n), .int .i64 (xb + n)] 43))) kg5 (by simpa using fun h => (unhide HNB _ h).2.2.2 rfl)
          change K (Act.put _ (some 45) _) _
          refine hK.out _ _ ⟨q0, q1, q2, q3⟩ (fun hHeld => ?_)
          clear hK K
          simp only [Act.put, List.setIfInBounds_toArray, List.set_cons_zero, List.set_cons_succ]
          refine take_on 23 46 (v := ?_) rfl rfl (by kernel_rfl) (by kernel_rfl) (by kernel_rfl) (fun _ _ _ h => h) (by kernel_rfl) (by intro w hSw; (try dsimp only at hSw); go_simp; first | done | with_reducible rfl) (by assumption) ?_
          simp only [Act.put, List.setIfInBounds_toArray, List.set_cons_zero, List.set_cons_succ]
          refine wpAnyH_ready (rs := [24]) (by kernel_rfl) (by simp) ?_
          refine AllReadyH.cons rfl (fun K hK => ?_) AllReadyH.nil
          go_simp
          refine hK.out _ _ ⟨by rw [cell_set_ne n25]; assumption, by rw [cell_set_ne n35]; assumption, by rw [cell_set_ne ne5]; assumption, by rw [cell_set_ne ne5]; assumption⟩ (fun hHeld => ?_)
          clear hK K
          refine wpAnyH_done (by kernel_rfl) ?_ _
          have HNX := hide (unhide HNEXT x5 gg cap5 own5 ⟨gr5.os, gr5.tape, gr5.output, gr5.size, gr5.block⟩ li5)
          clear kg5 own5 gr5 li5 lt5 q0 q1 q2 q3 q4 q5
          go_wp2
          go_roundw
          case rel => exact ⟨k + 1, _, _, _, by omega, by go_num, unhide HNX⟩
          case measure => simp [intOf]; omega
        · go_simp
          refine hK.out _ _ ⟨alloc_cell g0 _, alloc_cell g1 _, alloc_cell d0 _, alloc_cell d1 _⟩ (fun hHeld => ?_)
          clear hK K
          refine wpAnyH_ready (rs := [1]) (by kernel_rfl) (by simp) ?_
          refine AllReadyH.cons rfl (fun K hK => ?_) AllReadyH.nil
          go_simp
          refine hK.out _ _ ⟨alloc_cell g0 _, alloc_cell g1 _, alloc_cell d0 _, alloc_cell d1 _⟩ (fun hHeld => ?_)
          clear hK K
          refine wpAnyH_ready (rs := [22]) (by kernel_rfl) (by simp) ?_
          refine AllReadyH.cons rfl (fun K hK => ?_) AllReadyH.nil
          refine step_append_lies _ rfl (.tmp 24) (.tmp 44) 22 rfl B 43 i (ev 0 0) 2 16 Tryd.underlying22 hi hz0 hz1 hz2 rfl (by decide) (.slice ro es2.length rc) es2.length (flatE es2) rfl ((hown.alloc (.cells #[.int .i64 (xa + n), .int .i64 (xb + n)] 43)).drew) ⟨wr.heap.size, 0, none⟩ 1 1 [.int .i64 (xa + n), .int .i64 (xb + n)] rfl rfl (two_cells _ _ _ rfl) (by simp [Value.oneCell']) (by decide) (by unfold maxLen; omega) (by omega) (by simp; omega) (wr.heap.size + 1) (by simp) ?_
          intro gg cap5 x5 own5 gr5 li5 lt5
          have kg5 : Kept (Value.slice ro es2.length rc).ownBlock.toList (wr.alloc (.cells #[.int .i64 (xa + n), .int .i64 (xb + n)] 43)) x5 := (Kept.refl _ _).drew.trans (grown_kept gr5)
          have q0 := kept_cell' (alloc_cell g0 (.cells #[.int .i64 (xa + n), .int .i64 (xb + n)] 43)) kg5 (by simpa using fun h => (unhide HNB _ h).1 rfl)
          have q1 := kept_cell' (alloc_cell g1 (.cells #[.int .i64 (xa + n), .int .i64 (xb + n)] 43)) kg5 (by simpa using fun h => (unhide HNB _ h).2.1 rfl)
          have q2 := kept_cell' (alloc_cell d0 (.cells #[.int .i64 (xa + n), .int .i64 (xb + n)] 43)) kg5 (by simpa using fun h => (unhide HNB _ h).2.2.1 rfl)
          have q3 := kept_cell' (alloc_cell d1 (.cells #[.int .i64 (xa + n), .int .i64 (xb + n)] 43)) kg5 (by simpa using fun h => (unhide HNB _ h).2.2.1 rfl)
          have q4 := kept_cell' (alloc_cell o1 (.cells #[.int .i64 (xa + n), .int .i64 (xb + n)] 43)) kg5 (by simpa using fun h => (unhide HNB _ h).2.2.2 rfl)
          have q5 := kept_free' (alloc_cell o1 (.cells #[.int .i64 (xa + n), .int .i64 (xb + n)] 43)) (kept_free o1 f1 ((Kept.refl [] wr).alloc (.cells #[.int .i64 (xa + n), .int .i64 (xb + n)] 43))) kg5 (by simpa using fun h => (unhide HNB _ h).2.2.2 rfl)
          change K (Act.put _ (some 45) _) _
          refine hK.out _ _ ⟨q0, q1, q2, q3⟩ (fun hHeld => ?_)
          clear hK K
          simp only [Act.put, List.setIfInBounds_toArray, List.set_cons_zero, List.set_cons_succ]
          refine take_on 23 46 (v := ?_) rfl rfl (by kernel_rfl) (by kernel_rfl) (by kernel_rfl) (fun _ _ _ h => h) (by kernel_rfl) (by intro w hSw; (try dsimp only at hSw); go_simp; first | done | with_reducible rfl) (by assumption) ?_
          simp only [Act.put, List.setIfInBounds_toArray, List.set_cons_zero, List.set_cons_succ]
          refine wpAnyH_ready (rs := [24]) (by kernel_rfl) (by simp) ?_
          refine AllReadyH.cons rfl (fun K hK => ?_) AllReadyH.nil
          go_simp
          refine hK.out _ _ ⟨by rw [cell_set_ne n25]; assumption, by rw [cell_set_ne n35]; assumption, by rw [cell_set_ne ne5]; assumption, by rw [cell_set_ne ne5]; assumption⟩ (fun hHeld => ?_)
          clear hK K
          refine wpAnyH_done (by kernel_rfl) ?_ _
          have HNX := hide (unhide HNEXT x5 gg cap5 own5 ⟨gr5.os, gr5.tape, gr5.output, gr5.size, gr5.block⟩ li5)
          clear kg5 own5 gr5 li5 lt5 q0 q1 q2 q3 q4 q5
          go_wp2
          go_roundw
          case rel => exact ⟨k + 1, _, _, _, by omega, by go_num, unhide HNX⟩
          case measure => simp [intOf]; omega
      · have HFS := hide (show es2 = besideE n es hs by rw [(unhide hh).2, List.take_of_length_le (by omega)]; rfl)
        have o0 := (unhide hh).1.o0; have o1 := (unhide hh).1.o1
        have r0 := (unhide hh).1.r0; have r1 := (unhide hh).1.r1; have e0 := (unhide hh).1.e0; have e1 := (unhide hh).1.e1
        have hB3 := (unhide hh).1.B0
        have ks : Kept [w.heap.size + 2] wr ((wr.setCell ⟨w.heap.size + 2, 0, none⟩ (.int .i64 (n + m))).setCell ⟨w.heap.size + 2, 1, none⟩ (.slice ro es2.length rc)) := ((Kept.refl _ _).setCell (Or.inl (by simp)) _).setCell (Or.inl (by simp)) _
        have hat := (unhide hh).1.own.at'
        have HT := hide (show EdgesAt ((wr.setCell ⟨w.heap.size + 2, 0, none⟩ (.int .i64 (n + m))).setCell ⟨w.heap.size + 2, 1, none⟩ (.slice ro es2.length rc)) (.slice ro es2.length rc) es2 ∧ FreshAt w.heap.size (.slice ro es2.length rc) ∧ Kept [] w ((wr.setCell ⟨w.heap.size + 2, 0, none⟩ (.int .i64 (n + m))).setCell ⟨w.heap.size + 2, 1, none⟩ (.slice ro es2.length rc)) from
          ⟨hat.1.keptAt ks (fun a x y e => by have := hat.2 a x y e; simp; omega), fun a x y e => by have := hat.2 a x y e; omega, (unhide hh).1.kept.trans' ks (by simp)⟩)
        clear hat ks hB3
        go_wp2
        refine bodyPost_ret (v := gv (n + m) (.slice ro es2.length rc)) (by simp [results, Tryd.results21, go_sem, r0, r1]) rfl ?_
        first | exact ⟨_, rfl, by rw [← unhide HFS]; exact (unhide HT).1, (unhide HT).2⟩ | exact ⟨_, by rw [← unhide HFS]; exact (unhide HT).1, (unhide HT).2⟩
end Go.Proofs.YtmpcnepiogjokaaDoor

namespace Go.Proofs.YtmpcnepiogjokaaDoor
open Go.RowKit

set_option maxRecDepth 20000 in
set_option maxHeartbeats 4000000 in
theorem shift_any {w : World} {v : Value} {xs : List Int} (h : IntsAt w v xs) (n : Int) (hn : 0 ≤ n ∧ n ≤ 4096) (hb : ∀ x ∈ xs, 0 ≤ x ∧ x ≤ 100000) (hl : xs.length ≤ 100000) :
    Calls Tryd.prog 23 #[v, .int .i64 n] w fun e w' => ∃ r, e = .returned r ∧ IntsAt w' r (shiftL n xs) ∧ Kept [] w w' := by
  obtain ⟨i, hi, hz0, hz1, hz2⟩ := info_parts infoInt
  obtain ⟨ao, cap, rfl, hm, hc⟩ := h.shape
  have HX := hide (fun W (k : Kept [] w W) => h.kept k)
  have HB := hide hb
  have HO0 : w.ownsRow w.heap.size 3 1 (.slice none 0 0) 0 ([].map (Value.int .i64)) := ⟨rfl, Or.inl ⟨rfl, rfl⟩⟩
  clear h hc hm hb
  go_enter Tryd.func23, Tryd.ntmps23
  go_wp2
  go_loopw [5, 6] (fun pv kk wr => ∃ (k : Nat) (po : Option Addr) (pc : Nat) (pl : List Int), k ≤ xs.length ∧ kk = .int .i64 k ∧ pv = .slice po pl.length pc ∧ wr.ownsRow w.heap.size 3 1 pv pl.length (pl.map (Value.int .i64)) ∧ Hid (pl = shiftL n (xs.take k) ∧ Kept [] w wr)) (fun _ kk _ => xs.length - (intOf kk).toNat)
  case atStart => exact ⟨0, none, 0, [], Nat.zero_le _, rfl, rfl, HO0, rfl, Kept.refl [] w⟩
  case round =>
    obtain ⟨k, po, pc, pl, hk, rfl, rfl, hown, hh⟩ := hrel
    by_cases hlt : k < xs.length
    · obtain ⟨ao2, cap2, hv2, _, hin2⟩ := (unhide HX _ (unhide hh).2).shape
      obtain ⟨eg, eo, he2, hin⟩ := hin2 (by omega)
      have hao : ao = some ⟨eg, eo, none⟩ := by simp at hv2; rw [hv2.1, he2]
      subst hao
      have d0 := hin k hlt
      have hbx := unhide HB _ (getD_mem hlt)
      have HTK := hide (show shiftL n (xs.take (k + 1)) = shiftL n (xs.take k) ++ [xs.getD k 0 + n] by
        unfold shiftL; rw [List.take_succ_eq_append_getElem hlt, List.map_append, getD_elem hlt]; rfl)
      have hpl : pl.length ≤ 100000 := by rw [(unhide hh).1]; simp [shiftL]; omega
      generalize xs.getD k 0 = x at *
      clear hin hin2 hv2 he2
      have t0 : (0 : Int) ≤ (k : Int) := by omega
      have t1 : (k : Int) < (xs.length : Int) := by omega
      have hwx : IntKind.i64.wrap (x + n) = x + n := by rw [IntWalk.i64_left, IntWalk.wrap64_in _ (by omega)]
      have hws := (unhide hh).2.size
      go_wp2_with (first | (at_builtin; refine wpList_append_own _ rfl (.tmp 13) (.tmp 20) 25 rfl w.heap.size 3 i (.int .i64 0) 1 8 Tryd.underlying25 hi hz0 hz1 hz2 rfl (by decide) _ _ _ rfl (hown.alloc _) _ 1 _ [.int .i64 (x + n)] rfl rfl (one_cell' _ _ _ (by simp)) (by simp [Value.oneCell']) (by unfold maxLen; omega) (by omega) (by simp; omega) ?_; intro v' w4 own4 g4 _))
      have hob := own_block hown
      have HK4 := hide ((unhide hh).2.trans' (cs := (Value.slice po pl.length pc).ownBlock.toList) ((((Kept.refl [] wr).alloc _).mono (by simp)).trans (grown_kept g4)) (fun q hq => Or.inr (hob q (by simpa using hq))))
      have own5 : w4.ownsRow w.heap.size 3 1 v' (pl ++ [x + n]).length ((pl ++ [x + n]).map (Value.int .i64)) := by
        rw [List.length_append, List.map_append]; exact own4
      obtain ⟨lo5, lc5, hv5⟩ : ∃ lo5 lc5, v' = .slice lo5 (pl ++ [x + n]).length lc5 := by
        rcases own5.2 with ⟨_, h0⟩ | ⟨g', cap', cur, hv, _⟩
        · simp at h0
        · exact ⟨some ⟨g', 0, none⟩, cap', hv⟩
      have HV5 := hide hv5
      clear own4 g4 hob hv5 hown
      go_wp2
      go_roundw
      case rel => exact ⟨k + 1, lo5, lc5, pl ++ [x + n], by omega, by go_num, unhide HV5, own5, by rw [unhide HTK, (unhide hh).1], unhide HK4⟩
      case measure => simp [intOf]; omega
    · have HIN := hide (show IntsAt wr (.slice po pl.length pc) (shiftL n xs) by
        have h1 := (unhide hh).1
        rw [List.take_of_length_le (by omega)] at h1
        rw [← h1]
        exact (ints_of_owns hown).1)
      go_wp2
      go_ret
      exact ⟨_, rfl, unhide HIN, (unhide hh).2⟩

set_option maxRecDepth 20000 in
set_option maxHeartbeats 4000000 in
theorem putG_any {w : World} {n : Int} {v : Value} {es : List E} (h : EdgesAt w v es) (a b : Int) :
    Calls Tryd.prog 24 #[gv n v, ev a b] w fun e w' => ∃ r, e = .returned (.tuple #[gv (addN n es a b) r, .int .i64 (addErr n es a b)]) ∧ EdgesAt w' r (addE n es a b) ∧ Kept [] w w' := by
  obtain ⟨ao, cap, rfl, _⟩ := h.shape
  have KB := (((Kept.refl [] w).alloc (.cells #[.int .i64 n, .slice ao es.length cap] 24)).alloc (.cells #[.int .i64 a, .int .i64 b] 43)).alloc (.cells #[.int .i64 0, .slice none 0 0] 24)
  have HA := hide (radd_any (n := n) (h.kept KB) a b)
  have HK := hide KB
  generalize addN n es a b = nn at *
  generalize addE n es a b = ee at *
  generalize addErr n es a b = er at *
  clear h KB
  go_enter Tryd.func24, Tryd.ntmps24
  go_wp2_with fail
  refine (unhide HA).mono ?_
  rintro e w1 ⟨r, rfl, hr, hf, k1⟩
  obtain ⟨r0, r1⟩ := box2 k1 (by simp)
  obtain ⟨f0, f1⟩ := box2f k1
  simp only [World.size_alloc] at r0 r1 f0 f1
  obtain ⟨ro, rm, rc, rfl⟩ := hr.form
  have ks : Kept [w.heap.size + 2] w1 ((w1.setCell ⟨w.heap.size + 2, 0, none⟩ (.int .i64 nn)).setCell ⟨w.heap.size + 2, 1, none⟩ (.slice ro rm rc)) := ((Kept.refl _ _).setCell (Or.inl (by simp)) _).setCell (Or.inl (by simp)) _
  have HT := hide (show EdgesAt ((w1.setCell ⟨w.heap.size + 2, 0, none⟩ (.int .i64 nn)).setCell ⟨w.heap.size + 2, 1, none⟩ (.slice ro rm rc)) (.slice ro rm rc) ee ∧ Kept [] w ((w1.setCell ⟨w.heap.size + 2, 0, none⟩ (.int .i64 nn)).setCell ⟨w.heap.size + 2, 1, none⟩ (.slice ro rm rc)) from
    ⟨hr.keptAt ks (fun a x y e => by have := hf a x y e; simp at this ⊢; omega), ((unhide HK).trans k1).trans' ks (by simp)⟩)
  clear hr hf k1 ks
  go_wp2
  refine bodyPost_ret (v := .tuple #[gv nn (.slice ro rm rc), .int .i64 er]) (by simp [results, Tryd.results24, go_sem, r0, r1]) rfl ?_
  first | exact ⟨_, rfl, unhide HT⟩ | exact ⟨_, unhide HT⟩
end Go.Proofs.YtmpcnepiogjokaaDoor

namespace Go.Proofs.YtmpcnepiogjokaaDoor
open Go.RowKit

theorem edges0 (w : World) : EdgesAt (w.alloc (.cells #[.int .i64 0, .int .i64 1, .int .i64 1, .int .i64 2] 43)) (.slice (some ⟨w.heap.size, 0, none⟩) 2 2) es0 := by
  refine ⟨some ⟨w.heap.size, 0, none⟩, 2, rfl, Nat.le_refl _, by unfold maxLen; decide, fun _ => ⟨w.heap.size, 0, rfl, by simp, fun i hi => ?_, fun i hi => ?_⟩⟩
  · rw [cell_of_block (new_block w _)]
    match i, hi with
    | 0, _ => rfl
    | 1, _ => rfl
  · rw [cell_of_block (new_block w _)]
    match i, hi with
    | 0, _ => rfl
    | 1, _ => rfl
theorem lists0 (w : World) : ListsAt (((w.alloc (.cells #[.int .i64 0, .int .i64 1, .int .i64 2] 3)).alloc (.cells #[.int .i64 3] 3)).alloc (.cells #[.slice (some ⟨w.heap.size, 0, none⟩) 3 3, .slice (some ⟨w.heap.size + 1, 0, none⟩) 1 1] 25)) (.slice (some ⟨w.heap.size + 2, 0, none⟩) 2 2) [[0, 1, 2], [3]] := by
  have k2 := (Kept.refl [] (w.alloc (.cells #[.int .i64 0, .int .i64 1, .int .i64 2] 3))).alloc (.cells #[.int .i64 3] 3)
  have k3 := (Kept.refl [] ((w.alloc (.cells #[.int .i64 0, .int .i64 1, .int .i64 2] 3)).alloc (.cells #[.int .i64 3] 3))).alloc (.cells #[.slice (some ⟨w.heap.size, 0, none⟩) 3 3, .slice (some ⟨w.heap.size + 1, 0, none⟩) 1 1] 25)
  have i1 : IntsAt (w.alloc (.cells #[.int .i64 0, .int .i64 1, .int .i64 2] 3)) (.slice (some ⟨w.heap.size, 0, none⟩) 3 3) [0, 1, 2] := by
    refine ⟨_, 3, rfl, Nat.le_refl _, by unfold maxLen; decide, fun _ => ⟨w.heap.size, 0, rfl, by simp, fun i hi => ?_⟩⟩
    rw [cell_of_block (new_block w _)]
    match i, hi with
    | 0, _ => rfl
    | 1, _ => rfl
    | 2, _ => rfl
  have i2 : IntsAt ((w.alloc (.cells #[.int .i64 0, .int .i64 1, .int .i64 2] 3)).alloc (.cells #[.int .i64 3] 3)) (.slice (some ⟨w.heap.size + 1, 0, none⟩) 1 1) [3] := by
    refine ⟨_, 1, rfl, Nat.le_refl _, by unfold maxLen; decide, fun _ => ⟨w.heap.size + 1, 0, rfl, by simp, fun i hi => ?_⟩⟩
    have hb := new_block (w.alloc (.cells #[.int .i64 0, .int .i64 1, .int .i64 2] 3)) (.cells #[.int .i64 3] 3)
    rw [World.size_alloc] at hb
    rw [cell_of_block hb]
    match i, hi with
    | 0, _ => rfl
  have hb := new_block ((w.alloc (.cells #[.int .i64 0, .int .i64 1, .int .i64 2] 3)).alloc (.cells #[.int .i64 3] 3)) (.cells #[.slice (some ⟨w.heap.size, 0, none⟩) 3 3, .slice (some ⟨w.heap.size + 1, 0, none⟩) 1 1] 25)
  rw [World.size_alloc, World.size_alloc] at hb
  refine ⟨_, 2, rfl, Nat.le_refl _, by unfold maxLen; decide, fun _ => ⟨w.heap.size + 2, 0, rfl, fun i hi => ?_⟩⟩
  match i, hi with
  | 0, _ => exact ⟨_, by rw [cell_of_block hb]; rfl, (i1.kept k2).kept k3⟩
  | 1, _ => exact ⟨_, by rw [cell_of_block hb]; rfl, i2.kept k3⟩

set_option maxRecDepth 20000 in
set_option maxHeartbeats 4000000 in
theorem pawake_any {w : World} (hT : Tab w) : Calls Tryd.prog 9 #[] w fun e w' => e = .returned (.bool true) ∧ Kept [] w w' := by
  have K0 := ((Kept.refl [] w).alloc (.cells #[.int .i64 0, .int .i64 1, .int .i64 1, .int .i64 2] 43))
  have HE := hide (fun W (k : Kept [] (w.alloc (.cells #[.int .i64 0, .int .i64 1, .int .i64 1, .int .i64 2] 43)) W) => (edges0 w).kept k)
  have KB := (Kept.refl [] (w.alloc (.cells #[.int .i64 0, .int .i64 1, .int .i64 1, .int .i64 2] 43))).alloc (.cells #[.int .i64 4, .slice (some ⟨w.heap.size, 0, none⟩) 2 2] 24)
  have HTT := hide (fun W (k : Kept [] w W) => hT.kept k (by simp))
  have HALL := hide (all_any (n := 4) (unhide HE _ KB) (unhide HTT _ (K0.trans KB)))
  have HK0 := hide K0
  have HKB := hide KB
  clear K0 KB hT
  go_enter Tryd.func9, Tryd.ntmps9
  go_wp2_with fail
  refine (unhide HALL).mono ?_
  rintro e w1 ⟨r, L, rfl, hl, hP, k1⟩
  have hL := hP.zero
  subst hL
  have b := box2 k1 (by simp)
  rw [World.size_alloc] at b
  obtain ⟨b0, b1⟩ := b
  have HK1 := hide ((unhide HKB).trans k1)
  have HLS := hide (fun W (k : Kept [] w1 W) => hl.kept k)
  obtain ⟨ro, rc, rfl, _⟩ := hl.shape
  clear hl hP k1
  have KW := (((Kept.refl [] w1).alloc (.cells #[.int .i64 0, .int .i64 1, .int .i64 2] 3)).alloc (.cells #[.int .i64 3] 3)).alloc (.cells #[.slice (some ⟨w1.heap.size, 0, none⟩) 3 3, .slice (some ⟨w1.heap.size + 1, 0, none⟩) 1 1] 25)
  have HLI := lists_any (unhide HLS _ KW) (lists0 w1)
  rw [show decide (([[0, 1, 2], [3]] : List (List Int)) = [[0, 1, 2], [3]]) = true by simp] at HLI
  have HLI2 := hide HLI
  have HKW := hide KW
  clear HLI KW
  go_wp2_with fail
  refine (unhide HLI2).mono ?_
  rintro e w2 ⟨rfl, m2, rfl⟩
  have KX := hide ((unhide HKW).drewN m2)
  generalize World.drewN _ m2 = W2 at *
  have B0 := kept_cell b0 (unhide KX)
  have B1 := kept_cell b1 (unhide KX)
  have HOD := hide (odd_any (n := 4) (unhide HE _ ((unhide HK1).trans (unhide KX))) (intsNil W2) (unhide HTT _ ((unhide HK0).trans ((unhide HK1).trans (unhide KX)))))
  clear b0 b1
  go_wp2_with fail
  refine (unhide HOD).mono ?_
  rintro e w3 ⟨L3, rfl, hP3, k3⟩
  have hL3 := hP3.zero
  subst hL3
  have e3 : (((oddL [[0, 1, 2], [3]] : Nat) : Int) == 2) = true := by decide
  have C0 := kept_cell B0 k3
  have C1 := kept_cell B1 k3
  have HK3 := hide (((unhide HK1).trans (unhide KX)).trans k3)
  have HSM := hide (psame_any (n := 4) (unhide HE _ (unhide HK3)) (unhide HTT _ ((unhide HK0).trans (unhide HK3))) 0 2)
  clear hP3 k3 B0 B1
  go_wp2_with fail
  refine (unhide HSM).mono ?_
  rintro e w4 ⟨c, rfl, hc, k4⟩
  have hc2 := hc.2 same0
  subst hc2
  go_wp2
  go_ret
  exact ⟨rfl, ((unhide HK0).trans (unhide HK3)).trans k4⟩
end Go.Proofs.YtmpcnepiogjokaaDoor

namespace Go.Proofs.YtmpcnepiogjokaaDoor
open Go.RowKit

theorem Rs.told {w W : World} {m : Int} {r : Value} {es : List E} (h : Rs w W) (hr : EdgesAt W r es) (hf : FreshAt (w.heap.size + 1) r) :
    EdgesAt ((W.setCell ⟨w.heap.size, 0, none⟩ (.int .i64 m)).setCell ⟨w.heap.size, 1, none⟩ r) r es ∧ FreshAt w.heap.size r ∧ Kept [] w ((W.setCell ⟨w.heap.size, 0, none⟩ (.int .i64 m)).setCell ⟨w.heap.size, 1, none⟩ r) := by
  refine ⟨?_, fun a x y e => by have := hf a x y e; omega, ((h.kept.setCell (Or.inr (Nat.le_refl _)) _).setCell (Or.inr (Nat.le_refl _)) _)⟩
  refine hr.keptAt (bs := [w.heap.size]) (((Kept.refl _ _).setCell (Or.inl (by simp)) _).setCell (Or.inl (by simp)) _) ?_
  intro a x y e
  have := hf a x y e
  simp; omega
theorem u64_nonneg (n : Int) : 0 ≤ IntKind.u64.wrap n := by
  show 0 ≤ n % 18446744073709551616
  omega
theorem mod_small (n V : Int) (h0 : 0 ≤ V) (h1 : V ≤ 4096) : 0 ≤ wrap64 ((IntKind.u64.wrap n).tmod (V + 1)) ∧ wrap64 ((IntKind.u64.wrap n).tmod (V + 1)) ≤ V := by
  have h2 := u64_nonneg n
  have h3 : 0 ≤ (IntKind.u64.wrap n).tmod (V + 1) := Int.tmod_nonneg _ h2
  have h4 : (IntKind.u64.wrap n).tmod (V + 1) < V + 1 := Int.tmod_lt_of_pos _ (by omega)
  rw [IntWalk.wrap64_in _ (by omega)]
  omega

set_option maxRecDepth 20000 in
set_option maxHeartbeats 8000000 in
theorem small_any {w : World} {v : Value} {xs : List Int} (h : IntsAt w v xs) (n V Ed : Int) (hV0 : 0 ≤ V) (hV : V ≤ 4096) (hE0 : 0 ≤ Ed) (_ : Ed ≤ 60000) : Calls Tryd.prog 20 #[.int .i64 n, v, .int .i64 V, .int .i64 Ed] w fun e w' => ∃ N r es, e = .returned (gv N r) ∧ EdgesAt w' r es ∧ rightB N es = true ∧ N ≤ V ∧ (es.length : Int) ≤ Ed ∧ FreshAt w.heap.size r ∧ Kept [] w w' := by
  obtain ⟨ao, cap, rfl, hm, hxs⟩ := h.shape
  have HXS := hide hxs
  clear h hxs
  have hm' : (xs.length : Int) ≤ 9223372036854775807 := by unfold maxLen at hm; omega
  clear hm
  go_enter Tryd.func20, Tryd.ntmps20
  go_wp2
  obtain ⟨hN0, hN1⟩ := mod_small n V hV0 hV
  generalize wrap64 ((IntKind.u64.wrap n).tmod (V + 1)) = N at *
  have MS := hide (Mr.start w N 24 24)
  have HR0 := hide (show rightB N [] = true by unfold rightB; simp [chk]; omega)
  have HNV := hide hN1
  have hN2 : N ≤ 4096 := by omega
  clear hN1
  go_loopw [10] (fun ii wr => ∃ (i : Nat) (r : Value) (es : List E), i ≤ 402 ∧ ii = .int .i64 i ∧ (es.length : Int) ≤ Ed ∧ Hid (Mr w N r es wr ∧ rightB N es = true)) (fun ii _ => 500 - (intOf ii).toNat)
  case atStart => exact ⟨0, _, [], by omega, rfl, by simpa using hE0, unhide MS, unhide HR0⟩
  case round =>
    obtain ⟨i, r, es, hi, rfl, hle, hh⟩ := hrel
    obtain ⟨ro, rc, rfl, _⟩ := (unhide hh).1.at'.shape
    have c0 := (unhide hh).1.g0; have c1 := (unhide hh).1.g1
    by_cases hc : (i : Int) + 1 < (xs.length : Int) ∧ (es.length : Int) < Ed ∧ 0 < N ∧ (i : Int) < 400
    · obtain ⟨hc1, hc2, hc3, hc4⟩ := hc
      obtain ⟨g, o, rfl, hin⟩ := unhide HXS (by omega)
      have d0 := kept_cell (hin i (by omega)) (unhide hh).1.rs.kept
      have d1 := kept_cell (hin (i + 1) (by omega)) (unhide hh).1.rs.kept
      clear hin
      generalize xs.getD i 0 = a at *
      generalize xs.getD (i + 1) 0 = b at *
      have HA := hide (show ∀ W, Kept [] wr W → ∀ a b, Calls Tryd.prog 31 #[gv N (.slice ro es.length rc), .int .i64 a, .int .i64 b] W fun e w' => ∃ c nn ee, Answers W w' e nn ee c ∧ Hid (c = 0 → ee.length = es.length + 1 ∧ rightB N ee = true ∧ nn = N) from fun W k' a b => (radd_any (n := N) ((unhide hh).1.at'.kept k') a b).mono fun e w' h => ⟨_, _, _, h, fun hz => by
        unfold addE addN; rw [if_pos hz, if_pos hz]; exact ⟨insE_len, ins_right hz, rfl⟩⟩)
      have hc0 := lt_of_cell c0
      have hd0 := lt_of_cell d0
      have hwN : IntKind.u64.wrap N = N := by show N % 18446744073709551616 = N; omega
      have hwi : IntKind.i64.wrap ((i : Int) + 1) = (i : Int) + 1 := by rw [IntWalk.i64_left, IntWalk.wrap64_in _ (by omega)]
      have hnz : (N == 0) = false := by simp; omega
      have i0 : (0 : Int) ≤ (i : Int) := by omega
      have i2 : (0 : Int) ≤ (i : Int) + 1 := by omega
      have hnz2 : ¬ N = 0 := by omega
      have hti : ((i : Int) + 1).toNat = i + 1 := by omega
      have i1 : (i : Int) < (xs.length : Int) := by omega
      go_wp2_with fail
      go_region_held3 (fun W => W.cell? ⟨w.heap.size + 1, 0, none⟩ = some (.int .i64 N) ∧ W.cell? ⟨w.heap.size + 1, 1, none⟩ = some (.slice ro es.length rc) ∧ W.cell? ⟨g, o + i, none⟩ = some (.int .i64 a) ∧ W.cell? ⟨g, o + (i + 1), none⟩ = some (.int .i64 b)) (first | exact ⟨kept_cell c0 K2, kept_cell c1 K2, kept_cell d0 K2, kept_cell d1 K2⟩ | exact ⟨(cell_set2 (by omega)).trans (kept_cell c0 K2), (cell_set2 (by omega)).trans (kept_cell c1 K2), (cell_set2 (by omega)).trans (kept_cell d0 K2), (cell_set2 (by omega)).trans (kept_cell d1 K2)⟩ | exact ⟨alloc_cell (kept_cell c0 K2) _, alloc_cell (kept_cell c1 K2) _, alloc_cell (kept_cell d0 K2) _, alloc_cell (kept_cell d1 K2) _⟩ | go_keep)
        (first | (go_at_call 31; refine (unhide HA _ (by repeat' first | exact Kept.refl _ _ | apply Kept.drew | apply Kept.alloc) _ _).mono ?_; rintro e w2 ⟨c, nn, ee, ⟨r2, rfl, hr2, hf2, k2⟩, HST⟩; obtain ⟨so, sm, sc, rfl⟩ := hr2.form; have kz := (Kept.refl [] (wr.alloc (.cells #[.int .i64 0, .slice none 0 0] 24))).drew.trans k2; obtain ⟨z0, z1⟩ := box2 kz (by simp); obtain ⟨y0, y1⟩ := box2f kz; have K2 : Kept [] wr w2 := ((Kept.refl [] wr).alloc _).trans kz) | (go_at_call 31; refine (unhide HA _ (by repeat' first | exact Kept.refl _ _ | apply Kept.drew | apply Kept.alloc) _ _).mono ?_; rintro e w2 ⟨c, nn, ee, ⟨r2, rfl, hr2, hf2, k2⟩, HST⟩; obtain ⟨so, sm, sc, rfl⟩ := hr2.form; have K2 : Kept [] wr w2 := (Kept.refl [] wr).drew.trans k2))
      · have M3 := (unhide hh).1.go (K2.alloc (.cells #[.int .i64 nn, .slice so sm sc] 24))
        obtain ⟨v0, v1⟩ := box2 (Kept.refl [] (w2.alloc (.cells #[.int .i64 nn, .slice so sm sc] 24))) (by simp)
        have hr3 := hr2.kept ((Kept.refl [] w2).alloc (.cells #[.int .i64 nn, .slice so sm sc] 24))
        have hf3 : FreshAt (w.heap.size + 2) (.slice so sm sc) := fun a x y e => Nat.le_trans hc0 (hf2 a x y e)
        have nP : w2.heap.size ≠ w.heap.size + 1 := by have := K2.size; omega
        clear k2 K2 hr2 hf2 c0 c1 d0 d1
        generalize w2.alloc (.cells #[.int .i64 nn, .slice so sm sc] 24) = w3 at *
        generalize w2.heap.size = pp at *
        have HM3 := hide M3
        have HR3 := hide hr3
        have HF3 := hide hf3
        have s0 := M3.g0; have s1 := M3.g1; have t0 := M3.f0; have t1 := M3.f1
        clear M3 hr3 hf3 hc0 hd0
        by_cases hcz : c = 0
        · have hq : (c == 0) = true := by simpa using hcz
          obtain ⟨hl2, hr2', hnn⟩ := unhide HST hcz
          subst hnn
          have HL2 := hide hl2
          have HRR := hide hr2'
          clear hcz hl2 hr2'
          go_wp2
          go_roundw
          case rel =>
            refine ⟨i + 2, .slice so sm sc, ee, by omega, by go_num, by rw [unhide HL2]; omega, ?_, unhide HRR⟩
            exact (unhide HM3).put (unhide HR3) (unhide HF3)
          case measure => simp [intOf]; omega
        · have hq : (c == 0) = false := by simpa using hcz
          clear hcz
          go_wp2
          go_roundw
          case rel => exact ⟨i + 2, _, es, by omega, by go_num, hle, unhide HM3, (unhide hh).2⟩
          case measure => simp [intOf]; omega
      · have kS : Kept [wr.heap.size] w2 ((w2.setCell ⟨wr.heap.size, 0, none⟩ (.int .i64 nn)).setCell ⟨wr.heap.size, 1, none⟩ (.slice so sm sc)) := ((Kept.refl _ _).setCell (Or.inl (by simp)) _).setCell (Or.inl (by simp)) _
        have kA : Kept [] wr ((w2.setCell ⟨wr.heap.size, 0, none⟩ (.int .i64 nn)).setCell ⟨wr.heap.size, 1, none⟩ (.slice so sm sc)) := K2.trans' kS (by simp)
        have M3 := (unhide hh).1.go kA
        have v0 : ((w2.setCell ⟨wr.heap.size, 0, none⟩ (.int .i64 nn)).setCell ⟨wr.heap.size, 1, none⟩ (.slice so sm sc)).cell? ⟨wr.heap.size, 0, none⟩ = some (.int .i64 nn) := by go_simp
        have v1 : ((w2.setCell ⟨wr.heap.size, 0, none⟩ (.int .i64 nn)).setCell ⟨wr.heap.size, 1, none⟩ (.slice so sm sc)).cell? ⟨wr.heap.size, 1, none⟩ = some (.slice so sm sc) := by go_simp
        have hr3 := hr2.keptAt kS (fun a x y e => by have h2 := hf2 a x y e; have h3 : (wr.alloc (.cells #[.int .i64 0, .slice none 0 0] 24)).heap.size ≤ a.block := h2; simp at h3 ⊢; omega)
        have hf3 : FreshAt (w.heap.size + 2) (.slice so sm sc) := fun a x y e => by have h2 := hf2 a x y e; have h3 : (wr.alloc (.cells #[.int .i64 0, .slice none 0 0] 24)).heap.size ≤ a.block := h2; simp at h3; omega
        have nP : wr.heap.size ≠ w.heap.size + 1 := by omega
        clear k2 kz K2 hr2 hf2 c0 c1 d0 d1 z0 z1 y0 y1 kS kA
        generalize (w2.setCell ⟨wr.heap.size, 0, none⟩ (.int .i64 nn)).setCell ⟨wr.heap.size, 1, none⟩ (.slice so sm sc) = w3 at *
        have HM3 := hide M3
        have HR3 := hide hr3
        have HF3 := hide hf3
        have s0 := M3.g0; have s1 := M3.g1; have t0 := M3.f0; have t1 := M3.f1
        clear M3 hr3 hf3 hc0 hd0
        by_cases hcz : c = 0
        · have hq : (c == 0) = true := by simpa using hcz
          obtain ⟨hl2, hr2', hnn⟩ := unhide HST hcz
          subst hnn
          have HL2 := hide hl2
          have HRR := hide hr2'
          clear hcz hl2 hr2'
          go_wp2
          go_roundw
          case rel =>
            refine ⟨i + 2, .slice so sm sc, ee, by omega, by go_num, by rw [unhide HL2]; omega, ?_, unhide HRR⟩
            exact (unhide HM3).put (unhide HR3) (unhide HF3)
          case measure => simp [intOf]; omega
        · have hq : (c == 0) = false := by simpa using hcz
          clear hcz
          go_wp2
          go_roundw
          case rel => exact ⟨i + 2, _, es, by omega, by go_num, hle, unhide HM3, (unhide hh).2⟩
          case measure => simp [intOf]; omega
    · have r0 := (unhide hh).1.rs.r0; have r1 := (unhide hh).1.rs.r1; have f0 := (unhide hh).1.rs.f0; have f1 := (unhide hh).1.rs.f1
      have HT := hide ((unhide hh).1.rs.told (m := N) (unhide hh).1.at' (fun a x y e => by have := (unhide hh).1.fresh a x y e; omega))
      have HC := hide hc
      clear hc
      go_wp2
      all_goals (first | (exfalso; have hc := unhide HC; omega) | exact bodyPost_ret (v := gv N (.slice ro es.length rc)) (by simp [results, Tryd.results20, go_sem, r0, r1]) rfl ⟨N, .slice ro es.length rc, rfl, es, (unhide HT).1, (unhide hh).2, unhide HNV, hle, (unhide HT).2⟩ | exact bodyPost_ret (v := gv N (.slice ro es.length rc)) (by simp [results, Tryd.results20, go_sem, r0, r1]) rfl ⟨N, .slice ro es.length rc, es, rfl, (unhide HT).1, (unhide hh).2, unhide HNV, hle, (unhide HT).2⟩)
end Go.Proofs.YtmpcnepiogjokaaDoor

namespace Go.Proofs.YtmpcnepiogjokaaDoor
open Go.RowKit

/-- All vertices, in pieces or out. -/
theorem IsPieces.count {es : List E} {N : Nat} {xs : List Int} {L : List (List Int)} (h : IsPieces es (Alive (N : Int) xs) L) (hx : xs.Pairwise (· < ·)) (hb : ∀ y ∈ xs, 0 ≤ y ∧ y < (N : Int)) : L.flatten.length + xs.length = N := by
  have hd : L.flatten.Nodup := by
    unfold List.Nodup
    rw [List.pairwise_flatten]
    refine ⟨fun l hl => pair_irr (h.rise l hl), List.Pairwise.imp_of_mem ?_ h.heads⟩
    intro l m hl hm hlt x hxl y hym e
    subst e
    have : l = m := rising_eq (h.rise l hl) (h.rise m hm) (fun z => by rw [(h.cls l hl x hxl).2 z, (h.cls m hm x hym).2 z])
    subst this
    exact Int.lt_irrefl _ hlt
  have hmem : ∀ x, x ∈ L.flatten ↔ Alive (N : Int) xs x := fun x => by
    rw [List.mem_flatten]
    constructor
    · rintro ⟨l, hl, hxl⟩; exact (h.cls l hl x hxl).1
    · intro hx; obtain ⟨l, hl, hxl⟩ := h.all x hx; exact ⟨l, hl, hxl⟩
  have hn : (L.flatten ++ xs).Nodup := by
    rw [List.nodup_append]
    exact ⟨hd, pair_irr hx, fun a ha b hb e => by subst e; exact ((hmem a).1 ha).2 hb⟩
  have hr : ((List.range N).map Int.ofNat).Nodup := by
    unfold List.Nodup
    rw [List.pairwise_map]
    exact (List.nodup_range).imp (fun h e => h (Int.ofNat.inj e))
  have hp : (L.flatten ++ xs).Perm ((List.range N).map Int.ofNat) := (List.perm_ext_iff_of_nodup hn hr).2 (fun x => by
    rw [List.mem_append, hmem, List.mem_map]
    constructor
    · intro h
      have h2 : 0 ≤ x ∧ x < (N : Int) := by
        rcases h with h | h
        · exact h.1
        · exact hb x h
      exact ⟨x.toNat, by simp; omega, by show ((x.toNat : Nat) : Int) = x; omega⟩
    · rintro ⟨k, hk, rfl⟩
      simp at hk
      by_cases hm : Int.ofNat k ∈ xs
      · exact Or.inr hm
      · exact Or.inl ⟨⟨by show (0 : Int) ≤ (k : Int); omega, by show (k : Int) < N; omega⟩, hm⟩)
  have := hp.length_eq
  simp at this
  simpa using this
theorem odd_flat (L : List (List Int)) : oddL L ≤ L.flatten.length ∧ (L.flatten.length - oddL L) % 2 = 0 := by
  induction L with
  | nil => simp [oddL]
  | cons l r ih =>
    unfold oddL at *
    simp only [List.map_cons, List.sum_cons, List.flatten_cons, List.length_append]
    omega
end Go.Proofs.YtmpcnepiogjokaaDoor

namespace Go.Proofs.YtmpcnepiogjokaaDoor
open Go.RowKit

/-- A graph in a variable, its edges beside. -/
structure GVar (w : World) (p : Nat) (n : Int) (v : Value) (es : List E) : Prop where
  a : w.cell? ⟨p, 0, none⟩ = some (.int .i64 n)
  b : w.cell? ⟨p, 1, none⟩ = some v
  e : EdgesAt w v es
theorem GVar.kept {w w' : World} {p : Nat} {n : Int} {v : Value} {es : List E} (h : GVar w p n v es) (k : Kept [] w w') : GVar w' p n v es := ⟨kept_cell h.a k, kept_cell h.b k, h.e.kept k⟩
theorem GVar.new {w : World} {n : Int} {v : Value} {es : List E} (h : EdgesAt w v es) (t : TypeId) : GVar (w.alloc (.cells #[.int .i64 n, v] t)) w.heap.size n v es :=
  ⟨(box2 (Kept.refl [] _) (by simp)).1, (box2 (Kept.refl [] _) (by simp)).2, h.kept ((Kept.refl [] w).alloc _)⟩

end Go.Proofs.YtmpcnepiogjokaaDoor
