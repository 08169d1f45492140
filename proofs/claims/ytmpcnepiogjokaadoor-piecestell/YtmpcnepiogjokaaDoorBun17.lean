/- Lists of lists in memory. Without, All. All, Odd, Same. Same, Plain of numbers. Lists held against each other. Lists, Same; awake. awake. garlandplay.Small: a graph that is right, of whatever numbers. garlandplay.Some; how many vertices pieces have. Labels that fall: plain mathematics. Odd and Same of the reference, over its Without. Same of the reference, over its Without. PiecesParity: the walk. PiecesEach: the walk. -/
import Derived.Test.YtmpcnepiogjokaaDoorBun16
import Derived.Maps.AppendAt
import Derived.Test.YtmpcnepiogjokaaDoorBase
import Derived.Test.YtmpcnepiogjokaaDoorBun14
import Derived.Test.YtmpcnepiogjokaaDoorBun11
import Derived.Test.YtmpcnepiogjokaaDoorBun15
import Derived.Test.YtmpcnepiogjokaaDoorWf
namespace Go.Proofs.YtmpcnepiogjokaaDoor
open Go.RowKit

/-- A slice of slices of numbers. -/
def ListsAt (w : World) (v : Value) (L : List (List Int)) : Prop :=
  ∃ ao cap, v = .slice ao L.length cap ∧ L.length ≤ cap ∧ L.length ≤ maxLen ∧ (0 < L.length → ∃ g o, ao = some ⟨g, o, none⟩ ∧ ∀ i, i < L.length → ∃ u, w.cell? ⟨g, o + i, none⟩ = some u ∧ IntsAt w u (L.getD i []))
theorem ListsAt.kept {w w' : World} {v : Value} {L : List (List Int)} (h : ListsAt w v L) (k : Kept [] w w') : ListsAt w' v L := by
  obtain ⟨ao, cap, rfl, h1, h2, h3⟩ := h
  refine ⟨ao, cap, rfl, h1, h2, fun h0 => ?_⟩
  obtain ⟨g, o, rfl, hc⟩ := h3 h0
  exact ⟨g, o, rfl, fun i hi => by obtain ⟨u, hu, hv⟩ := hc i hi; exact ⟨u, kept_cell hu k, hv.kept k⟩⟩
theorem ListsAt.nil (w : World) (cap : Nat) (ao : Option Addr) : ListsAt w (.slice ao 0 cap) [] := ⟨ao, cap, rfl, Nat.zero_le _, Nat.zero_le _, fun h => by simp at h⟩
theorem ListsAt.shape {w : World} {v : Value} {L : List (List Int)} (h : ListsAt w v L) : ∃ ao cap, v = .slice ao L.length cap ∧ L.length ≤ maxLen ∧ (0 < L.length → ∃ g o, ao = some ⟨g, o, none⟩ ∧ ∀ i, i < L.length → ∃ u, w.cell? ⟨g, o + i, none⟩ = some u ∧ IntsAt w u (L.getD i [])) := by
  obtain ⟨ao, cap, rfl, h1, h2, h3⟩ := h
  exact ⟨ao, cap, rfl, h2, h3⟩
/-- A row of lists that is being made. -/
structure LRow (w : World) (B b : Nat) (lv : Value) (L : List (List Int)) (vals : List Value) : Prop where
  own : w.ownsRow B 25 1 lv L.length vals
  each : ∀ i u, vals[i]? = some u → IntsAt w u (L.getD i []) ∧ ∃ a n c, u = .slice (some a) n c ∧ a.block ≠ b ∧ lv.ownBlock ≠ some a.block ∧ a.block < w.heap.size
theorem LRow.start (w : World) (B b : Nat) : LRow w B b (.slice none 0 0) [] [] := ⟨⟨rfl, Or.inl ⟨rfl, rfl⟩⟩, by simp⟩
theorem own_freeE {w w' : World} {base e size n b : Nat} {v : Value} {xs : List Value} (h : w.ownsRow base e size v n xs) (k : Kept [b] w w') (hb : b < base) : w'.ownsRow base e size v n xs := by
  obtain ⟨h1, h2⟩ := h
  refine ⟨h1, ?_⟩
  rcases h2 with h2 | ⟨g, cap, cur, hv, hg, hh, h5, h6, h7, h8⟩
  · exact Or.inl h2
  · refine Or.inr ⟨g, cap, cur, hv, hg, ?_, h5, h6, h7, h8⟩
    have hl : g < w.heap.size := by
      by_cases hl : g < w.heap.size
      · exact hl
      · rw [Array.getElem?_eq_none (by omega)] at hh; simp at hh
    rw [k.block g hl (by simp; omega)]; exact hh
theorem LRow.kept {w w' : World} {B b : Nat} {lv : Value} {L : List (List Int)} {vals : List Value} (h : LRow w B b lv L vals) (k : Kept [b] w w') (hb : b < B) : LRow w' B b lv L vals :=
  ⟨own_freeE h.own k hb, fun i u hu => by
    obtain ⟨h1, a, n, c, rfl, h2, h3, h4⟩ := h.each i u hu
    exact ⟨h1.keptAt k (fun a' m c' e => by cases e; simpa using h2), a, n, c, rfl, h2, h3, Nat.lt_of_lt_of_le h4 k.size⟩⟩
/-- A list more. -/
theorem LRow.push {w w' : World} {B b : Nat} {lv v' : Value} {L : List (List Int)} {vals : List Value} (h : LRow w B b lv L vals) {l : List Int} {a : Addr} {n c : Nat} {o : Obj} (hu : IntsAt w (.slice (some a) n c) l) (ha : a.block ≠ b) (hal : lv.ownBlock ≠ some a.block) (halt : a.block < w.heap.size)
    (own : w'.ownsRow B 25 1 v' (L.length + 1) (vals ++ [.slice (some a) n c])) (hg : (w.alloc o).grownBy w' lv.ownBlock) (hat : v'.ownBlock = lv.ownBlock ∨ v'.ownBlock = some (w.heap.size + 1)) : LRow w' B b v' (L ++ [l]) (vals ++ [.slice (some a) n c]) := by
  have hlen : vals.length = L.length := by simpa using h.own.1
  have kk : Kept lv.ownBlock.toList w w' := (((Kept.refl [] w).alloc o).mono (by simp)).trans (grown_kept hg)
  have hne : ∀ a : Addr, lv.ownBlock ≠ some a.block → a.block < w.heap.size → v'.ownBlock ≠ some a.block := fun a h1 h2 e => by
    rcases hat with h3 | h3
    · exact h1 (by rw [← h3]; exact e)
    · rw [h3] at e; simp at e; omega
  refine ⟨by rw [List.length_append]; exact own, fun i u hi => ?_⟩
  by_cases hlt : i < L.length
  · rw [List.getElem?_append_left (by omega)] at hi
    obtain ⟨h1, a', n', c', rfl, h2, h3, h4⟩ := h.each i u hi
    refine ⟨?_, a', n', c', rfl, h2, hne a' h3 h4, Nat.lt_of_lt_of_le h4 kk.size⟩
    rw [show (L ++ [l]).getD i [] = L.getD i [] by simp [List.getD, List.getElem?_append_left hlt]]
    exact h1.keptAt kk (fun a2 m c2 e => by cases e; intro hm; exact h3 (by simpa using hm))
  · have hil := (List.getElem?_eq_some_iff.1 hi).1
    simp at hil
    have e : i = vals.length := by omega
    subst e
    simp at hi
    subst hi
    refine ⟨?_, a, n, c, rfl, ha, hne a hal halt, Nat.lt_of_lt_of_le halt kk.size⟩
    rw [show (L ++ [l]).getD vals.length [] = l by rw [hlen]; simp [List.getD]]
    exact hu.keptAt kk (fun a2 m c2 e => by cases e; intro hm; exact hal (by simpa using hm))
theorem LRow.lists {w : World} {B b : Nat} {lv : Value} {L : List (List Int)} {vals : List Value} (h : LRow w B b lv L vals) : ListsAt w lv L := by
  have hlen : vals.length = L.length := by simpa using h.own.1
  rcases h.own.2 with ⟨rfl, h0⟩ | ⟨g, cap, cur, rfl, hg, hb, h5, h6, h7, h8⟩
  · have : L = [] := List.eq_nil_of_length_eq_zero h0
    subst this
    exact ListsAt.nil _ _ _
  · refine ⟨some ⟨g, 0, none⟩, cap, rfl, h5, by omega, fun _ => ⟨g, 0, rfl, fun i hi => ?_⟩⟩
    obtain ⟨u, hu⟩ : ∃ u, vals[i]? = some u := ⟨vals[i]'(by omega), by simp⟩
    refine ⟨u, ?_, (h.each i u hu).1⟩
    rw [cell_of_block hb, ← hu, ← h8, Nat.mul_one, List.getElem?_take_of_lt hi]
    simp
def lenV : Value → Nat
  | .slice _ n _ => n
  | _ => 0
/-- As many pieces as vertices at most. -/
theorem Taken.len {es : List E} {S T : Int → Prop} {L : List (List Int)} {N : Nat} (h : Taken es S T L) (hb : ∀ x, S x → 0 ≤ x ∧ x < (N : Int)) : L.length ≤ N := by
  have h1 : (L.map (fun l => l.headD 0)).Nodup := by
    unfold List.Nodup
    rw [List.pairwise_map]
    exact h.heads.imp (fun {a b} h e => by omega)
  have := len_bound (N := N) h1 (fun x hx => by
    obtain ⟨l, hl, rfl⟩ := List.mem_map.1 hx
    have hne := h.ne l hl
    cases l with
    | nil => exact absurd rfl hne
    | cons y r => exact hb _ (h.cls _ hl y (by simp)).1)
  simpa using this
end Go.Proofs.YtmpcnepiogjokaaDoor

namespace Go.Proofs.YtmpcnepiogjokaaDoor
open Go.RowKit

/-- A vertex that is not out. -/
def Alive (n : Int) (xs : List Int) (x : Int) : Prop := (0 ≤ x ∧ x < n) ∧ x ∉ xs

set_option maxRecDepth 20000 in
set_option maxHeartbeats 4000000 in
theorem take_zero {w : World} {q : Nat} (h1 : w.cell? ⟨q, 1, none⟩ = some (.pointer none)) (x : Int) :
    Calls Tryd.prog 38 #[.pointer (some ⟨q, 0, none⟩), .int .i64 x] w fun e w' => e = .returned (.slice none 0 0) ∧ Kept [] w w' := by
  have HD := hide (drop_nil x w)
  go_enter Tryd.func38, Tryd.ntmps38
  go_wp2_with fail
  refine (unhide HD).mono ?_
  rintro e w1 ⟨rfl, m, rfl⟩
  go_wp2
  go_ret
  exact ⟨rfl, (Kept.refl [] w).drewN m⟩

set_option maxRecDepth 20000 in
set_option maxHeartbeats 4000000 in
theorem next_zero {w : World} {q : Nat} (h1 : w.cell? ⟨q, 1, none⟩ = some (.pointer none)) :
    Calls Tryd.prog 35 #[.pointer (some ⟨q, 0, none⟩)] w fun e w' => e = .returned (.slice none 0 0) ∧ Kept [] w w' := by
  have HL := hide (least_nil w 0)
  go_enter Tryd.func35, Tryd.ntmps35
  go_wp2_with fail
  refine (unhide HL).mono ?_
  rintro e w1 ⟨rfl, m, rfl⟩
  have HT := hide (take_zero (w := w.drewN m) (kept_cell h1 ((Kept.refl [] w).drewN m)) (-1))
  go_wp2_with fail
  refine (unhide HT).mono ?_
  rintro e w2 ⟨rfl, k2⟩
  go_wp2
  go_ret
  exact ⟨rfl, ((Kept.refl [] w).drewN m).trans k2⟩

set_option maxRecDepth 20000 in
set_option maxHeartbeats 4000000 in
theorem without_no {w : World} {n : Int} {v u : Value} {es : List E} (h : EdgesAt w v es) (hr : rightB n es = false) :
    Calls Tryd.prog 12 #[gv n v, u] w fun e w' => e = .returned (.slice none 0 0) ∧ Kept [] w w' := by
  obtain ⟨ao, cap, rfl, _⟩ := h.shape
  have HR := hide (restOf_no (u := u) (h.kept ((Kept.refl [] w).alloc (.cells #[.int .i64 n, .slice ao es.length cap] 24))) hr)
  clear h
  go_enter Tryd.func12, Tryd.ntmps12
  go_wp2_with fail
  refine (unhide HR).mono ?_
  rintro e w1 ⟨q, rfl, c0, c1, k1⟩
  have HN := hide (next_zero c1)
  clear c0 c1
  go_wp2_with fail
  refine (unhide HN).mono ?_
  rintro e w2 ⟨rfl, k2⟩
  go_wp2
  go_loopw [5, 7] (fun lv pv wr => lv = .slice none 0 0 ∧ pv = .slice none 0 0 ∧ wr = w2) (fun _ _ _ => 0)
  case atStart => exact ⟨rfl, rfl, rfl⟩
  case round =>
    obtain ⟨rfl, rfl, rfl⟩ := hrel
    go_wp2
    go_ret
    exact ⟨rfl, (((Kept.refl [] w).alloc _).trans k1).trans k2⟩

set_option maxRecDepth 20000 in
set_option maxHeartbeats 8000000 in
theorem without_yes {w : World} {N : Nat} {v u : Value} {es : List E} {xs : List Int} (h : EdgesAt w v es) (hx : IntsAt w u xs) (hr : rightB (N : Int) es = true) (hT : Tab w) :
    Calls Tryd.prog 12 #[gv N v, u] w fun e w' => ∃ r L, e = .returned r ∧ ListsAt w' r L ∧ IsPieces es (Alive N xs) L ∧ Kept [] w w' := by
  obtain ⟨i, hi, hz0, hz1, hz2⟩ := info_parts infoInts
  obtain ⟨ao, cap, rfl, _⟩ := h.shape
  have KB := (Kept.refl [] w).alloc (.cells #[.int .i64 (N : Int), .slice ao es.length cap] 24)
  have HR := hide (restOf_yes (h.kept KB) (hx.kept KB) hr (hT.kept KB (by simp)))
  obtain ⟨_, hN, _, _, hok⟩ := right_rise hr
  have HOK := hide hok
  have HT := hide hT
  have HAB := hide (show ∀ x, Alive (N : Int) xs x → 0 ≤ x ∧ x < (N : Int) from fun x hx => hx.1)
  clear h hx hr hok hT
  go_enter Tryd.func12, Tryd.ntmps12
  go_wp2_with fail
  refine (unhide HR).mono ?_
  rintro e w1 ⟨q, g, s, b, m, d, ws, rfl, R1, hbw, hH, k1⟩
  have hbw' : w.heap.size < b := by have := hbw; simp at this; omega
  have HK1 := hide (KB.trans k1)
  have hb1 : b < w1.heap.size := R1.set.bl
  have HTK := hide (Taken.start (es := es) (S := Alive (N : Int) xs))
  have HNX := hide (next_any R1 (unhide HOK) ((unhide HT).kept (unhide HK1) (by simp)))
  have HTE := hide (show ∀ x, Has ws x ↔ Alive (N : Int) xs x from hH)
  have HR1 := hide R1
  have HT1 := hide ((unhide HT).kept (unhide HK1) (by simp))
  have htb := R1.set.b0
  clear R1 hH k1 KB hbw
  go_wp2_with fail
  refine (unhide HNX).mono ?_
  rintro e w2 ⟨pv, l, ws', rfl, hpv, hfr, R2, k2, hcase⟩
  obtain ⟨po, pc, rfl, hlm, _⟩ := hpv.shape
  have HST := hide (show ∃ T : Int → Prop, Taken es (Alive (N : Int) xs) T [] ∧ ((l = [] ∧ ∀ x, ¬ T x) ∨ ∃ v, T v ∧ (∀ x, T x → v ≤ x) ∧ l.Pairwise (· < ·) ∧ (∀ y, y ∈ l ↔ Reach es T v y) ∧ ∀ y, Has ws' y ↔ T y ∧ y ∉ l) from
    ⟨Has ws, by
      have he : Has ws = Alive (N : Int) xs := funext fun x => propext (unhide HTE x)
      rw [he]; exact unhide HTK, hcase⟩)
  have HPV := hide hpv
  have HFP := hide (show 0 < l.length → ∃ a, po = some a ∧ a.block ≠ b ∧ a.block < w2.heap.size ∧ w1.heap.size ≤ a.block from fun h0 => by
    obtain ⟨_, _, hv, _, hin⟩ := hpv.shape
    obtain ⟨gg, oo, he, hcc⟩ := hin h0
    have e2 : po = some ⟨gg, oo, none⟩ := by simp at hv; rw [hv.1, he]
    have hfr2 := hfr ⟨gg, oo, none⟩ l.length pc (by rw [e2])
    exact ⟨_, e2, by simp only at hfr2 ⊢; omega, lt_of_cell (hcc 0 h0), hfr2⟩)
  have HS2 := hide R2.set
  have HK2 := hide k2
  have HL0 := hide (LRow.start w2 w1.heap.size b)
  clear hpv hfr R2 k2 hcase
  go_wp2
  go_loopw [5, 7] (fun lv pv wr => ∃ (L : List (List Int)) (vals : List Value) (l : List Int) (ws' : Nat → Nat) (T : Int → Prop) (lo po : Option Addr) (lc pc : Nat), lv = .slice lo L.length lc ∧ pv = .slice po l.length pc ∧ LRow wr w1.heap.size b lv L vals ∧ l.length ≤ maxLen ∧
      Hid (SetAt wr s b N m d ws' ∧ Kept [b] w1 wr ∧ Taken es (Alive (N : Int) xs) T L ∧ ((l = [] ∧ ∀ x, ¬ T x) ∨ ∃ v, T v ∧ (∀ x, T x → v ≤ x) ∧ l.Pairwise (· < ·) ∧ (∀ y, y ∈ l ↔ Reach es T v y) ∧ ∀ y, Has ws' y ↔ T y ∧ y ∉ l) ∧ IntsAt wr pv l ∧ (0 < l.length → ∃ a, po = some a ∧ a.block ≠ b ∧ a.block < wr.heap.size ∧ lv.ownBlock ≠ some a.block))) (fun lv _ _ => N + 1 - lenV lv)
  case atStart =>
    obtain ⟨T, h1, h2⟩ := unhide HST
    exact ⟨[], [], l, ws', T, none, po, 0, pc, rfl, rfl, unhide HL0, hlm, unhide HS2, unhide HK2, h1, h2, unhide HPV, fun h0 => by
      obtain ⟨a, e1, e2, e3, _⟩ := unhide HFP h0
      exact ⟨a, e1, e2, e3, by simp [Value.ownBlock]⟩⟩
  case round =>
    obtain ⟨L, vals, l2, ws2, T, lo, po2, lc, pc2, rfl, rfl, hrow, hlm2, hh⟩ := hrel
    have hLN := (unhide hh).2.2.1.len (unhide HAB)
    by_cases hl0 : 0 < (l2.length : Int)
    · obtain ⟨pa, rfl, hpb, hpl, hpo⟩ := (unhide hh).2.2.2.2.2 (by omega)
      have hown := hrow.own
      have HROW := hide hrow
      have hws : w1.heap.size ≤ wr.heap.size := (unhide hh).2.1.size
      clear hrow
      go_wp2_with (first | (at_builtin; refine wpList_append_own_at _ rfl (.tmp 19) (.tmp 21) 29 rfl w1.heap.size 25 i (.slice none 0 0) 1 24 Tryd.underlying29 hi hz0 hz1 hz2 rfl (by decide) _ _ _ rfl (hown.alloc _) _ 1 _ [.slice (some pa) l2.length pc2] rfl rfl (one_cell' _ _ _ (by simp)) (by simp [Value.oneCell']) (by unfold maxLen; omega) (by omega) (by simp; omega) ?_; intro v' w4 own4 g4 _ hat))
      have g5 : (wr.alloc (.cells #[.slice (some pa) l2.length pc2] 25)).grownBy w4 (Value.slice lo L.length lc).ownBlock := g4
      have hat5 : v'.ownBlock = (Value.slice lo L.length lc).ownBlock ∨ v'.ownBlock = some (wr.heap.size + 1) := by
        rcases hat with h | h
        · exact Or.inl h
        · exact Or.inr (by rw [h]; simp)
      have hob := own_block hown
      have KG : Kept (Value.slice lo L.length lc).ownBlock.toList wr w4 := (((Kept.refl [] wr).alloc _).mono (by simp)).trans (grown_kept g5)
      have HR4 := hide ((unhide HROW).push (unhide hh).2.2.2.2.1 hpb hpo hpl own4 g5 hat5)
      have hsl1 : s < w1.heap.size := (unhide HR1).set.sl
      have HS4 := hide ((unhide hh).1.kept KG (fun hm => by have := hob s (by simpa using hm); omega) (fun hm => by have := hob b (by simpa using hm); omega))
      have HK4 := hide ((unhide hh).2.1.trans' KG (fun k hk => Or.inr (hob k (by simpa using hk))))
      have HNX4 := hide (next_any ((unhide HR1).wrote (unhide HK4) (unhide HS4)) (unhide HOK) ((unhide HT1).kept (unhide HK4) (by simpa using htb.symm)))
      have HTN := hide (show Taken es (Alive (N : Int) xs) (Has ws2) (L ++ [l2]) by
        rcases (unhide hh).2.2.2.1 with ⟨h1, _⟩ | ⟨v, h1, h2, h3, h4, h5⟩
        · rw [h1] at hl0; simp at hl0
        · exact (unhide hh).2.2.1.next h1 h2 h3 h4 h5)
      obtain ⟨lo5, lc5, hv5⟩ : ∃ lo5 lc5, v' = .slice lo5 (L ++ [l2]).length lc5 := by
        rcases own4.2 with ⟨_, h0⟩ | ⟨g', cap', cur, hv, _⟩
        · omega
        · exact ⟨some ⟨g', 0, none⟩, cap', by rw [hv]; simp⟩
      have hvl : ∀ k, v'.ownBlock = some k → k < w4.heap.size := own_lt own4
      have HVL := hide hvl
      have HV5 := hide hv5
      clear g4 g5 hat hat5 hob KG own4 hvl hv5 hown
      refine (unhide HNX4).mono ?_
      rintro e w5 ⟨pv5, l5, ws5, rfl, hpv5, hfr5, R5, k5, hcase5⟩
      obtain ⟨po5, pc5, rfl, hlm5, _⟩ := hpv5.shape
      have HFP5 := hide (show 0 < l5.length → ∃ a, po5 = some a ∧ a.block ≠ b ∧ a.block < w5.heap.size ∧ v'.ownBlock ≠ some a.block from fun h0 => by
        obtain ⟨_, _, hv, _, hin⟩ := hpv5.shape
        obtain ⟨gg, oo, he, hcc⟩ := hin h0
        have e2 : po5 = some ⟨gg, oo, none⟩ := by simp at hv; rw [hv.1, he]
        have hfr2 := hfr5 ⟨gg, oo, none⟩ l5.length pc5 (by rw [e2])
        have hsz := (unhide HK4).size
        refine ⟨_, e2, by simp only at hfr2 ⊢; omega, lt_of_cell (hcc 0 h0), fun e => ?_⟩
        have := unhide HVL _ e
        simp only at hfr2 this
        omega)
      have HL5 := hide ((unhide HR4).kept k5 hb1)
      have HE := hide (And.intro R5.set (And.intro ((unhide HK4).trans k5) (And.intro (unhide HTN) (And.intro hcase5 hpv5))))
      clear hpv5 hfr5 R5 k5 hcase5
      go_wp2
      go_roundw
      case rel => exact ⟨L ++ [l2], _, l5, ws5, Has ws2, lo5, po5, lc5, pc5, unhide HV5, rfl, unhide HL5, hlm5, (unhide HE).1, (unhide HE).2.1, (unhide HE).2.2.1, (unhide HE).2.2.2.1, (unhide HE).2.2.2.2, unhide HFP5⟩
      case measure =>
        have e5 := unhide HV5
        subst e5
        simp [lenV]; omega
    · have HFIN := hide (show IsPieces es (Alive (N : Int) xs) L from (unhide hh).2.2.1.done (by
        rcases (unhide hh).2.2.2.1 with ⟨_, h2⟩ | ⟨v, h1, _, _, h4, _⟩
        · exact h2
        · have : v ∈ l2 := (h4 v).2 (.refl h1)
          have := List.length_pos_of_mem this
          omega))
      have HLS := hide hrow.lists
      have HKF := hide ((unhide HK1).trans' (unhide hh).2.1 (fun k hk => by simp at hk; subst hk; exact Or.inr (by omega)))
      clear hrow
      go_wp2
      go_ret
      exact ⟨_, rfl, L, unhide HLS, unhide HFIN, unhide HKF⟩
/-- Without. -/
theorem without_any {w : World} {n : Int} {v u : Value} {es : List E} {xs : List Int} (h : EdgesAt w v es) (hx : IntsAt w u xs) (hT : Tab w) :
    Calls Tryd.prog 12 #[gv n v, u] w fun e w' => ∃ r L, e = .returned r ∧ ListsAt w' r L ∧ (rightB n es = true → IsPieces es (Alive n xs) L) ∧ (rightB n es = false → L = []) ∧ Kept [] w w' := by
  cases hr : rightB n es
  · refine (without_no h hr).mono ?_
    rintro e w' ⟨rfl, k⟩
    exact ⟨_, [], rfl, ListsAt.nil _ _ _, (fun h => by cases h), fun _ => rfl, k⟩
  · obtain ⟨N, rfl⟩ := Int.eq_ofNat_of_zero_le (right_rise hr).1
    refine (without_yes h hx hr hT).mono ?_
    rintro e w' ⟨r, L, rfl, h1, h2, h3⟩
    exact ⟨r, L, rfl, h1, fun _ => h2, (fun h => by cases h), h3⟩
end Go.Proofs.YtmpcnepiogjokaaDoor

namespace Go.Proofs.YtmpcnepiogjokaaDoor
open Go.RowKit

/-- What Without tells of a graph. -/
def Pieces (n : Int) (es : List E) (xs : List Int) (L : List (List Int)) : Prop := (rightB n es = true → IsPieces es (Alive n xs) L) ∧ (rightB n es = false → L = [])
theorem Pieces.unique {n : Int} {es : List E} {xs : List Int} {L M : List (List Int)} (h : Pieces n es xs L) (k : Pieces n es xs M) : L = M := by
  cases hr : rightB n es
  · rw [h.2 hr, k.2 hr]
  · exact (h.1 hr).unique (k.1 hr)
theorem Pieces.len {n : Int} {es : List E} {xs : List Int} {L : List (List Int)} (h : Pieces n es xs L) : L.length ≤ 4096 := by
  cases hr : rightB n es
  · rw [h.2 hr]; simp
  · obtain ⟨N, rfl⟩ := Int.eq_ofNat_of_zero_le (right_rise hr).1
    have h1 := h.1 hr
    have hN := (right_rise hr).2.1
    have := (Taken.len (N := N) (T := fun _ => False) (S := Alive (N : Int) xs) (es := es) (L := L) ⟨h1.rise, h1.ne, h1.cls, h1.heads, fun x => ⟨fun f => f.elim, fun ⟨hx, hn⟩ => by obtain ⟨l, hl, hm⟩ := h1.all x hx; exact hn l hl hm⟩, fun _ _ _ f => f.elim⟩ (fun x hx => hx.1))
    omega
/-- How many have an odd number. -/
def oddL (L : List (List Int)) : Nat := (L.map fun l => l.length % 2).sum
theorem oddL_le (L : List (List Int)) : oddL L ≤ L.length := by
  induction L with
  | nil => simp [oddL]
  | cons l r ih => unfold oddL at *; simp only [List.map_cons, List.sum_cons, List.length_cons]; omega
theorem oddL_step {L : List (List Int)} {k : Nat} (h : k < L.length) : oddL (L.take (k + 1)) = oddL (L.take k) + (L.getD k []).length % 2 := by
  have e : L.getD k [] = L[k] := by simp [List.getD, h]
  unfold oddL
  rw [List.take_succ_eq_append_getElem h, e]
  simp only [List.map_append, List.sum_append, List.map_cons, List.map_nil, List.sum_cons, List.sum_nil, Nat.add_zero]

set_option maxRecDepth 20000 in
set_option maxHeartbeats 4000000 in
theorem all_any {w : World} {n : Int} {v : Value} {es : List E} (h : EdgesAt w v es) (hT : Tab w) :
    Calls Tryd.prog 14 #[gv n v] w fun e w' => ∃ r L, e = .returned r ∧ ListsAt w' r L ∧ Pieces n es [] L ∧ Kept [] w w' := by
  obtain ⟨ao, cap, rfl, _⟩ := h.shape
  have KB := (Kept.refl [] w).alloc (.cells #[.int .i64 n, .slice ao es.length cap] 24)
  have HW := hide (without_any (n := n) (h.kept KB) (u := .slice none 0 0) (xs := []) ⟨none, 0, rfl, Nat.le_refl _, Nat.zero_le _, fun h => by simp at h⟩ (hT.kept KB (by simp)))
  have HK := hide KB
  clear h hT KB
  go_enter Tryd.func14, Tryd.ntmps14
  go_wp2_with fail
  refine (unhide HW).mono ?_
  rintro e w1 ⟨r, L, rfl, hl, h1, h2, k1⟩
  have HP := hide (show ∃ r' L, Ending.returned r = .returned r' ∧ ListsAt w1 r' L ∧ Pieces n es [] L ∧ Kept [] w w1 from ⟨r, L, rfl, hl, ⟨h1, h2⟩, (unhide HK).trans k1⟩)
  obtain ⟨ro, rc, rfl, _⟩ := hl.shape
  clear hl h1 h2 k1
  go_wp2
  go_ret
  exact unhide HP

set_option maxRecDepth 20000 in
set_option maxHeartbeats 4000000 in
theorem odd_any {w : World} {n : Int} {v u : Value} {es : List E} {xs : List Int} (h : EdgesAt w v es) (hx : IntsAt w u xs) (hT : Tab w) :
    Calls Tryd.prog 15 #[gv n v, u] w fun e w' => ∃ L, e = .returned (.int .i64 (oddL L : Nat)) ∧ Pieces n es xs L ∧ Kept [] w w' := by
  obtain ⟨ao, cap, rfl, _⟩ := h.shape
  have KB := (Kept.refl [] w).alloc (.cells #[.int .i64 n, .slice ao es.length cap] 24)
  have HW := hide (without_any (n := n) (h.kept KB) (hx.kept KB) (hT.kept KB (by simp)))
  have HK := hide KB
  clear h hT KB hx
  go_enter Tryd.func15, Tryd.ntmps15
  go_wp2_with fail
  refine (unhide HW).mono ?_
  rintro e w1 ⟨r, L, rfl, hl, h1, h2, k1⟩
  have HP := hide (show Pieces n es xs L from ⟨h1, h2⟩)
  obtain ⟨ro, rc, rfl, hm, _⟩ := hl.shape
  have HL := hide hl
  have HK1 := hide ((unhide HK).trans k1)
  have hlen := (unhide HP).len
  clear hl h1 h2 k1 hm
  go_wp2
  go_loopw [5, 12] (fun cc kk wr => ∃ k : Nat, k ≤ L.length ∧ kk = .int .i64 k ∧ cc = .int .i64 (oddL (L.take k) : Nat) ∧ wr = w1) (fun _ kk _ => L.length - (intOf kk).toNat)
  case atStart => exact ⟨0, Nat.zero_le _, rfl, rfl, rfl⟩
  case round =>
    obtain ⟨k, hk, rfl, rfl, rfl⟩ := hrel
    have hol := oddL_le (L.take k)
    have hol2 : (L.take k).length ≤ k := List.length_take_le _ _
    by_cases hlt : k < L.length
    · obtain ⟨ro2, rc2, hv, _, hin⟩ := (unhide HL).shape
      obtain ⟨g, o, he, hc⟩ := hin (by omega)
      have e2 : ro = some ⟨g, o, none⟩ := by simp at hv; rw [hv.1, he]
      subst e2
      obtain ⟨u2, hu, hi2⟩ := hc k hlt
      obtain ⟨uo, uc, rfl, hum, _⟩ := hi2.shape
      have humI : ((L.getD k []).length : Int) ≤ 9223372036854775807 := by unfold maxLen at hum; omega
      have HS := hide (oddL_step hlt)
      have hmod : IntKind.i64.wrap (((L.getD k []).length : Int).tmod 2) = (((L.getD k []).length % 2 : Nat) : Int) := by
        rw [Int.tmod_eq_emod_of_nonneg (by omega), IntWalk.i64_left, IntWalk.wrap64_in _ (by omega)]; omega
      have k0 : (0 : Int) ≤ (k : Int) := by omega
      have k1 : (k : Int) < (L.length : Int) := by omega
      clear hv he hc hin hi2 hum
      generalize (L.getD k []).length = m at *
      go_wp2
      go_roundw
      case rel => exact ⟨k + 1, by omega, by go_num, by rw [unhide HS]; go_num, by first | rfl | trivial⟩
      case measure => simp [intOf]; omega
    · have HT := hide (show L.take k = L from List.take_of_length_le (by omega))
      go_wp2
      go_ret
      exact ⟨L, ret_int (by rw [unhide HT]), unhide HP, unhide HK1⟩
end Go.Proofs.YtmpcnepiogjokaaDoor

namespace Go.Proofs.YtmpcnepiogjokaaDoor
open Go.RowKit

theorem eq_of_getD {xs ys : List Int} (hl : xs.length = ys.length) (h : ∀ j, j < xs.length → xs.getD j 0 = ys.getD j 0) : xs = ys := by
  apply List.ext_getElem hl
  intro i h1 h2
  have := h i h1
  rw [getD_elem h1, getD_elem h2] at this
  exact this
set_option maxHeartbeats 400000 in
theorem one_any (w : World) (x y : Int) : Calls Tryd.prog 40 #[.int .i64 x, .int .i64 y] w fun e w' => e = .returned (.bool (x == y)) ∧ w' = w := by
  go_enter Tryd.func40, Tryd.ntmps40
  go_wp2
  go_ret
  exact ⟨rfl, rfl⟩
set_option maxHeartbeats 400000 in
theorem same_ne (w : World) (ao bo : Option Addr) (la ca lb cb : Nat) (f : Value) (hne : ((la : Int) != (lb : Int)) = true) :
    Calls Tryd.prog 39 #[.slice ao la ca, .slice bo lb cb, f] w fun e w' => e = .returned (.bool false) ∧ w' = w := by
  go_enter Tryd.func39, Tryd.ntmps39
  go_wp2
  go_ret
  exact ⟨rfl, rfl⟩
set_option maxHeartbeats 400000 in
theorem same_zero (w : World) (ao bo : Option Addr) (ca cb : Nat) (f : Value) :
    Calls Tryd.prog 39 #[.slice ao 0 ca, .slice bo 0 cb, f] w fun e w' => e = .returned (.bool true) ∧ w' = w := by
  go_enter Tryd.func39, Tryd.ntmps39
  go_wp2
  go_loop [7] (fun i => i = .int .i64 0) (fun _ => 0)
  case atStart => rfl
  case round =>
    subst hrel
    go_wp2
    go_ret
    exact ⟨rfl, rfl⟩
set_option maxHeartbeats 1000000 in
theorem same_core (w : World) (ga oa gb ob ca cb L : Nat) (xs ys : List Int) (hx : xs.length = L) (hy : ys.length = L) (hL : L ≤ 9223372036854775807) (hxc : Hid (∀ i, i < L → w.cell? ⟨ga, oa + i, none⟩ = some (.int .i64 (xs.getD i 0)))) (hyc : Hid (∀ i, i < L → w.cell? ⟨gb, ob + i, none⟩ = some (.int .i64 (ys.getD i 0)))) :
    Calls Tryd.prog 39 #[.slice (some ⟨ga, oa, none⟩) L ca, .slice (some ⟨gb, ob, none⟩) L cb, .func (.func 40) #[] #[]] w fun e w' => e = .returned (.bool (decide (xs = ys))) ∧ ∃ m, w' = w.drewN m := by
  have HX := hide hx
  have HY := hide hy
  clear hx hy
  go_enter Tryd.func39, Tryd.ntmps39
  go_wp2
  go_loopw [7] (fun i wr => ∃ k m : Nat, k ≤ L ∧ i = .int .i64 k ∧ wr = w.drewN m ∧ Hid (∀ j, j < k → xs.getD j 0 = ys.getD j 0)) (fun i _ => L - (intOf i).toNat)
  case atStart => exact ⟨0, 0, Nat.zero_le _, rfl, rfl, fun j h => by omega⟩
  case round =>
    obtain ⟨k, m, hk, rfl, hwr, hall⟩ := hrel
    have HW := hide hwr
    by_cases hlt : k < L
    · have hc1 : wr.cell? ⟨ga, oa + k, none⟩ = some (.int .i64 (xs.getD k 0)) := by rw [hwr]; exact unhide hxc k hlt
      have hc2 : wr.cell? ⟨gb, ob + k, none⟩ = some (.int .i64 (ys.getD k 0)) := by rw [hwr]; exact unhide hyc k hlt
      clear hwr
      by_cases he : xs.getD k 0 = ys.getD k 0
      · have hq : (xs.getD k 0 == ys.getD k 0) = true := by simpa using he
        have hall2 := hide (show ∀ j, j < k + 1 → xs.getD j 0 = ys.getD j 0 from fun j hj => by
          by_cases e : j = k
          · subst e; exact he
          · exact unhide hall j (by omega))
        clear he
        generalize xs.getD k 0 = x at *
        generalize ys.getD k 0 = y at *
        have hone := hide (fun W => one_any W x y)
        go_wp2_with fail
        go_quiet ((go_at_call 40; exact Calls.quiet_of_same (unhide hone _)))
        go_wp2
        go_roundw
        case rel => exact ⟨k + 1, m + nq, by omega, by go_num, by rw [unhide HW, World.drewN_drewN], hall2⟩
        case measure => simp [intOf]; omega
      · have hq : (xs.getD k 0 == ys.getD k 0) = false := by simpa using he
        have hfin := hide (show decide (xs = ys) = false by simp; intro e; exact he (by rw [e]))
        clear he
        generalize xs.getD k 0 = x at *
        generalize ys.getD k 0 = y at *
        have hone := hide (fun W => one_any W x y)
        go_wp2_with fail
        go_quiet ((go_at_call 40; exact Calls.quiet_of_same (unhide hone _)))
        go_wp2
        go_ret
        exact ⟨ret_bool (unhide hfin).symm, m + nq, by rw [unhide HW, World.drewN_drewN]⟩
    · have hfin := hide (show decide (xs = ys) = true by
        simp
        exact eq_of_getD (by rw [unhide HX, unhide HY]) (fun j hj => unhide hall j (by rw [unhide HX] at hj; omega)))
      clear hwr
      go_wp2
      go_ret
      exact ⟨ret_bool (unhide hfin).symm, m, unhide HW⟩

/-- Plain: are two lists the same? -/
theorem same_any {w : World} {a b : Value} {xs ys : List Int} (ha : IntsAt w a xs) (hb : IntsAt w b ys) :
    Calls Tryd.prog 39 #[a, b, .func (.func 40) #[] #[]] w fun e w' => e = .returned (.bool (decide (xs = ys))) ∧ ∃ m, w' = w.drewN m := by
  obtain ⟨ao, ca, rfl, hma, hca⟩ := ha.shape
  obtain ⟨bo, cb, rfl, hmb, hcb⟩ := hb.shape
  by_cases hl : xs.length = ys.length
  · by_cases h0 : xs.length = 0
    · have e1 : xs = [] := List.eq_nil_of_length_eq_zero h0
      have e2 : ys = [] := List.eq_nil_of_length_eq_zero (by omega)
      subst e1 e2
      exact (same_zero w ao bo ca cb _).mono fun e w' h => ⟨by rw [h.1]; simp, 0, h.2⟩
    · obtain ⟨ga, oa, rfl, h1⟩ := hca (by omega)
      obtain ⟨gb, ob, rfl, h2⟩ := hcb (by omega)
      unfold maxLen at hma
      rw [← hl] at h2 ⊢
      exact same_core w ga oa gb ob ca cb xs.length xs ys rfl hl.symm (by omega) (hide h1) (hide h2)
  · have e : decide (xs = ys) = false := by simp; intro h; exact hl (by rw [h])
    rw [e]
    exact (same_ne w ao bo _ ca _ cb _ (by simp; omega)).mono fun e w' h => ⟨h.1, 0, h.2⟩

set_option maxHeartbeats 400000 in
theorem plain_any {w : World} {a b : Value} {xs ys : List Int} (ha : IntsAt w a xs) (hb : IntsAt w b ys) :
    Calls Tryd.prog 22 #[a, b] w fun e w' => e = .returned (.bool (decide (xs = ys))) ∧ ∃ m, w' = w.drewN m := by
  have H := hide (same_any ha hb)
  clear ha hb
  go_enter Tryd.func22, Tryd.ntmps22
  go_wp2_with (go_at_call 39; refine (unhide H).mono ?_; rintro e w' ⟨rfl, m, rfl⟩)
  go_ret
  exact ⟨rfl, m, rfl⟩

end Go.Proofs.YtmpcnepiogjokaaDoor

namespace Go.Proofs.YtmpcnepiogjokaaDoor
open Go.RowKit

theorem lists_eq {L M : List (List Int)} (hl : L.length = M.length) (h : ∀ j, j < L.length → L.getD j [] = M.getD j []) : L = M := by
  apply List.ext_getElem hl
  intro i h1 h2
  have := h i h1
  simpa [List.getD, h1, h2] using this
set_option maxRecDepth 20000 in
set_option maxHeartbeats 1000000 in
theorem sameL_ne (w : World) (ao bo : Option Addr) (la ca lb cb : Nat) (f : Value) (hne : ((la : Int) != (lb : Int)) = true) :
    Calls Tryd.prog 33 #[.slice ao la ca, .slice bo lb cb, f] w fun e w' => e = .returned (.bool false) ∧ w' = w := by
  go_enter Tryd.func33, Tryd.ntmps33
  go_wp2
  go_ret
  exact ⟨rfl, rfl⟩
set_option maxRecDepth 20000 in
set_option maxHeartbeats 2000000 in
theorem sameL_core {w : World} {ao bo : Option Addr} {ca cb n : Nat} {L M : List (List Int)} (hL : L.length = n) (hM : M.length = n) (hn : (n : Int) ≤ 9223372036854775807)
    (hx : Hid (0 < n → ∃ g o, ao = some ⟨g, o, none⟩ ∧ ∀ i, i < n → ∃ u, w.cell? ⟨g, o + i, none⟩ = some u ∧ IntsAt w u (L.getD i [])))
    (hy : Hid (0 < n → ∃ g o, bo = some ⟨g, o, none⟩ ∧ ∀ i, i < n → ∃ u, w.cell? ⟨g, o + i, none⟩ = some u ∧ IntsAt w u (M.getD i []))) :
    Calls Tryd.prog 33 #[.slice ao n ca, .slice bo n cb, .func (.func 22) #[] #[]] w fun e w' => e = .returned (.bool (decide (L = M))) ∧ ∃ m, w' = w.drewN m := by
  have HL := hide hL
  have HM := hide hM
  clear hL hM
  go_enter Tryd.func33, Tryd.ntmps33
  go_wp2
  go_loopw [7] (fun i wr => ∃ k m : Nat, k ≤ n ∧ i = .int .i64 k ∧ wr = w.drewN m ∧ Hid (∀ j, j < k → L.getD j [] = M.getD j [])) (fun i _ => n - (intOf i).toNat)
  case atStart => exact ⟨0, 0, Nat.zero_le _, rfl, rfl, fun j h => by omega⟩
  case round =>
    obtain ⟨k, m, hk, rfl, hwr, hall⟩ := hrel
    have HW := hide hwr
    by_cases hlt : k < n
    · obtain ⟨ga, oa, rfl, ha⟩ := unhide hx (by omega)
      obtain ⟨gb, ob, rfl, hb⟩ := unhide hy (by omega)
      obtain ⟨ua, hua, hia⟩ := ha k hlt
      obtain ⟨ub, hub, hib⟩ := hb k hlt
      have hc1 : wr.cell? ⟨ga, oa + k, none⟩ = some ua := by rw [hwr]; exact hua
      have hc2 : wr.cell? ⟨gb, ob + k, none⟩ = some ub := by rw [hwr]; exact hub
      have hpl := hide (fun W q (hW : W = w.drewN q) => by
        have := plain_any (hia.kept ((Kept.refl [] w).drewN q)) (hib.kept ((Kept.refl [] w).drewN q))
        rw [← hW] at this
        exact this)
      have k0 : (0 : Int) ≤ (k : Int) := by omega
      have k1 : (k : Int) < (n : Int) := by omega
      obtain ⟨pa, qa, ra, rfl⟩ : ∃ pa qa ra, ua = .slice pa qa ra := by obtain ⟨x, y, rfl, _⟩ := hia.shape; exact ⟨_, _, _, rfl⟩
      obtain ⟨pb, qb, rb, rfl⟩ : ∃ pb qb rb, ub = .slice pb qb rb := by obtain ⟨x, y, rfl, _⟩ := hib.shape; exact ⟨_, _, _, rfl⟩
      clear hwr ha hb hua hub hia hib
      cases he : decide (L.getD k [] = M.getD k [])
      · have hfin := hide (show decide (L = M) = false by simp; intro e; subst e; simp at he)
        have hpl2 := hide (fun W q (hW : W = w.drewN q) => he ▸ unhide hpl W q hW)
        clear hpl he
        go_wp2_with fail
        go_quiet ((go_at_call 22; exact Calls.quiet_of (unhide hpl2 _ _ (by rw [unhide HW, World.drewN_drewN]))))
        go_wp2
        go_ret
        exact ⟨ret_bool (unhide hfin).symm, m + nq, by rw [unhide HW, World.drewN_drewN]⟩
      · have hall2 := hide (show ∀ j, j < k + 1 → L.getD j [] = M.getD j [] from fun j hj => by
          by_cases e : j = k
          · subst e; simpa using he
          · exact unhide hall j (by omega))
        have hpl2 := hide (fun W q (hW : W = w.drewN q) => he ▸ unhide hpl W q hW)
        clear hpl he
        go_wp2_with fail
        go_quiet ((go_at_call 22; exact Calls.quiet_of (unhide hpl2 _ _ (by rw [unhide HW, World.drewN_drewN]))))
        go_wp2
        go_roundw
        case rel => exact ⟨k + 1, m + nq, by omega, by go_num, by rw [unhide HW, World.drewN_drewN], hall2⟩
        case measure => simp [intOf]; omega
    · have hfin := hide (show decide (L = M) = true by
        simp
        exact lists_eq (by rw [unhide HL, unhide HM]) (fun j hj => unhide hall j (by rw [unhide HL] at hj; omega)))
      clear hwr
      go_wp2
      go_ret
      exact ⟨ret_bool (unhide hfin).symm, m, unhide HW⟩
end Go.Proofs.YtmpcnepiogjokaaDoor

namespace Go.Proofs.YtmpcnepiogjokaaDoor
open Go.RowKit

theorem sameL_any {w : World} {a b : Value} {L M : List (List Int)} (ha : ListsAt w a L) (hb : ListsAt w b M) :
    Calls Tryd.prog 33 #[a, b, .func (.func 22) #[] #[]] w fun e w' => e = .returned (.bool (decide (L = M))) ∧ ∃ m, w' = w.drewN m := by
  obtain ⟨ao, ca, rfl, hma, hca⟩ := ha.shape
  obtain ⟨bo, cb, rfl, hmb, hcb⟩ := hb.shape
  by_cases hl : L.length = M.length
  · unfold maxLen at hma
    rw [← hl] at hcb ⊢
    exact sameL_core rfl hl.symm (by omega) (hide hca) (hide hcb)
  · have e : decide (L = M) = false := by simp; intro h; exact hl (by rw [h])
    rw [e]
    exact (sameL_ne w ao bo _ ca _ cb _ (by simp; omega)).mono fun e w' h => ⟨h.1, 0, h.2⟩
set_option maxRecDepth 20000 in
set_option maxHeartbeats 400000 in
theorem lists_any {w : World} {a b : Value} {L M : List (List Int)} (ha : ListsAt w a L) (hb : ListsAt w b M) :
    Calls Tryd.prog 11 #[a, b] w fun e w' => e = .returned (.bool (decide (L = M))) ∧ ∃ m, w' = w.drewN m := by
  have H := hide (sameL_any ha hb)
  clear ha hb
  go_enter Tryd.func11, Tryd.ntmps11
  go_wp2_with (go_at_call 33; refine (unhide H).mono ?_; rintro e w' ⟨rfl, m, rfl⟩)
  go_ret
  exact ⟨rfl, m, rfl⟩

/-- Are two in one piece? -/
def SameP (n : Int) (es : List E) (a b : Int) : Prop := rightB n es = true ∧ Reach es (Alive n []) a b
theorem intsNil (w : World) : IntsAt w (.slice none 0 0) [] := ⟨none, 0, rfl, Nat.le_refl _, Nat.zero_le _, fun h => by simp at h⟩

set_option maxRecDepth 20000 in
set_option maxHeartbeats 4000000 in
theorem psame_any {w : World} {n : Int} {v : Value} {es : List E} (h : EdgesAt w v es) (hT : Tab w) (a b : Int) :
    Calls Tryd.prog 17 #[gv n v, .int .i64 a, .int .i64 b] w fun e w' => ∃ c, e = .returned (.bool c) ∧ (c = true ↔ SameP n es a b) ∧ Kept [] w w' := by
  obtain ⟨ao, cap, rfl, _⟩ := h.shape
  have KB := (Kept.refl [] w).alloc (.cells #[.int .i64 n, .slice ao es.length cap] 24)
  cases hr : rightB n es
  · have HR := hide (restOf_no (u := .slice none 0 0) (h.kept KB) hr)
    have HN := hide (show ¬ SameP n es a b from fun hs => by rw [hs.1] at hr; cases hr)
    have HK := hide KB
    clear h hT KB
    go_enter Tryd.func17, Tryd.ntmps17
    go_wp2_with fail
    refine (unhide HR).mono ?_
    rintro e w1 ⟨q, rfl, c0, c1, k1⟩
    have HT := hide (take_zero c1 a)
    clear c0 c1
    go_wp2_with fail
    refine (unhide HT).mono ?_
    rintro e w2 ⟨rfl, k2⟩
    have HC := hide (containsI_any (intsNil w2) b)
    go_wp2_with fail
    refine (unhide HC).mono ?_
    rintro e w3 ⟨rfl, rfl⟩
    go_wp2
    go_ret
    exact ⟨_, rfl, by simp; exact unhide HN, ((unhide HK).trans k1).trans k2⟩
  · obtain ⟨N, rfl⟩ := Int.eq_ofNat_of_zero_le (right_rise hr).1
    have HR := hide (restOf_yes (xs := []) (h.kept KB) (intsNil _) hr (hT.kept KB (by simp)))
    have HOK := hide (right_rise hr).2.2.2.2
    have HRT := hide hr
    have HK := hide KB
    clear h hT KB hr
    go_enter Tryd.func17, Tryd.ntmps17
    go_wp2_with fail
    refine (unhide HR).mono ?_
    rintro e w1 ⟨q, g, s, b', m, d, ws, rfl, R1, hbw, hH, k1⟩
    have HT := hide (take_any R1 (unhide HOK) a)
    have HW := hide (show Has ws = Alive (N : Int) [] from funext fun x => propext (hH x))
    have hbw' : w.heap.size < b' := by have := hbw; simp at this; omega
    clear R1 hH hbw
    go_wp2_with fail
    refine (unhide HT).mono ?_
    rintro e w2 ⟨r, l, ws', rfl, hr1, hf, R2, k2, h1, h2⟩
    have HC := hide (containsI_any hr1 b)
    have HS := hide (show (decide (b ∈ l) = true ↔ SameP (N : Int) es a b) by
      unfold SameP
      rw [← unhide HW]
      simp only [decide_eq_true_eq, unhide HRT, true_and]
      cases hx : hasI ws a
      · rw [(h1 hx).1]
        simp
        intro hR
        have := hR.left
        unfold Has at this
        rw [hx] at this; cases this
      · exact (h2 hx).2.1 b)
    obtain ⟨ro, rc, rfl, _⟩ := hr1.shape
    have HK2 := hide (((unhide HK).trans k1).trans' k2 (fun k hk => by simp at hk; subst hk; exact Or.inr (by omega)))
    clear hr1 hf R2 k2 h1 h2
    go_wp2_with fail
    refine (unhide HC).mono ?_
    rintro e w3 ⟨rfl, rfl⟩
    go_wp2
    go_ret
    exact ⟨_, rfl, unhide HS, unhide HK2⟩

def es0 : List E := [(0, 1), (1, 2)]
theorem adj0 {x y : Int} : Adj es0 x y ↔ (x = 0 ∧ y = 1) ∨ (x = 1 ∧ y = 2) ∨ (y = 0 ∧ x = 1) ∨ (y = 1 ∧ x = 2) := by
  unfold Adj es0
  simp [Prod.ext_iff]
  omega
theorem alive0 {x : Int} : Alive 4 [] x ↔ 0 ≤ x ∧ x < 4 := by unfold Alive; simp
theorem reach0 {x y : Int} (hx : x = 0 ∨ x = 1 ∨ x = 2) (hy : y = 0 ∨ y = 1 ∨ y = 2) : Reach es0 (Alive 4 []) x y := by
  have r1 : Reach es0 (Alive 4 []) 1 0 := (Reach.refl (alive0.2 (by omega))).step (adj0.2 (by omega)) (alive0.2 (by omega))
  have r2 : Reach es0 (Alive 4 []) 1 2 := (Reach.refl (alive0.2 (by omega))).step (adj0.2 (by omega)) (alive0.2 (by omega))
  have h1 : ∀ z, z = 0 ∨ z = 1 ∨ z = 2 → Reach es0 (Alive 4 []) 1 z := by
    rintro z (rfl | rfl | rfl)
    · exact r1
    · exact Reach.refl (alive0.2 (by omega))
    · exact r2
  exact (h1 x hx).symm.trans (h1 y hy)
theorem pieces0 : IsPieces es0 (Alive 4 []) [[0, 1, 2], [3]] where
  rise := by simp
  ne := by simp
  heads := by simp
  all x hx := by
    rw [alive0] at hx
    by_cases e : x = 3
    · exact ⟨[3], by simp, by simp [e]⟩
    · exact ⟨[0, 1, 2], by simp, by simp; omega⟩
  cls l hl x hx := by
    simp at hl
    rcases hl with rfl | rfl
    · simp at hx
      refine ⟨alive0.2 (by omega), fun y => ⟨fun hy => reach0 hx (by simpa using hy), fun hr => ?_⟩⟩
      refine hr.closed (P := fun y => y ∈ [0, 1, 2]) (by simpa using hx) (fun y z hy _ ha _ => ?_)
      rw [adj0] at ha
      simp at hy ⊢
      omega
    · simp at hx
      subst hx
      refine ⟨alive0.2 (by omega), fun y => ⟨fun hy => by simp at hy; subst hy; exact Reach.refl (alive0.2 (by omega)), fun hr => ?_⟩⟩
      refine hr.closed (P := fun y => y ∈ [3]) (by simp) (fun y z hy _ ha _ => ?_)
      rw [adj0] at ha
      simp at hy
      omega
theorem right0 : rightB 4 es0 = true := by decide +kernel
theorem Pieces.zero {L : List (List Int)} (h : Pieces 4 es0 [] L) : L = [[0, 1, 2], [3]] := (h.1 right0).unique pieces0
theorem same0 : SameP 4 es0 0 2 := ⟨right0, reach0 (by omega) (by omega)⟩
end Go.Proofs.YtmpcnepiogjokaaDoor

namespace Go.Proofs.YtmpcnepiogjokaaDoor
open Go.RowKit

theorem edges0 (w : World) : EdgesAt (w.alloc (.cells #[.int .i64 0, .int .i64 1, .int .i64 1, .int .i64 2] 43)) (.slice (some ⟨w.heap.size, 0, none⟩) 2 2) es0 := by
  refine ⟨some ⟨w.heap.size, 0, none⟩, 2, rfl, Nat.le_refl _, by unfold maxLen; decide, fun _ => ⟨w.heap.size, 0, rfl, by simp, fun i hi => ?_, fun i hi => ?_⟩⟩
  · rw [cell_of_block (new_block w _)]
    match i, hi with
    | 0, _ => rfl
    | 1, _ => rfl
  · rw [cell_of_block (new_block w _)]
    match i, hi with
    | 0, _ => rfl
    | 1, _ => rfl
theorem lists0 (w : World) : ListsAt (((w.alloc (.cells #[.int .i64 0, .int .i64 1, .int .i64 2] 3)).alloc (.cells #[.int .i64 3] 3)).alloc (.cells #[.slice (some ⟨w.heap.size, 0, none⟩) 3 3, .slice (some ⟨w.heap.size + 1, 0, none⟩) 1 1] 25)) (.slice (some ⟨w.heap.size + 2, 0, none⟩) 2 2) [[0, 1, 2], [3]] := by
  have k2 := (Kept.refl [] (w.alloc (.cells #[.int .i64 0, .int .i64 1, .int .i64 2] 3))).alloc (.cells #[.int .i64 3] 3)
  have k3 := (Kept.refl [] ((w.alloc (.cells #[.int .i64 0, .int .i64 1, .int .i64 2] 3)).alloc (.cells #[.int .i64 3] 3))).alloc (.cells #[.slice (some ⟨w.heap.size, 0, none⟩) 3 3, .slice (some ⟨w.heap.size + 1, 0, none⟩) 1 1] 25)
  have i1 : IntsAt (w.alloc (.cells #[.int .i64 0, .int .i64 1, .int .i64 2] 3)) (.slice (some ⟨w.heap.size, 0, none⟩) 3 3) [0, 1, 2] := by
    refine ⟨_, 3, rfl, Nat.le_refl _, by unfold maxLen; decide, fun _ => ⟨w.heap.size, 0, rfl, by simp, fun i hi => ?_⟩⟩
    rw [cell_of_block (new_block w _)]
    match i, hi with
    | 0, _ => rfl
    | 1, _ => rfl
    | 2, _ => rfl
  have i2 : IntsAt ((w.alloc (.cells #[.int .i64 0, .int .i64 1, .int .i64 2] 3)).alloc (.cells #[.int .i64 3] 3)) (.slice (some ⟨w.heap.size + 1, 0, none⟩) 1 1) [3] := by
    refine ⟨_, 1, rfl, Nat.le_refl _, by unfold maxLen; decide, fun _ => ⟨w.heap.size + 1, 0, rfl, by simp, fun i hi => ?_⟩⟩
    have hb := new_block (w.alloc (.cells #[.int .i64 0, .int .i64 1, .int .i64 2] 3)) (.cells #[.int .i64 3] 3)
    rw [World.size_alloc] at hb
    rw [cell_of_block hb]
    match i, hi with
    | 0, _ => rfl
  have hb := new_block ((w.alloc (.cells #[.int .i64 0, .int .i64 1, .int .i64 2] 3)).alloc (.cells #[.int .i64 3] 3)) (.cells #[.slice (some ⟨w.heap.size, 0, none⟩) 3 3, .slice (some ⟨w.heap.size + 1, 0, none⟩) 1 1] 25)
  rw [World.size_alloc, World.size_alloc] at hb
  refine ⟨_, 2, rfl, Nat.le_refl _, by unfold maxLen; decide, fun _ => ⟨w.heap.size + 2, 0, rfl, fun i hi => ?_⟩⟩
  match i, hi with
  | 0, _ => exact ⟨_, by rw [cell_of_block hb]; rfl, (i1.kept k2).kept k3⟩
  | 1, _ => exact ⟨_, by rw [cell_of_block hb]; rfl, i2.kept k3⟩

set_option maxRecDepth 20000 in
set_option maxHeartbeats 4000000 in
theorem pawake_any {w : World} (hT : Tab w) : Calls Tryd.prog 9 #[] w fun e w' => e = .returned (.bool true) ∧ Kept [] w w' := by
  have K0 := ((Kept.refl [] w).alloc (.cells #[.int .i64 0, .int .i64 1, .int .i64 1, .int .i64 2] 43))
  have HE := hide (fun W (k : Kept [] (w.alloc (.cells #[.int .i64 0, .int .i64 1, .int .i64 1, .int .i64 2] 43)) W) => (edges0 w).kept k)
  have KB := (Kept.refl [] (w.alloc (.cells #[.int .i64 0, .int .i64 1, .int .i64 1, .int .i64 2] 43))).alloc (.cells #[.int .i64 4, .slice (some ⟨w.heap.size, 0, none⟩) 2 2] 24)
  have HTT := hide (fun W (k : Kept [] w W) => hT.kept k (by simp))
  have HALL := hide (all_any (n := 4) (unhide HE _ KB) (unhide HTT _ (K0.trans KB)))
  have HK0 := hide K0
  have HKB := hide KB
  clear K0 KB hT
  go_enter Tryd.func9, Tryd.ntmps9
  go_wp2_with fail
  refine (unhide HALL).mono ?_
  rintro e w1 ⟨r, L, rfl, hl, hP, k1⟩
  have hL := hP.zero
  subst hL
  have b := box2 k1 (by simp)
  rw [World.size_alloc] at b
  obtain ⟨b0, b1⟩ := b
  have HK1 := hide ((unhide HKB).trans k1)
  have HLS := hide (fun W (k : Kept [] w1 W) => hl.kept k)
  obtain ⟨ro, rc, rfl, _⟩ := hl.shape
  clear hl hP k1
  have KW := (((Kept.refl [] w1).alloc (.cells #[.int .i64 0, .int .i64 1, .int .i64 2] 3)).alloc (.cells #[.int .i64 3] 3)).alloc (.cells #[.slice (some ⟨w1.heap.size, 0, none⟩) 3 3, .slice (some ⟨w1.heap.size + 1, 0, none⟩) 1 1] 25)
  have HLI := lists_any (unhide HLS _ KW) (lists0 w1)
  rw [show decide (([[0, 1, 2], [3]] : List (List Int)) = [[0, 1, 2], [3]]) = true by simp] at HLI
  have HLI2 := hide HLI
  have HKW := hide KW
  clear HLI KW
  go_wp2_with fail
  refine (unhide HLI2).mono ?_
  rintro e w2 ⟨rfl, m2, rfl⟩
  have KX := hide ((unhide HKW).drewN m2)
  generalize World.drewN _ m2 = W2 at *
  have B0 := kept_cell b0 (unhide KX)
  have B1 := kept_cell b1 (unhide KX)
  have HOD := hide (odd_any (n := 4) (unhide HE _ ((unhide HK1).trans (unhide KX))) (intsNil W2) (unhide HTT _ ((unhide HK0).trans ((unhide HK1).trans (unhide KX)))))
  clear b0 b1
  go_wp2_with fail
  refine (unhide HOD).mono ?_
  rintro e w3 ⟨L3, rfl, hP3, k3⟩
  have hL3 := hP3.zero
  subst hL3
  have e3 : (((oddL [[0, 1, 2], [3]] : Nat) : Int) == 2) = true := by decide
  have C0 := kept_cell B0 k3
  have C1 := kept_cell B1 k3
  have HK3 := hide (((unhide HK1).trans (unhide KX)).trans k3)
  have HSM := hide (psame_any (n := 4) (unhide HE _ (unhide HK3)) (unhide HTT _ ((unhide HK0).trans (unhide HK3))) 0 2)
  clear hP3 k3 B0 B1
  go_wp2_with fail
  refine (unhide HSM).mono ?_
  rintro e w4 ⟨c, rfl, hc, k4⟩
  have hc2 := hc.2 same0
  subst hc2
  go_wp2
  go_ret
  exact ⟨rfl, ((unhide HK0).trans (unhide HK3)).trans k4⟩
end Go.Proofs.YtmpcnepiogjokaaDoor

namespace Go.Proofs.YtmpcnepiogjokaaDoor
open Go.RowKit

theorem Rs.told {w W : World} {m : Int} {r : Value} {es : List E} (h : Rs w W) (hr : EdgesAt W r es) (hf : FreshAt (w.heap.size + 1) r) :
    EdgesAt ((W.setCell ⟨w.heap.size, 0, none⟩ (.int .i64 m)).setCell ⟨w.heap.size, 1, none⟩ r) r es ∧ FreshAt w.heap.size r ∧ Kept [] w ((W.setCell ⟨w.heap.size, 0, none⟩ (.int .i64 m)).setCell ⟨w.heap.size, 1, none⟩ r) := by
  refine ⟨?_, fun a x y e => by have := hf a x y e; omega, ((h.kept.setCell (Or.inr (Nat.le_refl _)) _).setCell (Or.inr (Nat.le_refl _)) _)⟩
  refine hr.keptAt (bs := [w.heap.size]) (((Kept.refl _ _).setCell (Or.inl (by simp)) _).setCell (Or.inl (by simp)) _) ?_
  intro a x y e
  have := hf a x y e
  simp; omega
theorem u64_nonneg (n : Int) : 0 ≤ IntKind.u64.wrap n := by
  show 0 ≤ n % 18446744073709551616
  omega
theorem mod_small (n V : Int) (h0 : 0 ≤ V) (h1 : V ≤ 4096) : 0 ≤ wrap64 ((IntKind.u64.wrap n).tmod (V + 1)) ∧ wrap64 ((IntKind.u64.wrap n).tmod (V + 1)) ≤ V := by
  have h2 := u64_nonneg n
  have h3 : 0 ≤ (IntKind.u64.wrap n).tmod (V + 1) := Int.tmod_nonneg _ h2
  have h4 : (IntKind.u64.wrap n).tmod (V + 1) < V + 1 := Int.tmod_lt_of_pos _ (by omega)
  rw [IntWalk.wrap64_in _ (by omega)]
  omega

set_option maxRecDepth 20000 in
set_option maxHeartbeats 8000000 in
theorem small_any {w : World} {v : Value} {xs : List Int} (h : IntsAt w v xs) (n V Ed : Int) (hV0 : 0 ≤ V) (hV : V ≤ 4096) (hE0 : 0 ≤ Ed) (_ : Ed ≤ 60000) : Calls Tryd.prog 20 #[.int .i64 n, v, .int .i64 V, .int .i64 Ed] w fun e w' => ∃ N r es, e = .returned (gv N r) ∧ EdgesAt w' r es ∧ rightB N es = true ∧ N ≤ V ∧ (es.length : Int) ≤ Ed ∧ FreshAt w.heap.size r ∧ Kept [] w w' := by
  obtain ⟨ao, cap, rfl, hm, hxs⟩ := h.shape
  have HXS := hide hxs
  clear h hxs
  have hm' : (xs.length : Int) ≤ 9223372036854775807 := by unfold maxLen at hm; omega
  clear hm
  go_enter Tryd.func20, Tryd.ntmps20
  go_wp2
  obtain ⟨hN0, hN1⟩ := mod_small n V hV0 hV
  generalize wrap64 ((IntKind.u64.wrap n).tmod (V + 1)) = N at *
  have MS := hide (Mr.start w N 24 24)
  have HR0 := hide (show rightB N [] = true by unfold rightB; simp [chk]; omega)
  have HNV := hide hN1
  have hN2 : N ≤ 4096 := by omega
  clear hN1
  go_loopw [10] (fun ii wr => ∃ (i : Nat) (r : Value) (es : List E), i ≤ 402 ∧ ii = .int .i64 i ∧ (es.length : Int) ≤ Ed ∧ Hid (Mr w N r es wr ∧ rightB N es = true)) (fun ii _ => 500 - (intOf ii).toNat)
  case atStart => exact ⟨0, _, [], by omega, rfl, by simpa using hE0, unhide MS, unhide HR0⟩
  case round =>
    obtain ⟨i, r, es, hi, rfl, hle, hh⟩ := hrel
    obtain ⟨ro, rc, rfl, _⟩ := (unhide hh).1.at'.shape
    have c0 := (unhide hh).1.g0; have c1 := (unhide hh).1.g1
    by_cases hc : (i : Int) + 1 < (xs.length : Int) ∧ (es.length : Int) < Ed ∧ 0 < N ∧ (i : Int) < 400
    · obtain ⟨hc1, hc2, hc3, hc4⟩ := hc
      obtain ⟨g, o, rfl, hin⟩ := unhide HXS (by omega)
      have d0 := kept_cell (hin i (by omega)) (unhide hh).1.rs.kept
      have d1 := kept_cell (hin (i + 1) (by omega)) (unhide hh).1.rs.kept
      clear hin
      generalize xs.getD i 0 = a at *
      generalize xs.getD (i + 1) 0 = b at *
      have HA := hide (show ∀ W, Kept [] wr W → ∀ a b, Calls Tryd.prog 31 #[gv N (.slice ro es.length rc), .int .i64 a, .int .i64 b] W fun e w' => ∃ c nn ee, Answers W w' e nn ee c ∧ Hid (c = 0 → ee.length = es.length + 1 ∧ rightB N ee = true ∧ nn = N) from fun W k' a b => (radd_any (n := N) ((unhide hh).1.at'.kept k') a b).mono fun e w' h => ⟨_, _, _, h, fun hz => by
        unfold addE addN; rw [if_pos hz, if_pos hz]; exact ⟨insE_len, ins_right hz, rfl⟩⟩)
      have hc0 := lt_of_cell c0
      have hd0 := lt_of_cell d0
      have hwN : IntKind.u64.wrap N = N := by show N % 18446744073709551616 = N; omega
      have hwi : IntKind.i64.wrap ((i : Int) + 1) = (i : Int) + 1 := by rw [IntWalk.i64_left, IntWalk.wrap64_in _ (by omega)]
      have hnz : (N == 0) = false := by simp; omega
      have i0 : (0 : Int) ≤ (i : Int) := by omega
      have i2 : (0 : Int) ≤ (i : Int) + 1 := by omega
      have hnz2 : ¬ N = 0 := by omega
      have hti : ((i : Int) + 1).toNat = i + 1 := by omega
      have i1 : (i : Int) < (xs.length : Int) := by omega
      go_wp2_with fail
      go_region_held3 (fun W => W.cell? ⟨w.heap.size + 1, 0, none⟩ = some (.int .i64 N) ∧ W.cell? ⟨w.heap.size + 1, 1, none⟩ = some (.slice ro es.length rc) ∧ W.cell? ⟨g, o + i, none⟩ = some (.int .i64 a) ∧ W.cell? ⟨g, o + (i + 1), none⟩ = some (.int .i64 b)) (first | exact ⟨kept_cell c0 K2, kept_cell c1 K2, kept_cell d0 K2, kept_cell d1 K2⟩ | exact ⟨(cell_set2 (by omega)).trans (kept_cell c0 K2), (cell_set2 (by omega)).trans (kept_cell c1 K2), (cell_set2 (by omega)).trans (kept_cell d0 K2), (cell_set2 (by omega)).trans (kept_cell d1 K2)⟩ | exact ⟨alloc_cell (kept_cell c0 K2) _, alloc_cell (kept_cell c1 K2) _, alloc_cell (kept_cell d0 K2) _, alloc_cell (kept_cell d1 K2) _⟩ | go_keep)
        (first | (go_at_call 31; refine (unhide HA _ (by repeat' first | exact Kept.refl _ _ | apply Kept.drew | apply Kept.alloc) _ _).mono ?_; rintro e w2 ⟨c, nn, ee, ⟨r2, rfl, hr2, hf2, k2⟩, HST⟩; obtain ⟨so, sm, sc, rfl⟩ := hr2.form; have kz := (Kept.refl [] (wr.alloc (.cells #[.int .i64 0, .slice none 0 0] 24))).drew.trans k2; obtain ⟨z0, z1⟩ := box2 kz (by simp); obtain ⟨y0, y1⟩ := box2f kz; have K2 : Kept [] wr w2 := ((Kept.refl [] wr).alloc _).trans kz) | (go_at_call 31; refine (unhide HA _ (by repeat' first | exact Kept.refl _ _ | apply Kept.drew | apply Kept.alloc) _ _).mono ?_; rintro e w2 ⟨c, nn, ee, ⟨r2, rfl, hr2, hf2, k2⟩, HST⟩; obtain ⟨so, sm, sc, rfl⟩ := hr2.form; have K2 : Kept [] wr w2 := (Kept.refl [] wr).drew.trans k2))
      · have M3 := (unhide hh).1.go (K2.alloc (.cells #[.int .i64 nn, .slice so sm sc] 24))
        obtain ⟨v0, v1⟩ := box2 (Kept.refl [] (w2.alloc (.cells #[.int .i64 nn, .slice so sm sc] 24))) (by simp)
        have hr3 := hr2.kept ((Kept.refl [] w2).alloc (.cells #[.int .i64 nn, .slice so sm sc] 24))
        have hf3 : FreshAt (w.heap.size + 2) (.slice so sm sc) := fun a x y e => Nat.le_trans hc0 (hf2 a x y e)
        have nP : w2.heap.size ≠ w.heap.size + 1 := by have := K2.size; omega
        clear k2 K2 hr2 hf2 c0 c1 d0 d1
        generalize w2.alloc (.cells #[.int .i64 nn, .slice so sm sc] 24) = w3 at *
        generalize w2.heap.size = pp at *
        have HM3 := hide M3
        have HR3 := hide hr3
        have HF3 := hide hf3
        have s0 := M3.g0; have s1 := M3.g1; have t0 := M3.f0; have t1 := M3.f1
        clear M3 hr3 hf3 hc0 hd0
        by_cases hcz : c = 0
        · have hq : (c == 0) = true := by simpa using hcz
          obtain ⟨hl2, hr2', hnn⟩ := unhide HST hcz
          subst hnn
          have HL2 := hide hl2
          have HRR := hide hr2'
          clear hcz hl2 hr2'
          go_wp2
          go_roundw
          case rel =>
            refine ⟨i + 2, .slice so sm sc, ee, by omega, by go_num, by rw [unhide HL2]; omega, ?_, unhide HRR⟩
            exact (unhide HM3).put (unhide HR3) (unhide HF3)
          case measure => simp [intOf]; omega
        · have hq : (c == 0) = false := by simpa using hcz
          clear hcz
          go_wp2
          go_roundw
          case rel => exact ⟨i + 2, _, es, by omega, by go_num, hle, unhide HM3, (unhide hh).2⟩
          case measure => simp [intOf]; omega
      · have kS : Kept [wr.heap.size] w2 ((w2.setCell ⟨wr.heap.size, 0, none⟩ (.int .i64 nn)).setCell ⟨wr.heap.size, 1, none⟩ (.slice so sm sc)) := ((Kept.refl _ _).setCell (Or.inl (by simp)) _).setCell (Or.inl (by simp)) _
        have kA : Kept [] wr ((w2.setCell ⟨wr.heap.size, 0, none⟩ (.int .i64 nn)).setCell ⟨wr.heap.size, 1, none⟩ (.slice so sm sc)) := K2.trans' kS (by simp)
        have M3 := (unhide hh).1.go kA
        have v0 : ((w2.setCell ⟨wr.heap.size, 0, none⟩ (.int .i64 nn)).setCell ⟨wr.heap.size, 1, none⟩ (.slice so sm sc)).cell? ⟨wr.heap.size, 0, none⟩ = some (.int .i64 nn) := by go_simp
        have v1 : ((w2.setCell ⟨wr.heap.size, 0, none⟩ (.int .i64 nn)).setCell ⟨wr.heap.size, 1, none⟩ (.slice so sm sc)).cell? ⟨wr.heap.size, 1, none⟩ = some (.slice so sm sc) := by go_simp
        have hr3 := hr2.keptAt kS (fun a x y e => by have h2 := hf2 a x y e; have h3 : (wr.alloc (.cells #[.int .i64 0, .slice none 0 0] 24)).heap.size ≤ a.block := h2; simp at h3 ⊢; omega)
        have hf3 : FreshAt (w.heap.size + 2) (.slice so sm sc) := fun a x y e => by have h2 := hf2 a x y e; have h3 : (wr.alloc (.cells #[.int .i64 0, .slice none 0 0] 24)).heap.size ≤ a.block := h2; simp at h3; omega
        have nP : wr.heap.size ≠ w.heap.size + 1 := by omega
        clear k2 kz K2 hr2 hf2 c0 c1 d0 d1 z0 z1 y0 y1 kS kA
        generalize (w2.setCell ⟨wr.heap.size, 0, none⟩ (.int .i64 nn)).setCell ⟨wr.heap.size, 1, none⟩ (.slice so sm sc) = w3 at *
        have HM3 := hide M3
        have HR3 := hide hr3
        have HF3 := hide hf3
        have s0 := M3.g0; have s1 := M3.g1; have t0 := M3.f0; have t1 := M3.f1
        clear M3 hr3 hf3 hc0 hd0
        by_cases hcz : c = 0
        · have hq : (c == 0) = true := by simpa using hcz
          obtain ⟨hl2, hr2', hnn⟩ := unhide HST hcz
          subst hnn
          have HL2 := hide hl2
          have HRR := hide hr2'
          clear hcz hl2 hr2'
          go_wp2
          go_roundw
          case rel =>
            refine ⟨i + 2, .slice so sm sc, ee, by omega, by go_num, by rw [unhide HL2]; omega, ?_, unhide HRR⟩
            exact (unhide HM3).put (unhide HR3) (unhide HF3)
          case measure => simp [intOf]; omega
        · have hq : (c == 0) = false := by simpa using hcz
          clear hcz
          go_wp2
          go_roundw
          case rel => exact ⟨i + 2, _, es, by omega, by go_num, hle, unhide HM3, (unhide hh).2⟩
          case measure => simp [intOf]; omega
    · have r0 := (unhide hh).1.rs.r0; have r1 := (unhide hh).1.rs.r1; have f0 := (unhide hh).1.rs.f0; have f1 := (unhide hh).1.rs.f1
      have HT := hide ((unhide hh).1.rs.told (m := N) (unhide hh).1.at' (fun a x y e => by have := (unhide hh).1.fresh a x y e; omega))
      have HC := hide hc
      clear hc
      go_wp2
      all_goals (first | (exfalso; have hc := unhide HC; omega) | exact bodyPost_ret (v := gv N (.slice ro es.length rc)) (by simp [results, Tryd.results20, go_sem, r0, r1]) rfl ⟨N, .slice ro es.length rc, rfl, es, (unhide HT).1, (unhide hh).2, unhide HNV, hle, (unhide HT).2⟩ | exact bodyPost_ret (v := gv N (.slice ro es.length rc)) (by simp [results, Tryd.results20, go_sem, r0, r1]) rfl ⟨N, .slice ro es.length rc, es, rfl, (unhide HT).1, (unhide hh).2, unhide HNV, hle, (unhide HT).2⟩)
end Go.Proofs.YtmpcnepiogjokaaDoor

namespace Go.Proofs.YtmpcnepiogjokaaDoor
open Go.RowKit

/-- All vertices, in pieces or out. -/
theorem IsPieces.count {es : List E} {N : Nat} {xs : List Int} {L : List (List Int)} (h : IsPieces es (Alive (N : Int) xs) L) (hx : xs.Pairwise (· < ·)) (hb : ∀ y ∈ xs, 0 ≤ y ∧ y < (N : Int)) : L.flatten.length + xs.length = N := by
  have hd : L.flatten.Nodup := by
    unfold List.Nodup
    rw [List.pairwise_flatten]
    refine ⟨fun l hl => pair_irr (h.rise l hl), List.Pairwise.imp_of_mem ?_ h.heads⟩
    intro l m hl hm hlt x hxl y hym e
    subst e
    have : l = m := rising_eq (h.rise l hl) (h.rise m hm) (fun z => by rw [(h.cls l hl x hxl).2 z, (h.cls m hm x hym).2 z])
    subst this
    exact Int.lt_irrefl _ hlt
  have hmem : ∀ x, x ∈ L.flatten ↔ Alive (N : Int) xs x := fun x => by
    rw [List.mem_flatten]
    constructor
    · rintro ⟨l, hl, hxl⟩; exact (h.cls l hl x hxl).1
    · intro hx; obtain ⟨l, hl, hxl⟩ := h.all x hx; exact ⟨l, hl, hxl⟩
  have hn : (L.flatten ++ xs).Nodup := by
    rw [List.nodup_append]
    exact ⟨hd, pair_irr hx, fun a ha b hb e => by subst e; exact ((hmem a).1 ha).2 hb⟩
  have hr : ((List.range N).map Int.ofNat).Nodup := by
    unfold List.Nodup
    rw [List.pairwise_map]
    exact (List.nodup_range).imp (fun h e => h (Int.ofNat.inj e))
  have hp : (L.flatten ++ xs).Perm ((List.range N).map Int.ofNat) := (List.perm_ext_iff_of_nodup hn hr).2 (fun x => by
    rw [List.mem_append, hmem, List.mem_map]
    constructor
    · intro h
      have h2 : 0 ≤ x ∧ x < (N : Int) := by
        rcases h with h | h
        · exact h.1
        · exact hb x h
      exact ⟨x.toNat, by simp; omega, by show ((x.toNat : Nat) : Int) = x; omega⟩
    · rintro ⟨k, hk, rfl⟩
      simp at hk
      by_cases hm : Int.ofNat k ∈ xs
      · exact Or.inr hm
      · exact Or.inl ⟨⟨by show (0 : Int) ≤ (k : Int); omega, by show (k : Int) < N; omega⟩, hm⟩)
  have := hp.length_eq
  simp at this
  simpa using this
theorem odd_flat (L : List (List Int)) : oddL L ≤ L.flatten.length ∧ (L.flatten.length - oddL L) % 2 = 0 := by
  induction L with
  | nil => simp [oddL]
  | cons l r ih =>
    unfold oddL at *
    simp only [List.map_cons, List.sum_cons, List.flatten_cons, List.length_append]
    omega
end Go.Proofs.YtmpcnepiogjokaaDoor

namespace Go.Proofs.YtmpcnepiogjokaaDoor
open Go.RowKit

/-- Labels: -1 of who is out; else a vertex that is come to, none greater. -/
structure Lab (es : List E) (N : Nat) (xs : List Int) (f : Nat → Int) : Prop where
  out : ∀ v : Nat, v < N → (v : Int) ∈ xs → f v = -1
  low : ∀ v : Nat, v < N → (v : Int) ∉ xs → 0 ≤ f v ∧ f v ≤ (v : Int) ∧ Reach es (Alive (N : Int) xs) (f v) (v : Int)
theorem Lab.start {es : List E} {N : Nat} {xs : List Int} {f : Nat → Int} (h : ∀ v : Nat, v < N → f v = if (v : Int) ∈ xs then -1 else (v : Int)) : Lab es N xs f :=
  ⟨fun v hv hm => by rw [h v hv, if_pos hm], fun v hv hm => by
    rw [h v hv, if_neg hm]
    exact ⟨by omega, by omega, .refl ⟨⟨by omega, by omega⟩, hm⟩⟩⟩
theorem Lab.alive {es : List E} {N : Nat} {xs : List Int} {f : Nat → Int} (h : Lab es N xs f) {v : Nat} (hv : v < N) (h0 : 0 ≤ f v) : (v : Int) ∉ xs := fun hm => by have := h.out v hv hm; omega
/-- Two ends get the lesser label. -/
def fall (f : Nat → Int) (a b : Nat) : Nat → Int := fun v => if v = b then min (f a) (f b) else if v = a then min (f a) (f b) else f v
theorem Lab.fall {es : List E} {N : Nat} {xs : List Int} {f : Nat → Int} (h : Lab es N xs f) {a b : Nat} (ha : a < N) (hb : b < N) (hab : ((a : Int), (b : Int)) ∈ es) (fa : 0 ≤ f a) (fb : 0 ≤ f b) : Lab es N xs (fall f a b) := by
  have na := h.alive ha fa
  have nb := h.alive hb fb
  have la := h.low a ha na
  have lb := h.low b hb nb
  have key : ∀ k : Int, k = min (f a) (f b) → (0 ≤ k ∧ k ≤ (a : Int) ∧ Reach es (Alive (N : Int) xs) k a) ∧ (0 ≤ k ∧ k ≤ (b : Int) ∧ Reach es (Alive (N : Int) xs) k b) := by
    intro k hk
    by_cases hle : f a ≤ f b
    · have e : k = f a := by omega
      subst e
      exact ⟨la, by omega, by omega, la.2.2.step (Or.inl hab) lb.2.2.right⟩
    · have e : k = f b := by omega
      subst e
      exact ⟨⟨by omega, by omega, lb.2.2.step (Or.inr hab) la.2.2.right⟩, lb⟩
  refine ⟨fun v hv hm => ?_, fun v hv hm => ?_⟩
  · unfold Go.Proofs.YtmpcnepiogjokaaDoor.fall
    rw [if_neg (show ¬ v = b from fun e => nb (by rw [← e]; exact hm)), if_neg (show ¬ v = a from fun e => na (by rw [← e]; exact hm))]
    exact h.out v hv hm
  · unfold Go.Proofs.YtmpcnepiogjokaaDoor.fall
    by_cases e1 : v = b
    · subst e1; rw [if_pos rfl]; exact (key _ rfl).2
    · rw [if_neg e1]
      by_cases e2 : v = a
      · subst e2; rw [if_pos rfl]; exact (key _ rfl).1
      · rw [if_neg e2]; exact h.low v hv hm
/-- All labels together: it falls. -/
def labSum (f : Nat → Int) : Nat → Nat
  | 0 => 0
  | k + 1 => labSum f k + (f k + 1).toNat
theorem labSum_le {f g : Nat → Int} : ∀ {N : Nat}, (∀ v, v < N → g v ≤ f v) → labSum g N ≤ labSum f N
  | 0, _ => Nat.le_refl _
  | N + 1, h => by
    have := labSum_le (N := N) (fun v hv => h v (by omega))
    have := h N (by omega)
    simp only [labSum]
    omega
theorem labSum_lt {f g : Nat → Int} : ∀ {N : Nat}, (∀ v, v < N → g v ≤ f v) → ∀ {a : Nat}, a < N → g a < f a → 0 ≤ f a → labSum g N < labSum f N
  | 0, _, _, ha, _, _ => by omega
  | N + 1, h, a, ha, hlt, h0 => by
    simp only [labSum]
    by_cases e : a = N
    · subst e
      have := labSum_le (N := a) (fun v hv => h v (by omega))
      omega
    · have := labSum_lt (N := N) (fun v hv => h v (by omega)) (a := a) (by omega) hlt h0
      have := h N (by omega)
      omega
theorem fall_sum {f : Nat → Int} {N a b : Nat} (ha : a < N) (hb : b < N) (fa : 0 ≤ f a) (fb : 0 ≤ f b) (hne : f a ≠ f b) : labSum (fall f a b) N < labSum f N := by
  have hle : ∀ v, v < N → fall f a b v ≤ f v := fun v _ => by
    unfold fall
    by_cases e1 : v = b
    · subst e1; rw [if_pos rfl]; omega
    · rw [if_neg e1]
      by_cases e2 : v = a
      · subst e2; rw [if_pos rfl]; omega
      · rw [if_neg e2]; exact Int.le_refl _
  by_cases h : f a < f b
  · exact labSum_lt hle hb (by unfold fall; rw [if_pos rfl]; omega) fb
  · have hab : ¬ a = b := fun e => hne (by rw [e])
    exact labSum_lt hle ha (by unfold fall; rw [if_neg hab, if_pos rfl]; omega) fa
/-- No edge joins two labels. -/
def Still (es : List E) (f : Nat → Int) : Prop := ∀ a b : Nat, ((a : Int), (b : Int)) ∈ es → f a < 0 ∨ f b < 0 ∨ f a = f b
theorem Lab.same {es : List E} {N : Nat} {xs : List Int} {f : Nat → Int} (h : Lab es N xs f) (hs : Still es f) {x y : Int} (hr : Reach es (Alive (N : Int) xs) x y) : f x.toNat = f y.toNat := by
  refine hr.closed (P := fun y => f x.toNat = f y.toNat) rfl (fun y z hy hy1 ha hz => ?_)
  rw [hy]
  obtain ⟨yn, rfl⟩ := Int.eq_ofNat_of_zero_le hy1.1.1
  obtain ⟨zn, rfl⟩ := Int.eq_ofNat_of_zero_le hz.1.1
  have ly := h.low yn (by have := hy1.1.2; omega) hy1.2
  have lz := h.low zn (by have := hz.1.2; omega) hz.2
  simp only [Int.toNat_natCast]
  rcases ha with ha | ha
  · have := hs yn zn ha; omega
  · have := hs zn yn ha; omega
/-- The piece whose label is v; all of them. -/
def pieceOf (f : Nat → Int) (N v : Nat) : List Int := ((List.range N).filter fun w => f w == (v : Int)).map Int.ofNat
def listOf (f : Nat → Int) (N : Nat) : List (List Int) := ((List.range N).filter fun v => f v == (v : Int)).map (pieceOf f N)
theorem mem_pieceOf {f : Nat → Int} {N v : Nat} {x : Int} : x ∈ pieceOf f N v ↔ ∃ w : Nat, w < N ∧ f w = (v : Int) ∧ x = (w : Int) := by
  unfold pieceOf
  simp only [List.mem_map, List.mem_filter, List.mem_range, beq_iff_eq]
  constructor
  · rintro ⟨w, ⟨h1, h2⟩, rfl⟩; exact ⟨w, h1, h2, rfl⟩
  · rintro ⟨w, h1, h2, rfl⟩; exact ⟨w, ⟨h1, h2⟩, rfl⟩
theorem pieceOf_rise (f : Nat → Int) (N v : Nat) : (pieceOf f N v).Pairwise (· < ·) := by
  unfold pieceOf
  rw [List.pairwise_map]
  exact (List.pairwise_lt_range.filter _).imp (fun {a b} h => by show (a : Int) < (b : Int); omega)
theorem Lab.head {es : List E} {N : Nat} {xs : List Int} {f : Nat → Int} (h : Lab es N xs f) {v : Nat} (hv : v < N) (hf : f v = (v : Int)) : (pieceOf f N v).headD 0 = (v : Int) := by
  have hm : (v : Int) ∈ pieceOf f N v := mem_pieceOf.2 ⟨v, hv, hf, rfl⟩
  have hr := pieceOf_rise f N v
  cases hl : pieceOf f N v with
  | nil => rw [hl] at hm; simp at hm
  | cons x r =>
    rw [hl] at hm hr
    have hx : x ∈ pieceOf f N v := by rw [hl]; simp
    obtain ⟨w, hw, hfw, rfl⟩ := mem_pieceOf.1 hx
    have hn : (w : Int) ∉ xs := h.alive hw (by omega)
    have := h.low w hw hn
    simp only [List.headD_cons]
    rcases List.mem_cons.1 hm with e | e
    · exact e.symm
    · have := (List.pairwise_cons.1 hr).1 _ e; omega
/-- Behind the last label that fell: the pieces. -/
theorem Lab.pieces {es : List E} {N : Nat} {xs : List Int} {f : Nat → Int} (h : Lab es N xs f) (hs : Still es f) : IsPieces es (Alive (N : Int) xs) (listOf f N) where
  rise l hl := by
    obtain ⟨v, _, rfl⟩ := List.mem_map.1 hl
    exact pieceOf_rise f N v
  ne l hl := by
    obtain ⟨v, hv, rfl⟩ := List.mem_map.1 hl
    simp at hv
    intro e
    have : (v : Int) ∈ pieceOf f N v := mem_pieceOf.2 ⟨v, hv.1, hv.2, rfl⟩
    rw [e] at this; simp at this
  cls l hl x hx := by
    obtain ⟨v, hv, rfl⟩ := List.mem_map.1 hl
    simp at hv
    obtain ⟨w, hw, hfw, rfl⟩ := mem_pieceOf.1 hx
    have hn : (w : Int) ∉ xs := h.alive hw (by omega)
    have lw := h.low w hw hn
    refine ⟨lw.2.2.right, fun y => ⟨fun hy => ?_, fun hr => ?_⟩⟩
    · obtain ⟨u, hu, hfu, rfl⟩ := mem_pieceOf.1 hy
      have hnu : (u : Int) ∉ xs := h.alive hu (by omega)
      have lu := h.low u hu hnu
      rw [hfw] at lw
      rw [hfu] at lu
      exact lw.2.2.symm.trans lu.2.2
    · have hy := hr.right
      obtain ⟨u, rfl⟩ := Int.eq_ofNat_of_zero_le hy.1.1
      have := h.same hs hr
      simp only [Int.toNat_natCast] at this
      exact mem_pieceOf.2 ⟨u, by have := hy.1.2; omega, by rw [← this]; exact hfw, rfl⟩
  heads := by
    unfold listOf
    rw [List.pairwise_map]
    refine List.Pairwise.imp_of_mem ?_ (List.pairwise_lt_range.filter _)
    intro a b ha hb hlt
    simp at ha hb
    rw [h.head ha.1 ha.2, h.head hb.1 hb.2]
    omega
  all x hx := by
    obtain ⟨w, rfl⟩ := Int.eq_ofNat_of_zero_le hx.1.1
    have hw : w < N := by have := hx.1.2; omega
    have lw := h.low w hw hx.2
    obtain ⟨r, hr⟩ := Int.eq_ofNat_of_zero_le lw.1
    have hrN : r < N := by omega
    have hsame := h.same hs lw.2.2
    rw [hr] at hsame
    simp only [Int.toNat_natCast] at hsame
    refine ⟨pieceOf f N r, List.mem_map.2 ⟨r, by simp; exact ⟨hrN, by rw [hsame, hr]⟩, rfl⟩, mem_pieceOf.2 ⟨w, hw, hr, rfl⟩⟩
end Go.Proofs.YtmpcnepiogjokaaDoor

namespace Go.Proofs.YtmpcnepiogjokaaDoor
open Go.RowKit

/-- What the reference's Without is held to. -/
def RWithout : Prop := ∀ (w : World) (n : Int) (v u : Value) (es : List E) (xs : List Int), EdgesAt w v es → IntsAt w u xs → Calls Tryd.prog 13 #[gv n v, u] w fun e w' => ∃ r L, e = .returned r ∧ ListsAt w' r L ∧ Pieces n es xs L ∧ Kept [] w w'

set_option maxRecDepth 20000 in
set_option maxHeartbeats 4000000 in
theorem rodd_any (RW : RWithout) {w : World} {n : Int} {v u : Value} {es : List E} {xs : List Int} (h : EdgesAt w v es) (hx : IntsAt w u xs) :
    Calls Tryd.prog 16 #[gv n v, u] w fun e w' => ∃ L, e = .returned (.int .i64 (oddL L : Nat)) ∧ Pieces n es xs L ∧ Kept [] w w' := by
  obtain ⟨ao, cap, rfl, _⟩ := h.shape
  have KB := (Kept.refl [] w).alloc (.cells #[.int .i64 n, .slice ao es.length cap] 24)
  have HW := hide (RW _ n _ _ es xs (h.kept KB) (hx.kept KB))
  have HK := hide KB
  clear h KB hx RW
  go_enter Tryd.func16, Tryd.ntmps16
  go_wp2_with fail
  refine (unhide HW).mono ?_
  rintro e w1 ⟨r, L, rfl, hl, hp, k1⟩
  have HP := hide hp
  obtain ⟨ro, rc, rfl, hm, _⟩ := hl.shape
  have HL := hide hl
  have HK1 := hide ((unhide HK).trans k1)
  have hlen := (unhide HP).len
  clear hl hp k1 hm
  go_wp2
  go_loopw [5, 7] (fun cc kk wr => ∃ k : Nat, k ≤ L.length ∧ kk = .int .i64 k ∧ cc = .int .i64 (oddL (L.take k) : Nat) ∧ wr = w1) (fun _ kk _ => L.length - (intOf kk).toNat)
  case atStart => exact ⟨0, Nat.zero_le _, rfl, rfl, rfl⟩
  case round =>
    obtain ⟨k, hk, rfl, rfl, rfl⟩ := hrel
    have hol := oddL_le (L.take k)
    have hol2 : (L.take k).length ≤ k := List.length_take_le _ _
    by_cases hlt : k < L.length
    · obtain ⟨ro2, rc2, hv, _, hin⟩ := (unhide HL).shape
      obtain ⟨g, o, he, hc⟩ := hin (by omega)
      have e2 : ro = some ⟨g, o, none⟩ := by simp at hv; rw [hv.1, he]
      subst e2
      obtain ⟨u2, hu, hi2⟩ := hc k hlt
      obtain ⟨uo, uc, rfl, hum, _⟩ := hi2.shape
      have humI : ((L.getD k []).length : Int) ≤ 9223372036854775807 := by unfold maxLen at hum; omega
      have HS := hide (oddL_step hlt)
      have hmod : IntKind.i64.wrap (((L.getD k []).length : Int).tmod 2) = (((L.getD k []).length % 2 : Nat) : Int) := by
        rw [Int.tmod_eq_emod_of_nonneg (by omega), IntWalk.i64_left, IntWalk.wrap64_in _ (by omega)]; omega
      have k0 : (0 : Int) ≤ (k : Int) := by omega
      have k1 : (k : Int) < (L.length : Int) := by omega
      clear hv he hc hin hi2 hum
      generalize (L.getD k []).length = m at *
      go_wp2
      go_roundw
      case rel => exact ⟨k + 1, by omega, by go_num, by rw [unhide HS]; go_num, by first | rfl | trivial⟩
      case measure => simp [intOf]; omega
    · have HT := hide (show L.take k = L from List.take_of_length_le (by omega))
      go_wp2
      go_ret
      exact ⟨L, ret_int (by rw [unhide HT]), unhide HP, unhide HK1⟩

end Go.Proofs.YtmpcnepiogjokaaDoor

namespace Go.Proofs.YtmpcnepiogjokaaDoor
open Go.RowKit

set_option maxRecDepth 20000 in
set_option maxHeartbeats 4000000 in
theorem rsame_any (RW : RWithout) {w : World} {n : Int} {v : Value} {es : List E} (h : EdgesAt w v es) (a b : Int) :
    Calls Tryd.prog 18 #[gv n v, .int .i64 a, .int .i64 b] w fun e w' => ∃ c, e = .returned (.bool c) ∧ (c = true ↔ SameP n es a b) ∧ Kept [] w w' := by
  obtain ⟨ao, cap, rfl, _⟩ := h.shape
  have KB := (Kept.refl [] w).alloc (.cells #[.int .i64 n, .slice ao es.length cap] 24)
  have HW := hide (RW _ n _ _ es [] (h.kept KB) (intsNil _))
  have HK := hide KB
  clear h KB RW
  go_enter Tryd.func18, Tryd.ntmps18
  go_wp2_with fail
  refine (unhide HW).mono ?_
  rintro e w1 ⟨r, L, rfl, hl, hp, k1⟩
  have HP := hide hp
  obtain ⟨ro, rc, rfl, hm, _⟩ := hl.shape
  have HL := hide hl
  have HK1 := hide ((unhide HK).trans k1)
  have hlen := (unhide HP).len
  clear hl hp k1 hm
  go_wp2
  go_loopw [8] (fun kk wr => ∃ k : Nat, k ≤ L.length ∧ kk = .int .i64 k ∧ wr = w1 ∧ Hid (∀ j, j < k → a ∉ L.getD j [])) (fun kk _ => L.length - (intOf kk).toNat)
  case atStart => exact ⟨0, Nat.zero_le _, rfl, rfl, fun j hj => by omega⟩
  case round =>
    obtain ⟨k, hk, rfl, rfl, hno⟩ := hrel
    by_cases hlt : k < L.length
    · obtain ⟨ro2, rc2, hv, _, hin⟩ := (unhide HL).shape
      obtain ⟨g, o, he, hc⟩ := hin (by omega)
      have e2 : ro = some ⟨g, o, none⟩ := by simp at hv; rw [hv.1, he]
      subst e2
      obtain ⟨u2, hu, hi2⟩ := hc k hlt
      have HA := hide (in_any hi2 a)
      have HB := hide (in_any hi2 b)
      obtain ⟨uo, uc, rfl, _⟩ := hi2.shape
      have k0 : (0 : Int) ≤ (k : Int) := by omega
      have k1 : (k : Int) < (L.length : Int) := by omega
      clear hv he hc hin hi2
      have hin2 : L.getD k [] ∈ L := by simp [List.getD, hlt]
      have hr : rightB n es = true := by
        cases hr : rightB n es
        · have := (unhide HP).2 hr; rw [this] at hlt; simp at hlt
        · rfl
      by_cases ha : a ∈ L.getD k []
      · have e1 : decide (a ∈ L.getD k []) = true := by simpa using ha
        rw [e1] at HA
        have HF := hide (show (decide (b ∈ L.getD k []) = true ↔ SameP n es a b) by
          unfold SameP
          simp only [decide_eq_true_eq, hr, true_and]
          exact (((unhide HP).1 hr).cls _ hin2 a ha).2 b)
        clear ha e1 hr hin2
        generalize decide (b ∈ L.getD k []) = cb at *
        generalize (L.getD k []).length = m at *
        go_wp2_with fail
        refine (unhide HA).mono ?_
        rintro e w2 ⟨rfl, rfl⟩
        go_wp2_with fail
        refine (unhide HB).mono ?_
        rintro e w3 ⟨rfl, rfl⟩
        go_wp2
        go_ret
        exact ⟨_, rfl, unhide HF, unhide HK1⟩
      · have e1 : decide (a ∈ L.getD k []) = false := by simpa using ha
        rw [e1] at HA
        have HN := hide (show ∀ j, j < k + 1 → a ∉ L.getD j [] from fun j hj => by
          by_cases e : j = k
          · subst e; exact ha
          · exact unhide hno j (by omega))
        clear ha e1 hr hin2 HB
        generalize (L.getD k []).length = m at *
        go_wp2_with fail
        refine (unhide HA).mono ?_
        rintro e w2 ⟨rfl, rfl⟩
        go_wp2
        go_roundw
        case rel => exact ⟨k + 1, by omega, by go_num, by first | rfl | trivial, unhide HN⟩
        case measure => simp [intOf]; omega
    · have HF := hide (show ¬ SameP n es a b from fun hs => by
        obtain ⟨l, hl, hal⟩ := ((unhide HP).1 hs.1).all a hs.2.left
        obtain ⟨j, hj, e⟩ := List.getElem_of_mem hl
        exact unhide hno j (by omega) (by simp [List.getD, hj, e, hal]))
      go_wp2
      go_ret
      exact ⟨false, rfl, by simp; exact unhide HF, unhide HK1⟩
end Go.Proofs.YtmpcnepiogjokaaDoor

namespace Go.Proofs.YtmpcnepiogjokaaDoor
open Go.RowKit

/-- A graph in a variable, its edges beside. -/
structure GVar (w : World) (p : Nat) (n : Int) (v : Value) (es : List E) : Prop where
  a : w.cell? ⟨p, 0, none⟩ = some (.int .i64 n)
  b : w.cell? ⟨p, 1, none⟩ = some v
  e : EdgesAt w v es
theorem GVar.kept {w w' : World} {p : Nat} {n : Int} {v : Value} {es : List E} (h : GVar w p n v es) (k : Kept [] w w') : GVar w' p n v es := ⟨kept_cell h.a k, kept_cell h.b k, h.e.kept k⟩
theorem GVar.new {w : World} {n : Int} {v : Value} {es : List E} (h : EdgesAt w v es) (t : TypeId) : GVar (w.alloc (.cells #[.int .i64 n, v] t)) w.heap.size n v es :=
  ⟨(box2 (Kept.refl [] _) (by simp)).1, (box2 (Kept.refl [] _) (by simp)).2, h.kept ((Kept.refl [] w).alloc _)⟩

end Go.Proofs.YtmpcnepiogjokaaDoor

namespace Go.Proofs.YtmpcnepiogjokaaDoor
open Go.RowKit

/-- Which piece each vertex is in, up to the k-th of the i-th. -/
structure Mark (L : List (List Int)) (i k : Nat) (f : Nat → Int) : Prop where
  old : ∀ j, j < i → ∀ v : Nat, (v : Int) ∈ L.getD j [] → f v = (j : Int) + 1
  cur : ∀ v : Nat, (v : Int) ∈ (L.getD i []).take k → f v = (i : Int) + 1
  zero : ∀ v : Nat, (∀ j, j < i → (v : Int) ∉ L.getD j []) → (v : Int) ∉ (L.getD i []).take k → f v = 0
theorem Mark.start (L : List (List Int)) : Mark L 0 0 (fun _ => 0) := ⟨fun j h => by omega, by simp, fun _ _ _ => rfl⟩
theorem getD_inL {L : List (List Int)} {i : Nat} (h : i < L.length) : L.getD i [] ∈ L := by simp [List.getD, h]
theorem IsPieces.apart {es : List E} {S : Int → Prop} {L : List (List Int)} (h : IsPieces es S L) {i j : Nat} (hij : j < i) (hi : i < L.length) {x : Int} (h1 : x ∈ L.getD j []) (h2 : x ∈ L.getD i []) : False := by
  have hj : j < L.length := by omega
  have m1 := getD_inL hj
  have m2 := getD_inL hi
  have e : L.getD j [] = L.getD i [] := rising_eq (h.rise _ m1) (h.rise _ m2) (fun z => by rw [(h.cls _ m1 x h1).2 z, (h.cls _ m2 x h2).2 z])
  have := (List.pairwise_iff_getElem.1 h.heads) j i hj hi hij
  simp only [List.getD, hj, hi, List.getElem?_eq_getElem, Option.getD_some] at e
  rw [e] at this
  exact Int.lt_irrefl _ this
theorem not_in_take {l : List Int} (h : l.Nodup) {k : Nat} (hk : k < l.length) : l.getD k 0 ∉ l.take k := by
  intro hm
  obtain ⟨j, hj, e⟩ := List.getElem_of_mem hm
  simp at hj
  rw [List.getElem_take] at e
  rw [getD_elem hk] at e
  have := (List.getElem_inj h).1 e
  omega
theorem Mark.fresh {es : List E} {S : Int → Prop} {L : List (List Int)} {i k : Nat} {f : Nat → Int} (h : Mark L i k f) (hp : IsPieces es S L) (hi : i < L.length) (hk : k < (L.getD i []).length) {v : Nat} (hv : (L.getD i []).getD k 0 = (v : Int)) : f v = 0 := by
  refine h.zero v (fun j hj hm => ?_) ?_
  · exact hp.apart hj hi hm (by rw [← hv]; exact getD_mem hk)
  · rw [← hv]; exact not_in_take (pair_irr (hp.rise _ (getD_inL hi))) hk
theorem Mark.set {es : List E} {S : Int → Prop} {L : List (List Int)} {i k : Nat} {f : Nat → Int} (h : Mark L i k f) (hp : IsPieces es S L) (hi : i < L.length) (hk : k < (L.getD i []).length) {v : Nat} (hv : (L.getD i []).getD k 0 = (v : Int)) : Mark L i (k + 1) (fun u => if u = v then (i : Int) + 1 else f u) := by
  have ht : (L.getD i []).take (k + 1) = (L.getD i []).take k ++ [(v : Int)] := by rw [List.take_succ_eq_append_getElem hk, ← hv, getD_elem hk]
  refine ⟨fun j hj u hu => ?_, fun u hu => ?_, fun u h1 h2 => ?_⟩
  · have : ¬ u = v := fun e => by subst e; exact hp.apart hj hi hu (by rw [← hv]; exact getD_mem hk)
    rw [if_neg this]; exact h.old j hj u hu
  · by_cases e : u = v
    · rw [if_pos e]
    · rw [if_neg e]
      rw [ht] at hu
      rcases List.mem_append.1 hu with hu | hu
      · exact h.cur u hu
      · simp at hu; exact absurd (by omega) e
  · rw [ht] at h2
    have e : ¬ u = v := fun e => h2 (by simp [e])
    rw [if_neg e]
    exact h.zero u h1 (fun hm => h2 (List.mem_append_left _ hm))
theorem Mark.next {L : List (List Int)} {i k : Nat} {f : Nat → Int} (h : Mark L i k f) (hk : (L.getD i []).length ≤ k) : Mark L (i + 1) 0 f := by
  have ht : (L.getD i []).take k = L.getD i [] := List.take_of_length_le hk
  refine ⟨fun j hj v hv => ?_, by simp, fun v h1 _ => ?_⟩
  · by_cases e : j = i
    · subst e; exact h.cur v (by rw [ht]; exact hv)
    · exact h.old j (by omega) v hv
  · exact h.zero v (fun j hj => h1 j (by omega)) (by rw [ht]; exact h1 i (by omega))
theorem Mark.alive {es : List E} {N : Nat} {xs : List Int} {L : List (List Int)} {f : Nat → Int} (h : Mark L L.length 0 f) (hp : IsPieces es (Alive (N : Int) xs) L) {v : Nat} (hv : v < N) : (f v == 0) = decide ((v : Int) ∈ xs) := by
  by_cases hm : (v : Int) ∈ xs
  · have : f v = 0 := h.zero v (fun j hj hmj => ((hp.cls _ (getD_inL hj) _ hmj).1).2 hm) (by simp)
    simp [this, hm]
  · obtain ⟨l, hl, hvl⟩ := hp.all (v : Int) ⟨⟨by omega, by omega⟩, hm⟩
    obtain ⟨j, hj, e⟩ := List.getElem_of_mem hl
    have := h.old j hj v (by simp [List.getD, hj, e, hvl])
    simp [hm]; omega
theorem Mark.edge {es : List E} {N : Nat} {xs : List Int} {L : List (List Int)} {f : Nat → Int} (h : Mark L L.length 0 f) (hp : IsPieces es (Alive (N : Int) xs) L) {a b : Nat} (hab : ((a : Int), (b : Int)) ∈ es) (ha : a < N) (hb : b < N) (h1 : 0 < f a) (h2 : 0 < f b) : f a = f b := by
  have n1 : (a : Int) ∉ xs := fun hm => by have := h.alive hp ha; simp [hm] at this; omega
  have n2 : (b : Int) ∉ xs := fun hm => by have := h.alive hp hb; simp [hm] at this; omega
  obtain ⟨l, hl, hal⟩ := hp.all (a : Int) ⟨⟨by omega, by omega⟩, n1⟩
  obtain ⟨j, hj, e⟩ := List.getElem_of_mem hl
  have hbl : (b : Int) ∈ l := ((hp.cls l hl _ hal).2 _).2 ((Reach.refl (hp.cls l hl _ hal).1).step (Or.inl hab) ⟨⟨by omega, by omega⟩, n2⟩)
  rw [h.old j hj a (by simp [List.getD, hj, e, hal]), h.old j hj b (by simp [List.getD, hj, e, hbl])]

theorem make_ints (N : Nat) (hN : N ≤ 100000) (W : World) : (Instr.makeSlice 25 (.int .i64 (N : Int)) (.int .i64 (N : Int))).run Tryd.prog W = .ok (.slice (some ⟨W.heap.size, 0, none⟩) N N) (W.alloc (.cells (madeCells #[.int .i64 0] N) 3)) := by
  obtain ⟨i, hi, hz0, hz1, hz2⟩ := info_parts infoInt
  have := run_make (P := Tryd.prog) W 25 3 i (.int .i64 0) Tryd.underlying25 hi hz0 .i64 .i64 (N : Int) (N : Int) (by omega) (by omega) (by rw [hz2]; omega) (by omega)
  rw [this, hz1]
  simp [Value.cells]
/-- A row of numbers of the call's own. -/
structure OfAt (w : World) (g N : Nat) (f : Nat → Int) : Prop where
  cell : ∀ v, v < N → w.cell? ⟨g, v, none⟩ = some (.int .i64 (f v))
  free : ∀ v, w.frozen? ⟨g, v, none⟩ = false
  lt : g < w.heap.size
theorem OfAt.start (W : World) (N : Nat) : OfAt (W.alloc (.cells (madeCells #[.int .i64 0] N) 3)) W.heap.size N (fun _ => 0) :=
  ⟨fun v hv => by rw [cell_of_block (new_block W _)]; simp [madeCells, hv, Nat.mod_one], fun v => by simp only [World.frozen?, new_block W (.cells (madeCells #[.int .i64 0] N) 3)]; rfl, by simp⟩
theorem OfAt.kept {w w' : World} {g N : Nat} {f : Nat → Int} (h : OfAt w g N f) (k : Kept [] w w') : OfAt w' g N f :=
  ⟨fun v hv => kept_cell (h.cell v hv) k, fun v => by rw [k.frozen h.lt (by simp)]; exact h.free v, Nat.lt_of_lt_of_le h.lt k.size⟩
theorem OfAt.set {w : World} {g N v : Nat} {f : Nat → Int} (h : OfAt w g N f) (hv : v < N) (y : Int) : OfAt (w.setCell ⟨g, v, none⟩ (.int .i64 y)) g N (fun u => if u = v then y else f u) := by
  refine ⟨fun u hu => ?_, fun u => by rw [frozen_set]; exact h.free u, by simpa [World.setCell] using h.lt⟩
  by_cases e : u = v
  · subst e; simp only [if_true]; exact cell_set_eq (h.cell u hu)
  · simp only [e, if_false]; rw [cell_set_off e]; exact h.cell u hu

end Go.Proofs.YtmpcnepiogjokaaDoor
