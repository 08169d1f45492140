/- Lists of lists in memory. Lists of lists: as many pieces as vertices at most. Without, All. All, Odd, Same. slices.DeleteFunc at [][]int, by isAlone. Labels that fall: plain mathematics. WHAT LIES BETWEEN TWO MATCHINGS: plain mathematics; labels that fall. -/
import Derived.Test.YtgeanbjidpapjaaDoorWalkFlips10
import Derived.Test.YtgeanbjidpapjaaDoorWalkFlips8
import Derived.Maps.AppendAt
import Derived.Laws.OwnMore
import Derived.Test.YtgeanbjidpapjaaDoorWalkFlips24
import Derived.Test.YtgeanbjidpapjaaDoorWalkFlips20
import Derived.Test.YtgeanbjidpapjaaDoorWalkFlips16
import Derived.Test.YtgeanbjidpapjaaDoorWalkFlips14
namespace Go.Proofs.YtgeanbjidpapjaaDoor
open Go.RowKit

/-- A slice of slices of numbers. -/
def ListsAt (w : World) (v : Value) (L : List (List Int)) : Prop :=
  ∃ ao cap, v = .slice ao L.length cap ∧ L.length ≤ cap ∧ L.length ≤ maxLen ∧ (0 < L.length → ∃ g o, ao = some ⟨g, o, none⟩ ∧ ∀ i, i < L.length → ∃ u, w.cell? ⟨g, o + i, none⟩ = some u ∧ IntsAt w u (L.getD i []))
theorem ListsAt.kept {w w' : World} {v : Value} {L : List (List Int)} (h : ListsAt w v L) (k : Kept [] w w') : ListsAt w' v L := by
  obtain ⟨ao, cap, rfl, h1, h2, h3⟩ := h
  refine ⟨ao, cap, rfl, h1, h2, fun h0 => ?_⟩
  obtain ⟨g, o, rfl, hc⟩ := h3 h0
  exact ⟨g, o, rfl, fun i hi => by obtain ⟨u, hu, hv⟩ := hc i hi; exact ⟨u, kept_cell hu k, hv.kept k⟩⟩
theorem ListsAt.nil (w : World) (cap : Nat) (ao : Option Addr) : ListsAt w (.slice ao 0 cap) [] := ⟨ao, cap, rfl, Nat.zero_le _, Nat.zero_le _, fun h => by simp at h⟩
theorem ListsAt.shape {w : World} {v : Value} {L : List (List Int)} (h : ListsAt w v L) : ∃ ao cap, v = .slice ao L.length cap ∧ L.length ≤ maxLen ∧ (0 < L.length → ∃ g o, ao = some ⟨g, o, none⟩ ∧ ∀ i, i < L.length → ∃ u, w.cell? ⟨g, o + i, none⟩ = some u ∧ IntsAt w u (L.getD i [])) := by
  obtain ⟨ao, cap, rfl, h1, h2, h3⟩ := h
  exact ⟨ao, cap, rfl, h2, h3⟩
/-- A row of lists that is being made. -/
structure LRow (w : World) (B b : Nat) (lv : Value) (L : List (List Int)) (vals : List Value) : Prop where
  own : w.ownsRow B 25 1 lv L.length vals
  each : ∀ i u, vals[i]? = some u → IntsAt w u (L.getD i []) ∧ ∃ a n c, u = .slice (some a) n c ∧ a.block ≠ b ∧ lv.ownBlock ≠ some a.block ∧ a.block < w.heap.size ∧ B ≤ a.block
theorem LRow.start (w : World) (B b : Nat) : LRow w B b (.slice none 0 0) [] [] := ⟨⟨rfl, Or.inl ⟨rfl, rfl⟩⟩, by simp⟩
theorem own_freeE {w w' : World} {base e size n b : Nat} {v : Value} {xs : List Value} (h : w.ownsRow base e size v n xs) (k : Kept [b] w w') (hb : b < base) : w'.ownsRow base e size v n xs := by
  obtain ⟨h1, h2⟩ := h
  refine ⟨h1, ?_⟩
  rcases h2 with h2 | ⟨g, cap, cur, hv, hg, hh, h5, h6, h7, h8⟩
  · exact Or.inl h2
  · refine Or.inr ⟨g, cap, cur, hv, hg, ?_, h5, h6, h7, h8⟩
    have hl : g < w.heap.size := by
      by_cases hl : g < w.heap.size
      · exact hl
      · rw [Array.getElem?_eq_none (by omega)] at hh; simp at hh
    rw [k.block g hl (by simp; omega)]; exact hh
theorem LRow.kept {w w' : World} {B b : Nat} {lv : Value} {L : List (List Int)} {vals : List Value} (h : LRow w B b lv L vals) (k : Kept [b] w w') (hb : b < B) : LRow w' B b lv L vals :=
  ⟨own_freeE h.own k hb, fun i u hu => by
    obtain ⟨h1, a, n, c, rfl, h2, h3, h4, h5⟩ := h.each i u hu
    exact ⟨h1.keptAt k (fun a' m c' e => by cases e; simpa using h2), a, n, c, rfl, h2, h3, Nat.lt_of_lt_of_le h4 k.size, h5⟩⟩
/-- A list more. -/
theorem LRow.push {w w' : World} {B b : Nat} {lv v' : Value} {L : List (List Int)} {vals : List Value} (h : LRow w B b lv L vals) {l : List Int} {a : Addr} {n c : Nat} {o : Obj} (hu : IntsAt w (.slice (some a) n c) l) (ha : a.block ≠ b) (hal : lv.ownBlock ≠ some a.block) (halt : a.block < w.heap.size) (haB : B ≤ a.block)
    (own : w'.ownsRow B 25 1 v' (L.length + 1) (vals ++ [.slice (some a) n c])) (hg : (w.alloc o).grownBy w' lv.ownBlock) (hat : v'.ownBlock = lv.ownBlock ∨ v'.ownBlock = some (w.heap.size + 1)) : LRow w' B b v' (L ++ [l]) (vals ++ [.slice (some a) n c]) := by
  have hlen : vals.length = L.length := by simpa using h.own.1
  have kk : Kept lv.ownBlock.toList w w' := (((Kept.refl [] w).alloc o).mono (by simp)).trans (grown_kept hg)
  have hne : ∀ a : Addr, lv.ownBlock ≠ some a.block → a.block < w.heap.size → v'.ownBlock ≠ some a.block := fun a h1 h2 e => by
    rcases hat with h3 | h3
    · exact h1 (by rw [← h3]; exact e)
    · rw [h3] at e; simp at e; omega
  refine ⟨by rw [List.length_append]; exact own, fun i u hi => ?_⟩
  by_cases hlt : i < L.length
  · rw [List.getElem?_append_left (by omega)] at hi
    obtain ⟨h1, a', n', c', rfl, h2, h3, h4, h5⟩ := h.each i u hi
    refine ⟨?_, a', n', c', rfl, h2, hne a' h3 h4, Nat.lt_of_lt_of_le h4 kk.size, h5⟩
    rw [show (L ++ [l]).getD i [] = L.getD i [] by simp [List.getD, List.getElem?_append_left hlt]]
    exact h1.keptAt kk (fun a2 m c2 e => by cases e; intro hm; exact h3 (by simpa using hm))
  · have hil := (List.getElem?_eq_some_iff.1 hi).1
    simp at hil
    have e : i = vals.length := by omega
    subst e
    simp at hi
    subst hi
    refine ⟨?_, a, n, c, rfl, ha, hne a hal halt, Nat.lt_of_lt_of_le halt kk.size, haB⟩
    rw [show (L ++ [l]).getD vals.length [] = l by rw [hlen]; simp [List.getD]]
    exact hu.keptAt kk (fun a2 m c2 e => by cases e; intro hm; exact hal (by simpa using hm))
theorem LRow.lists {w : World} {B b : Nat} {lv : Value} {L : List (List Int)} {vals : List Value} (h : LRow w B b lv L vals) : ListsAt w lv L := by
  have hlen : vals.length = L.length := by simpa using h.own.1
  rcases h.own.2 with ⟨rfl, h0⟩ | ⟨g, cap, cur, rfl, hg, hb, h5, h6, h7, h8⟩
  · have : L = [] := List.eq_nil_of_length_eq_zero h0
    subst this
    exact ListsAt.nil _ _ _
  · refine ⟨some ⟨g, 0, none⟩, cap, rfl, h5, by omega, fun _ => ⟨g, 0, rfl, fun i hi => ?_⟩⟩
    obtain ⟨u, hu⟩ : ∃ u, vals[i]? = some u := ⟨vals[i]'(by omega), by simp⟩
    refine ⟨u, ?_, (h.each i u hu).1⟩
    rw [cell_of_block hb, ← hu, ← h8, Nat.mul_one, List.getElem?_take_of_lt hi]
    simp
/-- Lists that lie in blocks from B on. -/
def FreshL (B : Nat) (w : World) (v : Value) (L : List (List Int)) : Prop := ∀ a n c, v = .slice (some a) n c → 0 < L.length → B ≤ a.block ∧ ∀ i, i < L.length → ∃ u, w.cell? ⟨a.block, a.off + i, none⟩ = some u ∧ ∀ a' n' c', u = .slice (some a') n' c' → B ≤ a'.block
theorem LRow.freshL {w : World} {B b : Nat} {lv : Value} {L : List (List Int)} {vals : List Value} (h : LRow w B b lv L vals) : FreshL B w lv L := by
  intro a n c e h0
  have hlen : vals.length = L.length := by simpa using h.own.1
  rcases h.own.2 with ⟨e2, _⟩ | ⟨g, cap, cur, e2, hg, hb, h5, h6, h7, h8⟩
  · rw [e2] at e; cases e
  · rw [e2] at e
    simp at e
    obtain ⟨rfl, rfl, rfl⟩ := e
    refine ⟨hg, fun i hi => ?_⟩
    obtain ⟨u, hu⟩ : ∃ u, vals[i]? = some u := ⟨vals[i]'(by omega), by simp⟩
    obtain ⟨_, a2, n2, c2, rfl, _, _, _, hB⟩ := h.each i u hu
    refine ⟨.slice (some a2) n2 c2, ?_, fun a' n' c' e => by cases e; exact hB⟩
    show w.cell? ⟨g, 0 + i, none⟩ = _
    rw [cell_of_block hb, ← hu, ← h8, Nat.mul_one, List.getElem?_take_of_lt hi]
    simp
def lenV : Value → Nat
  | .slice _ n _ => n
  | _ => 0
end Go.Proofs.YtgeanbjidpapjaaDoor

namespace Go.Proofs.YtgeanbjidpapjaaDoor
open Go.RowKit

/-- As many pieces as vertices at most. -/
theorem Taken.len {es : List E} {S T : Int → Prop} {L : List (List Int)} {N : Nat} (h : Taken es S T L) (hb : ∀ x, S x → 0 ≤ x ∧ x < (N : Int)) : L.length ≤ N := by
  have h1 : (L.map (fun l => l.headD 0)).Nodup := by
    unfold List.Nodup
    rw [List.pairwise_map]
    exact h.heads.imp (fun {a b} h e => by omega)
  have := len_bound (N := N) h1 (fun x hx => by
    obtain ⟨l, hl, rfl⟩ := List.mem_map.1 hx
    have hne := h.ne l hl
    cases l with
    | nil => exact absurd rfl hne
    | cons y r => exact hb _ (h.cls _ hl y (by simp)).1)
  simpa using this
end Go.Proofs.YtgeanbjidpapjaaDoor

namespace Go.Proofs.YtgeanbjidpapjaaDoor
open Go.RowKit


set_option maxRecDepth 20000 in
set_option maxHeartbeats 4000000 in
theorem take_zero {w : World} {q : Nat} (h1 : w.cell? ⟨q, 1, none⟩ = some (.pointer none)) (x : Int) :
    Calls Tryd.prog 65 #[.pointer (some ⟨q, 0, none⟩), .int .i64 x] w fun e w' => e = .returned (.slice none 0 0) ∧ Kept [] w w' := by
  have HD := hide (drop_nil x w)
  go_enter Tryd.func65, Tryd.ntmps65
  go_wp2_with fail
  refine (unhide HD).mono ?_
  rintro e w1 ⟨rfl, m, rfl⟩
  go_wp2
  go_ret
  exact ⟨rfl, (Kept.refl [] w).drewN m⟩

set_option maxRecDepth 20000 in
set_option maxHeartbeats 4000000 in
theorem next_zero {w : World} {q : Nat} (h1 : w.cell? ⟨q, 1, none⟩ = some (.pointer none)) :
    Calls Tryd.prog 57 #[.pointer (some ⟨q, 0, none⟩)] w fun e w' => e = .returned (.slice none 0 0) ∧ Kept [] w w' := by
  have HL := hide (least_nil w 0)
  go_enter Tryd.func57, Tryd.ntmps57
  go_wp2_with fail
  refine (unhide HL).mono ?_
  rintro e w1 ⟨rfl, m, rfl⟩
  have HT := hide (take_zero (w := w.drewN m) (kept_cell h1 ((Kept.refl [] w).drewN m)) (-1))
  go_wp2_with fail
  refine (unhide HT).mono ?_
  rintro e w2 ⟨rfl, k2⟩
  go_wp2
  go_ret
  exact ⟨rfl, ((Kept.refl [] w).drewN m).trans k2⟩

set_option maxRecDepth 20000 in
set_option maxHeartbeats 4000000 in
theorem without_no {w : World} {n : Int} {v u : Value} {es : List E} (h : EdgesAt w v es) (hr : rightB n es = false) :
    Calls Tryd.prog 43 #[gv n v, u] w fun e w' => e = .returned (.slice none 0 0) ∧ Kept [] w w' := by
  obtain ⟨ao, cap, rfl, _⟩ := h.shape
  have HR := hide (restOf_no (u := u) (h.kept ((Kept.refl [] w).alloc (.cells #[.int .i64 n, .slice ao es.length cap] 24))) hr)
  clear h
  go_enter Tryd.func43, Tryd.ntmps43
  go_wp2_with fail
  refine (unhide HR).mono ?_
  rintro e w1 ⟨q, rfl, c0, c1, k1⟩
  have HN := hide (next_zero c1)
  clear c0 c1
  go_wp2_with fail
  refine (unhide HN).mono ?_
  rintro e w2 ⟨rfl, k2⟩
  go_wp2
  go_loopw [5, 7] (fun lv pv wr => lv = .slice none 0 0 ∧ pv = .slice none 0 0 ∧ wr = w2) (fun _ _ _ => 0)
  case atStart => exact ⟨rfl, rfl, rfl⟩
  case round =>
    obtain ⟨rfl, rfl, rfl⟩ := hrel
    go_wp2
    go_ret
    exact ⟨rfl, (((Kept.refl [] w).alloc _).trans k1).trans k2⟩

/-- The row of a row of lists is the call's own. -/
def LOwn (B : Nat) (w : World) (r : Value) (L : List (List Int)) : Prop := ∃ C b vals, B ≤ C ∧ LRow w C b r L vals

set_option maxRecDepth 20000 in
set_option maxHeartbeats 8000000 in
theorem without_own {w : World} {N : Nat} {v u : Value} {es : List E} {xs : List Int} (h : EdgesAt w v es) (hx : IntsAt w u xs) (hr : rightB (N : Int) es = true) (hT : Tab w) :
    Calls Tryd.prog 43 #[gv N v, u] w fun e w' => ∃ r L, e = .returned r ∧ ListsAt w' r L ∧ IsPieces es (Alive N xs) L ∧ Kept [] w w' ∧ FreshL w.heap.size w' r L ∧ LOwn w.heap.size w' r L := by
  obtain ⟨i, hi, hz0, hz1, hz2⟩ := info_parts infoInts
  obtain ⟨ao, cap, rfl, _⟩ := h.shape
  have KB := (Kept.refl [] w).alloc (.cells #[.int .i64 (N : Int), .slice ao es.length cap] 24)
  have HR := hide (restOf_yes (h.kept KB) (hx.kept KB) hr (hT.kept KB (by simp)))
  obtain ⟨_, hN, _, _, hok⟩ := right_rise hr
  have HOK := hide hok
  have HT := hide hT
  have HAB := hide (show ∀ x, Alive (N : Int) xs x → 0 ≤ x ∧ x < (N : Int) from fun x hx => hx.1)
  clear h hx hr hok hT
  go_enter Tryd.func43, Tryd.ntmps43
  go_wp2_with fail
  refine (unhide HR).mono ?_
  rintro e w1 ⟨q, g, s, b, m, d, ws, rfl, R1, hbw, hH, k1⟩
  have hbw' : w.heap.size < b := by have := hbw; simp at this; omega
  have HK1 := hide (KB.trans k1)
  have hb1 : b < w1.heap.size := R1.set.bl
  have HTK := hide (Taken.start (es := es) (S := Alive (N : Int) xs))
  have HNX := hide (next_any R1 (unhide HOK) ((unhide HT).kept (unhide HK1) (by simp)))
  have HTE := hide (show ∀ x, Has ws x ↔ Alive (N : Int) xs x from hH)
  have HR1 := hide R1
  have HT1 := hide ((unhide HT).kept (unhide HK1) (by simp))
  have htb := R1.set.b0
  clear R1 hH k1 KB hbw
  go_wp2_with fail
  refine (unhide HNX).mono ?_
  rintro e w2 ⟨pv, l, ws', rfl, hpv, hfr, R2, k2, hcase⟩
  obtain ⟨po, pc, rfl, hlm, _⟩ := hpv.shape
  have HST := hide (show ∃ T : Int → Prop, Taken es (Alive (N : Int) xs) T [] ∧ ((l = [] ∧ ∀ x, ¬ T x) ∨ ∃ v, T v ∧ (∀ x, T x → v ≤ x) ∧ l.Pairwise (· < ·) ∧ (∀ y, y ∈ l ↔ Reach es T v y) ∧ ∀ y, Has ws' y ↔ T y ∧ y ∉ l) from
    ⟨Has ws, by
      have he : Has ws = Alive (N : Int) xs := funext fun x => propext (unhide HTE x)
      rw [he]; exact unhide HTK, hcase⟩)
  have HPV := hide hpv
  have HFP := hide (show 0 < l.length → ∃ a, po = some a ∧ a.block ≠ b ∧ a.block < w2.heap.size ∧ w1.heap.size ≤ a.block from fun h0 => by
    obtain ⟨_, _, hv, _, hin⟩ := hpv.shape
    obtain ⟨gg, oo, he, hcc⟩ := hin h0
    have e2 : po = some ⟨gg, oo, none⟩ := by simp at hv; rw [hv.1, he]
    have hfr2 := hfr ⟨gg, oo, none⟩ l.length pc (by rw [e2])
    exact ⟨_, e2, by simp only at hfr2 ⊢; omega, lt_of_cell (hcc 0 h0), hfr2⟩)
  have HS2 := hide R2.set
  have HK2 := hide k2
  have HL0 := hide (LRow.start w2 w1.heap.size b)
  clear hpv hfr R2 k2 hcase
  go_wp2
  go_loopw [5, 7] (fun lv pv wr => ∃ (L : List (List Int)) (vals : List Value) (l : List Int) (ws' : Nat → Nat) (T : Int → Prop) (lo po : Option Addr) (lc pc : Nat), lv = .slice lo L.length lc ∧ pv = .slice po l.length pc ∧ LRow wr w1.heap.size b lv L vals ∧ l.length ≤ maxLen ∧
      Hid (SetAt wr s b N m d ws' ∧ Kept [b] w1 wr ∧ Taken es (Alive (N : Int) xs) T L ∧ ((l = [] ∧ ∀ x, ¬ T x) ∨ ∃ v, T v ∧ (∀ x, T x → v ≤ x) ∧ l.Pairwise (· < ·) ∧ (∀ y, y ∈ l ↔ Reach es T v y) ∧ ∀ y, Has ws' y ↔ T y ∧ y ∉ l) ∧ IntsAt wr pv l ∧ (0 < l.length → ∃ a, po = some a ∧ a.block ≠ b ∧ a.block < wr.heap.size ∧ lv.ownBlock ≠ some a.block ∧ w1.heap.size ≤ a.block))) (fun lv _ _ => N + 1 - lenV lv)
  case atStart =>
    obtain ⟨T, h1, h2⟩ := unhide HST
    exact ⟨[], [], l, ws', T, none, po, 0, pc, rfl, rfl, unhide HL0, hlm, unhide HS2, unhide HK2, h1, h2, unhide HPV, fun h0 => by
      obtain ⟨a, e1, e2, e3, e4⟩ := unhide HFP h0
      exact ⟨a, e1, e2, e3, by simp [Value.ownBlock], e4⟩⟩
  case round =>
    obtain ⟨L, vals, l2, ws2, T, lo, po2, lc, pc2, rfl, rfl, hrow, hlm2, hh⟩ := hrel
    have hLN := (unhide hh).2.2.1.len (unhide HAB)
    by_cases hl0 : 0 < (l2.length : Int)
    · obtain ⟨pa, rfl, hpb, hpl, hpo, hpB⟩ := (unhide hh).2.2.2.2.2 (by omega)
      have hown := hrow.own
      have HROW := hide hrow
      have hws : w1.heap.size ≤ wr.heap.size := (unhide hh).2.1.size
      clear hrow
      go_wp2_with (first | (at_builtin; refine wpList_append_own_at _ rfl (.tmp 19) (.tmp 21) 27 rfl w1.heap.size 25 i (.slice none 0 0) 1 24 Tryd.underlying27 hi hz0 hz1 hz2 rfl (by decide) _ _ _ rfl (hown.alloc _) _ 1 _ [.slice (some pa) l2.length pc2] rfl rfl (one_cell' _ _ _ (by simp)) (by simp [Value.oneCell']) (by unfold maxLen; omega) (by omega) (by simp; omega) ?_; intro v' w4 own4 g4 _ hat))
      have g5 : (wr.alloc (.cells #[.slice (some pa) l2.length pc2] 25)).grownBy w4 (Value.slice lo L.length lc).ownBlock := g4
      have hat5 : v'.ownBlock = (Value.slice lo L.length lc).ownBlock ∨ v'.ownBlock = some (wr.heap.size + 1) := by
        rcases hat with h | h
        · exact Or.inl h
        · exact Or.inr (by rw [h]; simp)
      have hob := own_block hown
      have KG : Kept (Value.slice lo L.length lc).ownBlock.toList wr w4 := (((Kept.refl [] wr).alloc _).mono (by simp)).trans (grown_kept g5)
      have HR4 := hide ((unhide HROW).push (unhide hh).2.2.2.2.1 hpb hpo hpl hpB own4 g5 hat5)
      have hsl1 : s < w1.heap.size := (unhide HR1).set.sl
      have HS4 := hide ((unhide hh).1.kept KG (fun hm => by have := hob s (by simpa using hm); omega) (fun hm => by have := hob b (by simpa using hm); omega))
      have HK4 := hide ((unhide hh).2.1.trans' KG (fun k hk => Or.inr (hob k (by simpa using hk))))
      have HNX4 := hide (next_any ((unhide HR1).wrote (unhide HK4) (unhide HS4)) (unhide HOK) ((unhide HT1).kept (unhide HK4) (by simpa using htb.symm)))
      have HTN := hide (show Taken es (Alive (N : Int) xs) (Has ws2) (L ++ [l2]) by
        rcases (unhide hh).2.2.2.1 with ⟨h1, _⟩ | ⟨v, h1, h2, h3, h4, h5⟩
        · rw [h1] at hl0; simp at hl0
        · exact (unhide hh).2.2.1.next h1 h2 h3 h4 h5)
      obtain ⟨lo5, lc5, hv5⟩ : ∃ lo5 lc5, v' = .slice lo5 (L ++ [l2]).length lc5 := by
        rcases own4.2 with ⟨_, h0⟩ | ⟨g', cap', cur, hv, _⟩
        · omega
        · exact ⟨some ⟨g', 0, none⟩, cap', by rw [hv]; simp⟩
      have hvl : ∀ k, v'.ownBlock = some k → k < w4.heap.size := own_lt own4
      have HVL := hide hvl
      have HV5 := hide hv5
      clear g4 g5 hat hat5 hob KG own4 hvl hv5 hown
      refine (unhide HNX4).mono ?_
      rintro e w5 ⟨pv5, l5, ws5, rfl, hpv5, hfr5, R5, k5, hcase5⟩
      obtain ⟨po5, pc5, rfl, hlm5, _⟩ := hpv5.shape
      have HFP5 := hide (show 0 < l5.length → ∃ a, po5 = some a ∧ a.block ≠ b ∧ a.block < w5.heap.size ∧ v'.ownBlock ≠ some a.block ∧ w1.heap.size ≤ a.block from fun h0 => by
        obtain ⟨_, _, hv, _, hin⟩ := hpv5.shape
        obtain ⟨gg, oo, he, hcc⟩ := hin h0
        have e2 : po5 = some ⟨gg, oo, none⟩ := by simp at hv; rw [hv.1, he]
        have hfr2 := hfr5 ⟨gg, oo, none⟩ l5.length pc5 (by rw [e2])
        have hsz := (unhide HK4).size
        refine ⟨_, e2, by simp only at hfr2 ⊢; omega, lt_of_cell (hcc 0 h0), fun e => ?_, by simp only at hfr2 ⊢; omega⟩
        have := unhide HVL _ e
        simp only at hfr2 this
        omega)
      have HL5 := hide ((unhide HR4).kept k5 hb1)
      have HE := hide (And.intro R5.set (And.intro ((unhide HK4).trans k5) (And.intro (unhide HTN) (And.intro hcase5 hpv5))))
      clear hpv5 hfr5 R5 k5 hcase5
      go_wp2
      go_roundw
      case rel => exact ⟨L ++ [l2], _, l5, ws5, Has ws2, lo5, po5, lc5, pc5, unhide HV5, rfl, unhide HL5, hlm5, (unhide HE).1, (unhide HE).2.1, (unhide HE).2.2.1, (unhide HE).2.2.2.1, (unhide HE).2.2.2.2, unhide HFP5⟩
      case measure =>
        have e5 := unhide HV5
        subst e5
        simp [lenV]; omega
    · have HFIN := hide (show IsPieces es (Alive (N : Int) xs) L from (unhide hh).2.2.1.done (by
        rcases (unhide hh).2.2.2.1 with ⟨_, h2⟩ | ⟨v, h1, _, _, h4, _⟩
        · exact h2
        · have : v ∈ l2 := (h4 v).2 (.refl h1)
          have := List.length_pos_of_mem this
          omega))
      have HLS := hide hrow.lists
      have HFL := hide (show FreshL w.heap.size wr (.slice lo L.length lc) L from fun a n c e h0 => by
        have hs := (unhide HK1).size
        obtain ⟨h1, h2⟩ := hrow.freshL a n c e h0
        exact ⟨by omega, fun i hi => by obtain ⟨u, h3, h4⟩ := h2 i hi; exact ⟨u, h3, fun a' n' c' e' => by have := h4 a' n' c' e'; omega⟩⟩)
      have HLO := hide (show LOwn w.heap.size wr (.slice lo L.length lc) L from ⟨_, b, vals, (unhide HK1).size, hrow⟩)
      have HKF := hide ((unhide HK1).trans' (unhide hh).2.1 (fun k hk => by simp at hk; subst hk; exact Or.inr (by omega)))
      clear hrow
      go_wp2
      go_ret
      exact ⟨_, rfl, L, unhide HLS, unhide HFIN, unhide HKF, unhide HFL, unhide HLO⟩
theorem without_yes' {w : World} {N : Nat} {v u : Value} {es : List E} {xs : List Int} (h : EdgesAt w v es) (hx : IntsAt w u xs) (hr : rightB (N : Int) es = true) (hT : Tab w) :
    Calls Tryd.prog 43 #[gv N v, u] w fun e w' => ∃ r L, e = .returned r ∧ ListsAt w' r L ∧ IsPieces es (Alive N xs) L ∧ Kept [] w w' ∧ FreshL w.heap.size w' r L :=
  (without_own h hx hr hT).mono fun _ _ ⟨r, L, h1, h2, h3, h4, h5, _⟩ => ⟨r, L, h1, h2, h3, h4, h5⟩
theorem without_yes {w : World} {N : Nat} {v u : Value} {es : List E} {xs : List Int} (h : EdgesAt w v es) (hx : IntsAt w u xs) (hr : rightB (N : Int) es = true) (hT : Tab w) :
    Calls Tryd.prog 43 #[gv N v, u] w fun e w' => ∃ r L, e = .returned r ∧ ListsAt w' r L ∧ IsPieces es (Alive N xs) L ∧ Kept [] w w' :=
  (without_yes' h hx hr hT).mono fun _ _ ⟨r, L, h1, h2, h3, h4, _⟩ => ⟨r, L, h1, h2, h3, h4⟩
/-- Without. -/
theorem without_any {w : World} {n : Int} {v u : Value} {es : List E} {xs : List Int} (h : EdgesAt w v es) (hx : IntsAt w u xs) (hT : Tab w) :
    Calls Tryd.prog 43 #[gv n v, u] w fun e w' => ∃ r L, e = .returned r ∧ ListsAt w' r L ∧ (rightB n es = true → IsPieces es (Alive n xs) L) ∧ (rightB n es = false → L = []) ∧ Kept [] w w' := by
  cases hr : rightB n es
  · refine (without_no h hr).mono ?_
    rintro e w' ⟨rfl, k⟩
    exact ⟨_, [], rfl, ListsAt.nil _ _ _, (fun h => by cases h), fun _ => rfl, k⟩
  · obtain ⟨N, rfl⟩ := Int.eq_ofNat_of_zero_le (right_rise hr).1
    refine (without_yes h hx hr hT).mono ?_
    rintro e w' ⟨r, L, rfl, h1, h2, h3⟩
    exact ⟨r, L, rfl, h1, fun _ => h2, (fun h => by cases h), h3⟩
end Go.Proofs.YtgeanbjidpapjaaDoor

namespace Go.Proofs.YtgeanbjidpapjaaDoor
open Go.RowKit

/-- What Without tells of a graph. -/
def Pieces (n : Int) (es : List E) (xs : List Int) (L : List (List Int)) : Prop := (rightB n es = true → IsPieces es (Alive n xs) L) ∧ (rightB n es = false → L = [])
theorem Pieces.unique {n : Int} {es : List E} {xs : List Int} {L M : List (List Int)} (h : Pieces n es xs L) (k : Pieces n es xs M) : L = M := by
  cases hr : rightB n es
  · rw [h.2 hr, k.2 hr]
  · exact (h.1 hr).unique (k.1 hr)
theorem Pieces.len {n : Int} {es : List E} {xs : List Int} {L : List (List Int)} (h : Pieces n es xs L) : L.length ≤ 4096 := by
  cases hr : rightB n es
  · rw [h.2 hr]; simp
  · obtain ⟨N, rfl⟩ := Int.eq_ofNat_of_zero_le (right_rise hr).1
    have h1 := h.1 hr
    have hN := (right_rise hr).2.1
    have := (Taken.len (N := N) (T := fun _ => False) (S := Alive (N : Int) xs) (es := es) (L := L) ⟨h1.rise, h1.ne, h1.cls, h1.heads, fun x => ⟨fun f => f.elim, fun ⟨hx, hn⟩ => by obtain ⟨l, hl, hm⟩ := h1.all x hx; exact hn l hl hm⟩, fun _ _ _ f => f.elim⟩ (fun x hx => hx.1))
    omega
/-- How many have an odd number. -/
def oddL (L : List (List Int)) : Nat := (L.map fun l => l.length % 2).sum
theorem oddL_le (L : List (List Int)) : oddL L ≤ L.length := by
  induction L with
  | nil => simp [oddL]
  | cons l r ih => unfold oddL at *; simp only [List.map_cons, List.sum_cons, List.length_cons]; omega
theorem oddL_step {L : List (List Int)} {k : Nat} (h : k < L.length) : oddL (L.take (k + 1)) = oddL (L.take k) + (L.getD k []).length % 2 := by
  have e : L.getD k [] = L[k] := by simp [List.getD, h]
  unfold oddL
  rw [List.take_succ_eq_append_getElem h, e]
  simp only [List.map_append, List.sum_append, List.map_cons, List.map_nil, List.sum_cons, List.sum_nil, Nat.add_zero]

set_option maxRecDepth 20000 in
set_option maxHeartbeats 4000000 in
theorem all_fresh {w : World} {N : Nat} {v : Value} {es : List E} (h : EdgesAt w v es) (hr : rightB (N : Int) es = true) (hT : Tab w) :
    Calls Tryd.prog 25 #[gv N v] w fun e w' => ∃ r L, e = .returned r ∧ ListsAt w' r L ∧ IsPieces es (Alive N []) L ∧ Kept [] w w' ∧ FreshL w.heap.size w' r L := by
  obtain ⟨ao, cap, rfl, _⟩ := h.shape
  have KB := (Kept.refl [] w).alloc (.cells #[.int .i64 (N : Int), .slice ao es.length cap] 24)
  have HW := hide (without_yes' (N := N) (h.kept KB) (u := .slice none 0 0) (xs := []) ⟨none, 0, rfl, Nat.le_refl _, Nat.zero_le _, fun h => by simp at h⟩ hr (hT.kept KB (by simp)))
  have HK := hide KB
  clear h hT KB
  go_enter Tryd.func25, Tryd.ntmps25
  go_wp2_with fail
  refine (unhide HW).mono ?_
  rintro e w1 ⟨r, L, rfl, hl, h1, k1, hfl⟩
  have HP := hide (show ∃ r' L, Ending.returned r = .returned r' ∧ ListsAt w1 r' L ∧ IsPieces es (Alive N []) L ∧ Kept [] w w1 ∧ FreshL w.heap.size w1 r' L from ⟨r, L, rfl, hl, h1, (unhide HK).trans k1, fun a n c e h0 => by
    obtain ⟨h1, h2⟩ := hfl a n c e h0
    have hs := (unhide HK).size
    exact ⟨by omega, fun i hi => by obtain ⟨u, h3, h4⟩ := h2 i hi; exact ⟨u, h3, fun a' n' c' e' => by have := h4 a' n' c' e'; omega⟩⟩⟩)
  obtain ⟨ro, rc, rfl, _⟩ := hl.shape
  clear hl h1 k1 hfl
  go_wp2
  go_ret
  exact unhide HP

set_option maxRecDepth 20000 in
set_option maxHeartbeats 4000000 in
theorem all_own {w : World} {N : Nat} {v : Value} {es : List E} (h : EdgesAt w v es) (hr : rightB (N : Int) es = true) (hT : Tab w) :
    Calls Tryd.prog 25 #[gv N v] w fun e w' => ∃ r L, e = .returned r ∧ ListsAt w' r L ∧ IsPieces es (Alive N []) L ∧ Kept [] w w' ∧ LOwn w.heap.size w' r L := by
  obtain ⟨ao, cap, rfl, _⟩ := h.shape
  have KB := (Kept.refl [] w).alloc (.cells #[.int .i64 (N : Int), .slice ao es.length cap] 24)
  have HW := hide (without_own (N := N) (h.kept KB) (u := .slice none 0 0) (xs := []) ⟨none, 0, rfl, Nat.le_refl _, Nat.zero_le _, fun h => by simp at h⟩ hr (hT.kept KB (by simp)))
  have HK := hide KB
  clear h hT KB
  go_enter Tryd.func25, Tryd.ntmps25
  go_wp2_with fail
  refine (unhide HW).mono ?_
  rintro e w1 ⟨r, L, rfl, hl, h1, k1, _, hlo⟩
  have HP := hide (show ∃ r' L, Ending.returned r = .returned r' ∧ ListsAt w1 r' L ∧ IsPieces es (Alive N []) L ∧ Kept [] w w1 ∧ LOwn w.heap.size w1 r' L from ⟨r, L, rfl, hl, h1, (unhide HK).trans k1, by
    obtain ⟨C, b, vals, hC, hrow⟩ := hlo
    have hs := (unhide HK).size
    exact ⟨C, b, vals, by omega, hrow⟩⟩)
  obtain ⟨ro, rc, rfl, _⟩ := hl.shape
  clear hl h1 k1 hlo
  go_wp2
  go_ret
  exact unhide HP

set_option maxRecDepth 20000 in
set_option maxHeartbeats 4000000 in
theorem all_any {w : World} {n : Int} {v : Value} {es : List E} (h : EdgesAt w v es) (hT : Tab w) :
    Calls Tryd.prog 25 #[gv n v] w fun e w' => ∃ r L, e = .returned r ∧ ListsAt w' r L ∧ Pieces n es [] L ∧ Kept [] w w' := by
  obtain ⟨ao, cap, rfl, _⟩ := h.shape
  have KB := (Kept.refl [] w).alloc (.cells #[.int .i64 n, .slice ao es.length cap] 24)
  have HW := hide (without_any (n := n) (h.kept KB) (u := .slice none 0 0) (xs := []) ⟨none, 0, rfl, Nat.le_refl _, Nat.zero_le _, fun h => by simp at h⟩ (hT.kept KB (by simp)))
  have HK := hide KB
  clear h hT KB
  go_enter Tryd.func25, Tryd.ntmps25
  go_wp2_with fail
  refine (unhide HW).mono ?_
  rintro e w1 ⟨r, L, rfl, hl, h1, h2, k1⟩
  have HP := hide (show ∃ r' L, Ending.returned r = .returned r' ∧ ListsAt w1 r' L ∧ Pieces n es [] L ∧ Kept [] w w1 from ⟨r, L, rfl, hl, ⟨h1, h2⟩, (unhide HK).trans k1⟩)
  obtain ⟨ro, rc, rfl, _⟩ := hl.shape
  clear hl h1 h2 k1
  go_wp2
  go_ret
  exact unhide HP

end Go.Proofs.YtgeanbjidpapjaaDoor

namespace Go.Proofs.YtgeanbjidpapjaaDoor
open Go.RowKit

/-- A list with what it holds. -/
abbrev VL := Value × List Int
def aloneB (x : VL) : Bool := decide (x.2.length = 1)
/-- A row of lists, cell by cell. -/
def LCells (w : World) (g : Nat) (P : List VL) : Prop := ∀ (i : Nat) u l, P[i]? = some (u, l) → w.cell? ⟨g, i, none⟩ = some u ∧ IntsAt w u l
def IdxG (q : VL → Bool) (P : List VL) (r : Int) : Prop := (r = -1 ∧ ∀ (i : Nat) x, P[i]? = some x → q x = false) ∨ ∃ (k : Nat) (x : VL), r = (k : Int) ∧ P[k]? = some x ∧ q x = true ∧ ∀ (i : Nat) y, i < k → P[i]? = some y → q y = false
theorem LCells.kept {w w' : World} {g : Nat} {P : List VL} (h : LCells w g P) (k : Kept [] w w') : LCells w' g P := fun i u l hp => ⟨kept_cell (h i u l hp).1 k, (h i u l hp).2.kept k⟩

set_option maxRecDepth 20000 in
set_option maxHeartbeats 4000000 in
theorem walone_any (w : World) (ao : Option Addr) (cap : Nat) (l : List Int) (hl : l.length ≤ maxLen) : Calls Tryd.prog 27 #[.slice ao l.length cap] w fun e w' => e = .returned (.bool (decide (l.length = 1))) ∧ w' = w := by
  unfold maxLen at hl
  have hm' : (l.length : Int) ≤ 9223372036854775807 := by omega
  have hb : (((l.length : Nat) : Int) == 1) = decide (l.length = 1) := by
    by_cases h : l.length = 1
    · rw [decide_eq_true h]; exact beq_iff_eq.2 (by omega)
    · rw [decide_eq_false h]; exact beq_eq_false_iff_ne.2 (by omega)
  go_enter Tryd.func27, Tryd.ntmps27
  go_wp2
  go_ret
  exact ⟨rfl, rfl⟩

set_option maxRecDepth 20000 in
set_option maxHeartbeats 4000000 in
theorem indexFL_any {w : World} {g cap : Nat} {P : List VL} (h : LCells w g P) (hl : P.length ≤ maxLen) :
    Calls Tryd.prog 44 #[.slice (some ⟨g, 0, none⟩) P.length cap, .func (.func 27) #[] #[]] w fun e w' => ∃ r, e = .returned (.int .i64 r) ∧ IdxG aloneB P r ∧ w' = w := by
  have HX := hide h
  unfold maxLen at hl
  have hm' : (P.length : Int) ≤ 9223372036854775807 := by omega
  clear h hl
  go_enter Tryd.func44, Tryd.ntmps44
  go_wp2
  go_loopw [5, 8] (fun _ vv wr => ∃ k : Nat, k ≤ P.length ∧ vv = .int .i64 k ∧ wr = w ∧ Hid (∀ (i : Nat) x, i < k → P[i]? = some x → aloneB x = false)) (fun _ vv _ => P.length - (intOf vv).toNat)
  case atStart => exact ⟨0, Nat.zero_le _, rfl, rfl, fun i x hi => by omega⟩
  case round =>
    obtain ⟨k, hk, rfl, rfl, hh⟩ := hrel
    by_cases hlt : k < P.length
    · obtain ⟨u, l, hp⟩ : ∃ u l, P[k]? = some (u, l) := ⟨P[k].1, P[k].2, List.getElem?_eq_getElem hlt⟩
      obtain ⟨a0, hu⟩ := (unhide HX) k u l hp
      obtain ⟨uo, uc, rfl, hum, _⟩ := hu.shape
      have HC := walone_any wr uo uc l hum
      have HYES := hide (show decide (l.length = 1) = true → IdxG aloneB P (k : Int) from fun hc => Or.inr ⟨k, _, rfl, hp, hc, unhide hh⟩)
      have HNO := hide (show decide (l.length = 1) = false → ∀ (i : Nat) x, i < k + 1 → P[i]? = some x → aloneB x = false from fun hc i x hi hx => by
        by_cases e : i = k
        · subst e; rw [hp] at hx; cases hx; exact hc
        · exact unhide hh i x (by omega) hx)
      have t0 : (0 : Int) ≤ (k : Int) := by omega
      have t1 : (k : Int) < (P.length : Int) := by omega
      have a0' : wr.cell? ⟨g, 0 + k, none⟩ = some (.slice uo l.length uc) := by rw [Nat.zero_add]; exact a0
      clear hh hp hu HX
      generalize decide (l.length = 1) = C at *
      cases C
      · have HN := hide (unhide HNO rfl)
        replace HC := hide HC
        clear HNO HYES hum
        generalize l.length = m at *
        go_wp2_with fail
        refine (unhide HC).mono ?_
        rintro e w3 ⟨rfl, rfl⟩
        go_wp2
        go_roundw
        case rel => exact ⟨k + 1, by omega, by go_num, by first | rfl | trivial, unhide HN⟩
        case measure => simp [intOf]; omega
      · have HY := hide (unhide HYES rfl)
        replace HC := hide HC
        clear HNO HYES hum
        generalize l.length = m at *
        go_wp2_with fail
        refine (unhide HC).mono ?_
        rintro e w3 ⟨rfl, rfl⟩
        go_wp2
        go_ret
        exact ⟨_, rfl, unhide HY, rfl⟩
    · have e : k = P.length := by omega
      have HF := hide (show IdxG aloneB P (-1) from Or.inl ⟨rfl, fun i x hx => unhide hh i x (by have := (List.getElem?_eq_some_iff.1 hx).1; omega) hx⟩)
      clear hh HX
      subst e
      go_wp2
      go_ret
      exact ⟨_, rfl, unhide HF, rfl⟩

/-- A row whose lists are the call's own, cell by cell. -/
theorem LOwn.cells {B : Nat} {w : World} {r : Value} {L : List (List Int)} (h : LOwn B w r L) : (L = [] ∧ ∃ ao cap, r = .slice ao 0 cap) ∨ ∃ g cap P, r = .slice (some ⟨g, 0, none⟩) P.length cap ∧ P.map Prod.snd = L ∧ P.length ≤ cap ∧ P.length ≤ maxLen ∧ B ≤ g ∧ g < w.heap.size ∧ LCells w g P ∧ (∀ (i : Nat) u l, P[i]? = some (u, l) → ∃ a n c, u = .slice (some a) n c ∧ a.block ≠ g) ∧ ∀ i, w.frozen? ⟨g, i, none⟩ = false := by
  obtain ⟨C, b, vals, hC, hrow⟩ := h
  obtain ⟨hlen, h2⟩ := hrow.own
  rw [Nat.mul_one] at hlen
  rcases h2 with ⟨rfl, h0⟩ | ⟨g, cap, cur, rfl, h3, h4, h5, h6, h7, h8⟩
  · left
    have : L = [] := List.eq_nil_of_length_eq_zero (by omega)
    subst this
    exact ⟨rfl, none, 0, rfl⟩
  · right
    have hg : g < w.heap.size := by
      rcases Nat.lt_or_ge g w.heap.size with hb | hb
      · exact hb
      · rw [Array.getElem?_eq_none (by omega)] at h4; simp at h4
    have hpl : (vals.zip L).length = L.length := by rw [List.length_zip]; omega
    have hat : ∀ (i : Nat) u l, (vals.zip L)[i]? = some (u, l) → vals[i]? = some u ∧ L.getD i [] = l := fun i u l hp => by
      rw [List.getElem?_zip_eq_some] at hp
      exact ⟨hp.1, by rw [List.getD, hp.2]; rfl⟩
    refine ⟨g, cap, vals.zip L, by rw [hpl], ?_, by rw [hpl]; exact h5, by rw [hpl]; omega, by omega, hg, fun i u l hp => ?_, fun i u l hp => ?_, fun i => frozen_of_heap h4⟩
    · rw [List.map_snd_zip]; omega
    · obtain ⟨e1, e2⟩ := hat i u l hp
      have hi := (List.getElem?_eq_some_iff.1 e1).1
      refine ⟨?_, by rw [← e2]; exact (hrow.each i u e1).1⟩
      rw [cell_of_heap h4]
      have : cur[i]? = (cur.toList.take (L.length * 1))[i]? := by
        rw [List.getElem?_take, if_pos (by omega)]; simp
      rw [this, h8, e1]
    · obtain ⟨e1, _⟩ := hat i u l hp
      obtain ⟨_, a, n, c, hu, _, hob, _⟩ := hrow.each i u e1
      exact ⟨a, n, c, hu, fun e => hob (by rw [e]; rfl)⟩

theorem LCells.set {w : World} {g : Nat} {P : List VL} (h : LCells w g P) (hn : ∀ (i : Nat) u l, P[i]? = some (u, l) → ∃ a n c, u = .slice (some a) n c ∧ a.block ≠ g) {i j : Nat} {u : Value} {l : List Int} (hi : i < P.length) (hj : P[j]? = some (u, l)) : LCells (w.setCell ⟨g, i, none⟩ u) g (P.set i (u, l)) := fun t v m ht => by
  have kg : Kept [g] w (w.setCell ⟨g, i, none⟩ u) := (Kept.refl [g] w).setCell (Or.inl (by simp)) _
  by_cases e : t = i
  · subst e
    rw [List.getElem?_set_self hi] at ht
    cases ht
    obtain ⟨a, n, c, rfl, ha⟩ := hn j _ _ hj
    obtain ⟨⟨u0, l0⟩, h0⟩ : ∃ x, P[t]? = some x := ⟨_, List.getElem?_eq_getElem hi⟩
    exact ⟨cell_set_eq (h t u0 l0 h0).1, (h j _ _ hj).2.keptAt kg (fun a' n' c' e => by cases e; simpa using ha)⟩
  · rw [List.getElem?_set_ne (Ne.symm e)] at ht
    obtain ⟨a, n, c, rfl, ha⟩ := hn t _ _ ht
    obtain ⟨h1, h2⟩ := h t _ _ ht
    exact ⟨by rw [cell_set_off e]; exact h1, h2.keptAt kg (fun a' n' c' e => by cases e; simpa using ha)⟩
theorem mem_set_q {P : List VL} {i : Nat} {x : VL} {Q : VL → Prop} (h : ∀ (t : Nat) y, P[t]? = some y → Q y) (hx : Q x) : ∀ (t : Nat) y, (P.set i x)[t]? = some y → Q y := fun t y ht => by
  by_cases e : t = i
  · subst e
    have hl := (List.getElem?_eq_some_iff.1 ht).1
    rw [List.length_set] at hl
    rw [List.getElem?_set_self hl] at ht
    cases ht; exact hx
  · rw [List.getElem?_set_ne (Ne.symm e)] at ht
    exact h t y ht

set_option maxRecDepth 20000 in
set_option maxHeartbeats 4000000 in
theorem indexFL_nil (w : World) (ao : Option Addr) (cap : Nat) : Calls Tryd.prog 44 #[.slice ao 0 cap, .func (.func 27) #[] #[]] w fun e w' => e = .returned (.int .i64 (-1)) ∧ w' = w := by
  go_enter Tryd.func44, Tryd.ntmps44
  go_wp2
  go_loopw [5, 8] (fun _ vv wr => vv = .int .i64 0 ∧ wr = w) (fun _ _ _ => 0)
  case atStart => exact ⟨rfl, rfl⟩
  case round =>
    obtain ⟨rfl, rfl⟩ := hrel
    go_wp2
    go_ret
    exact ⟨rfl, by first | rfl | trivial⟩

set_option maxRecDepth 20000 in
set_option maxHeartbeats 8000000 in
theorem delL_any {w0 w : World} {r : Value} {L : List (List Int)} (k0 : Kept [] w0 w) (h : LOwn w0.heap.size w r L) :
    Calls Tryd.prog 26 #[r, .func (.func 27) #[] #[]] w fun e w' => ∃ r', e = .returned r' ∧ ListsAt w' r' (L.filter fun l => !decide (l.length = 1)) ∧ Kept [] w0 w' := by
  have HK0 := hide k0
  rcases h.cells with ⟨rfl, ao, cap, rfl⟩ | ⟨g, cap, P, rfl, hPL, hcap, hmax, hBg, hg, hC, hN, hfz⟩
  · have HI := hide (indexFL_nil w ao cap)
    clear h k0
    rw [List.filter_nil]
    go_enter Tryd.func26, Tryd.ntmps26
    go_wp2_with fail
    refine (unhide HI).mono ?_
    rintro e w1 ⟨rfl, rfl⟩
    go_wp2
    go_ret
    exact ⟨_, rfl, ListsAt.nil _ _ _, unhide HK0⟩
  · have HI := hide (indexFL_any (cap := cap) hC hmax)
    have HM := hide hmax
    unfold maxLen at hmax
    have hm' : (P.length : Int) ≤ 9223372036854775807 := by omega
    have hc' : (P.length : Int) ≤ (cap : Int) := by omega
    have HOUT := hide (show (L.filter fun l => !decide (l.length = 1)) = (P.filter fun x => !aloneB x).map Prod.snd from by
      rw [← hPL, List.filter_map]; rfl)
    clear k0 h
    generalize (L.filter fun l => !decide (l.length = 1)) = OUT at *
    clear hPL hmax hcap
    go_enter Tryd.func26, Tryd.ntmps26
    go_wp2_with fail
    refine (unhide HI).mono ?_
    rintro e w1 ⟨r, rfl, hi, rfl⟩
    rcases hi with ⟨rfl, hn⟩ | ⟨k, x, rfl, hk, hq, hn⟩
    · have HF := hide (show ListsAt w1 (.slice (some ⟨g, 0, none⟩) P.length cap) OUT from by
        have : (P.filter fun x => !aloneB x) = P := by
          rw [List.filter_eq_self]
          intro y hy
          obtain ⟨i, hi, rfl⟩ := List.getElem_of_mem hy
          rw [hn i _ (List.getElem?_eq_getElem hi)]; rfl
        rw [unhide HOUT, this]
        refine ⟨some ⟨g, 0, none⟩, cap, by rw [List.length_map], by rw [List.length_map]; omega, by rw [List.length_map]; exact unhide HM, fun _ => ⟨g, 0, rfl, fun i hi => ?_⟩⟩
        rw [List.length_map] at hi
        have hp : P[i]? = some (P[i].1, P[i].2) := List.getElem?_eq_getElem hi
        obtain ⟨h1, h2⟩ := hC i _ _ hp
        refine ⟨_, by rw [Nat.zero_add]; exact h1, ?_⟩
        rw [List.getD, List.getElem?_map, hp]; exact h2)
      clear hn hC hN hfz
      go_wp2
      go_ret
      exact ⟨_, rfl, unhide HF, unhide HK0⟩
    · have hkl := (List.getElem?_eq_some_iff.1 hk).1
      have HD := hide (DelI.start hk hq hn)
      have HIN := hide (And.intro hC (And.intro hN hfz))
      have HG := hide hBg
      have hne : ((k : Int) == -1) = false := beq_eq_false_iff_ne.2 (by omega)
      have hk1 : ((k : Int)) + 1 ≤ (P.length : Int) := by omega
      have hwk : wrap64 ((k : Int) + 1) = ((k + 1 : Nat) : Int) := by rw [IntWalk.wrap64_in _ (by omega)]; omega
      have HWK := hide hwk
      clear hwk hn hq hk hBg hC hN hfz HI
      go_wp2
      go_loopw [5, 6, 7] (fun iv jv _ wr => ∃ (i j : Nat) (cur : List VL), j ≤ P.length ∧ i < j ∧ iv = .int .i64 i ∧ jv = .int .i64 j ∧ Hid (DelI aloneB P i j cur) ∧ Hid (LCells wr g cur ∧ (∀ (t : Nat) y, cur[t]? = some y → ∃ a n c, y.1 = .slice (some a) n c ∧ a.block ≠ g) ∧ (∀ i, wr.frozen? ⟨g, i, none⟩ = false) ∧ Kept [] w0 wr)) (fun _ jv _ _ => P.length - (intOf jv).toNat)
      case atStart => exact ⟨k, k + 1, P, by omega, by omega, rfl, by first | rw [unhide HWK] | go_num, unhide HD, (unhide HIN).1, fun t y ht => (unhide HIN).2.1 t y.1 y.2 ht, (unhide HIN).2.2, unhide HK0⟩
      case round =>
        obtain ⟨i, j, cur, hj, hij, rfl, rfl, hd, hh⟩ := hrel
        by_cases hlt : j < P.length
        · have hcl : cur.length = P.length := (unhide hd).len
          obtain ⟨⟨u, l⟩, hp⟩ : ∃ x, P[j]? = some x := ⟨_, List.getElem?_eq_getElem hlt⟩
          have hcj : cur[j]? = some (u, l) := by rw [(unhide hd).rest j (Nat.le_refl _)]; exact hp
          obtain ⟨⟨u0, l0⟩, hci⟩ : ∃ x, cur[i]? = some x := ⟨_, List.getElem?_eq_getElem (by omega)⟩
          obtain ⟨a0, hu⟩ := (unhide hh).1 j u l hcj
          obtain ⟨i0, _⟩ := (unhide hh).1 i u0 l0 hci
          obtain ⟨uo, uc, rfl, hum, _⟩ := hu.shape
          have f0 := (unhide hh).2.2.1 i
          have HC := walone_any wr uo uc l hum
          have HSK := hide (fun hq => (unhide hd).skip hp hq)
          have HKE := hide (fun hq => (unhide hd).keep hp hq)
          have HSET := hide (And.intro ((unhide hh).1.set (fun i u l ht => (unhide hh).2.1 i (u, l) ht) (i := i) (by omega) hcj) (mem_set_q (i := i) (unhide hh).2.1 ((unhide hh).2.1 j _ hcj)))
          have HSAME := hide (unhide hh)
          have hqe : aloneB (Value.slice uo l.length uc, l) = decide (l.length = 1) := rfl
          rw [hqe] at HSK HKE
          have t0 : (0 : Int) ≤ (i : Int) := by omega
          have t1 : (i : Int) < (P.length : Int) := by omega
          have t2 : (0 : Int) ≤ (j : Int) := by omega
          have t3 : (j : Int) < (P.length : Int) := by omega
          have a0' : wr.cell? ⟨g, 0 + j, none⟩ = some (.slice uo l.length uc) := by rw [Nat.zero_add]; exact a0
          clear hcl hp hcj hci hu hd hh hqe hum HIN HD
          generalize decide (l.length = 1) = C at *
          cases C
          · replace HC := hide HC
            have HN := hide (unhide HKE rfl)
            clear HSK HKE
            go_wp2_with fail
            refine (unhide HC).mono ?_
            rintro e w3 ⟨rfl, rfl⟩
            go_wp2
            go_roundw
            case rel =>
              have kg : Kept [g] w3 (w3.setCell ⟨g, i, none⟩ (.slice uo l.length uc)) := (Kept.refl [g] w3).setCell (Or.inl (by simp)) _
              exact ⟨i + 1, j + 1, _, by omega, by omega, by go_num, by go_num, unhide HN, (unhide HSET).1, (unhide HSET).2, fun z => by rw [frozen_set]; exact (unhide HSAME).2.2.1 z, (unhide HSAME).2.2.2.trans' kg (by intro z hz; simp at hz; have := unhide HG; omega)⟩
            case measure => simp [intOf]; omega
          · replace HC := hide HC
            have HN := hide (unhide HSK rfl)
            clear HSK HKE HSET
            go_wp2_with fail
            refine (unhide HC).mono ?_
            rintro e w3 ⟨rfl, rfl⟩
            go_wp2
            go_roundw
            case rel => exact ⟨i, j + 1, cur, by omega, by omega, rfl, by go_num, unhide HN, unhide HSAME⟩
            case measure => simp [intOf]; omega
        · have hje : j = P.length := by omega
          have hcl : cur.length = P.length := (unhide hd).len
          have hin := (unhide hh).1
          have hzc : (Value.slice none 0 0).cells = #[.slice none 0 0] := rfl
          have hzv : ∀ w, (zeroValue 25).run Tryd.prog w = .ok (.slice none 0 0) w := fun w => by kernel_rfl
          have hcells : ∀ t, t < (P.length - i) * 1 → (wr.cell? ⟨g, i + t, none⟩).isSome = true := fun t ht => by
            obtain ⟨⟨u, l⟩, hu⟩ : ∃ x, cur[i + t]? = some x := ⟨_, List.getElem?_eq_getElem (by omega)⟩
            rw [(hin _ u l hu).1]; rfl
          have hcl2 := fun ty => run_clear_wide (P := Tryd.prog) wr 27 25 ty (.slice none 0 0) Tryd.underlying27 hzv (by rw [hzc]; simp [Value.oneCell']) g i (P.length - i) (cap - i) (by omega) (by rw [hzc]; exact hcells) (fun t _ => (unhide hh).2.2.1 _)
          have kg : Kept [g] wr (wr.setCells g i (Builtin.zeroCells (Value.slice none 0 0).cells (P.length - i)).toList) := Kept.setCells (by simp) _ _ (Kept.refl [g] wr)
          have hfin : ListsAt (wr.setCells g i (Builtin.zeroCells (Value.slice none 0 0).cells (P.length - i)).toList) (.slice (some ⟨g, 0, none⟩) i cap) OUT := by
            have hout := (unhide hd).out hje
            have hil : (cur.take i).length = i := by rw [List.length_take]; omega
            have hmx : i ≤ maxLen := by have := unhide HM; omega
            rw [unhide HOUT, ← hout]
            refine ⟨some ⟨g, 0, none⟩, cap, by rw [List.length_map, hil], by rw [List.length_map, hil]; omega, by rw [List.length_map, hil]; exact hmx, fun _ => ⟨g, 0, rfl, fun s hs => ?_⟩⟩
            rw [List.length_map, hil] at hs
            obtain ⟨⟨u, l⟩, hu⟩ : ∃ x, cur[s]? = some x := ⟨_, List.getElem?_eq_getElem (by omega)⟩
            obtain ⟨h1, h2⟩ := hin s u l hu
            obtain ⟨a, n, c, e, ha⟩ := (unhide hh).2.1 s _ hu
            refine ⟨u, by rw [World.cell?_setCells_out g _ _ _ _ (fun _ _ => Or.inl (by simp; omega)), Nat.zero_add]; exact h1, ?_⟩
            rw [List.getD, List.getElem?_map, List.getElem?_take, if_pos hs, hu]
            exact h2.keptAt kg (fun a' n' c' e' => by rw [e'] at e; cases e; simpa using ha)
          have HF := hide (And.intro hfin (show Kept [] w0 (wr.setCells g i (Builtin.zeroCells (Value.slice none 0 0).cells (P.length - i)).toList) from (unhide hh).2.2.2.trans' kg (by intro z hz; simp at hz; have := unhide HG; omega)))
          have hci : ¬ cap = i := by omega
          have t0 : (0 : Int) ≤ (i : Int) := by omega
          have t1 : (i : Int) ≤ (P.length : Int) := by omega
          have t2 : (i : Int) ≤ (cap : Int) := by omega
          have hlt' : ¬ ((j : Int) < (P.length : Int)) := by omega
          clear hcells hzv hzc hin hcl hfin hd hh HIN HD hje kg
          go_wp2
          go_ret
          exact ⟨_, rfl, (unhide HF).1, (unhide HF).2⟩
end Go.Proofs.YtgeanbjidpapjaaDoor

namespace Go.Proofs.YtgeanbjidpapjaaDoor
open Go.RowKit

/-- Labels: -1 of who is out; else a vertex that is come to, none greater. -/
structure Lab (es : List E) (N : Nat) (xs : List Int) (f : Nat → Int) : Prop where
  out : ∀ v : Nat, v < N → (v : Int) ∈ xs → f v = -1
  low : ∀ v : Nat, v < N → (v : Int) ∉ xs → 0 ≤ f v ∧ f v ≤ (v : Int) ∧ Reach es (Alive (N : Int) xs) (f v) (v : Int)
theorem Lab.start {es : List E} {N : Nat} {xs : List Int} {f : Nat → Int} (h : ∀ v : Nat, v < N → f v = if (v : Int) ∈ xs then -1 else (v : Int)) : Lab es N xs f :=
  ⟨fun v hv hm => by rw [h v hv, if_pos hm], fun v hv hm => by
    rw [h v hv, if_neg hm]
    exact ⟨by omega, by omega, .refl ⟨⟨by omega, by omega⟩, hm⟩⟩⟩
theorem Lab.alive {es : List E} {N : Nat} {xs : List Int} {f : Nat → Int} (h : Lab es N xs f) {v : Nat} (hv : v < N) (h0 : 0 ≤ f v) : (v : Int) ∉ xs := fun hm => by have := h.out v hv hm; omega
/-- Two ends get the lesser label. -/
def fall (f : Nat → Int) (a b : Nat) : Nat → Int := fun v => if v = b then min (f a) (f b) else if v = a then min (f a) (f b) else f v
theorem Lab.fall {es : List E} {N : Nat} {xs : List Int} {f : Nat → Int} (h : Lab es N xs f) {a b : Nat} (ha : a < N) (hb : b < N) (hab : ((a : Int), (b : Int)) ∈ es) (fa : 0 ≤ f a) (fb : 0 ≤ f b) : Lab es N xs (fall f a b) := by
  have na := h.alive ha fa
  have nb := h.alive hb fb
  have la := h.low a ha na
  have lb := h.low b hb nb
  have key : ∀ k : Int, k = min (f a) (f b) → (0 ≤ k ∧ k ≤ (a : Int) ∧ Reach es (Alive (N : Int) xs) k a) ∧ (0 ≤ k ∧ k ≤ (b : Int) ∧ Reach es (Alive (N : Int) xs) k b) := by
    intro k hk
    by_cases hle : f a ≤ f b
    · have e : k = f a := by omega
      subst e
      exact ⟨la, by omega, by omega, la.2.2.step (Or.inl hab) lb.2.2.right⟩
    · have e : k = f b := by omega
      subst e
      exact ⟨⟨by omega, by omega, lb.2.2.step (Or.inr hab) la.2.2.right⟩, lb⟩
  refine ⟨fun v hv hm => ?_, fun v hv hm => ?_⟩
  · unfold Go.Proofs.YtgeanbjidpapjaaDoor.fall
    rw [if_neg (show ¬ v = b from fun e => nb (by rw [← e]; exact hm)), if_neg (show ¬ v = a from fun e => na (by rw [← e]; exact hm))]
    exact h.out v hv hm
  · unfold Go.Proofs.YtgeanbjidpapjaaDoor.fall
    by_cases e1 : v = b
    · subst e1; rw [if_pos rfl]; exact (key _ rfl).2
    · rw [if_neg e1]
      by_cases e2 : v = a
      · subst e2; rw [if_pos rfl]; exact (key _ rfl).1
      · rw [if_neg e2]; exact h.low v hv hm
/-- All labels together: it falls. -/
def labSum (f : Nat → Int) : Nat → Nat
  | 0 => 0
  | k + 1 => labSum f k + (f k + 1).toNat
theorem labSum_le {f g : Nat → Int} : ∀ {N : Nat}, (∀ v, v < N → g v ≤ f v) → labSum g N ≤ labSum f N
  | 0, _ => Nat.le_refl _
  | N + 1, h => by
    have := labSum_le (N := N) (fun v hv => h v (by omega))
    have := h N (by omega)
    simp only [labSum]
    omega
theorem labSum_lt {f g : Nat → Int} : ∀ {N : Nat}, (∀ v, v < N → g v ≤ f v) → ∀ {a : Nat}, a < N → g a < f a → 0 ≤ f a → labSum g N < labSum f N
  | 0, _, _, ha, _, _ => by omega
  | N + 1, h, a, ha, hlt, h0 => by
    simp only [labSum]
    by_cases e : a = N
    · subst e
      have := labSum_le (N := a) (fun v hv => h v (by omega))
      omega
    · have := labSum_lt (N := N) (fun v hv => h v (by omega)) (a := a) (by omega) hlt h0
      have := h N (by omega)
      omega
theorem fall_sum {f : Nat → Int} {N a b : Nat} (ha : a < N) (hb : b < N) (fa : 0 ≤ f a) (fb : 0 ≤ f b) (hne : f a ≠ f b) : labSum (fall f a b) N < labSum f N := by
  have hle : ∀ v, v < N → fall f a b v ≤ f v := fun v _ => by
    unfold fall
    by_cases e1 : v = b
    · subst e1; rw [if_pos rfl]; omega
    · rw [if_neg e1]
      by_cases e2 : v = a
      · subst e2; rw [if_pos rfl]; omega
      · rw [if_neg e2]; exact Int.le_refl _
  by_cases h : f a < f b
  · exact labSum_lt hle hb (by unfold fall; rw [if_pos rfl]; omega) fb
  · have hab : ¬ a = b := fun e => hne (by rw [e])
    exact labSum_lt hle ha (by unfold fall; rw [if_neg hab, if_pos rfl]; omega) fa
/-- No edge joins two labels. -/
def Still (es : List E) (f : Nat → Int) : Prop := ∀ a b : Nat, ((a : Int), (b : Int)) ∈ es → f a < 0 ∨ f b < 0 ∨ f a = f b
theorem Lab.same {es : List E} {N : Nat} {xs : List Int} {f : Nat → Int} (h : Lab es N xs f) (hs : Still es f) {x y : Int} (hr : Reach es (Alive (N : Int) xs) x y) : f x.toNat = f y.toNat := by
  refine hr.closed (P := fun y => f x.toNat = f y.toNat) rfl (fun y z hy hy1 ha hz => ?_)
  rw [hy]
  obtain ⟨yn, rfl⟩ := Int.eq_ofNat_of_zero_le hy1.1.1
  obtain ⟨zn, rfl⟩ := Int.eq_ofNat_of_zero_le hz.1.1
  have ly := h.low yn (by have := hy1.1.2; omega) hy1.2
  have lz := h.low zn (by have := hz.1.2; omega) hz.2
  simp only [Int.toNat_natCast]
  rcases ha with ha | ha
  · have := hs yn zn ha; omega
  · have := hs zn yn ha; omega
/-- The piece whose label is v; all of them. -/
def pieceOf (f : Nat → Int) (N v : Nat) : List Int := ((List.range N).filter fun w => f w == (v : Int)).map Int.ofNat
def listOf (f : Nat → Int) (N : Nat) : List (List Int) := ((List.range N).filter fun v => f v == (v : Int)).map (pieceOf f N)
theorem mem_pieceOf {f : Nat → Int} {N v : Nat} {x : Int} : x ∈ pieceOf f N v ↔ ∃ w : Nat, w < N ∧ f w = (v : Int) ∧ x = (w : Int) := by
  unfold pieceOf
  simp only [List.mem_map, List.mem_filter, List.mem_range, beq_iff_eq]
  constructor
  · rintro ⟨w, ⟨h1, h2⟩, rfl⟩; exact ⟨w, h1, h2, rfl⟩
  · rintro ⟨w, h1, h2, rfl⟩; exact ⟨w, ⟨h1, h2⟩, rfl⟩
theorem pieceOf_rise (f : Nat → Int) (N v : Nat) : (pieceOf f N v).Pairwise (· < ·) := by
  unfold pieceOf
  rw [List.pairwise_map]
  exact (List.pairwise_lt_range.filter _).imp (fun {a b} h => by show (a : Int) < (b : Int); omega)
theorem Lab.head {es : List E} {N : Nat} {xs : List Int} {f : Nat → Int} (h : Lab es N xs f) {v : Nat} (hv : v < N) (hf : f v = (v : Int)) : (pieceOf f N v).headD 0 = (v : Int) := by
  have hm : (v : Int) ∈ pieceOf f N v := mem_pieceOf.2 ⟨v, hv, hf, rfl⟩
  have hr := pieceOf_rise f N v
  cases hl : pieceOf f N v with
  | nil => rw [hl] at hm; simp at hm
  | cons x r =>
    rw [hl] at hm hr
    have hx : x ∈ pieceOf f N v := by rw [hl]; simp
    obtain ⟨w, hw, hfw, rfl⟩ := mem_pieceOf.1 hx
    have hn : (w : Int) ∉ xs := h.alive hw (by omega)
    have := h.low w hw hn
    simp only [List.headD_cons]
    rcases List.mem_cons.1 hm with e | e
    · exact e.symm
    · have := (List.pairwise_cons.1 hr).1 _ e; omega
/-- Behind the last label that fell: the pieces. -/
theorem Lab.pieces {es : List E} {N : Nat} {xs : List Int} {f : Nat → Int} (h : Lab es N xs f) (hs : Still es f) : IsPieces es (Alive (N : Int) xs) (listOf f N) where
  rise l hl := by
    obtain ⟨v, _, rfl⟩ := List.mem_map.1 hl
    exact pieceOf_rise f N v
  ne l hl := by
    obtain ⟨v, hv, rfl⟩ := List.mem_map.1 hl
    simp at hv
    intro e
    have : (v : Int) ∈ pieceOf f N v := mem_pieceOf.2 ⟨v, hv.1, hv.2, rfl⟩
    rw [e] at this; simp at this
  cls l hl x hx := by
    obtain ⟨v, hv, rfl⟩ := List.mem_map.1 hl
    simp at hv
    obtain ⟨w, hw, hfw, rfl⟩ := mem_pieceOf.1 hx
    have hn : (w : Int) ∉ xs := h.alive hw (by omega)
    have lw := h.low w hw hn
    refine ⟨lw.2.2.right, fun y => ⟨fun hy => ?_, fun hr => ?_⟩⟩
    · obtain ⟨u, hu, hfu, rfl⟩ := mem_pieceOf.1 hy
      have hnu : (u : Int) ∉ xs := h.alive hu (by omega)
      have lu := h.low u hu hnu
      rw [hfw] at lw
      rw [hfu] at lu
      exact lw.2.2.symm.trans lu.2.2
    · have hy := hr.right
      obtain ⟨u, rfl⟩ := Int.eq_ofNat_of_zero_le hy.1.1
      have := h.same hs hr
      simp only [Int.toNat_natCast] at this
      exact mem_pieceOf.2 ⟨u, by have := hy.1.2; omega, by rw [← this]; exact hfw, rfl⟩
  heads := by
    unfold listOf
    rw [List.pairwise_map]
    refine List.Pairwise.imp_of_mem ?_ (List.pairwise_lt_range.filter _)
    intro a b ha hb hlt
    simp at ha hb
    rw [h.head ha.1 ha.2, h.head hb.1 hb.2]
    omega
  all x hx := by
    obtain ⟨w, rfl⟩ := Int.eq_ofNat_of_zero_le hx.1.1
    have hw : w < N := by have := hx.1.2; omega
    have lw := h.low w hw hx.2
    obtain ⟨r, hr⟩ := Int.eq_ofNat_of_zero_le lw.1
    have hrN : r < N := by omega
    have hsame := h.same hs lw.2.2
    rw [hr] at hsame
    simp only [Int.toNat_natCast] at hsame
    refine ⟨pieceOf f N r, List.mem_map.2 ⟨r, by simp; exact ⟨hrN, by rw [hsame, hr]⟩, rfl⟩, mem_pieceOf.2 ⟨w, hw, hr, rfl⟩⟩
theorem pieceOf_yes {f : Nat → Int} {j v : Nat} (h : f j = (v : Int)) : pieceOf f (j + 1) v = pieceOf f j v ++ [(j : Int)] := by
  unfold pieceOf; rw [List.range_succ, List.filter_append, List.map_append]; simp [h]
theorem pieceOf_no {f : Nat → Int} {j v : Nat} (h : f j ≠ (v : Int)) : pieceOf f (j + 1) v = pieceOf f j v := by
  unfold pieceOf; rw [List.range_succ, List.filter_append, List.map_append]; simp [h]
theorem pieceOf_len (f : Nat → Int) (j v : Nat) : (pieceOf f j v).length ≤ j := by
  unfold pieceOf; rw [List.length_map]; exact Nat.le_trans (List.length_filter_le _ _) (by simp)
/-- The pieces whose label is below k. -/
def listTo (f : Nat → Int) (N k : Nat) : List (List Int) := ((List.range k).filter fun v => f v == (v : Int)).map (pieceOf f N)
theorem listTo_yes {f : Nat → Int} {N k : Nat} (h : f k = (k : Int)) : listTo f N (k + 1) = listTo f N k ++ [pieceOf f N k] := by
  unfold listTo; rw [List.range_succ, List.filter_append, List.map_append]; simp [h]
theorem listTo_no {f : Nat → Int} {N k : Nat} (h : f k ≠ (k : Int)) : listTo f N (k + 1) = listTo f N k := by
  unfold listTo; rw [List.range_succ, List.filter_append, List.map_append]; simp [h]
theorem listTo_len (f : Nat → Int) (N k : Nat) : (listTo f N k).length ≤ k := by
  unfold listTo; rw [List.length_map]; exact Nat.le_trans (List.length_filter_le _ _) (by simp)
end Go.Proofs.YtgeanbjidpapjaaDoor

namespace Go.Proofs.YtgeanbjidpapjaaDoor

/-- The edges that are in just one of two lists. -/
def diffE (es : List E) (a b : List Int) : List E := es.filter fun e => decide (a.getD e.1.toNat 0 = e.2) != decide (b.getD e.1.toNat 0 = e.2)
/-- Has it another mate in the other one? -/
def inD (a b : List Int) (v : Nat) : Bool := decide (a.getD v 0 ≠ b.getD v 0)
/-- Who has not. -/
def outD (a b : List Int) (N : Nat) : List Int := ((List.range N).filter fun v => !inD a b v).map Int.ofNat
theorem mem_outD {a b : List Int} {N : Nat} {x : Int} : x ∈ outD a b N ↔ ∃ v : Nat, v < N ∧ inD a b v = false ∧ x = (v : Int) := by
  unfold outD
  simp only [List.mem_map, List.mem_filter, List.mem_range, Bool.not_eq_true']
  constructor
  · rintro ⟨w, ⟨h1, h2⟩, rfl⟩; exact ⟨w, h1, h2, rfl⟩
  · rintro ⟨w, h1, h2, rfl⟩; exact ⟨w, ⟨h1, h2⟩, rfl⟩
theorem not_outD {a b : List Int} {N v : Nat} (hv : v < N) : (v : Int) ∉ outD a b N ↔ inD a b v = true := by
  rw [mem_outD]
  constructor
  · intro h
    cases hi : inD a b v
    · exact absurd ⟨v, hv, hi, rfl⟩ h
    · rfl
  · rintro h ⟨u, _, h2, h3⟩
    have : u = v := by omega
    subst this
    rw [h] at h2; cases h2
/-- The pieces of what lies between. -/
def ApartIs (n : Int) (es : List E) (a b : List Int) (L : List (List Int)) : Prop := IsPieces (diffE es a b) (Alive n (outD a b n.toNat)) L

/-- Two matchings of one graph. -/
structure Two (N : Nat) (es : List E) (a b : List Int) : Prop where
  right : rightB (N : Int) es = true
  al : a.length = N
  bl : b.length = N
  aw : ∀ v, v < N → wellAt es a v = true
  bw : ∀ v, v < N → wellAt es b v = true
theorem two_of {n : Int} {es : List E} {a b : List Int} (ha : mateB n es a = true) (hb : mateB n es b = true) : Two n.toNat es a b := by
  obtain ⟨hr, hl, hw⟩ := mateB_iff.1 ha
  obtain ⟨_, hl2, hw2⟩ := mateB_iff.1 hb
  have e : ((n.toNat : Nat) : Int) = n := by omega
  exact ⟨by rw [e]; exact hr, by omega, by omega, fun v hv => hw v (by omega), fun v hv => hw2 v (by omega)⟩
theorem Two.swap {N : Nat} {es : List E} {a b : List Int} (h : Two N es a b) : Two N es b a := ⟨h.right, h.bl, h.al, h.bw, h.aw⟩
theorem Two.ok {N : Nat} {es : List E} {a b : List Int} (h : Two N es a b) : ∀ e ∈ es, okE N e = true := (right_rise h.right).2.2.2.2
/-- A mate is joined, and has one as mate. -/
theorem Two.mate {N : Nat} {es : List E} {a b : List Int} (h : Two N es a b) {v : Nat} (hv : v < N) (h0 : a.getD v 0 ≠ -1) : ∃ w : Nat, a.getD v 0 = (w : Int) ∧ w < N ∧ w ≠ v ∧ a.getD w 0 = (v : Int) ∧ trn (v : Int) (w : Int) ∈ es := by
  rcases well_iff.1 (h.aw v hv) with c | ⟨c1, c2⟩
  · exact absurd c h0
  · have t := trn_in h.ok c1
    refine ⟨(a.getD v 0).toNat, by omega, by omega, by omega, c2, ?_⟩
    rw [show (((a.getD v 0).toNat : Nat) : Int) = a.getD v 0 by omega]
    exact c1
theorem Two.neg {N : Nat} {es : List E} {a b : List Int} (h : Two N es a b) {v : Nat} (hv : v < N) (h0 : a.getD v 0 < 0) : a.getD v 0 = -1 := by
  refine Classical.byContradiction fun hn => ?_
  obtain ⟨w, hw, _⟩ := h.mate hv hn
  omega
/-- The mate of who has another one has another one. -/
theorem Two.mate_in {N : Nat} {es : List E} {a b : List Int} (h : Two N es a b) {v w : Nat} (hv : v < N) (hi : inD a b v = true) (hm : a.getD v 0 = (w : Int)) : w < N ∧ w ≠ v ∧ inD a b w = true ∧ Adj (diffE es a b) (v : Int) (w : Int) := by
  obtain ⟨w', hw', hwN, hwv, hback, hes⟩ := h.mate hv (by omega)
  have : w' = w := by omega
  subst this
  have hne : a.getD v 0 ≠ b.getD v 0 := by unfold inD at hi; simpa using hi
  have hb : b.getD w' 0 ≠ (v : Int) := fun e => by
    obtain ⟨u, hu, _, _, hub, _⟩ := h.swap.mate hwN (by omega)
    have : u = v := by omega
    subst this
    rw [hub] at hne
    exact hne hm
  refine ⟨hwN, hwv, ?_, ?_⟩
  · unfold inD
    simp only [decide_eq_true_eq]
    rw [hback]; exact fun e => hb e.symm
  · unfold Adj diffE
    have hbv : b.getD v 0 ≠ (w' : Int) := fun e => hne (by rw [hm, e])
    by_cases c : v < w'
    · left
      refine List.mem_filter.2 ⟨?_, ?_⟩
      · unfold trn at hes; rw [Int.min_eq_left (by omega), Int.max_eq_right (by omega)] at hes; exact hes
      · simp only [Int.toNat_natCast, hm, decide_true, decide_eq_false hbv]; rfl
    · right
      refine List.mem_filter.2 ⟨?_, ?_⟩
      · unfold trn at hes; rw [Int.min_eq_right (by omega), Int.max_eq_left (by omega)] at hes; exact hes
      · simp only [Int.toNat_natCast, hback, decide_true, decide_eq_false hb]; rfl
theorem diffE_comm (es : List E) (a b : List Int) : diffE es a b = diffE es b a := by
  unfold diffE
  congr 1
  funext e
  cases decide (a.getD e.1.toNat 0 = e.2) <;> cases decide (b.getD e.1.toNat 0 = e.2) <;> rfl
theorem inD_comm (a b : List Int) (v : Nat) : inD a b v = inD b a v := by
  unfold inD; simp [eq_comm]
theorem Two.mate_in' {N : Nat} {es : List E} {a b : List Int} (h : Two N es a b) {v w : Nat} (hv : v < N) (hi : inD a b v = true) (hm : b.getD v 0 = (w : Int)) : w < N ∧ w ≠ v ∧ inD a b w = true ∧ Adj (diffE es a b) (v : Int) (w : Int) := by
  obtain ⟨h1, h2, h3, h4⟩ := h.swap.mate_in hv (by rw [inD_comm]; exact hi) hm
  exact ⟨h1, h2, by rw [inD_comm]; exact h3, by rw [diffE_comm]; exact h4⟩
/-- Who is joined in between is a mate. -/
theorem Two.of_adj {N : Nat} {es : List E} {a b : List Int} (h : Two N es a b) {x y : Int} (ha : (x, y) ∈ diffE es a b) : ∃ v w : Nat, x = (v : Int) ∧ y = (w : Int) ∧ v < N ∧ w < N ∧ ((a.getD v 0 = (w : Int) ∧ a.getD w 0 = (v : Int)) ∨ (b.getD v 0 = (w : Int) ∧ b.getD w 0 = (v : Int))) := by
  obtain ⟨h1, h2⟩ := List.mem_filter.1 ha
  have ok := okE_iff.1 (h.ok _ h1)
  simp only at ok h2
  obtain ⟨v, rfl⟩ : ∃ v : Nat, x = (v : Int) := ⟨x.toNat, by omega⟩
  obtain ⟨w, rfl⟩ : ∃ w : Nat, y = (w : Int) := ⟨y.toNat, by omega⟩
  rw [Int.toNat_natCast] at h2
  refine ⟨v, w, rfl, rfl, by omega, by omega, ?_⟩
  by_cases c : a.getD v 0 = (w : Int)
  · left
    obtain ⟨u, hu, _, _, hub, _⟩ := h.mate (v := v) (by omega) (by omega)
    have : u = w := by omega
    subst this
    exact ⟨c, hub⟩
  · right
    have c2 : b.getD v 0 = (w : Int) := by
      refine Classical.byContradiction fun c2 => ?_
      rw [decide_eq_false c, decide_eq_false c2] at h2
      cases h2
    obtain ⟨u, hu, _, _, hub, _⟩ := h.swap.mate (v := v) (by omega) (by omega)
    have : u = w := by omega
    subst this
    exact ⟨c2, hub⟩

/-- Labels of those in; -1 of all others. -/
def fD (a b : List Int) (lab : Nat → Int) (v : Nat) : Int := if inD a b v = true then lab v else -1
theorem fD_in {a b : List Int} {lab : Nat → Int} {v : Nat} (h : inD a b v = true) : fD a b lab v = lab v := by unfold fD; rw [if_pos h]
theorem fD_out {a b : List Int} {lab : Nat → Int} {v : Nat} (h : inD a b v = false) : fD a b lab v = -1 := by unfold fD; rw [if_neg (by rw [h]; exact Bool.false_ne_true)]
theorem lab_startD (es : List E) (a b : List Int) (N : Nat) {lab : Nat → Int} (h : ∀ v : Nat, v < N → lab v = (v : Int)) : Lab (diffE es a b) N (outD a b N) (fD a b lab) :=
  Lab.start fun v hv => by
    cases hi : inD a b v
    · rw [fD_out hi, if_pos (mem_outD.2 ⟨v, hv, hi, rfl⟩)]
    · rw [fD_in hi, if_neg ((not_outD hv).2 hi), h v hv]
theorem fall_comm (f : Nat → Int) (a b : Nat) : fall f a b = fall f b a := by
  funext v
  unfold fall
  rw [Int.min_comm (f b) (f a)]
  by_cases e1 : v = b
  · by_cases e2 : v = a
    · rw [if_pos e1, if_pos e2]
    · rw [if_pos e1, if_neg e2, if_pos e1]
  · by_cases e2 : v = a
    · rw [if_neg e1, if_pos e2, if_pos e2]
    · rw [if_neg e1, if_neg e2, if_neg e2, if_neg e1]
theorem Lab.fallAdj {es : List E} {N : Nat} {xs : List Int} {f : Nat → Int} (h : Lab es N xs f) {a b : Nat} (ha : a < N) (hb : b < N) (hab : Adj es (a : Int) (b : Int)) (fa : 0 ≤ f a) (fb : 0 ≤ f b) : Lab es N xs (Go.Proofs.YtgeanbjidpapjaaDoor.fall f a b) := by
  rcases hab with c | c
  · exact h.fall ha hb c fa fb
  · rw [fall_comm]; exact h.fall hb ha c fb fa
/-- Two labels are written. -/
theorem fD_put {a b : List Int} {lab : Nat → Int} {v w : Nat} (hv : inD a b v = true) (hw : inD a b w = true) : fD a b (fun u => if u = w then min (lab v) (lab w) else (fun u => if u = v then min (lab v) (lab w) else lab u) u) = fall (fD a b lab) v w := by
  funext u
  unfold fall
  rw [fD_in hv, fD_in hw]
  by_cases e1 : u = w
  · subst e1
    rw [fD_in hw, if_pos rfl, if_pos rfl]
  · rw [if_neg e1]
    by_cases e2 : u = v
    · subst e2
      rw [fD_in hv, if_neg e1, if_pos rfl]
      simp
    · rw [if_neg e2]
      unfold fD
      split
      · simp [e1, e2]
      · rfl
/-- Nobody in, of the first t, has another label than its mates. -/
def StillD (a b : List Int) (lab : Nat → Int) (t : Nat) : Prop := ∀ v, v < t → inD a b v = true → (∀ w : Nat, a.getD v 0 = (w : Int) → lab w = lab v) ∧ ∀ w : Nat, b.getD v 0 = (w : Int) → lab w = lab v
theorem Two.still {N : Nat} {es : List E} {a b : List Int} (h : Two N es a b) {lab : Nat → Int} (hs : StillD a b lab N) : Still (diffE es a b) (fD a b lab) := by
  intro x y hxy
  obtain ⟨v, w, e1, e2, hv, hw, hc⟩ := h.of_adj hxy
  have e1 : x = v := by omega
  have e2 : y = w := by omega
  subst e1 e2
  cases hi : inD a b x
  · exact Or.inl (by rw [fD_out hi]; decide)
  · cases hj : inD a b y
    · exact Or.inr (Or.inl (by rw [fD_out hj]; decide))
    · rw [fD_in hi, fD_in hj]
      rcases hc with ⟨c, _⟩ | ⟨c, _⟩
      · exact Or.inr (Or.inr ((hs x hv hi).1 y c).symm)
      · exact Or.inr (Or.inr ((hs x hv hi).2 y c).symm)
/-- Behind the last label that fell: the pieces. -/
theorem Two.apart {N : Nat} {es : List E} {a b : List Int} (h : Two N es a b) {lab : Nat → Int} (hl : Lab (diffE es a b) N (outD a b N) (fD a b lab)) (hs : StillD a b lab N) : ApartIs (N : Int) es a b (listOf (fD a b lab) N) := by
  have := hl.pieces (h.still hs)
  unfold ApartIs
  rw [Int.toNat_natCast]
  exact this
theorem fD_eq {a b : List Int} {lab : Nat → Int} {v k : Nat} : fD a b lab v = (k : Int) ↔ inD a b v = true ∧ lab v = (k : Int) := by
  cases hi : inD a b v
  · rw [fD_out hi]
    constructor
    · intro e; omega
    · rintro ⟨h, _⟩; cases h
  · rw [fD_in hi]; exact ⟨fun h => ⟨rfl, h⟩, fun h => h.2⟩

end Go.Proofs.YtgeanbjidpapjaaDoor
