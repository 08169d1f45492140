/- Lists of lists in memory. -/
import Derived.Test.YtfgobegkdagknaaGreedyBeside7
import Derived.Test.YtfgobegkdagknaaGreedyBeside5
import Derived.Maps.AppendAt
import Derived.Laws.OwnMore
namespace Go.Proofs.Ytfgobegkdagknaa
open Go.RowKit

/-- A slice of slices of numbers. -/
def ListsAt (w : World) (v : Value) (L : List (List Int)) : Prop :=
  ∃ ao cap, v = .slice ao L.length cap ∧ L.length ≤ cap ∧ L.length ≤ maxLen ∧ (0 < L.length → ∃ g o, ao = some ⟨g, o, none⟩ ∧ ∀ i, i < L.length → ∃ u, w.cell? ⟨g, o + i, none⟩ = some u ∧ IntsAt w u (L.getD i []))
theorem ListsAt.kept {w w' : World} {v : Value} {L : List (List Int)} (h : ListsAt w v L) (k : Kept [] w w') : ListsAt w' v L := by
  obtain ⟨ao, cap, rfl, h1, h2, h3⟩ := h
  refine ⟨ao, cap, rfl, h1, h2, fun h0 => ?_⟩
  obtain ⟨g, o, rfl, hc⟩ := h3 h0
  exact ⟨g, o, rfl, fun i hi => by obtain ⟨u, hu, hv⟩ := hc i hi; exact ⟨u, kept_cell hu k, hv.kept k⟩⟩
theorem ListsAt.nil (w : World) (cap : Nat) (ao : Option Addr) : ListsAt w (.slice ao 0 cap) [] := ⟨ao, cap, rfl, Nat.zero_le _, Nat.zero_le _, fun h => by simp at h⟩
theorem ListsAt.shape {w : World} {v : Value} {L : List (List Int)} (h : ListsAt w v L) : ∃ ao cap, v = .slice ao L.length cap ∧ L.length ≤ maxLen ∧ (0 < L.length → ∃ g o, ao = some ⟨g, o, none⟩ ∧ ∀ i, i < L.length → ∃ u, w.cell? ⟨g, o + i, none⟩ = some u ∧ IntsAt w u (L.getD i [])) := by
  obtain ⟨ao, cap, rfl, h1, h2, h3⟩ := h
  exact ⟨ao, cap, rfl, h2, h3⟩
/-- A row of lists that is being made. -/
structure LRow (w : World) (B b : Nat) (lv : Value) (L : List (List Int)) (vals : List Value) : Prop where
  own : w.ownsRow B 25 1 lv L.length vals
  each : ∀ i u, vals[i]? = some u → IntsAt w u (L.getD i []) ∧ ∃ a n c, u = .slice (some a) n c ∧ a.block ≠ b ∧ lv.ownBlock ≠ some a.block ∧ a.block < w.heap.size ∧ B ≤ a.block
theorem LRow.start (w : World) (B b : Nat) : LRow w B b (.slice none 0 0) [] [] := ⟨⟨rfl, Or.inl ⟨rfl, rfl⟩⟩, by simp⟩
theorem own_freeE {w w' : World} {base e size n b : Nat} {v : Value} {xs : List Value} (h : w.ownsRow base e size v n xs) (k : Kept [b] w w') (hb : b < base) : w'.ownsRow base e size v n xs := by
  obtain ⟨h1, h2⟩ := h
  refine ⟨h1, ?_⟩
  rcases h2 with h2 | ⟨g, cap, cur, hv, hg, hh, h5, h6, h7, h8⟩
  · exact Or.inl h2
  · refine Or.inr ⟨g, cap, cur, hv, hg, ?_, h5, h6, h7, h8⟩
    have hl : g < w.heap.size := by
      by_cases hl : g < w.heap.size
      · exact hl
      · rw [Array.getElem?_eq_none (by omega)] at hh; simp at hh
    rw [k.block g hl (by simp; omega)]; exact hh
theorem LRow.kept {w w' : World} {B b : Nat} {lv : Value} {L : List (List Int)} {vals : List Value} (h : LRow w B b lv L vals) (k : Kept [b] w w') (hb : b < B) : LRow w' B b lv L vals :=
  ⟨own_freeE h.own k hb, fun i u hu => by
    obtain ⟨h1, a, n, c, rfl, h2, h3, h4, h5⟩ := h.each i u hu
    exact ⟨h1.keptAt k (fun a' m c' e => by cases e; simpa using h2), a, n, c, rfl, h2, h3, Nat.lt_of_lt_of_le h4 k.size, h5⟩⟩
/-- A list more. -/
theorem LRow.push {w w' : World} {B b : Nat} {lv v' : Value} {L : List (List Int)} {vals : List Value} (h : LRow w B b lv L vals) {l : List Int} {a : Addr} {n c : Nat} {o : Obj} (hu : IntsAt w (.slice (some a) n c) l) (ha : a.block ≠ b) (hal : lv.ownBlock ≠ some a.block) (halt : a.block < w.heap.size) (haB : B ≤ a.block)
    (own : w'.ownsRow B 25 1 v' (L.length + 1) (vals ++ [.slice (some a) n c])) (hg : (w.alloc o).grownBy w' lv.ownBlock) (hat : v'.ownBlock = lv.ownBlock ∨ v'.ownBlock = some (w.heap.size + 1)) : LRow w' B b v' (L ++ [l]) (vals ++ [.slice (some a) n c]) := by
  have hlen : vals.length = L.length := by simpa using h.own.1
  have kk : Kept lv.ownBlock.toList w w' := (((Kept.refl [] w).alloc o).mono (by simp)).trans (grown_kept hg)
  have hne : ∀ a : Addr, lv.ownBlock ≠ some a.block → a.block < w.heap.size → v'.ownBlock ≠ some a.block := fun a h1 h2 e => by
    rcases hat with h3 | h3
    · exact h1 (by rw [← h3]; exact e)
    · rw [h3] at e; simp at e; omega
  refine ⟨by rw [List.length_append]; exact own, fun i u hi => ?_⟩
  by_cases hlt : i < L.length
  · rw [List.getElem?_append_left (by omega)] at hi
    obtain ⟨h1, a', n', c', rfl, h2, h3, h4, h5⟩ := h.each i u hi
    refine ⟨?_, a', n', c', rfl, h2, hne a' h3 h4, Nat.lt_of_lt_of_le h4 kk.size, h5⟩
    rw [show (L ++ [l]).getD i [] = L.getD i [] by simp [List.getD, List.getElem?_append_left hlt]]
    exact h1.keptAt kk (fun a2 m c2 e => by cases e; intro hm; exact h3 (by simpa using hm))
  · have hil := (List.getElem?_eq_some_iff.1 hi).1
    simp at hil
    have e : i = vals.length := by omega
    subst e
    simp at hi
    subst hi
    refine ⟨?_, a, n, c, rfl, ha, hne a hal halt, Nat.lt_of_lt_of_le halt kk.size, haB⟩
    rw [show (L ++ [l]).getD vals.length [] = l by rw [hlen]; simp [List.getD]]
    exact hu.keptAt kk (fun a2 m c2 e => by cases e; intro hm; exact hal (by simpa using hm))
theorem LRow.lists {w : World} {B b : Nat} {lv : Value} {L : List (List Int)} {vals : List Value} (h : LRow w B b lv L vals) : ListsAt w lv L := by
  have hlen : vals.length = L.length := by simpa using h.own.1
  rcases h.own.2 with ⟨rfl, h0⟩ | ⟨g, cap, cur, rfl, hg, hb, h5, h6, h7, h8⟩
  · have : L = [] := List.eq_nil_of_length_eq_zero h0
    subst this
    exact ListsAt.nil _ _ _
  · refine ⟨some ⟨g, 0, none⟩, cap, rfl, h5, by omega, fun _ => ⟨g, 0, rfl, fun i hi => ?_⟩⟩
    obtain ⟨u, hu⟩ : ∃ u, vals[i]? = some u := ⟨vals[i]'(by omega), by simp⟩
    refine ⟨u, ?_, (h.each i u hu).1⟩
    rw [cell_of_block hb, ← hu, ← h8, Nat.mul_one, List.getElem?_take_of_lt hi]
    simp
/-- Lists that lie in blocks from B on. -/
def FreshL (B : Nat) (w : World) (v : Value) (L : List (List Int)) : Prop := ∀ a n c, v = .slice (some a) n c → 0 < L.length → B ≤ a.block ∧ ∀ i, i < L.length → ∃ u, w.cell? ⟨a.block, a.off + i, none⟩ = some u ∧ ∀ a' n' c', u = .slice (some a') n' c' → B ≤ a'.block
theorem LRow.freshL {w : World} {B b : Nat} {lv : Value} {L : List (List Int)} {vals : List Value} (h : LRow w B b lv L vals) : FreshL B w lv L := by
  intro a n c e h0
  have hlen : vals.length = L.length := by simpa using h.own.1
  rcases h.own.2 with ⟨e2, _⟩ | ⟨g, cap, cur, e2, hg, hb, h5, h6, h7, h8⟩
  · rw [e2] at e; cases e
  · rw [e2] at e
    simp at e
    obtain ⟨rfl, rfl, rfl⟩ := e
    refine ⟨hg, fun i hi => ?_⟩
    obtain ⟨u, hu⟩ : ∃ u, vals[i]? = some u := ⟨vals[i]'(by omega), by simp⟩
    obtain ⟨_, a2, n2, c2, rfl, _, _, _, hB⟩ := h.each i u hu
    refine ⟨.slice (some a2) n2 c2, ?_, fun a' n' c' e => by cases e; exact hB⟩
    show w.cell? ⟨g, 0 + i, none⟩ = _
    rw [cell_of_block hb, ← hu, ← h8, Nat.mul_one, List.getElem?_take_of_lt hi]
    simp
def lenV : Value → Nat
  | .slice _ n _ => n
  | _ => 0
end Go.Proofs.Ytfgobegkdagknaa
