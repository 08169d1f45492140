/- slices.Reverse, of the tail of a row of one's own. -/
import Derived.Test.YtfilhbkenedchabSingleGrows14
import Derived.Test.YtfilhbkenedchabSingleGrows9
import Derived.Sort.OwnSortedInts
namespace Go.Proofs.Ytfilhbkenedchab
open Go.RowKit Go.Sort

theorem heap_put {w : World} {g n off : Nat} {cur : Array Value} {e : TypeId} {fr : Nat × Nat} (d : Array Int) (hb : w.heap[g]? = some (.cells cur e fr)) :
    (putRow (Value.int .i64) (Sort.ahead w n) g off d).heap[g]? = some (.cells (putCells (Value.int .i64) off d cur) e fr) := by
  simp [putRow, mapBlock, Sort.ahead, Array.getElem?_modify, hb, onCells]
theorem kept_put (w : World) (n g off : Nat) (d : Array Int) : Kept [g] w (putRow (Value.int .i64) (Sort.ahead w n) g off d) := by
  refine ⟨rfl, rfl, rfl, by simp [putRow, mapBlock, Sort.ahead], fun k _ hne => ?_⟩
  have : g ≠ k := fun e => hne (by simp [e])
  simp [putRow, mapBlock, Sort.ahead, Array.getElem?_modify, this]
theorem take_put (cur : Array Value) (xs : List Int) (k : Nat) (hk : k ≤ xs.length) (h : cur.toList.take xs.length = xs.map (Value.int .i64)) :
    (putCells (Value.int .i64) k (xs.drop k).reverse.toArray cur).toList.take xs.length = (xs.take k ++ (xs.drop k).reverse).map (Value.int .i64) := by
  apply List.ext_getElem?
  intro j
  by_cases hj : j < xs.length
  · have h1 : (cur.toList.take xs.length)[j]? = (xs.map (Value.int .i64))[j]? := by rw [h]
    rw [List.getElem?_take_of_lt hj, Array.getElem?_toList] at h1
    rw [List.getElem?_take_of_lt hj, Array.getElem?_toList, List.map_append]
    by_cases c : j < k
    · rw [List.getElem?_append_left (by simp; omega)]
      simp only [putCells, Array.getElem?_mapIdx, h1, List.getElem?_map, List.getElem?_take_of_lt c]
      simp [hj, show ¬ k ≤ j by omega]
    · rw [List.getElem?_append_right (by simp; omega)]
      have hlen : (List.map (Value.int .i64) (xs.take k)).length = k := by simp; omega
      rw [hlen]
      have hd : j - k < xs.length - k := by omega
      have hin : j < k + (xs.length - k) := by omega
      simp only [putCells, Array.getElem?_mapIdx, h1, List.getElem?_map]
      simp [hj, show k ≤ j by omega, hin, hd]
  · rw [List.getElem?_take_eq_none (by omega), List.getElem?_eq_none (by simp; omega)]
theorem revTail_any {w : World} {base g cap k : Nat} {xs : List Int} (h : w.ownsRow base 3 1 (.slice (some ⟨g, 0, none⟩) xs.length cap) xs.length (xs.map (Value.int .i64))) (hk : k ≤ xs.length) :
    Calls Try.prog 69 #[.slice (some ⟨g, k, none⟩) (xs.length - k) (cap - k)] w fun e w' => e = .returned (.tuple #[]) ∧ w'.ownsRow base 3 1 (.slice (some ⟨g, 0, none⟩) xs.length cap) xs.length ((xs.take k ++ (xs.drop k).reverse).map (Value.int .i64)) ∧ Kept [g] w w' := by
  obtain ⟨h1, h2⟩ := h
  rcases h2 with ⟨h2, _⟩ | ⟨g', cap', cur, hv, hg, hb, h5, h6, h7, h8⟩
  · cases h2
  · simp at hv
    obtain ⟨rfl, rfl⟩ := hv
    rw [Nat.mul_one] at h7 h8
    have hH : Holds (Value.int .i64) w g k (xs.drop k).toArray := by
      intro j hj
      have hj' : k + j < xs.length := by simp at hj; omega
      refine ⟨?_, by simp [World.frozen?, hb]⟩
      have e1 : (cur.toList.take xs.length)[k + j]? = (xs.map (Value.int .i64))[k + j]? := by rw [h8]
      rw [List.getElem?_take_of_lt hj', Array.getElem?_toList] at e1
      simp only [World.cell?, hb]
      simp only [Option.isSome_none, Bool.false_eq_true, if_false]
      rw [e1]
      have hj2 : j < xs.length - k := by omega
      simp [hj', hj2]
    have hR := Any.slices_Reverse_int Try.reverseI g k (cap - k) (xs.drop k) w hH (by simp; unfold maxLen at h6; omega)
    rw [List.length_drop] at hR
    refine hR.mono ?_
    rintro e w' ⟨rfl, n, rfl⟩
    refine ⟨rfl, ⟨by simp; omega, Or.inr ⟨g, cap, _, rfl, hg, heap_put _ hb, h5, h6, by rw [Nat.mul_one]; simp [putCells, h7], ?_⟩⟩, kept_put w n g k _⟩
    rw [Nat.mul_one]
    exact take_put cur xs k hk h8
end Go.Proofs.Ytfilhbkenedchab
