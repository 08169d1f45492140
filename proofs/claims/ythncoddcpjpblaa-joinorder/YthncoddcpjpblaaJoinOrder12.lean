/- Rows of numbers within a row, each of the call's own: one more row, one more number in a row. The sets that a join tells. -/
import Derived.Test.YthncoddcpjpblaaJoinOrder10
import Derived.Test.YthncoddcpjpblaaJoinOrder11
import Derived.Test.YthncoddcpjpblaaJoinOrder6
import Derived.Test.YthncoddcpjpblaaJoinOrder8
import Derived.OneCell
namespace Go.Proofs.Ythncoddcpjpblaa
open Go.RowKit

/-- A row of rows of numbers, all of them of the call's own (from block B on), no two of them in one block. -/
structure GAt (w : World) (B : Nat) (sv : Value) (A : List (List Int)) (vals : List Value) : Prop where
  own : w.ownsRow B 39 1 sv A.length vals
  each : ∀ (i : Nat) (u : Value), vals[i]? = some u → w.ownsRow B 3 1 u (A.getD i []).length ((A.getD i []).map (Value.int .i64))
  apart : ∀ (i j : Nat) (u v : Value) (b : Nat), i ≠ j → vals[i]? = some u → vals[j]? = some v → u.ownBlock = some b → v.ownBlock ≠ some b
  out : ∀ (i : Nat) (u : Value) (b : Nat), vals[i]? = some u → u.ownBlock = some b → sv.ownBlock ≠ some b
theorem GAt.start (w : World) (B : Nat) : GAt w B (.slice none 0 0) [] [] := ⟨⟨rfl, Or.inl ⟨rfl, rfl⟩⟩, by simp, by simp, by simp⟩
theorem own_lt' {w : World} {base e size n : Nat} {v : Value} {xs : List Value} (h : w.ownsRow base e size v n xs) {b : Nat} (hb : v.ownBlock = some b) : base ≤ b ∧ b < w.heap.size := by
  rcases h.2 with ⟨rfl, _⟩ | ⟨g, cap, cur, rfl, hg, hh, _⟩
  · simp [Value.ownBlock] at hb
  · simp [Value.ownBlock] at hb
    subst hb
    refine ⟨hg, ?_⟩
    by_cases hl : g < w.heap.size
    · exact hl
    · rw [Array.getElem?_eq_none (by omega)] at hh; simp at hh
/-- What lies in other blocks stays. -/
theorem own_other {w w' : World} {base e size n : Nat} {v : Value} {xs : List Value} {bs : List Nat} (h : w.ownsRow base e size v n xs) (k : Kept bs w w') (hb : ∀ b, v.ownBlock = some b → b ∉ bs) : w'.ownsRow base e size v n xs := by
  obtain ⟨h1, h2⟩ := h
  refine ⟨h1, ?_⟩
  rcases h2 with h2 | ⟨g, cap, cur, rfl, hg, hh, h5, h6, h7, h8⟩
  · exact Or.inl h2
  · have hl : g < w.heap.size := by
      by_cases hl : g < w.heap.size
      · exact hl
      · rw [Array.getElem?_eq_none (by omega)] at hh; simp at hh
    exact Or.inr ⟨g, cap, cur, rfl, hg, by rw [k.block g hl (hb g rfl)]; exact hh, h5, h6, h7, h8⟩
theorem GAt.kept {w w' : World} {B : Nat} {sv : Value} {A : List (List Int)} {vals : List Value} {bs : List Nat} (h : GAt w B sv A vals) (k : Kept bs w w') (hb : ∀ b, b ∈ bs → b < B) : GAt w' B sv A vals :=
  ⟨own_other h.own k (fun b e hm => by have := (own_lt' h.own e).1; have := hb b hm; omega), fun i u hu => own_other (h.each i u hu) k (fun b e hm => by have := (own_lt' (h.each i u hu) e).1; have := hb b hm; omega), h.apart, h.out⟩
/-- One more row, nil. -/
theorem GAt.push {w w' : World} {B : Nat} {sv v' : Value} {A : List (List Int)} {vals : List Value} {o : Obj} (h : GAt w B sv A vals) (own : w'.ownsRow B 39 1 v' (A.length + 1) (vals ++ [.slice none 0 0])) (hg : (w.alloc o).grownBy w' sv.ownBlock) (hat : v'.ownBlock = sv.ownBlock ∨ v'.ownBlock = some (w.heap.size + 1)) : GAt w' B v' (A ++ [[]]) (vals ++ [.slice none 0 0]) := by
  have hlen : vals.length = A.length := by simpa using h.own.1
  have kk : Kept sv.ownBlock.toList w w' := (((Kept.refl [] w).alloc o).mono (by simp)).trans (grown_kept hg)
  have key : ∀ i u, (vals ++ [Value.slice none 0 0])[i]? = some u → (vals[i]? = some u ∧ i < A.length) ∨ (u = .slice none 0 0 ∧ i = A.length) := by
    intro i u hi
    by_cases hlt : i < vals.length
    · rw [List.getElem?_append_left hlt] at hi; exact Or.inl ⟨hi, by omega⟩
    · have hil := (List.getElem?_eq_some_iff.1 hi).1
      simp at hil
      have e : i = vals.length := by omega
      subst e
      simp at hi
      exact Or.inr ⟨hi.symm, hlen⟩
  refine ⟨by rw [List.length_append]; exact own, fun i u hi => ?_, fun i j u v b hne hi hj hb => ?_, fun i u b hi hb => ?_⟩
  · rcases key i u hi with ⟨h1, h2⟩ | ⟨rfl, rfl⟩
    · rw [show List.getD (A ++ [([] : List Int)]) i [] = A.getD i [] by simp [List.getD, List.getElem?_append_left h2]]
      exact own_other (h.each i u h1) kk (fun b e hm => h.out i u b h1 e (by simpa using hm))
    · rw [show List.getD (A ++ [([] : List Int)]) A.length [] = [] by simp [List.getD]]
      exact ⟨rfl, Or.inl ⟨rfl, rfl⟩⟩
  · rcases key i u hi with ⟨h1, _⟩ | ⟨rfl, _⟩
    · rcases key j v hj with ⟨h3, _⟩ | ⟨rfl, _⟩
      · exact h.apart i j u v b hne h1 h3 hb
      · simp [Value.ownBlock]
    · simp [Value.ownBlock] at hb
  · rcases key i u hi with ⟨h1, _⟩ | ⟨rfl, _⟩
    · rcases hat with e | e
      · rw [e]; exact h.out i u b h1 hb
      · rw [e]
        have := (own_lt' (h.each i u h1) hb).2
        intro e2
        simp at e2
        omega
    · simp [Value.ownBlock] at hb
/-- One number more in a row. -/
theorem GAt.more {w w4 : World} {B g cap i : Nat} {A : List (List Int)} {vals : List Value} {o : Obj} {u v' : Value} {x : Int} (h : GAt w B (.slice (some ⟨g, 0, none⟩) A.length cap) A vals) (hi : vals[i]? = some u) (own : w4.ownsRow B 3 1 v' ((A.getD i []).length + 1) ((A.getD i []).map (Value.int .i64) ++ [.int .i64 x])) (hg : (w.alloc o).grownBy w4 u.ownBlock) (hat : v'.ownBlock = u.ownBlock ∨ v'.ownBlock = some (w.heap.size + 1)) :
    GAt (w4.setCell ⟨g, i, none⟩ v') B (.slice (some ⟨g, 0, none⟩) A.length cap) (A.set i (A.getD i [] ++ [x])) (vals.set i v') := by
  have hlen : vals.length = A.length := by simpa using h.own.1
  have kk : Kept u.ownBlock.toList w w4 := (((Kept.refl [] w).alloc o).mono (by simp)).trans (grown_kept hg)
  have hiA : i < A.length := by have := (List.getElem?_eq_some_iff.1 hi).1; omega
  have hgl := (own_lt' h.own (b := g) rfl).2
  have hvg : v'.ownBlock ≠ some g := by
    rcases hat with e | e
    · rw [e]; intro e2; exact h.out i u g hi e2 rfl
    · rw [e]; intro e2; simp at e2; omega
  have key : ∀ j t, (vals.set i v')[j]? = some t → (j = i ∧ t = v') ∨ (j ≠ i ∧ vals[j]? = some t) := by
    intro j t hj
    by_cases e : j = i
    · subst e
      rw [List.getElem?_set_self (by omega)] at hj
      simp at hj
      exact Or.inl ⟨rfl, hj.symm⟩
    · rw [List.getElem?_set_ne (fun e2 => e e2.symm)] at hj
      exact Or.inr ⟨e, hj⟩
  have hfar : ∀ j t b, j ≠ i → vals[j]? = some t → t.ownBlock = some b → v'.ownBlock ≠ some b := by
    intro j t b hne ht hb
    rcases hat with e | e
    · rw [e]; intro e2; exact h.apart i j u t b (fun e3 => hne e3.symm) hi ht e2 hb
    · have := (own_lt' (h.each j t ht) hb).2
      rw [e]; intro e2; simp at e2; omega
  refine ⟨?_, fun j t hj => ?_, fun j m t t2 b hne hj hm hb => ?_, fun j t b hj hb => ?_⟩
  · rw [List.length_set]
    exact ((own_other h.own kk (fun b e hm => h.out i u b hi (by simpa using hm) e)).stored i v').1
  · rcases key j t hj with ⟨rfl, rfl⟩ | ⟨hne, ht⟩
    · rw [show List.getD (A.set j (A.getD j [] ++ [x])) j [] = A.getD j [] ++ [x] by
        rw [List.getD, List.getElem?_set_self hiA]; rfl]
      rw [List.length_append, List.map_append]
      exact ownsRow_setCell_other own (a := ⟨g, j, none⟩) hvg _
    · rw [show List.getD (A.set i (A.getD i [] ++ [x])) j [] = A.getD j [] by
        rw [List.getD, List.getElem?_set_ne (fun e2 => hne e2.symm)]; rfl]
      exact ownsRow_setCell_other (own_other (h.each j t ht) kk (fun b e hm => h.apart j i t u b hne ht hi e (by simpa using hm))) (fun e => h.out j t g ht e rfl) v'
  · rcases key j t hj with ⟨rfl, rfl⟩ | ⟨h1, ht⟩
    · rcases key m t2 hm with ⟨rfl, rfl⟩ | ⟨h2, ht2⟩
      · exact absurd rfl hne
      · intro e; exact hfar m t2 b h2 ht2 e hb
    · rcases key m t2 hm with ⟨rfl, rfl⟩ | ⟨h2, ht2⟩
      · exact hfar j t b h1 ht hb
      · exact h.apart j m t t2 b hne ht ht2 hb
  · rcases key j t hj with ⟨rfl, rfl⟩ | ⟨h1, ht⟩
    · intro e; simp [Value.ownBlock] at e; subst e; exact hvg hb
    · exact h.out j t b ht hb
theorem GAt.lists {w : World} {B : Nat} {sv : Value} {A : List (List Int)} {vals : List Value} (h : GAt w B sv A vals) : ListsAt w sv A := by
  have hlen : vals.length = A.length := by simpa using h.own.1
  rcases h.own.2 with ⟨rfl, h0⟩ | ⟨g, cap, cur, rfl, hg, hb, h5, h6, h7, h8⟩
  · have : A = [] := List.eq_nil_of_length_eq_zero h0
    subst this
    exact ListsAt.nil _ _ _
  · refine ⟨some ⟨g, 0, none⟩, cap, rfl, h5, by omega, fun _ => ⟨g, 0, rfl, fun i hi => ?_⟩⟩
    obtain ⟨u, hu⟩ : ∃ u, vals[i]? = some u := ⟨vals[i]'(by omega), by simp⟩
    refine ⟨u, ?_, (ints_of_owns (h.each i u hu)).1⟩
    rw [cell_of_block hb, ← hu, ← h8, Nat.mul_one, List.getElem?_take_of_lt hi]
    simp
theorem GAt.freshL {w : World} {B : Nat} {sv : Value} {A : List (List Int)} {vals : List Value} (h : GAt w B sv A vals) : FreshL B w sv A := by
  intro a n c e h0
  have hlen : vals.length = A.length := by simpa using h.own.1
  rcases h.own.2 with ⟨e2, _⟩ | ⟨g, cap, cur, e2, hg, hb, h5, h6, h7, h8⟩
  · rw [e2] at e; cases e
  · rw [e2] at e
    simp at e
    obtain ⟨rfl, rfl, rfl⟩ := e
    refine ⟨hg, fun i hi => ?_⟩
    obtain ⟨u, hu⟩ : ∃ u, vals[i]? = some u := ⟨vals[i]'(by omega), by simp⟩
    refine ⟨u, ?_, fun a' n' c' e => (own_lt' (h.each i u hu) (b := a'.block) (by rw [e]; rfl)).1⟩
    show w.cell? ⟨g, 0 + i, none⟩ = _
    rw [cell_of_block hb, ← hu, ← h8, Nat.mul_one, List.getElem?_take_of_lt hi]
    simp
theorem GAt.form {w : World} {B : Nat} {sv : Value} {A : List (List Int)} {vals : List Value} (h : GAt w B sv A vals) : ∃ so sc, sv = .slice so A.length sc := by
  rcases h.own.2 with ⟨rfl, h0⟩ | ⟨g, cap, cur, rfl, _⟩
  · exact ⟨none, 0, by rw [h0]⟩
  · exact ⟨_, cap, rfl⟩
theorem GAt.formAt {w : World} {B : Nat} {so : Option Addr} {n sc i : Nat} {A : List (List Int)} {vals : List Value} (h : GAt w B (.slice so n sc) A vals) (hi : i < A.length) : ∃ g u, so = some ⟨g, 0, none⟩ ∧ n = A.length ∧ B ≤ g ∧ g < w.heap.size ∧ vals[i]? = some u ∧ w.cell? ⟨g, i, none⟩ = some u ∧ w.frozen? ⟨g, i, none⟩ = false ∧ ∃ uo uc, u = .slice uo (A.getD i []).length uc := by
  have hlen : vals.length = A.length := by simpa using h.own.1
  obtain ⟨u, hu⟩ : ∃ u, vals[i]? = some u := ⟨vals[i]'(by omega), by simp⟩
  have hown := h.own
  rcases h.own.2 with ⟨_, h0⟩ | ⟨g, cap, cur, e, hg, _⟩
  · omega
  · simp at e
    obtain ⟨rfl, rfl, rfl⟩ := e
    refine ⟨g, u, rfl, rfl, hg, (own_lt' h.own (b := g) rfl).2, hu, by rw [hown.cellAt i (by omega)]; exact hu, hown.frozenAt i, ?_⟩
    rcases (h.each i u hu).2 with ⟨rfl, h0⟩ | ⟨g', cap', cur', rfl, _⟩
    · exact ⟨none, 0, by rw [h0]⟩
    · exact ⟨_, cap', rfl⟩
end Go.Proofs.Ythncoddcpjpblaa

namespace Go.Proofs.Ythncoddcpjpblaa
open Go.RowKit

theorem OfAt.keptAt {w w' : World} {g N : Nat} {f : Nat → Int} {bs : List Nat} (h : OfAt w g N f) (k : Kept bs w w') (hg : g ∉ bs) : OfAt w' g N f :=
  ⟨fun v hv => kept_cell' (h.cell v hv) k hg, fun v => by rw [k.frozen h.lt hg]; exact h.free v, Nat.lt_of_lt_of_le h.lt k.size⟩
theorem infoIntsJ : (Try.prog.info? 39).map (fun i => (i.zero, i.size, i.bytes)) = some (some (.slice none 0 0), 1, 24) := by kernel_rfl
theorem FreshL.mono {B B' : Nat} {w : World} {v : Value} {L : List (List Int)} (h : FreshL B w v L) (hb : B' ≤ B) : FreshL B' w v L := by
  intro a n c e h0
  obtain ⟨h1, h2⟩ := h a n c e h0
  exact ⟨by omega, fun i hi => by obtain ⟨u, hu, hv⟩ := h2 i hi; exact ⟨u, hu, fun a' n' c' e => by have := hv a' n' c' e; omega⟩⟩
theorem own_slice {w : World} {base e size n : Nat} {v : Value} {xs : List Value} (h : w.ownsRow base e size v n xs) : ∃ ao c, v = .slice ao n c := by
  rcases h.2 with ⟨rfl, h0⟩ | ⟨g, cap, cur, rfl, _⟩
  · exact ⟨none, 0, by rw [h0]⟩
  · exact ⟨_, cap, rfl⟩
theorem openL_row (n : Nat) (L : Nat → Nat) (i : Nat) : ((openL n L).getD i []).length ≤ n := by
  unfold openL
  rw [List.getD, List.getElem?_map]
  cases (tops (n + 1) L)[i]? with
  | none => simp
  | some y =>
    simp only [Option.map_some, Option.getD_some, setOf, List.length_map]
    exact Nat.le_trans (List.length_filter_le _ _) (by simp)
set_option maxRecDepth 20000 in
set_option maxHeartbeats 8000000 in
theorem gathered_any {w : World} {p g n : Nat} {L B : Nat → Nat} (h : JAt w p g n L B) :
    Calls Try.prog 26 #[.int .i64 (n : Int), .func (.func 13) #[.pointer (some ⟨p, 0, none⟩)] #[]] w fun e w' => ∃ r, e = .returned r ∧ ListsAt w' r (setsL n L) ∧ FreshL w.heap.size w' r (setsL n L) ∧ Kept [] w w' := by
  obtain ⟨i, hi, hz0, hz1, hz2⟩ := info_parts infoInt
  obtain ⟨i', hi', hz0', hz1', hz2'⟩ := info_parts infoIntsJ
  have hmost := h.most
  have hL := hide h.isL
  have hmk := make_ints n (by omega)
  have HJ := hide (fun W (k : Kept [] w W) (x : Int) => find_any (h.kept k (by simp) (by simp)).v x)
  clear h
  go_enter Try.func26, Try.ntmps26
  go_wp2
  have K1 := hide ((Kept.refl [] w).alloc (.cells (madeCells #[.int .i64 0] n) 3))
  have O1 := hide (OfAt.start w n)
  clear hmk
  generalize hW1 : w.alloc (.cells (madeCells #[.int .i64 0] n) 3) = W1 at *
  have hB : W1.heap.size = w.heap.size + 1 := by rw [← hW1]; simp
  clear hW1
  generalize hgp : w.heap.size = gp at *
  have HGP := hide hgp
  clear hgp
  have G1 := hide (GAt.start W1 W1.heap.size)
  go_loopw [5, 13] (fun s c wr => ∃ (k : Nat) (f : Nat → Int) (vals : List Value) (so : Option Addr) (sc : Nat), k ≤ n ∧ c = .int .i64 k ∧ s = .slice so (setsL k L).length sc ∧ W1.heap.size ≤ wr.heap.size ∧ Hid (Kept [] w wr) ∧ Hid (OfAt wr gp n f) ∧ Hid (GAt wr W1.heap.size s (setsL k L) vals) ∧ Hid (∀ x, x < k → L x = x → f x = (cntL x L : Int))) (fun _ c _ => n - (intOf c).toNat)
  case atStart => exact ⟨0, _, [], none, 0, Nat.zero_le _, rfl, rfl, Nat.le_refl _, unhide K1, unhide O1, unhide G1, fun x hx => by omega⟩
  case round =>
    obtain ⟨k, f, vals, so, sc, hk, rfl, rfl, hkw, hkk, hof, hga, hf⟩ := hrel
    by_cases hlt : k < n
    · have k0 : (0 : Int) ≤ (k : Int) := by omega
      have k1 : (k : Int) < (n : Int) := by omega
      have HF := unhide HJ wr (unhide hkk) (k : Int)
      rw [tellI_nat hlt] at HF
      replace HF := hide HF
      have hlk := (unhide hL).le k hlt
      have l0 : (0 : Int) ≤ (L k : Int) := by omega
      have l1 : (L k : Int) < (n : Int) := by omega
      have hsl : (setsL k L).length ≤ k := by rw [setsL_len]; exact cntL_le k L
      have HSET := hide (setsL_set (unhide hL) hlt)
      have hplace := cntL_lt (n := k + 1) (x := L k) (L := L) (by omega) ((unhide hL).idem k hlt)
      rw [← openL_len] at hplace
      by_cases hq : L k = k
      · have hq2 : ((L k : Int) == (k : Int)) = true := by rw [hq]; simp
        have ofz := (unhide hof).free k
        have ofc := (unhide hof).cell k hlt
        have hO2 := hide ((unhide hof).set hlt ((setsL k L).length : Int))
        have HF3 := hide (show ∀ x, x < k + 1 → L x = x → (fun u => if u = k then ((setsL k L).length : Int) else f u) x = (cntL x L : Int) from fun x hx e => by
          by_cases e2 : x = k
          · subst e2; simp [setsL_len]
          · simp only [e2, if_false]; exact unhide hf x (by omega) e)
        have hkset : Kept [gp] wr (wr.setCell ⟨gp, k, none⟩ (.int .i64 ((setsL k L).length : Int))) := (Kept.refl [gp] wr).setCell (Or.inl (by simp)) _
        have hG2 := hide ((unhide hga).kept hkset (fun b hb => by simp at hb; omega))
        have hK2 := hide ((unhide hkk).setCell (p := ⟨gp, k, none⟩) (Or.inr (by rw [unhide HGP]; exact Nat.le_refl _)) (.int .i64 ((setsL k L).length : Int)))
        have hs2 : W1.heap.size ≤ (wr.setCell ⟨gp, k, none⟩ (.int .i64 ((setsL k L).length : Int))).heap.size := by simp [World.setCell]; omega
        have hown2 := (unhide hG2).own
        have HOP := hide (openL_yes (fun x hx => (unhide hL).le x (by omega)) hq)
        have hlkeq := hide hq
        have HLK := hide (show (L k : Int) = (k : Int) by omega)
        clear hq hkset
        go_wp2_with fail
        refine (unhide HF).mono ?_
        rintro e w2 ⟨rfl, rfl⟩
        go_wp2_with (first
          | (
          at_builtin
          refine wpList_append_own_at _ rfl (.tmp 27) (.tmp 28) 33 rfl W1.heap.size 39 i' (.slice none 0 0) 1 24 Try.underlying33 hi' hz0' hz1' hz2' rfl (by decide) _ _ _ rfl (hown2.alloc _) _ 1 _ [.slice none 0 0] rfl rfl (one_cell' _ _ _ (by simp)) (by simp [Value.oneCell']) (by unfold maxLen; omega) (by omega) (by simp; omega) ?_
          intro v3 w3 own3 g3 _ hat3
          have hat4 : v3.ownBlock = (Value.slice so (setsL k L).length sc).ownBlock ∨ v3.ownBlock = some ((w2.setCell ⟨gp, k, none⟩ (.int .i64 ((setsL k L).length : Int))).heap.size + 1) := by
            rcases hat3 with h | h
            · exact Or.inl h
            · exact Or.inr (by rw [h]; simp)
          have hG3 := (unhide hG2).push own3 g3 hat4
          rw [← unhide HOP] at hG3
          replace hG3 := hide hG3
          have kk3 : Kept (Value.slice so (setsL k L).length sc).ownBlock.toList (w2.setCell ⟨gp, k, none⟩ (.int .i64 ((setsL k L).length : Int))) w3 := (((Kept.refl [] _).alloc _).mono (by simp)).trans (grown_kept g3)
          have hge3 : ∀ q, q ∈ (Value.slice so (setsL k L).length sc).ownBlock.toList → W1.heap.size ≤ q := fun q hq => own_block hown2 q (by simpa using hq)
          have hK3 := hide ((unhide hK2).trans' kk3 (fun q hq => Or.inr (by rw [unhide HGP]; have := hge3 q hq; omega)))
          have hO3 := hide ((unhide hO2).keptAt kk3 (fun hm => by have := hge3 _ hm; omega))
          have hkw3 : W1.heap.size ≤ w3.heap.size := Nat.le_trans hs2 kk3.size
          obtain ⟨so3, sc3, rfl⟩ := (unhide hG3).form
          clear own3 g3 hat3 hat4 kk3 hge3 hown2 ofz ofc
          have hLL := (unhide hO3).cell (L k) (by omega)
          rw [unhide HF3 (L k) (by omega) ((unhide hL).idem k hlt)] at hLL
          obtain ⟨g5, u5, hso5, hn5, hB5, hg5, hu5, hc5, hfz5, uo5, uc5, hue5⟩ := (unhide hG3).formAt hplace
          subst hue5
          subst hso5
          have hown5 := (unhide hG3).each _ _ hu5
          have hout5 := (unhide hG3).out _ _ g5 hu5
          have HM := hide (fun v6 w6 (o6 : Obj) => (unhide hG3).more (w4 := w6) (o := o6) (v' := v6) (x := (k : Int)) hu5)
          have hrl := openL_row k L (cntL (L k) L)
          have hop := hide (show (openL k L).length = (setsL (k + 1) L).length by rw [unhide HSET, List.length_set])
          clear hu5 hn5
          generalize cntL (L k) L = pl at *
          generalize L k = lk at *
          generalize (openL k L).getD pl [] = row at *
          have p0 : (0 : Int) ≤ (pl : Int) := by omega
          have p1 : (pl : Int) < ((openL k L).length : Int) := by omega)
          | (
          at_builtin
          refine wpList_append_own_at _ rfl (.tmp 39) (.tmp 41) 39 rfl W1.heap.size 3 i (.int .i64 0) 1 8 Try.underlying39 hi hz0 hz1 hz2 rfl (by decide) _ _ _ rfl (hown5.alloc _) _ 1 _ [.int .i64 k] rfl rfl (one_cell' _ _ _ (by simp)) (by simp [Value.oneCell']) (by unfold maxLen; omega) (by omega) (by simp; omega) ?_
          intro v6 w6 own6 g6 _ hat6
          obtain ⟨ao6, ac6, hv6⟩ := own_slice own6
          subst hv6
          have hat7 : (Value.slice ao6 (row.length + 1) ac6).ownBlock = (Value.slice uo5 row.length uc5).ownBlock ∨ (Value.slice ao6 (row.length + 1) ac6).ownBlock = some (w3.heap.size + 1) := by
            rcases hat6 with h | h
            · exact Or.inl h
            · exact Or.inr (by rw [h]; simp)
          have HG6 := hide (unhide HM _ w6 _ own6 g6 hat7)
          have kk6 : Kept (Value.slice uo5 row.length uc5).ownBlock.toList w3 w6 := (((Kept.refl [] w3).alloc _).mono (by simp)).trans (grown_kept g6)
          have hnot : g5 ∉ (Value.slice uo5 row.length uc5).ownBlock.toList := fun hm => hout5 (by simpa using hm) rfl
          have hge : ∀ q, q ∈ (Value.slice uo5 row.length uc5).ownBlock.toList → W1.heap.size ≤ q := fun q hq => own_block hown5 q (by simpa using hq)
          have hc6 := kept_cell' hc5 kk6 hnot
          have hfz6 : w6.frozen? ⟨g5, pl, none⟩ = false := by rw [kk6.frozen hg5 hnot]; exact hfz5
          have HK6 := hide (((unhide hK3).trans' kk6 (fun q hq => Or.inr (by rw [unhide HGP]; have := hge q hq; omega))).setCell (p := ⟨g5, pl, none⟩) (Or.inr (by rw [unhide HGP]; show gp ≤ g5; omega)) (.slice ao6 (row.length + 1) ac6))
          have HO6 := hide (((unhide hO3).keptAt kk6 (fun hm => by have := hge _ hm; omega)).keptAt ((Kept.refl [g5] w6).setCell (p := ⟨g5, pl, none⟩) (Or.inl (by simp)) (.slice ao6 (row.length + 1) ac6)) (by simp; omega))
          have HS6 := hide (show W1.heap.size ≤ (w6.setCell ⟨g5, pl, none⟩ (.slice ao6 (row.length + 1) ac6)).heap.size by have := kk6.size; simp [World.setCell]; omega)
          rw [← unhide HSET] at HG6
          clear own6 g6 hat6 hat7 kk6 hge hnot hown5 hout5))
        go_wp2
        go_roundw
        case rel => exact ⟨k + 1, _, _, _, _, by omega, by go_num, by rw [unhide hop], unhide HS6, unhide HK6, unhide HO6, by first | exact unhide HG6 | (rw [← unhide hop]; exact unhide HG6), unhide HF3⟩
        case measure => simp [intOf]; omega
      · have hq2 : ((L k : Int) == (k : Int)) = false := by simp; omega
        have HOP := openL_no hq
        rw [← HOP] at hga hsl ⊢
        have hG3 := hide (unhide hga)
        have hO3 := hide (unhide hof)
        have hK3 := hide (unhide hkk)
        have HF3 := hide (show ∀ x, x < k + 1 → L x = x → f x = (cntL x L : Int) from fun x hx e => by
          by_cases e2 : x = k
          · subst e2; exact absurd e hq
          · exact unhide hf x (by omega) e)
        clear hq HOP
        go_wp2_with fail
        refine (unhide HF).mono ?_
        rintro e w2 ⟨rfl, rfl⟩
        have hLL := (unhide hO3).cell (L k) (by omega)
        rw [unhide HF3 (L k) (by omega) ((unhide hL).idem k hlt)] at hLL
        obtain ⟨g5, u5, hso5, hn5, hB5, hg5, hu5, hc5, hfz5, uo5, uc5, hue5⟩ := (unhide hG3).formAt hplace
        subst hue5
        subst hso5
        have hown5 := (unhide hG3).each _ _ hu5
        have hout5 := (unhide hG3).out _ _ g5 hu5
        have HM := hide (fun v6 w6 (o6 : Obj) => (unhide hG3).more (w4 := w6) (o := o6) (v' := v6) (x := (k : Int)) hu5)
        have hrl := openL_row k L (cntL (L k) L)
        have hop := hide (show (openL k L).length = (setsL (k + 1) L).length by rw [unhide HSET, List.length_set])
        clear hu5 hn5
        generalize cntL (L k) L = pl at *
        generalize L k = lk at *
        generalize (openL k L).getD pl [] = row at *
        have p0 : (0 : Int) ≤ (pl : Int) := by omega
        have p1 : (pl : Int) < ((openL k L).length : Int) := by omega
        go_wp2_with (first | (
          at_builtin
          refine wpList_append_own_at _ rfl (.tmp 39) (.tmp 41) 39 rfl W1.heap.size 3 i (.int .i64 0) 1 8 Try.underlying39 hi hz0 hz1 hz2 rfl (by decide) _ _ _ rfl (hown5.alloc _) _ 1 _ [.int .i64 k] rfl rfl (one_cell' _ _ _ (by simp)) (by simp [Value.oneCell']) (by unfold maxLen; omega) (by omega) (by simp; omega) ?_
          intro v6 w6 own6 g6 _ hat6
          obtain ⟨ao6, ac6, hv6⟩ := own_slice own6
          subst hv6
          have hat7 : (Value.slice ao6 (row.length + 1) ac6).ownBlock = (Value.slice uo5 row.length uc5).ownBlock ∨ (Value.slice ao6 (row.length + 1) ac6).ownBlock = some (w2.heap.size + 1) := by
            rcases hat6 with h | h
            · exact Or.inl h
            · exact Or.inr (by rw [h]; simp)
          have HG6 := hide (unhide HM _ w6 _ own6 g6 hat7)
          have kk6 : Kept (Value.slice uo5 row.length uc5).ownBlock.toList w2 w6 := (((Kept.refl [] w2).alloc _).mono (by simp)).trans (grown_kept g6)
          have hnot : g5 ∉ (Value.slice uo5 row.length uc5).ownBlock.toList := fun hm => hout5 (by simpa using hm) rfl
          have hge : ∀ q, q ∈ (Value.slice uo5 row.length uc5).ownBlock.toList → W1.heap.size ≤ q := fun q hq => own_block hown5 q (by simpa using hq)
          have hc6 := kept_cell' hc5 kk6 hnot
          have hfz6 : w6.frozen? ⟨g5, pl, none⟩ = false := by rw [kk6.frozen hg5 hnot]; exact hfz5
          have HK6 := hide (((unhide hK3).trans' kk6 (fun q hq => Or.inr (by rw [unhide HGP]; have := hge q hq; omega))).setCell (p := ⟨g5, pl, none⟩) (Or.inr (by rw [unhide HGP]; show gp ≤ g5; omega)) (.slice ao6 (row.length + 1) ac6))
          have HO6 := hide (((unhide hO3).keptAt kk6 (fun hm => by have := hge _ hm; omega)).keptAt ((Kept.refl [g5] w6).setCell (p := ⟨g5, pl, none⟩) (Or.inl (by simp)) (.slice ao6 (row.length + 1) ac6)) (by simp; omega))
          have HS6 := hide (show W1.heap.size ≤ (w6.setCell ⟨g5, pl, none⟩ (.slice ao6 (row.length + 1) ac6)).heap.size by have := kk6.size; simp [World.setCell]; omega)
          rw [← unhide HSET] at HG6
          clear own6 g6 hat6 hat7 kk6 hge hnot hown5 hout5))
        go_wp2
        go_roundw
        case rel => exact ⟨k + 1, _, _, _, _, by omega, by go_num, by rw [unhide hop], unhide HS6, unhide HK6, unhide HO6, by first | exact unhide HG6 | (rw [← unhide hop]; exact unhide HG6), unhide HF3⟩
        case measure => simp [intOf]; omega
    · have hkn : k = n := by omega
      subst hkn
      have HFIN := hide (unhide hga).lists
      have HFR := hide ((unhide hga).freshL.mono (B' := gp) (by omega))
      go_wp2
      go_ret
      exact ⟨_, rfl, unhide HFIN, by rw [unhide HGP]; exact unhide HFR, unhide hkk⟩
set_option maxHeartbeats 4000000 in
theorem jsets_any {w : World} {p g n : Nat} {L B : Nat → Nat} (h : JAt w p g n L B) : Calls Try.prog 18 #[.pointer (some ⟨p, 0, none⟩)] w fun e w' => ∃ r, e = .returned r ∧ ListsAt w' r (setsL n L) ∧ FreshL w.heap.size w' r (setsL n L) ∧ Kept [] w w' := by
  have HR := hide (room_any h.v)
  have HG := hide (gathered_any h)
  clear h
  go_enter Try.func18, Try.ntmps18
  go_wp2_with fail
  refine (unhide HR).mono ?_
  rintro e w' ⟨rfl, rfl⟩
  go_wp2_with fail
  refine (unhide HG).mono ?_
  rintro e w2 ⟨r, rfl, h1, h2, k⟩
  go_wp2
  go_ret
  exact ⟨r, rfl, h1, h2, k⟩
end Go.Proofs.Ythncoddcpjpblaa
