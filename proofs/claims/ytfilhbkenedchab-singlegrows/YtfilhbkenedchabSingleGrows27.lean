/- greedy: isFree, slices.IndexFunc at []int by it, take. -/
import Derived.Test.YtfilhbkenedchabSingleGrows26
import Derived.BigRegion
import Derived.Handy
namespace Go.Proofs.Ytfilhbkenedchab
open Go.RowKit

set_option maxRecDepth 20000 in
set_option maxHeartbeats 4000000 in
theorem gisFree_any {w : World} {v : Value} {xs : List Int} (h : IntsAt w v xs) {k : Nat} (hk : k < xs.length) : Calls Try.prog 37 #[v, .int .i64 k] w fun e w' => e = .returned (.bool (decide (xs.getD k 0 = -1))) ∧ w' = w := by
  obtain ⟨ao, cap, rfl, _, hin⟩ := h.shape
  obtain ⟨g, o, rfl, hc⟩ := hin (by omega)
  have a0 := hc k hk
  have t0 : (0 : Int) ≤ (k : Int) := by omega
  have t1 : (k : Int) < (xs.length : Int) := by omega
  generalize xs.getD k 0 = x at *
  clear hc hin h
  go_enter Try.func37, Try.ntmps37
  go_wp2
  go_ret
  refine ⟨ret_bool ?_, rfl⟩
  by_cases h : x = -1 <;> simp [h]

/-- Where the first free one of a list lies. -/
def IdxF (ms l : List Int) (r : Int) : Prop := (r = -1 ∧ firstF ms l = none) ∨ ∃ k : Nat, r = (k : Int) ∧ k < l.length ∧ firstF ms l = some (l.getD k 0)
theorem firstF_take {ms l : List Int} {k : Nat} (hk : k < l.length) (h : firstF ms (l.take k) = none) : firstF ms (l.take (k + 1)) = (if ms.getD (l.getD k 0).toNat 0 < 0 then some (l.getD k 0) else none) := by
  rw [List.take_succ_eq_append_getElem hk, ← getD_elem hk]
  exact firstF_snoc h
theorem firstF_here {ms l : List Int} {k : Nat} (hk : k < l.length) (h : firstF ms (l.take k) = none) (hf : ms.getD (l.getD k 0).toNat 0 < 0) : firstF ms l = some (l.getD k 0) := by
  have h1 := firstF_take hk h
  rw [if_pos hf] at h1
  conv => lhs; rw [← List.take_append_drop (k + 1) l]
  rw [firstF_app, h1]; rfl

set_option maxRecDepth 20000 in
set_option maxHeartbeats 4000000 in
theorem gindex_any {w : World} {v u : Value} {ms l : List Int} (h : IntsAt w v l) (hm : IntsAt w u ms) (hl : l.length ≤ 65536) (hb : ∀ x ∈ l, 0 ≤ x ∧ x < (ms.length : Int)) (hge : ∀ i, i < ms.length → -1 ≤ ms.getD i 0) :
    Calls Try.prog 53 #[v, .func (.func 37) #[u] #[]] w fun e w' => ∃ r, e = .returned (.int .i64 r) ∧ IdxF ms l r ∧ Kept [] w w' := by
  obtain ⟨ao, cap, rfl, _, _⟩ := h.shape
  have HX := hide h
  have HM := hide hm
  have HB := hide hb
  have HG := hide hge
  have hm' : (l.length : Int) ≤ 9223372036854775807 := by omega
  clear h hm hb hge hl
  go_enter Try.func53, Try.ntmps53
  go_wp2
  go_loopw [5, 8] (fun _ vv wr => ∃ k : Nat, k ≤ l.length ∧ vv = .int .i64 k ∧ Hid (firstF ms (l.take k) = none ∧ Kept [] w wr)) (fun _ vv _ => l.length - (intOf vv).toNat)
  case atStart => exact ⟨0, Nat.zero_le _, rfl, rfl, Kept.refl _ _⟩
  case round =>
    obtain ⟨k, hk, rfl, hh⟩ := hrel
    by_cases hlt : k < l.length
    · obtain ⟨ao2, cap2, hv2, _, hin2⟩ := ((unhide HX).kept (unhide hh).2).shape
      obtain ⟨g1, o1, he2, hin⟩ := hin2 (by omega)
      have hao : ao = some ⟨g1, o1, none⟩ := by simp at hv2; rw [hv2.1, he2]
      subst hao
      have a0 := hin k hlt
      have hx := unhide HB _ (getD_mem hlt)
      have HT := hide (firstF_take hlt (unhide hh).1)
      have HYES := hide (firstF_here hlt (unhide hh).1)
      have HK := hide (unhide hh).2
      obtain ⟨j, hj⟩ : ∃ j : Nat, l.getD k 0 = (j : Int) := ⟨(l.getD k 0).toNat, by omega⟩
      rw [hj] at a0 hx
      have HJ := hide hj
      have HC := hide (gisFree_any ((unhide HM).kept (unhide HK)) (k := j) (by omega))
      have HGE := unhide HG j (by omega)
      have t0 : (0 : Int) ≤ (k : Int) := by omega
      have t1 : (k : Int) < (l.length : Int) := by omega
      rw [hj, Int.toNat_natCast] at HT HYES
      clear hin hin2 hv2 he2 hh hj HX HM HB HG
      by_cases hc : ms.getD j 0 = -1
      · rw [decide_eq_true hc] at HC
        have HY := hide (show firstF ms l = some (l.getD k 0) from by rw [unhide HYES (by omega), unhide HJ])
        clear HYES HT HGE hc
        go_wp2_with fail
        refine (unhide HC).mono ?_
        rintro e w3 ⟨rfl, rfl⟩
        go_wp2
        go_ret
        exact ⟨_, rfl, Or.inr ⟨k, rfl, hlt, unhide HY⟩, unhide HK⟩
      · rw [decide_eq_false hc] at HC
        have HN := hide (show firstF ms (l.take (k + 1)) = none from by rw [unhide HT, if_neg (by omega)])
        clear HYES HT HGE hc
        go_wp2_with fail
        refine (unhide HC).mono ?_
        rintro e w3 ⟨rfl, rfl⟩
        go_wp2
        go_roundw
        case rel => exact ⟨k + 1, by omega, by go_num, unhide HN, unhide HK⟩
        case measure => simp [intOf]; omega
    · have e : k = l.length := by omega
      have HF := hide (show firstF ms l = none from by have := (unhide hh).1; rwa [e, List.take_length] at this)
      have HK := hide (unhide hh).2
      clear hh HX HM HB HG
      subst e
      go_wp2
      go_ret
      exact ⟨_, rfl, Or.inl ⟨rfl, unhide HF⟩, unhide HK⟩

set_option maxRecDepth 20000 in
set_option maxHeartbeats 8000000 in
theorem gtake_any {w : World} {v : Value} {g cap N B k : Nat} {ms l : List Int} (hM : MRow w B (.slice (some ⟨g, 0, none⟩) N cap) ms) (hN : ms.length = N) (hk : k < N) (h : IntsAt w v l) (hg : ∀ a n c, v = .slice (some a) n c → a.block ≠ g)
    (hl : l.length ≤ 65536) (hb : ∀ x ∈ l, 0 ≤ x ∧ x < (N : Int) ∧ x ≠ (k : Int)) (hge : ∀ i, i < N → -1 ≤ ms.getD i 0) :
    Calls Try.prog 38 #[.slice (some ⟨g, 0, none⟩) N cap, .int .i64 k, v] w fun e w' => e = .returned (.tuple #[]) ∧ MRow w' B (.slice (some ⟨g, 0, none⟩) N cap) (takeG ms (k : Int) l) ∧ Kept [g] w w' := by
  subst hN
  have HI := hide (gindex_any h hM.ints hl (fun x hx => ⟨(hb x hx).1, (hb x hx).2.1⟩) hge)
  obtain ⟨ao, c2, rfl, _, _⟩ := h.shape
  have HX := hide h
  have HM := hide hM
  have HB := hide hb
  have HG := hide hg
  have hm' : (l.length : Int) ≤ 9223372036854775807 := by omega
  clear h hM hb hge hl hg
  go_enter Try.func38, Try.ntmps38
  go_wp2_with fail
  refine (unhide HI).mono ?_
  rintro e w1 ⟨r, rfl, hi, k1⟩
  clear HI
  rcases hi with ⟨rfl, hn⟩ | ⟨j, rfl, hj, hf⟩
  · have HF := hide (show MRow w1 B (.slice (some ⟨g, 0, none⟩) ms.length cap) (takeG ms (k : Int) l) ∧ Kept [g] w w1 from ⟨by rw [takeG_none hn]; exact (unhide HM).kept k1, k1.mono (by simp)⟩)
    clear hn k1 HX HM HB HG
    go_wp2
    go_returns
    exact ⟨rfl, unhide HF⟩
  · have hM1 := (unhide HM).kept k1
    obtain ⟨g2, c3, e, _, hgs, hcc, hff⟩ := hM1.row (by omega)
    have hgg : g2 = g := by simp at e; exact e.1.symm
    subst hgg
    obtain ⟨ao2, c4, hv2, _, hin2⟩ := ((unhide HX).kept k1).shape
    obtain ⟨g1, o1, he2, hin⟩ := hin2 (by omega)
    have hao : ao = some ⟨g1, o1, none⟩ := by simp at hv2; rw [hv2.1, he2]
    subst hao
    have a0 := hin j hj
    have hne := unhide HG _ _ _ rfl
    simp only at hne
    have hx := unhide HB _ (getD_mem hj)
    obtain ⟨y, hy⟩ : ∃ y : Nat, l.getD j 0 = (y : Int) := ⟨(l.getD j 0).toNat, by omega⟩
    rw [hy] at a0 hx hf
    have d0 := hcc k hk
    have d1 := hcc y (by omega)
    have f0 := hff k
    have f1 := hff y
    have HPUT := hide (show MRow ((w1.setCell ⟨g2, k, none⟩ (.int .i64 (y : Int))).setCell ⟨g2, y, none⟩ (.int .i64 (k : Int))) B (.slice (some ⟨g2, 0, none⟩) ms.length cap) (takeG ms (k : Int) l) from by
      rw [takeG_some hf]; exact hM1.put hk (by omega))
    have HKP := hide (show Kept [g2] w ((w1.setCell ⟨g2, k, none⟩ (.int .i64 (y : Int))).setCell ⟨g2, y, none⟩ (.int .i64 (k : Int))) from ((k1.mono (by simp)).setCell (Or.inl (by simp)) _).setCell (Or.inl (by simp)) _)
    have t0 : (0 : Int) ≤ (k : Int) := by omega
    have t1 : (k : Int) < (ms.length : Int) := by omega
    have u0 : (0 : Int) ≤ (j : Int) := by omega
    have u1 : (j : Int) < (l.length : Int) := by omega
    have y0 : (0 : Int) ≤ (y : Int) := by omega
    have y1 : (y : Int) < (ms.length : Int) := by omega
    have hky : ¬ k = y := by omega
    have hne' : g2 ≠ g1 := fun e => hne e.symm
    have hlt1 := lt_of_cell a0
    generalize ms.getD k 0 = xk at *
    generalize ms.getD y 0 = xy at *
    clear hin hin2 hv2 he2 hcc hff hM1 HM HX HB HG hx hf hy k1 e
    go_wp2_with fail
    go_region
    go_wp2
    go_returns
    first
    | exact ⟨rfl, unhide HPUT, unhide HKP⟩
    | exact ⟨rfl, (unhide HPUT).kept ((Kept.refl [] _).drew), (unhide HKP).drew⟩
end Go.Proofs.Ytfilhbkenedchab
