/- walk.matching's has, isFree; isAlone; edges' lack; order in a row of edges: IndexFunc, ContainsFunc. slices.IndexFunc among edges, by two predicates. -/
import Derived.Test.YtfilhbkenedchabSingleGrows28
import Derived.BigQuiet
namespace Go.Proofs.Ytfilhbkenedchab
open Go.RowKit

set_option maxRecDepth 20000 in
set_option maxHeartbeats 4000000 in
theorem whas_any {w : World} {v : Value} {m : List Int} (h : IntsAt w v m) {x y : Int} (h0 : 0 ≤ x) (h1 : x < (m.length : Int)) : Calls Try.prog 66 #[v, ev x y] w fun e w' => e = .returned (.bool (hasB m (x, y))) ∧ Kept [] w w' := by
  obtain ⟨k, rfl⟩ : ∃ k : Nat, x = (k : Int) := ⟨x.toNat, by omega⟩
  obtain ⟨ao, cap, rfl, _, hin⟩ := h.shape
  obtain ⟨g, o, rfl, hc⟩ := hin (by omega)
  have a0 := kept_cell (hc k (by omega)) ((Kept.refl [] w).alloc (.cells #[.int .i64 (k : Int), .int .i64 y] 44))
  obtain ⟨b0, b1⟩ := box2 (Kept.refl [] (w.alloc (.cells #[.int .i64 (k : Int), .int .i64 y] 44))) (by simp)
  have HK := hide ((Kept.refl [] w).alloc (.cells #[.int .i64 (k : Int), .int .i64 y] 44))
  have HB := hide (show decide (m.getD k 0 = y) = hasB m ((k : Int), y) from rfl)
  generalize hasB m ((k : Int), y) = B at *
  generalize m.getD k 0 = x at *
  clear hc hin h
  have hbq : (x == y) = B := by rw [← unhide HB]; by_cases h : x = y <;> simp [h]
  go_enter Try.func66, Try.ntmps66
  go_wp2_with fail
  generalize w.alloc (.cells #[.int .i64 (k : Int), .int .i64 y] 44) = W1 at *
  go_quiet (fail)
  go_wp2
  go_ret
  exact ⟨rfl, (unhide HK).drewN _⟩

set_option maxRecDepth 20000 in
set_option maxHeartbeats 4000000 in
theorem wfree_any {w : World} {v : Value} {xs : List Int} (h : IntsAt w v xs) {x : Int} (h0 : 0 ≤ x) (h1 : x < (xs.length : Int)) : Calls Try.prog 55 #[v, .int .i64 x] w fun e w' => e = .returned (.bool (decide (xs.getD x.toNat 0 = -1))) ∧ w' = w := by
  obtain ⟨k, rfl⟩ : ∃ k : Nat, x = (k : Int) := ⟨x.toNat, by omega⟩
  rw [Int.toNat_natCast]
  obtain ⟨ao, cap, rfl, _, hin⟩ := h.shape
  obtain ⟨g, o, rfl, hc⟩ := hin (by omega)
  have a0 := hc k (by omega)
  generalize xs.getD k 0 = x at *
  clear hc hin h
  go_enter Try.func55, Try.ntmps55
  go_wp2
  go_ret
  refine ⟨ret_bool ?_, rfl⟩
  by_cases h : x = -1 <;> simp [h]

set_option maxRecDepth 20000 in
set_option maxHeartbeats 4000000 in
theorem wlack_any {w : World} {v : Value} {es : List E} (h : EdgesAt w v es) (hl : es.length ≤ 65536) (hr : Rise es) (x y : Int) : Calls Try.prog 74 #[v, ev x y] w fun e w' => e = .returned (.bool (!inB es (x, y))) ∧ Kept [] w w' := by
  obtain ⟨b0, b1⟩ := box2 (Kept.refl [] (w.alloc (.cells #[.int .i64 x, .int .i64 y] 44))) (by simp)
  have HK := hide ((Kept.refl [] w).alloc (.cells #[.int .i64 x, .int .i64 y] 44))
  have HB := hide (wbin_any (h.kept (unhide HK)) hl x y)
  have HR := hide hr
  obtain ⟨ao, cap, rfl, _, _, _⟩ := h.shape
  clear h hr hl
  go_enter Try.func74, Try.ntmps74
  go_wp2_with fail
  refine (unhide HB).mono ?_
  rintro e w1 ⟨p, there, rfl, hf, k1⟩
  have HT := hide (show (!there) = !inB es (x, y) from by rw [hf.mem (unhide HR)]; rfl)
  have HK1 := hide ((unhide HK).trans k1)
  clear hf k1 HB b0 b1
  go_wp2
  go_ret
  exact ⟨ret_bool (unhide HT), unhide HK1⟩
end Go.Proofs.Ytfilhbkenedchab

namespace Go.Proofs.Ytfilhbkenedchab
open Go.RowKit

/-- Where the first one lies of which it holds. -/
def IdxP (q : E → Bool) (l : List E) (r : Int) : Prop := (r = -1 ∧ ∀ i, i < l.length → q (at_ l i) = false) ∨ ∃ k : Nat, r = (k : Int) ∧ k < l.length ∧ q (at_ l k) = true ∧ ∀ i, i < k → q (at_ l i) = false

set_option maxRecDepth 20000 in
set_option maxHeartbeats 4000000 in
theorem indexL_any {w : World} {v u : Value} {l : List E} (h : EdgesAt w v l) (hl : l.length ≤ 65536) (q : E → Bool) (HP : ∀ W i, Kept [] w W → i < l.length → Calls Try.prog 74 #[u, ev (eA l i) (eB l i)] W fun e w' => e = .returned (.bool (q (at_ l i))) ∧ Kept [] W w') :
    Calls Try.prog 79 #[v, .func (.func 74) #[u] #[]] w fun e w' => ∃ r, e = .returned (.int .i64 r) ∧ IdxP q l r ∧ Kept [] w w' := by
  obtain ⟨ao, cap, rfl, _, _, _⟩ := h.shape
  have HX := hide h
  have HQ := hide HP
  have hm' : (l.length : Int) ≤ 9223372036854775807 := by omega
  clear h HP hl
  go_enter Try.func79, Try.ntmps79
  go_wp2
  go_loopw [5, 8] (fun _ vv wr => ∃ k : Nat, k ≤ l.length ∧ vv = .int .i64 k ∧ Hid ((∀ i, i < k → q (at_ l i) = false) ∧ Kept [] w wr)) (fun _ vv _ => l.length - (intOf vv).toNat)
  case atStart => exact ⟨0, Nat.zero_le _, rfl, fun i hi => by omega, Kept.refl _ _⟩
  case round =>
    obtain ⟨k, hk, rfl, hh⟩ := hrel
    by_cases hlt : k < l.length
    · obtain ⟨ao2, cap2, hv2, _, _, hin2⟩ := ((unhide HX).kept (unhide hh).2).shape
      obtain ⟨g1, o1, he2, hin⟩ := hin2 (by omega)
      have hao : ao = some ⟨g1, o1, none⟩ := by simp at hv2; rw [hv2.1, he2]
      subst hao
      have a0 := hin.a k hlt
      have a1 := hin.b k hlt
      have HC := hide (unhide HQ wr k (unhide hh).2 hlt)
      obtain ⟨C, hC⟩ : ∃ C, q (at_ l k) = C := ⟨_, rfl⟩
      rw [hC] at HC
      have HYES := hide (show C = true → IdxP q l (k : Int) from fun hc => Or.inr ⟨k, rfl, hlt, hC.trans hc, (unhide hh).1⟩)
      have HNO := hide (show C = false → ∀ i, i < k + 1 → q (at_ l i) = false from fun hc i hi => by
        by_cases e : i = k
        · subst e; exact hC.trans hc
        · exact (unhide hh).1 i (by omega))
      have HK := hide (unhide hh).2
      generalize eA l k = x at *
      generalize eB l k = y at *
      have t0 : (0 : Int) ≤ (k : Int) := by omega
      have t1 : (k : Int) < (l.length : Int) := by omega
      clear hin hin2 hv2 he2 hh hC HX HQ
      cases C
      · have HN := hide (unhide HNO rfl)
        clear HNO HYES
        go_wp2_with fail
        refine (unhide HC).mono ?_
        rintro e w3 ⟨rfl, k3⟩
        have HK3 := hide ((unhide HK).trans k3)
        clear k3
        go_wp2
        go_roundw
        case rel => exact ⟨k + 1, by omega, by go_num, unhide HN, unhide HK3⟩
        case measure => simp [intOf]; omega
      · have HY := hide (unhide HYES rfl)
        clear HNO HYES
        go_wp2_with fail
        refine (unhide HC).mono ?_
        rintro e w3 ⟨rfl, k3⟩
        have HK3 := hide ((unhide HK).trans k3)
        clear k3
        go_wp2
        go_ret
        exact ⟨_, rfl, unhide HY, unhide HK3⟩
    · have e : k = l.length := by omega
      have HF := hide (show IdxP q l (-1) from Or.inl ⟨rfl, fun i hi => (unhide hh).1 i (by omega)⟩)
      have HK := hide (unhide hh).2
      clear hh HX HQ
      subst e
      go_wp2
      go_ret
      exact ⟨_, rfl, unhide HF, unhide HK⟩

end Go.Proofs.Ytfilhbkenedchab
