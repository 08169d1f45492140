/- The reference's New: the numbers below n, each by itself. (Written by make/mkrefnew.py.) The reference's is, Find, Label, Same. -/
import Derived.Test.YthncoddcpjpblaaJoinOrder13
import Derived.Deep.AppendLies
namespace Go.Proofs.Ythncoddcpjpblaa
open Go.RowKit

theorem one_seen {w : World} {v : Value} {q : Nat} (h : w.cell? ⟨q, 0, none⟩ = some v) : ∀ j u, [v][j]? = some u → w.cell? ((⟨q, 0, none⟩ : Addr).add j) = some u := by
  intro j u hu
  cases j with
  | zero => simp at hu; subst hu; exact h
  | succ j => simp at hu
/-- What New leaves. -/
def RNewPost (w : World) (n : Nat) (e : Ending) (w' : World) : Prop := ∃ p ga gb, e = .returned (.pointer (some ⟨p, 0, none⟩)) ∧ RJ w' p ga gb n (fun k => k) (fun k => k) ∧ w.heap.size ≤ p ∧ w.heap.size ≤ ga ∧ w.heap.size ≤ gb ∧ Kept [] w w'
set_option maxRecDepth 20000 in
set_option maxHeartbeats 16000000 in
theorem jrnew_any (w : World) (n : Nat) (hn : n ≤ 100) : Calls Try.prog 7 #[.int .i64 (n : Int)] w fun e w' => RNewPost w n e w' := by
  obtain ⟨i, hi, hz0, hz1, hz2⟩ := info_parts infoInt
  go_enter Try.func7, Try.ntmps7
  go_wp2
  have KW := (Kept.refl [] w).alloc (.cells #[.slice none 0 0, .slice none 0 0] 48)
  have B := box2 (Kept.refl [] (w.alloc (.cells #[.slice none 0 0, .slice none 0 0] 48))) (by simp)
  have HR := hide (show RN (w.alloc (.cells #[.slice none 0 0, .slice none 0 0] 48)) (w.heap.size + 1) w.heap.size 0 (.slice none 0 0) (.slice none 0 0) from ⟨B.1, B.2, fun o => by simp only [World.frozen?, new_block w (.cells #[.slice none 0 0, .slice none 0 0] 48)]; rfl, by omega, by simp, ⟨rfl, Or.inl ⟨rfl, rfl⟩⟩, ⟨rfl, Or.inl ⟨rfl, rfl⟩⟩, by simp [Value.ownBlock]⟩)
  have HK := hide KW
  clear KW B
  generalize w.alloc (.cells #[.slice none 0 0, .slice none 0 0] 48) = W1 at *
  obtain ⟨p, hp⟩ : ∃ p, p = w.heap.size := ⟨_, rfl⟩
  rw [← hp] at HR
  have HPW := hide (Nat.le_of_eq hp.symm)
  simp only [← hp]
  clear hp
  obtain ⟨B0, hB0⟩ : ∃ B0, B0 = p + 1 := ⟨_, rfl⟩
  rw [← hB0] at HR
  have HBW := hide (show w.heap.size ≤ B0 by have := unhide HPW; omega)
  clear hB0
  go_loopw [4] (fun c wr => ∃ (k : Nat) (ao bo : Option Addr) (ca cb : Nat), k ≤ n ∧ c = .int .i64 k ∧ Hid (RN wr B0 p k (.slice ao k ca) (.slice bo k cb) ∧ Kept [] w wr)) (fun c _ => n - (intOf c).toNat)
  case atStart => exact ⟨0, none, none, 0, 0, Nat.zero_le _, rfl, unhide HR, unhide HK⟩
  case round =>
    obtain ⟨k, ao, bo, ca, cb, hk, rfl, hh⟩ := hrel
    clear HR HK
    by_cases hlt : k < n
    · have hrn := (unhide hh).1
      have k0 : (0 : Int) ≤ (k : Int) := by omega
      have HST := hide (fun (w1 x0 x0' x1 : World) (va' vb' : Value) => hrn.step (w1 := w1) (x0 := x0) (x0' := x0') (x1 := x1) (va' := va') (vb' := vb'))
      have HPA : p ∉ (Value.slice ao k ca).ownBlock.toList := fun hm => by have := (own_lt' hrn.a (by simpa using hm)).1; have := hrn.lt; omega
      have HPB : p ∉ (Value.slice bo k cb).ownBlock.toList := fun hm => by have := (own_lt' hrn.b (by simpa using hm)).1; have := hrn.lt; omega
      have HAP := hrn.apart
      have HKW := hide (unhide hh).2
      have HAB := hide (fun q (hq : (Value.slice ao k ca).ownBlock = some q) => (own_lt' hrn.a hq).1)
      have HBB := hide (fun q (hq : (Value.slice bo k cb).ownBlock = some q) => (own_lt' hrn.b hq).1)
      have hrn2 := hide (hrn.kept ((Kept.refl [] wr).drew))
      have hrn1 := hide hrn
      clear hh hrn
      go_wp2_with fail
      have cn := (unhide hrn2).c0
      have cm := (unhide hrn2).c1
      refine wp_region_turn (S := (fun W => W.cell? ⟨p, 0, none⟩ = some (.slice ao k ca) ∧ W.cell? ⟨p, 1, none⟩ = some (.slice bo k cb))) [18, 19, 20, 21] (by kernel_rfl) ⟨cn, cm⟩ (fun hHeld => ?_)
      have OA := (unhide hrn2).a
      have OB := (unhide hrn2).b
      have HLA := fun q (hq : (Value.slice ao k ca).ownBlock = some q) => (own_lt' (unhide hrn2).a hq).2
      have hsz := Nat.le_refl wr.drew.heap.size
      have hbase := (unhide hrn2).base
      have KA := (Kept.refl [] wr).drew
      have frz := (unhide hrn1).free
      have hpw := lt_of_cell (unhide hrn1).c0
      have FR0 : ∀ w1 x0 x0' x1 : World, Kept [] wr w1 → Kept (Value.slice ao k ca).ownBlock.toList w1 x0 → Kept [] x0 x0' → Kept (Value.slice bo k cb).ownBlock.toList x0' x1 → x1.frozen? ⟨p, 0, none⟩ = false := fun w1 x0 x0' x1 a b c d => by
        rw [d.frozen (by have := a.size; have := b.size; have := c.size; omega) HPB, c.frozen (by have := a.size; have := b.size; omega) (by simp), b.frozen (by have := a.size; omega) HPA, a.frozen hpw (by simp)]; exact frz 0
      have FR1 : ∀ w1 x0 x0' x1 : World, Kept [] wr w1 → Kept (Value.slice ao k ca).ownBlock.toList w1 x0 → Kept [] x0 x0' → Kept (Value.slice bo k cb).ownBlock.toList x0' x1 → x1.frozen? ⟨p, 1, none⟩ = false := fun w1 x0 x0' x1 a b c d => by
        rw [d.frozen (by have := a.size; have := b.size; have := c.size; omega) HPB, c.frozen (by have := a.size; have := b.size; omega) (by simp), b.frozen (by have := a.size; omega) HPA, a.frozen hpw (by simp)]; exact frz 1
      clear frz hpw
      generalize hw0 : wr.drew = w0 at *
      clear hw0
      refine turn_on 0 12 (v := ?_) rfl rfl (by kernel_rfl) (by kernel_rfl) (by kernel_rfl) (by kernel_rfl) (fun _ _ _ h => h) (by kernel_rfl) (by intro w hSw; (try dsimp only at hSw); go_simp; first | done | with_reducible rfl) (by assumption) ?_
      simp only [Act.put, List.setIfInBounds_toArray, List.set_cons_zero, List.set_cons_succ]
      refine turn_on 1 13 (v := ?_) rfl rfl (by kernel_rfl) (by kernel_rfl) (by kernel_rfl) (by kernel_rfl) (fun _ _ _ h => h) (by kernel_rfl) (by intro w hSw; (try dsimp only at hSw); go_simp; first | done | with_reducible rfl) (by assumption) ?_
      simp only [Act.put, List.setIfInBounds_toArray, List.set_cons_zero, List.set_cons_succ]
      refine turn_on 2 14 (v := ?_) rfl rfl (by kernel_rfl) (by kernel_rfl) (by kernel_rfl) (by kernel_rfl) (fun _ _ _ h => h) (by kernel_rfl) (by intro w hSw; (try dsimp only at hSw); go_simp; first | done | with_reducible rfl) (by assumption) ?_
      simp only [Act.put, List.setIfInBounds_toArray, List.set_cons_zero, List.set_cons_succ]
      refine turn_on 3 15 (v := ?_) rfl rfl (by kernel_rfl) (by kernel_rfl) (by kernel_rfl) (by kernel_rfl) (fun _ _ _ h => h) (by kernel_rfl) (by intro w hSw; (try dsimp only at hSw); go_simp; first | done | with_reducible rfl) (by assumption) ?_
      simp only [Act.put, List.setIfInBounds_toArray, List.set_cons_zero, List.set_cons_succ]
      refine turn_on 4 16 (v := ?_) rfl rfl (by kernel_rfl) (by kernel_rfl) (by kernel_rfl) (by kernel_rfl) (fun _ _ _ h => h) (by kernel_rfl) (by intro w hSw; (try dsimp only at hSw); go_simp; first | done | with_reducible rfl) (by assumption) ?_
      simp only [Act.put, List.setIfInBounds_toArray, List.set_cons_zero, List.set_cons_succ]
      refine turn_held 5 17 (v := ?_) rfl rfl (by kernel_rfl) (by kernel_rfl) (by kernel_rfl) (by kernel_rfl) (fun _ _ _ h => h) (by kernel_rfl) (by intro w hSw; (try dsimp only at hSw); go_simp; first | done | with_reducible rfl) (by assumption) ?_
      simp only [Act.put, List.setIfInBounds_toArray, List.set_cons_zero, List.set_cons_succ]
      refine turn_on 6 18 (v := ?_) rfl rfl (by kernel_rfl) (by kernel_rfl) (by kernel_rfl) (by kernel_rfl) (fun _ _ _ h => h) (by kernel_rfl) (by intro w hSw; (try dsimp only at hSw); go_simp; first | done | with_reducible rfl) (by assumption) ?_
      simp only [Act.put, List.setIfInBounds_toArray, List.set_cons_zero, List.set_cons_succ]
      refine turn_on 9 21 (v := ?_) rfl rfl (by kernel_rfl) (by kernel_rfl) (by kernel_rfl) (by kernel_rfl) (fun _ _ _ h => h) (by kernel_rfl) (by intro w hSw; (try dsimp only at hSw); go_simp; first | done | with_reducible rfl) (by assumption) ?_
      simp only [Act.put, List.setIfInBounds_toArray, List.set_cons_zero, List.set_cons_succ]
      refine turn_on 10 22 (v := ?_) rfl rfl (by kernel_rfl) (by kernel_rfl) (by kernel_rfl) (by kernel_rfl) (fun _ _ _ h => h) (by kernel_rfl) (by intro w hSw; (try dsimp only at hSw); go_simp; first | done | with_reducible rfl) (by assumption) ?_
      simp only [Act.put, List.setIfInBounds_toArray, List.set_cons_zero, List.set_cons_succ]
      refine turn_on 11 23 (v := ?_) rfl rfl (by kernel_rfl) (by kernel_rfl) (by kernel_rfl) (by kernel_rfl) (fun _ _ _ h => h) (by kernel_rfl) (by intro w hSw; (try dsimp only at hSw); go_simp; first | done | with_reducible rfl) (by assumption) ?_
      simp only [Act.put, List.setIfInBounds_toArray, List.set_cons_zero, List.set_cons_succ]
      refine turn_held 12 24 (v := ?_) rfl rfl (by kernel_rfl) (by kernel_rfl) (by kernel_rfl) (by kernel_rfl) (fun _ _ _ h => h) (by kernel_rfl) (by intro w hSw; (try dsimp only at hSw); go_simp; first | done | with_reducible rfl) (by assumption) ?_
      simp only [Act.put, List.setIfInBounds_toArray, List.set_cons_zero, List.set_cons_succ]
      refine turn_on 13 25 (v := ?_) rfl rfl (by kernel_rfl) (by kernel_rfl) (by kernel_rfl) (by kernel_rfl) (fun _ _ _ h => h) (by kernel_rfl) (by intro w hSw; (try dsimp only at hSw); go_simp; first | done | with_reducible rfl) (by assumption) ?_
      simp only [Act.put, List.setIfInBounds_toArray, List.set_cons_zero, List.set_cons_succ]
      refine wpAnyT_ready (rs := [7, 14]) (by kernel_rfl) (by simp) ?_
      refine AllReadyT.cons rfl (fun K hK => ?_) (AllReadyT.cons rfl (fun K hK => ?_) AllReadyT.nil)
      · go_simp
        refine hK.out _ _ ⟨alloc_cell cn _, alloc_cell cm _⟩ (fun hHeld => ?_)
        clear hK K
        have kk : Kept [] w0 (w0.alloc (.cells #[.int .i64 (k : Int)] 3)) := (Kept.refl [] w0).alloc _
        have seenA : (w0.alloc (.cells #[.int .i64 (k : Int)] 3)).cell? ⟨w0.heap.size, 0, none⟩ = some (.int .i64 (k : Int)) := by rw [cell_of_block (new_block w0 _)]; rfl
        have cn := kept_cell cn kk
        have cm := kept_cell cm kk
        have OA := own_other OA kk (by simp)
        have OB := own_other OB kk (by simp)
        have hbA : w0.heap.size ≤ w0.heap.size := by have := hsz; omega
        have hsz := Nat.le_trans hsz kk.size
        have KA := KA.trans kk
        generalize hqA : w0.heap.size = qA at *
        generalize w0.alloc (.cells #[.int .i64 (k : Int)] 3) = w0c at *
        refine wpAnyT_ready (rs := [8, 14]) (by kernel_rfl) (by simp) ?_
        refine AllReadyT.cons rfl (fun K hK => ?_) (AllReadyT.cons rfl (fun K hK => ?_) AllReadyT.nil)
        · refine step_append_lies _ rfl (.tmp 17) (.tmp 19) 39 rfl B0 3 i (.int .i64 0) 1 8 Try.underlying39 hi hz0 hz1 hz2 rfl (by decide) (Value.slice ao k ca) k ((uptoI k).map (Value.int .i64)) rfl OA ⟨qA, 0, none⟩ 1 1 [.int .i64 (k : Int)] rfl rfl (one_seen seenA) (by simp [Value.oneCell']) (by decide) (by unfold maxLen; omega) (by omega) (by omega) (w0c.heap.size) rfl ?_
          intro gA capA w0cc ownA grA liA0 _
          have GA : Kept (Value.slice ao k ca).ownBlock.toList w0c w0cc := grown_kept grA
          have liA : (Value.slice (some ⟨gA, 0, none⟩) (k + 1) capA).ownBlock = (Value.slice ao k ca).ownBlock ∨ ∃ q, (Value.slice (some ⟨gA, 0, none⟩) (k + 1) capA).ownBlock = some q ∧ w0c.heap.size ≤ q := liA0.elim (fun h => Or.inl h.symm) (fun h => Or.inr ⟨gA, rfl, Nat.le_of_eq h.symm⟩)
          have cn := kept_cell' cn GA HPA
          have cm := kept_cell' cm GA HPA
          have OB := own_other OB GA (fun q hq hm => HAP q (by simpa using hm) hq)
          have KB := Kept.refl [] w0cc
          have hsz := Nat.le_trans hsz GA.size
          change K (Act.put _ (some 20) _) _
          refine hK.out _ _ ⟨cn, cm⟩ (fun hHeld => ?_)
          clear hK K
          simp only [Act.put, List.setIfInBounds_toArray, List.set_cons_zero, List.set_cons_succ]
          refine wpAnyT_ready (rs := [14]) (by kernel_rfl) (by simp) ?_
          refine AllReadyT.cons rfl (fun K hK => ?_) AllReadyT.nil
          go_simp
          refine hK.out _ _ ⟨alloc_cell cn _, alloc_cell cm _⟩ (fun hHeld => ?_)
          clear hK K
          have kk : Kept [] w0cc (w0cc.alloc (.cells #[.int .i64 (k : Int)] 3)) := (Kept.refl [] w0cc).alloc _
          have seenB : (w0cc.alloc (.cells #[.int .i64 (k : Int)] 3)).cell? ⟨w0cc.heap.size, 0, none⟩ = some (.int .i64 (k : Int)) := by rw [cell_of_block (new_block w0cc _)]; rfl
          have cn := kept_cell cn kk
          have cm := kept_cell cm kk
          have OB := own_other OB kk (by simp)
          have hbB : w0.heap.size ≤ w0cc.heap.size := by have := hsz; omega
          have hsz := Nat.le_trans hsz kk.size
          have KB := KB.trans kk
          generalize hqB : w0cc.heap.size = qB at *
          generalize w0cc.alloc (.cells #[.int .i64 (k : Int)] 3) = w0ccc at *
          refine wpAnyT_ready (rs := [15]) (by kernel_rfl) (by simp) ?_
          refine AllReadyT.cons rfl (fun K hK => ?_) AllReadyT.nil
          refine step_append_lies _ rfl (.tmp 24) (.tmp 26) 39 rfl B0 3 i (.int .i64 0) 1 8 Try.underlying39 hi hz0 hz1 hz2 rfl (by decide) (Value.slice bo k cb) k ((uptoI k).map (Value.int .i64)) rfl OB ⟨qB, 0, none⟩ 1 1 [.int .i64 (k : Int)] rfl rfl (one_seen seenB) (by simp [Value.oneCell']) (by decide) (by unfold maxLen; omega) (by omega) (by omega) (w0ccc.heap.size) rfl ?_
          intro gB capB w0cccc ownB grB liB0 _
          have GB : Kept (Value.slice bo k cb).ownBlock.toList w0ccc w0cccc := grown_kept grB
          have liB : (Value.slice (some ⟨gB, 0, none⟩) (k + 1) capB).ownBlock = (Value.slice bo k cb).ownBlock ∨ ∃ q, (Value.slice (some ⟨gB, 0, none⟩) (k + 1) capB).ownBlock = some q ∧ w0ccc.heap.size ≤ q := liB0.elim (fun h => Or.inl h.symm) (fun h => Or.inr ⟨gB, rfl, Nat.le_of_eq h.symm⟩)
          have cn := kept_cell' cn GB HPB
          have cm := kept_cell' cm GB HPB
          have hsz := Nat.le_trans hsz GB.size
          change K (Act.put _ (some 27) _) _
          refine hK.out _ _ ⟨cn, cm⟩ (fun hHeld => ?_)
          clear hK K
          simp only [Act.put, List.setIfInBounds_toArray, List.set_cons_zero, List.set_cons_succ]
          have fr0 := FR0 _ _ _ _ KA GA KB GB
          have fr1 := FR1 _ _ _ _ KA GA KB GB
          refine turn_on 16 28 (v := ?_) rfl rfl (by kernel_rfl) (by kernel_rfl) (by kernel_rfl) (by kernel_rfl) (fun _ _ _ h => h) (by kernel_rfl) (by intro w hSw; (try dsimp only at hSw); go_simp; first | done | with_reducible rfl) (by assumption) ?_
          simp only [Act.put, List.setIfInBounds_toArray, List.set_cons_zero, List.set_cons_succ]
          refine turn_on 17 29 (v := ?_) rfl rfl (by kernel_rfl) (by kernel_rfl) (by kernel_rfl) (by kernel_rfl) (fun _ _ _ h => h) (by kernel_rfl) (by intro w hSw; (try dsimp only at hSw); go_simp; first | done | with_reducible rfl) (by assumption) ?_
          simp only [Act.put, List.setIfInBounds_toArray, List.set_cons_zero, List.set_cons_succ]
          refine wpAnyT_ready (rs := [18]) (by kernel_rfl) (by simp) ?_
          refine AllReadyT.turn rfl (by kernel_rfl) (fun K hK => ?_) AllReadyT.nil
          go_simp
          refine hK.out _ _ ?_
          clear hK K
          refine wpAnyT_ready (rs := [19]) (by kernel_rfl) (by simp) ?_
          refine AllReadyT.turn rfl (by kernel_rfl) (fun K hK => ?_) AllReadyT.nil
          go_simp
          refine hK.out _ _ ?_
          clear hK K
          refine wpAnyT_ready (rs := [20]) (by kernel_rfl) (by simp) ?_
          refine AllReadyT.turn rfl (by kernel_rfl) (fun K hK => ?_) AllReadyT.nil
          go_simp
          refine hK.out _ _ ?_
          clear hK K
          refine wpAnyT_ready (rs := [21]) (by kernel_rfl) (by simp) ?_
          refine AllReadyT.turn rfl (by kernel_rfl) (fun K hK => ?_) AllReadyT.nil
          go_simp
          refine hK.out _ _ ?_
          clear hK K
          refine wpAnyT_done (by kernel_rfl) ?_ _
          go_wp2
          go_roundw
          case rel => exact ⟨k + 1, _, _, _, _, by omega, by go_num, unhide HST _ _ _ _ _ _ KA ownA GA liA KB ownB GB liB, (((((unhide HKW).trans KA).trans' GA (fun q hq => Or.inr (by have := unhide HAB q (by simpa using hq); have := unhide HBW; omega))).trans KB).trans' GB (fun q hq => Or.inr (by have := unhide HBB q (by simpa using hq); have := unhide HBW; omega))).setCell (Or.inr (unhide HPW)) _ |>.setCell (Or.inr (unhide HPW)) _⟩
          case measure => simp [intOf]; omega
        · go_simp
          refine hK.out _ _ ⟨alloc_cell cn _, alloc_cell cm _⟩ (fun hHeld => ?_)
          clear hK K
          have kk : Kept [] w0c (w0c.alloc (.cells #[.int .i64 (k : Int)] 3)) := (Kept.refl [] w0c).alloc _
          have seenB : (w0c.alloc (.cells #[.int .i64 (k : Int)] 3)).cell? ⟨w0c.heap.size, 0, none⟩ = some (.int .i64 (k : Int)) := by rw [cell_of_block (new_block w0c _)]; rfl
          replace seenA := kept_cell seenA kk
          have cn := kept_cell cn kk
          have cm := kept_cell cm kk
          have OA := own_other OA kk (by simp)
          have OB := own_other OB kk (by simp)
          have hbB : w0.heap.size ≤ w0c.heap.size := by have := hsz; omega
          have hsz := Nat.le_trans hsz kk.size
          have KA := KA.trans kk
          generalize hqB : w0c.heap.size = qB at *
          generalize w0c.alloc (.cells #[.int .i64 (k : Int)] 3) = w0cc at *
          refine wpAnyT_ready (rs := [8]) (by kernel_rfl) (by simp) ?_
          refine AllReadyT.cons rfl (fun K hK => ?_) AllReadyT.nil
          refine step_append_lies _ rfl (.tmp 17) (.tmp 19) 39 rfl B0 3 i (.int .i64 0) 1 8 Try.underlying39 hi hz0 hz1 hz2 rfl (by decide) (Value.slice ao k ca) k ((uptoI k).map (Value.int .i64)) rfl OA ⟨qA, 0, none⟩ 1 1 [.int .i64 (k : Int)] rfl rfl (one_seen seenA) (by simp [Value.oneCell']) (by decide) (by unfold maxLen; omega) (by omega) (by omega) (w0cc.heap.size) rfl ?_
          intro gA capA w0ccc ownA grA liA0 _
          have GA : Kept (Value.slice ao k ca).ownBlock.toList w0cc w0ccc := grown_kept grA
          have liA : (Value.slice (some ⟨gA, 0, none⟩) (k + 1) capA).ownBlock = (Value.slice ao k ca).ownBlock ∨ ∃ q, (Value.slice (some ⟨gA, 0, none⟩) (k + 1) capA).ownBlock = some q ∧ w0cc.heap.size ≤ q := liA0.elim (fun h => Or.inl h.symm) (fun h => Or.inr ⟨gA, rfl, Nat.le_of_eq h.symm⟩)
          have cn := kept_cell' cn GA HPA
          have cm := kept_cell' cm GA HPA
          have OB := own_other OB GA (fun q hq hm => HAP q (by simpa using hm) hq)
          have KB := Kept.refl [] w0ccc
          replace seenB := kept_cell' seenB GA (fun hm => by have := HLA _ (by simpa using hm); omega)
          have hsz := Nat.le_trans hsz GA.size
          change K (Act.put _ (some 20) _) _
          refine hK.out _ _ ⟨cn, cm⟩ (fun hHeld => ?_)
          clear hK K
          simp only [Act.put, List.setIfInBounds_toArray, List.set_cons_zero, List.set_cons_succ]
          refine wpAnyT_ready (rs := [15]) (by kernel_rfl) (by simp) ?_
          refine AllReadyT.cons rfl (fun K hK => ?_) AllReadyT.nil
          refine step_append_lies _ rfl (.tmp 24) (.tmp 26) 39 rfl B0 3 i (.int .i64 0) 1 8 Try.underlying39 hi hz0 hz1 hz2 rfl (by decide) (Value.slice bo k cb) k ((uptoI k).map (Value.int .i64)) rfl OB ⟨qB, 0, none⟩ 1 1 [.int .i64 (k : Int)] rfl rfl (one_seen seenB) (by simp [Value.oneCell']) (by decide) (by unfold maxLen; omega) (by omega) (by omega) (w0ccc.heap.size) rfl ?_
          intro gB capB w0cccc ownB grB liB0 _
          have GB : Kept (Value.slice bo k cb).ownBlock.toList w0ccc w0cccc := grown_kept grB
          have liB : (Value.slice (some ⟨gB, 0, none⟩) (k + 1) capB).ownBlock = (Value.slice bo k cb).ownBlock ∨ ∃ q, (Value.slice (some ⟨gB, 0, none⟩) (k + 1) capB).ownBlock = some q ∧ w0ccc.heap.size ≤ q := liB0.elim (fun h => Or.inl h.symm) (fun h => Or.inr ⟨gB, rfl, Nat.le_of_eq h.symm⟩)
          have cn := kept_cell' cn GB HPB
          have cm := kept_cell' cm GB HPB
          have hsz := Nat.le_trans hsz GB.size
          change K (Act.put _ (some 27) _) _
          refine hK.out _ _ ⟨cn, cm⟩ (fun hHeld => ?_)
          clear hK K
          simp only [Act.put, List.setIfInBounds_toArray, List.set_cons_zero, List.set_cons_succ]
          have fr0 := FR0 _ _ _ _ KA GA KB GB
          have fr1 := FR1 _ _ _ _ KA GA KB GB
          refine turn_on 16 28 (v := ?_) rfl rfl (by kernel_rfl) (by kernel_rfl) (by kernel_rfl) (by kernel_rfl) (fun _ _ _ h => h) (by kernel_rfl) (by intro w hSw; (try dsimp only at hSw); go_simp; first | done | with_reducible rfl) (by assumption) ?_
          simp only [Act.put, List.setIfInBounds_toArray, List.set_cons_zero, List.set_cons_succ]
          refine turn_on 17 29 (v := ?_) rfl rfl (by kernel_rfl) (by kernel_rfl) (by kernel_rfl) (by kernel_rfl) (fun _ _ _ h => h) (by kernel_rfl) (by intro w hSw; (try dsimp only at hSw); go_simp; first | done | with_reducible rfl) (by assumption) ?_
          simp only [Act.put, List.setIfInBounds_toArray, List.set_cons_zero, List.set_cons_succ]
          refine wpAnyT_ready (rs := [18]) (by kernel_rfl) (by simp) ?_
          refine AllReadyT.turn rfl (by kernel_rfl) (fun K hK => ?_) AllReadyT.nil
          go_simp
          refine hK.out _ _ ?_
          clear hK K
          refine wpAnyT_ready (rs := [19]) (by kernel_rfl) (by simp) ?_
          refine AllReadyT.turn rfl (by kernel_rfl) (fun K hK => ?_) AllReadyT.nil
          go_simp
          refine hK.out _ _ ?_
          clear hK K
          refine wpAnyT_ready (rs := [20]) (by kernel_rfl) (by simp) ?_
          refine AllReadyT.turn rfl (by kernel_rfl) (fun K hK => ?_) AllReadyT.nil
          go_simp
          refine hK.out _ _ ?_
          clear hK K
          refine wpAnyT_ready (rs := [21]) (by kernel_rfl) (by simp) ?_
          refine AllReadyT.turn rfl (by kernel_rfl) (fun K hK => ?_) AllReadyT.nil
          go_simp
          refine hK.out _ _ ?_
          clear hK K
          refine wpAnyT_done (by kernel_rfl) ?_ _
          go_wp2
          go_roundw
          case rel => exact ⟨k + 1, _, _, _, _, by omega, by go_num, unhide HST _ _ _ _ _ _ KA ownA GA liA KB ownB GB liB, (((((unhide HKW).trans KA).trans' GA (fun q hq => Or.inr (by have := unhide HAB q (by simpa using hq); have := unhide HBW; omega))).trans KB).trans' GB (fun q hq => Or.inr (by have := unhide HBB q (by simpa using hq); have := unhide HBW; omega))).setCell (Or.inr (unhide HPW)) _ |>.setCell (Or.inr (unhide HPW)) _⟩
          case measure => simp [intOf]; omega
      · go_simp
        refine hK.out _ _ ⟨alloc_cell cn _, alloc_cell cm _⟩ (fun hHeld => ?_)
        clear hK K
        have kk : Kept [] w0 (w0.alloc (.cells #[.int .i64 (k : Int)] 3)) := (Kept.refl [] w0).alloc _
        have seenB : (w0.alloc (.cells #[.int .i64 (k : Int)] 3)).cell? ⟨w0.heap.size, 0, none⟩ = some (.int .i64 (k : Int)) := by rw [cell_of_block (new_block w0 _)]; rfl
        have cn := kept_cell cn kk
        have cm := kept_cell cm kk
        have OA := own_other OA kk (by simp)
        have OB := own_other OB kk (by simp)
        have hbB : w0.heap.size ≤ w0.heap.size := by have := hsz; omega
        have hsz := Nat.le_trans hsz kk.size
        have KA := KA.trans kk
        generalize hqB : w0.heap.size = qB at *
        generalize w0.alloc (.cells #[.int .i64 (k : Int)] 3) = w0c at *
        refine wpAnyT_ready (rs := [7]) (by kernel_rfl) (by simp) ?_
        refine AllReadyT.cons rfl (fun K hK => ?_) AllReadyT.nil
        go_simp
        refine hK.out _ _ ⟨alloc_cell cn _, alloc_cell cm _⟩ (fun hHeld => ?_)
        clear hK K
        have kk : Kept [] w0c (w0c.alloc (.cells #[.int .i64 (k : Int)] 3)) := (Kept.refl [] w0c).alloc _
        have seenA : (w0c.alloc (.cells #[.int .i64 (k : Int)] 3)).cell? ⟨w0c.heap.size, 0, none⟩ = some (.int .i64 (k : Int)) := by rw [cell_of_block (new_block w0c _)]; rfl
        replace seenB := kept_cell seenB kk
        have cn := kept_cell cn kk
        have cm := kept_cell cm kk
        have OA := own_other OA kk (by simp)
        have OB := own_other OB kk (by simp)
        have hbA : w0.heap.size ≤ w0c.heap.size := by have := hsz; omega
        have hsz := Nat.le_trans hsz kk.size
        have KA := KA.trans kk
        generalize hqA : w0c.heap.size = qA at *
        generalize w0c.alloc (.cells #[.int .i64 (k : Int)] 3) = w0cc at *
        refine wpAnyT_ready (rs := [8]) (by kernel_rfl) (by simp) ?_
        refine AllReadyT.cons rfl (fun K hK => ?_) AllReadyT.nil
        refine step_append_lies _ rfl (.tmp 17) (.tmp 19) 39 rfl B0 3 i (.int .i64 0) 1 8 Try.underlying39 hi hz0 hz1 hz2 rfl (by decide) (Value.slice ao k ca) k ((uptoI k).map (Value.int .i64)) rfl OA ⟨qA, 0, none⟩ 1 1 [.int .i64 (k : Int)] rfl rfl (one_seen seenA) (by simp [Value.oneCell']) (by decide) (by unfold maxLen; omega) (by omega) (by omega) (w0cc.heap.size) rfl ?_
        intro gA capA w0ccc ownA grA liA0 _
        have GA : Kept (Value.slice ao k ca).ownBlock.toList w0cc w0ccc := grown_kept grA
        have liA : (Value.slice (some ⟨gA, 0, none⟩) (k + 1) capA).ownBlock = (Value.slice ao k ca).ownBlock ∨ ∃ q, (Value.slice (some ⟨gA, 0, none⟩) (k + 1) capA).ownBlock = some q ∧ w0cc.heap.size ≤ q := liA0.elim (fun h => Or.inl h.symm) (fun h => Or.inr ⟨gA, rfl, Nat.le_of_eq h.symm⟩)
        have cn := kept_cell' cn GA HPA
        have cm := kept_cell' cm GA HPA
        have OB := own_other OB GA (fun q hq hm => HAP q (by simpa using hm) hq)
        have KB := Kept.refl [] w0ccc
        replace seenB := kept_cell' seenB GA (fun hm => by have := HLA _ (by simpa using hm); omega)
        have hsz := Nat.le_trans hsz GA.size
        change K (Act.put _ (some 20) _) _
        refine hK.out _ _ ⟨cn, cm⟩ (fun hHeld => ?_)
        clear hK K
        simp only [Act.put, List.setIfInBounds_toArray, List.set_cons_zero, List.set_cons_succ]
        refine wpAnyT_ready (rs := [15]) (by kernel_rfl) (by simp) ?_
        refine AllReadyT.cons rfl (fun K hK => ?_) AllReadyT.nil
        refine step_append_lies _ rfl (.tmp 24) (.tmp 26) 39 rfl B0 3 i (.int .i64 0) 1 8 Try.underlying39 hi hz0 hz1 hz2 rfl (by decide) (Value.slice bo k cb) k ((uptoI k).map (Value.int .i64)) rfl OB ⟨qB, 0, none⟩ 1 1 [.int .i64 (k : Int)] rfl rfl (one_seen seenB) (by simp [Value.oneCell']) (by decide) (by unfold maxLen; omega) (by omega) (by omega) (w0ccc.heap.size) rfl ?_
        intro gB capB w0cccc ownB grB liB0 _
        have GB : Kept (Value.slice bo k cb).ownBlock.toList w0ccc w0cccc := grown_kept grB
        have liB : (Value.slice (some ⟨gB, 0, none⟩) (k + 1) capB).ownBlock = (Value.slice bo k cb).ownBlock ∨ ∃ q, (Value.slice (some ⟨gB, 0, none⟩) (k + 1) capB).ownBlock = some q ∧ w0ccc.heap.size ≤ q := liB0.elim (fun h => Or.inl h.symm) (fun h => Or.inr ⟨gB, rfl, Nat.le_of_eq h.symm⟩)
        have cn := kept_cell' cn GB HPB
        have cm := kept_cell' cm GB HPB
        have hsz := Nat.le_trans hsz GB.size
        change K (Act.put _ (some 27) _) _
        refine hK.out _ _ ⟨cn, cm⟩ (fun hHeld => ?_)
        clear hK K
        simp only [Act.put, List.setIfInBounds_toArray, List.set_cons_zero, List.set_cons_succ]
        have fr0 := FR0 _ _ _ _ KA GA KB GB
        have fr1 := FR1 _ _ _ _ KA GA KB GB
        refine turn_on 16 28 (v := ?_) rfl rfl (by kernel_rfl) (by kernel_rfl) (by kernel_rfl) (by kernel_rfl) (fun _ _ _ h => h) (by kernel_rfl) (by intro w hSw; (try dsimp only at hSw); go_simp; first | done | with_reducible rfl) (by assumption) ?_
        simp only [Act.put, List.setIfInBounds_toArray, List.set_cons_zero, List.set_cons_succ]
        refine turn_on 17 29 (v := ?_) rfl rfl (by kernel_rfl) (by kernel_rfl) (by kernel_rfl) (by kernel_rfl) (fun _ _ _ h => h) (by kernel_rfl) (by intro w hSw; (try dsimp only at hSw); go_simp; first | done | with_reducible rfl) (by assumption) ?_
        simp only [Act.put, List.setIfInBounds_toArray, List.set_cons_zero, List.set_cons_succ]
        refine wpAnyT_ready (rs := [18]) (by kernel_rfl) (by simp) ?_
        refine AllReadyT.turn rfl (by kernel_rfl) (fun K hK => ?_) AllReadyT.nil
        go_simp
        refine hK.out _ _ ?_
        clear hK K
        refine wpAnyT_ready (rs := [19]) (by kernel_rfl) (by simp) ?_
        refine AllReadyT.turn rfl (by kernel_rfl) (fun K hK => ?_) AllReadyT.nil
        go_simp
        refine hK.out _ _ ?_
        clear hK K
        refine wpAnyT_ready (rs := [20]) (by kernel_rfl) (by simp) ?_
        refine AllReadyT.turn rfl (by kernel_rfl) (fun K hK => ?_) AllReadyT.nil
        go_simp
        refine hK.out _ _ ?_
        clear hK K
        refine wpAnyT_ready (rs := [21]) (by kernel_rfl) (by simp) ?_
        refine AllReadyT.turn rfl (by kernel_rfl) (fun K hK => ?_) AllReadyT.nil
        go_simp
        refine hK.out _ _ ?_
        clear hK K
        refine wpAnyT_done (by kernel_rfl) ?_ _
        go_wp2
        go_roundw
        case rel => exact ⟨k + 1, _, _, _, _, by omega, by go_num, unhide HST _ _ _ _ _ _ KA ownA GA liA KB ownB GB liB, (((((unhide HKW).trans KA).trans' GA (fun q hq => Or.inr (by have := unhide HAB q (by simpa using hq); have := unhide HBW; omega))).trans KB).trans' GB (fun q hq => Or.inr (by have := unhide HBB q (by simpa using hq); have := unhide HBW; omega))).setCell (Or.inr (unhide HPW)) _ |>.setCell (Or.inr (unhide HPW)) _⟩
        case measure => simp [intOf]; omega
    · have e : k = n := by omega
      subst e
      go_wp2
      go_ret
      obtain ⟨ga, gb, h1, h2, h3⟩ := (unhide hh).1.fin hn
      exact ⟨p, ga, gb, rfl, h3, unhide HPW, Nat.le_trans (unhide HPW) h1, Nat.le_trans (unhide HPW) h2, (unhide hh).2⟩
end Go.Proofs.Ythncoddcpjpblaa

namespace Go.Proofs.Ythncoddcpjpblaa
open Go.RowKit

set_option maxHeartbeats 1000000 in
theorem jris_any {w : World} {p ga gb n : Nat} {L B : Nat → Nat} (h : RJ w p ga gb n L B) (x : Int) :
    Calls Try.prog 23 #[.pointer (some ⟨p, 0, none⟩), .int .i64 x] w fun e w' => e = .returned (.bool (hasN n x)) ∧ w' = w := by
  obtain ⟨ao, ca, c0, _⟩ := h.c0
  have hm := h.most
  have hn : (n : Int) ≤ 9223372036854775807 := by omega
  clear h hm
  by_cases h0 : 0 ≤ x
  · have hfin := hide (show hasN n x = decide (x < (n : Int)) by unfold hasN; simp [h0])
    go_enter Try.func23, Try.ntmps23
    go_wp2
    go_ret
    exact ⟨ret_bool (unhide hfin).symm, rfl⟩
  · have hfin := hide (show hasN n x = false by unfold hasN; simp; intro h; exact absurd h h0)
    go_enter Try.func23, Try.ntmps23
    go_wp2
    go_ret
    exact ⟨ret_bool (unhide hfin).symm, rfl⟩
/-- The cells of a number. -/
theorem RJ.at' {w : World} {p ga gb n k : Nat} {L B : Nat → Nat} (h : RJ w p ga gb n L B) (hk : k < n) : ∃ ca cb, w.cell? ⟨p, 0, none⟩ = some (.slice (some ⟨ga, 0, none⟩) n ca) ∧ w.cell? ⟨p, 1, none⟩ = some (.slice (some ⟨gb, 0, none⟩) n cb) ∧ w.cell? ⟨ga, k, none⟩ = some (.int .i64 (L k : Int)) ∧ w.cell? ⟨gb, k, none⟩ = some (.int .i64 (B k : Int)) := by
  obtain ⟨ao, ca, c0, e0⟩ := h.c0
  obtain ⟨bo, cb, c1, e1⟩ := h.c1
  have hp : 0 < n := by omega
  rw [e0 hp] at c0
  rw [e1 hp] at c1
  exact ⟨ca, cb, c0, c1, (h.a hp).cell k hk, (h.b hp).cell k hk⟩
set_option maxHeartbeats 2000000 in
theorem jrfind_any {w : World} {p ga gb n : Nat} {L B : Nat → Nat} (h : RJ w p ga gb n L B) (x : Int) :
    Calls Try.prog 14 #[.pointer (some ⟨p, 0, none⟩), .int .i64 x] w fun e w' => e = .returned (.int .i64 (tellI n L x)) ∧ w' = w := by
  have HA := jris_any h x
  cases hh : hasN n x
  · rw [tellI_no hh]
    rw [hh] at HA
    have H := hide HA
    clear HA h hh
    go_enter Try.func14, Try.ntmps14
    go_wp2_with fail
    refine (unhide H).mono ?_
    rintro e w' ⟨rfl, rfl⟩
    go_wp2
    go_ret
    exact ⟨rfl, rfl⟩
  · obtain ⟨k, hk, rfl⟩ := hasN_at hh
    rw [tellI_nat hk]
    rw [hh] at HA
    have H := hide HA
    obtain ⟨ca, cb, c0, c1, d0, d1⟩ := h.at' hk
    have k0 : (0 : Int) ≤ (k : Int) := by omega
    have k1 : (k : Int) < (n : Int) := by omega
    clear HA h hh c1 d1
    generalize L k = l at *
    go_enter Try.func14, Try.ntmps14
    go_wp2_with fail
    refine (unhide H).mono ?_
    rintro e w' ⟨rfl, rfl⟩
    go_wp2
    go_ret
    exact ⟨rfl, rfl⟩
set_option maxHeartbeats 2000000 in
theorem jrlabel_any {w : World} {p ga gb n : Nat} {L B : Nat → Nat} (h : RJ w p ga gb n L B) (x : Int) :
    Calls Try.prog 16 #[.pointer (some ⟨p, 0, none⟩), .int .i64 x] w fun e w' => e = .returned (.int .i64 (tellI n B x)) ∧ w' = w := by
  have HA := jris_any h x
  cases hh : hasN n x
  · rw [tellI_no hh]
    rw [hh] at HA
    have H := hide HA
    clear HA h hh
    go_enter Try.func16, Try.ntmps16
    go_wp2_with fail
    refine (unhide H).mono ?_
    rintro e w' ⟨rfl, rfl⟩
    go_wp2
    go_ret
    exact ⟨rfl, rfl⟩
  · obtain ⟨k, hk, rfl⟩ := hasN_at hh
    rw [tellI_nat hk]
    rw [hh] at HA
    have H := hide HA
    obtain ⟨ca, cb, c0, c1, d0, d1⟩ := h.at' hk
    have k0 : (0 : Int) ≤ (k : Int) := by omega
    have k1 : (k : Int) < (n : Int) := by omega
    clear HA h hh c0 d0
    generalize B k = l at *
    go_enter Try.func16, Try.ntmps16
    go_wp2_with fail
    refine (unhide H).mono ?_
    rintro e w' ⟨rfl, rfl⟩
    go_wp2
    go_ret
    exact ⟨rfl, rfl⟩
theorem RJ.drewN {w : World} {p ga gb n : Nat} {L B : Nat → Nat} (h : RJ w p ga gb n L B) (m : Nat) : RJ (w.drewN m) p ga gb n L B := h.kept (bs := []) ((Kept.refl [] w).drewN m) (by simp) (by simp) (by simp)
set_option maxHeartbeats 4000000 in
theorem jrsame_any {w : World} {p ga gb n : Nat} {L B : Nat → Nat} (h : RJ w p ga gb n L B) (a b : Int) :
    Calls Try.prog 20 #[.pointer (some ⟨p, 0, none⟩), .int .i64 a, .int .i64 b] w fun e w' => e = .returned (.bool (sameN n L a b)) ∧ ∃ m, w' = w.drewN m := by
  have HA := fun m => jris_any (h.drewN m) a
  have HB := fun m => jris_any (h.drewN m) b
  cases ha : hasN n a
  · rw [ha] at HA
    replace HA := hide HA
    have hfin := hide (show sameN n L a b = false by unfold sameN; rw [ha]; rfl)
    clear HB ha h
    go_enter Try.func20, Try.ntmps20
    go_wp2_with fail
    go_quiet ((go_at_call 23; exact Calls.quiet_of_same (unhide HA _)))
    go_wp2
    go_ret
    exact ⟨ret_bool (unhide hfin).symm, nq, rfl⟩
  · cases hb : hasN n b
    · obtain ⟨x, hx, rfl⟩ := hasN_at ha
      rw [ha] at HA
      rw [hb] at HB
      replace HA := hide HA
      replace HB := hide HB
      have hfin := hide (show sameN n L (x : Int) b = false by unfold sameN; rw [ha, tellI_no hb, tellI_nat hx]; simp)
      clear ha hb h
      have hq : ((x : Int) == b) = false ∨ ((x : Int) == b) = true := by cases ((x : Int) == b) <;> simp
      generalize (x : Int) = a at *
      clear hq
      go_enter Try.func20, Try.ntmps20
      go_wp2_with fail
      go_quiet (first | (go_at_call_of 23 a; exact Calls.quiet_of_same (unhide HA _)) | (go_at_call_of 23 b; exact Calls.quiet_of_same (unhide HB _)))
      go_wp2
      go_ret
      exact ⟨ret_bool (unhide hfin).symm, nq, rfl⟩
    · obtain ⟨x, hx, rfl⟩ := hasN_at ha
      obtain ⟨y, hy, rfl⟩ := hasN_at hb
      rw [ha] at HA
      rw [hb] at HB
      replace HA := hide HA
      replace HB := hide HB
      obtain ⟨ca, cb, c0, c1, d0, _⟩ := h.at' hx
      obtain ⟨_, _, _, _, e0, _⟩ := h.at' hy
      have hfin := hide (show sameN n L (x : Int) (y : Int) = decide ((L x : Int) = (L y : Int)) by unfold sameN; rw [ha, tellI_nat hy, tellI_nat hx]; rfl)
      have k0 : (0 : Int) ≤ (x : Int) := by omega
      have k1 : (x : Int) < (n : Int) := by omega
      have k2 : (0 : Int) ≤ (y : Int) := by omega
      have k3 : (y : Int) < (n : Int) := by omega
      clear ha hb h c1
      generalize (L x : Int) = lx at *
      generalize (L y : Int) = ly at *
      go_enter Try.func20, Try.ntmps20
      go_wp2_with fail
      go_quiet (first | (go_at_call_of 23 x; exact Calls.quiet_of_same (unhide HA _)) | (go_at_call_of 23 y; exact Calls.quiet_of_same (unhide HB _)) | (go_at_call 23; exact Calls.quiet_of_same (unhide HA _)) | (go_at_call 23; exact Calls.quiet_of_same (unhide HB _)))
      go_wp2
      go_ret
      exact ⟨ret_bool (unhide hfin).symm, nq, rfl⟩
end Go.Proofs.Ythncoddcpjpblaa
