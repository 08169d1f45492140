/- draw. -/
import Derived.Test.YtfilhbkenedchabSingleGrows17
import Derived.Maps.AppendAt
import Derived.Handy
namespace Go.Proofs.Ytfilhbkenedchab
open Go.RowKit

theorem JB.top2 {w : World} {jp jg N : Nat} {B : Nat → Nat} {b y top : Nat} (hb : B b = b) (hy : B y = y) (ht : B top = top) (hyb : y ≠ b) (hyt : y ≠ top)
    (h : JB w jp jg N (fun k => if (if B k = B b ∨ B k = B top then top else B k) = (if B y = B b ∨ B y = B top then top else B y) ∨ (if B k = B b ∨ B k = B top then top else B k) = (if B top = B b ∨ B top = B top then top else B top) then top else (if B k = B b ∨ B k = B top then top else B k))) : JB w jp jg N (fun k => if B k = b ∨ B k = y then top else B k) := by
  refine h.like (fun k _ => ?_)
  have e1 : (if B y = B b ∨ B y = B top then top else B y) = y := by
    rw [hb, hy, ht, if_neg (by omega)]
  have e2 : (if B top = B b ∨ B top = B top then top else B top) = top := by
    rw [if_pos (Or.inr rfl)]
  rw [e1, e2, hb, ht]
  by_cases c : B k = b ∨ B k = top
  · rw [if_pos c, if_pos (Or.inr rfl)]
    rcases c with c | c
    · rw [if_pos (Or.inl c)]
    · rw [c]; split <;> rfl
  · rw [if_neg c]
    by_cases d : B k = y
    · rw [if_pos (Or.inl d), if_pos (Or.inr d)]
    · rw [if_neg (by omega), if_neg (by omega)]

section
variable {w0 w : World} {p g jp jg base N : Nat} {nv mv ve : Value} {F F' : FS} {m : List Int}
theorem FAt.setLab (h : FAt w0 w p g jp jg base N nv mv ve F) {y : Nat} (hy : y < N) (x : Int) : FAt w0 (w.setCell ⟨g, y * 5, none⟩ (.int .i64 x)) p g jp jg base N nv mv ve { F with lab := upd F.lab y x } :=
  h.write (kept_set w g _ _) (h.nodes.setLab hy x) rfl rfl rfl
theorem FAt.setBr (h : FAt w0 w p g jp jg base N nv mv ve F) {y : Nat} (hy : y < N) (a b : Int) : FAt w0 ((w.setCell ⟨g, y * 5 + 3, none⟩ (.int .i64 a)).setCell ⟨g, y * 5 + 4, none⟩ (.int .i64 b)) p g jp jg base N nv mv ve { F with bf := upd F.bf y a, bt := upd F.bt y b } :=
  h.write ((kept_set w g _ _).trans (kept_set _ g _ _)) ((h.nodes.setBf hy a).setBt hy b) rfl rfl rfl
set_option maxRecDepth 20000 in
set_option maxHeartbeats 8000000 in
theorem fdraw_any (h : FAt w0 w p g jp jg base N nv mv ve F) (hm : IntsAt w0 mv m) (hml : m.length = N) {u t top n : Nat} (hu : u < N) (htop : top < N) (hD : Draws N m u t top n F (F.B u) F') (hk : 0 ≤ F.k ∧ F.k + 2 * (n : Int) ≤ 1000000000) (hq : F.q.length + n ≤ 1000000) :
    Calls Try.prog 61 #[.pointer (some ⟨p, 0, none⟩), .agg #[.int .i64 (u : Int), .int .i64 (t : Int)], .int .i64 (top : Int)] w fun e w' => e = .returned (.tuple #[]) ∧ ∃ ve', FAt w0 w' p g jp jg base N nv mv ve' F' := by
  obtain ⟨i, hi, hz0, hz1, hz2⟩ := info_parts infoInt
  have KB := (Kept.refl [] w).alloc (.cells #[.int .i64 (u : Int), .int .i64 (t : Int)] 71)
  have H1 := h.keptE KB
  obtain ⟨b0, b1⟩ := box2 (Kept.refl [] (w.alloc (.cells #[.int .i64 (u : Int), .int .i64 (t : Int)] 71))) (by simp)
  have hpb : g ≠ w.heap.size ∧ p ≠ w.heap.size ∧ jp ≠ w.heap.size ∧ jg ≠ w.heap.size := by
    have := h.hp; have := h.hg; have := h.hj; have := h.hh; have := h.hb
    omega
  have HVE := hide (fun k hk e => by have := own_lt h.own k hk; subst e; omega : ∀ k, ve.ownBlock = some k → k ≠ w.heap.size)
  have hsz : w.heap.size < (w.alloc (.cells #[.int .i64 (u : Int), .int .i64 (t : Int)] 71)).heap.size := by simp
  have c5 := H1.c5
  have HL := hide (fun n => (H1.jb.kept ((Kept.refl [] (w.alloc (.cells #[.int .i64 (u : Int), .int .i64 (t : Int)] 71))).drewN n) (by simp) (by simp)).label hu)
  have HF := hide (fun n => H1.keptE ((Kept.refl [] (w.alloc (.cells #[.int .i64 (u : Int), .int .i64 (t : Int)] 71))).drewN n))
  have HDD := hide hD
  have HM := hide hm
  have HML := hide hml
  have HK := hide (And.intro hk hq)
  have HT := hide htop
  clear h hm hml hu hD hk hq htop KB H1
  generalize hBU : F.B u = bu at *
  clear hBU
  go_enter Try.func61, Try.ntmps61
  go_wp2_with fail
  generalize w.alloc (.cells #[.int .i64 (u : Int), .int .i64 (t : Int)] 71) = Wb at *
  generalize w.heap.size = pb at *
  go_quiet ((go_at_call_of 33 u; exact Calls.quiet_of_same (unhide HL _)))
  have H0 := hide (And.intro (unhide HF nq) (And.intro (show (Wb.drewN nq).cell? ⟨pb, 0, none⟩ = some (.int .i64 (u : Int)) from b0) (And.intro (show (Wb.drewN nq).cell? ⟨pb, 1, none⟩ = some (.int .i64 (t : Int)) from b1) (show pb < (Wb.drewN nq).heap.size from hsz))))
  clear HF HL c5 b0 b1 hsz
  generalize Wb.drewN nq = W0 at *
  go_wp2
  go_loopg [6] n (fun j bv wr => ∃ (b : Nat) (G : FS) (ve' : Value), bv = .int .i64 (b : Int) ∧ Hid (Draws N m u t top j G b F' ∧ 0 ≤ G.k ∧ G.k + 2 * (j : Int) ≤ 1000000000 ∧ G.q.length + j ≤ 1000000 ∧ FAt w0 wr p g jp jg base N nv mv ve' G ∧ (∀ k, ve'.ownBlock = some k → k ≠ pb) ∧ wr.cell? ⟨pb, 0, none⟩ = some (.int .i64 (u : Int)) ∧ wr.cell? ⟨pb, 1, none⟩ = some (.int .i64 (t : Int)) ∧ pb < wr.heap.size))
  case atStart => exact ⟨bu, F, ve, rfl, unhide HDD, (unhide HK).1.1, (unhide HK).1.2, (unhide HK).2, (unhide H0).1, unhide HVE, (unhide H0).2.1, (unhide H0).2.2.1, (unhide H0).2.2.2⟩
  case round =>
    clear H0
    obtain ⟨b, G, ve', rfl, hh⟩ := hrel
    obtain ⟨hD, hk0, hk1, hq, hF, hve, e0, e1, hsz⟩ := unhide hh
    cases hD with
    | stop =>
      have HFIN := hide hF
      have hne : ((top : Int) != (top : Int)) = false := by simp
      clear hF hh hk0 hk1 hq hve e0 e1 hsz
      go_wp2
      go_returns
      exact ⟨rfl, _, unhide HFIN⟩
    | @step _ _ _ y x j hbt hb hy hyN hx hxN hBx hBb hBy hBt hyb hyt hD2 =>
      have hne : ((b : Int) != (top : Int)) = true := by simp; omega
      obtain ⟨mg, mo, cap, hmv, hc⟩ := mate_cell (unhide HM) hF.k (by rw [unhide HML]; omega)
      rw [unhide HML] at hmv hc
      subst hmv
      have a0 := hc b hb
      rw [hy] at a0
      have c1 := hF.c1
      have c2 := hF.c2
      have l0 := hF.nodes.lab y hyN
      have f0 := hF.nodes.free (y * 5)
      have Ha := hF.setLab hyN 1
      have d2 := Ha.c2
      have r3 := Ha.nodes.bf y hyN
      have r4 := Ha.nodes.bt y hyN
      have q3 := Ha.nodes.free (y * 5 + 3)
      have q4 := Ha.nodes.free (y * 5 + 4)
      have e0a : (wr.setCell ⟨g, y * 5, none⟩ (.int .i64 1)).cell? ⟨pb, 0, none⟩ = some (.int .i64 (u : Int)) := by rw [cell_set_ne hpb.1.symm]; exact e0
      have e1a : (wr.setCell ⟨g, y * 5, none⟩ (.int .i64 1)).cell? ⟨pb, 1, none⟩ = some (.int .i64 (t : Int)) := by rw [cell_set_ne hpb.1.symm]; exact e1
      have HHa := hide (And.intro Ha (And.intro hve hsz))
      have t0 : (0 : Int) ≤ (b : Int) := by omega
      have t1 : (b : Int) < (N : Int) := by omega
      have y0 : (0 : Int) ≤ (y : Int) := by omega
      have y1 : (y : Int) < (N : Int) := by omega
      have ng := hpb.1
      have hql : G.q.length ≤ 1000000 := by omega
      have hkk := hide (And.intro hk0 (And.intro hk1 hq))
      have HBT := hide hbt
      have HD := hide (And.intro hb (And.intro hy (And.intro hyN (And.intro hx (And.intro hxN (And.intro hBx (And.intro hBb (And.intro hBy (And.intro hBt (And.intro hyb (And.intro hyt hD2)))))))))))
      clear hF hh hve e0 e1 hsz Ha hc hb hy hyN hx hxN hBx hBb hBy hBt hyb hyt hD2 hbt hk0 hk1 hq
      generalize hwa : wr.setCell ⟨g, y * 5, none⟩ (.int .i64 1) = Wa at *
      go_wp2_with fail
      go_region
      have Hb := (show FAt w0 (((Wa.setCell ⟨g, y * 5 + 3, none⟩ (.int .i64 (u : Int))).setCell ⟨g, y * 5 + 3 + 1, none⟩ (.int .i64 (t : Int))).drew) p g jp jg base N nv (.slice (some ⟨mg, mo, none⟩) N cap) ve' { ({ G with lab := upd G.lab y 1 } : FS) with bf := upd G.bf y (u : Int), bt := upd G.bt y (t : Int) } from ((unhide HHa).1.setBr (unhide HD).2.2.1 (u : Int) (t : Int)).keptE (Kept.refl [] _).drew)
      have c3 := Hb.c3
      have own2 := Hb.own
      have b2 := Hb.hb
      have k0b : (((Wa.setCell ⟨g, y * 5 + 3, none⟩ (.int .i64 (u : Int))).setCell ⟨g, y * 5 + 3 + 1, none⟩ (.int .i64 (t : Int))).drew).cell? ⟨pb, 0, none⟩ = some (.int .i64 (u : Int)) := by
        show ((Wa.setCell ⟨g, y * 5 + 3, none⟩ (.int .i64 (u : Int))).setCell ⟨g, y * 5 + 3 + 1, none⟩ (.int .i64 (t : Int))).cell? ⟨pb, 0, none⟩ = _
        rw [cell_set_ne ng.symm, cell_set_ne ng.symm]; exact e0a
      have k1b : (((Wa.setCell ⟨g, y * 5 + 3, none⟩ (.int .i64 (u : Int))).setCell ⟨g, y * 5 + 3 + 1, none⟩ (.int .i64 (t : Int))).drew).cell? ⟨pb, 1, none⟩ = some (.int .i64 (t : Int)) := by
        show ((Wa.setCell ⟨g, y * 5 + 3, none⟩ (.int .i64 (u : Int))).setCell ⟨g, y * 5 + 3 + 1, none⟩ (.int .i64 (t : Int))).cell? ⟨pb, 1, none⟩ = _
        rw [cell_set_ne ng.symm, cell_set_ne ng.symm]; exact e1a
      have HHb := hide (And.intro Hb (And.intro (unhide HHa).2.1 (And.intro k0b k1b)))
      clear Hb HHa d2 r3 r4 q3 q4 e0a e1a k0b k1b l0 f0 c1 c2 a0 hwa
      generalize (((Wa.setCell ⟨g, y * 5 + 3, none⟩ (.int .i64 (u : Int))).setCell ⟨g, y * 5 + 3 + 1, none⟩ (.int .i64 (t : Int))).drew) = Wb at *
      have own2' : Wb.ownsRow base 3 1 ve' G.q.length (G.q.map (Value.int .i64)) := own2
      clear own2
      generalize hqq : G.q = qq at *
      have HQQ := hide hqq
      clear hqq
      go_wp2_with (first | (at_builtin; refine wpList_append_own_at _ rfl (.tmp 45) (.tmp 47) 22 rfl base 3 i (.int .i64 0) 1 8 Try.underlying22 hi hz0 hz1 hz2 rfl (by decide) _ _ _ rfl (own2'.alloc _) _ 1 _ [.int .i64 (y : Int)] rfl rfl (one_cell' _ _ _ (by simp)) (by simp [Value.oneCell']) (by unfold maxLen; omega) (by omega) (by simp; omega) ?_; intro v' w5 own5 g5 _ hat; obtain ⟨ao5, cap5, rfl⟩ := own_formM own5; obtain ⟨p3, pf⟩ := (unhide HHb).1.pushAt g5))
      have HC := hide (show FAt w0 (w5.setCell ⟨p, 3, none⟩ (.slice ao5 (qq.length + 1) cap5)) p g jp jg base N nv (.slice (some ⟨mg, mo, none⟩) N cap) (.slice ao5 (qq.length + 1) cap5) { ({ ({ G with lab := upd G.lab y 1 } : FS) with bf := upd G.bf y (u : Int), bt := upd G.bt y (t : Int) } : FS) with q := qq ++ [(y : Int)] } from by
        exact (unhide HHb).1.push (x := (y : Int)) g5 own5)
      have HE := hide (show (w5.setCell ⟨p, 3, none⟩ (.slice ao5 (qq.length + 1) cap5)).cell? ⟨pb, 0, none⟩ = some (.int .i64 (u : Int)) ∧ (w5.setCell ⟨p, 3, none⟩ (.slice ao5 (qq.length + 1) cap5)).cell? ⟨pb, 1, none⟩ = some (.int .i64 (t : Int)) ∧ ∀ k, (Value.slice ao5 (qq.length + 1) cap5).ownBlock = some k → k ≠ pb from by
        have k1 : Kept ve'.ownBlock.toList Wb w5 := (((Kept.refl [] Wb).alloc _).mono (by simp)).trans (grown_kept g5)
        have hn : pb ∉ ve'.ownBlock.toList := fun hm => (unhide HHb).2.1 pb (by simpa using hm) rfl
        refine ⟨by rw [cell_set_ne hpb.2.1.symm]; exact kept_cell' (unhide HHb).2.2.1 k1 hn, by rw [cell_set_ne hpb.2.1.symm]; exact kept_cell' (unhide HHb).2.2.2 k1 hn, fun k hk => ?_⟩
        have := lt_of_cell (unhide HHb).2.2.1
        rcases hat with c | c
        · rw [c] at hk; exact (unhide HHb).2.1 k hk
        · rw [c] at hk
          simp at hk
          omega)
      clear own5 g5 own2' hat HHb p3 pf
      generalize w5.setCell ⟨p, 3, none⟩ (.slice ao5 (qq.length + 1) cap5) = W6 at *
      obtain ⟨hb, hy, hyN, hx, hxN, hBx, hBb, hBy, hBt, hyb, hyt, hD2⟩ := unhide HD
      have HA := hide (fabove_any (unhide HC) (unhide HM) (unhide HML) hb hy hyN hx hxN (by have := unhide hkk; show 0 ≤ G.k ∧ G.k ≤ 1000000000; omega))
      clear hb hy hyN hx hxN hBx hBb hBy hBt hyb hyt hD2
      refine (unhide HA).mono ?_
      rintro e w7 ⟨rfl, hF7, k7⟩
      have c4 := hF7.c4
      have HU := hide (hF7.jb.unite (a := b) (b := top) (l := top) (unhide HD).1 (unhide HT) (unhide HT) (by have := unhide HD; have := unhide HBT; show G.B b ≠ G.B top; omega) (unhide HD).2.2.2.2.2.2.2.2.1 (Or.inr rfl))
      have HF7 := hide (And.intro hF7 (And.intro (kept_cell' (unhide HE).1 k7 (by simpa using hpb.2.1.symm)) (kept_cell' (unhide HE).2.1 k7 (by simpa using hpb.2.1.symm))))
      clear hF7 k7 HA
      go_wp2_with fail
      refine (unhide HU).mono ?_
      rintro e w8 ⟨rfl, hj8, k8⟩
      have n1 := (unhide HF7).1.ne
      have c48 := kept_cell' c4 k8 (by simp; omega)
      have HU2 := hide (hj8.unite (a := y) (b := top) (l := top) (unhide HD).2.2.1 (unhide HT) (unhide HT) (by
        have h1 := unhide HD
        have h2 := unhide HBT
        show (if G.B y = G.B b ∨ G.B y = G.B top then top else G.B y) ≠ (if G.B top = G.B b ∨ G.B top = G.B top then top else G.B top)
        rw [if_pos (Or.inr rfl), if_neg (by omega)]
        omega) (by
        show (if G.B top = G.B b ∨ G.B top = G.B top then top else G.B top) = top
        rw [if_pos (Or.inr rfl)]) (Or.inr rfl))
      have K8 := hide (And.intro k8 n1)
      clear hj8 k8 HU n1
      go_wp2_with fail
      refine (unhide HU2).mono ?_
      rintro e w9 ⟨rfl, hj9, k9⟩
      have HFIN := hide (show FAt w0 w9 p g jp jg base N nv (.slice (some ⟨mg, mo, none⟩) N cap) (.slice ao5 (qq.length + 1) cap5) (drawS G u t top b y) from by
        have hqe := unhide HQQ
        have h1 := unhide HD
        have h3 := (unhide HF7).1.join ((unhide K8).1.trans k9) (JB.top2 h1.2.2.2.2.2.2.1 h1.2.2.2.2.2.2.2.1 h1.2.2.2.2.2.2.2.2.1 h1.2.2.2.2.2.2.2.2.2.1 h1.2.2.2.2.2.2.2.2.2.2.1 (hj9.like (fun k _ => by simp)))
        subst hqe
        exact h3)
      have HEE := hide (show w9.cell? ⟨pb, 0, none⟩ = some (.int .i64 (u : Int)) ∧ w9.cell? ⟨pb, 1, none⟩ = some (.int .i64 (t : Int)) from by
        have k := (unhide K8).1.trans k9
        exact ⟨kept_cell' (unhide HF7).2.1 k (by simp; omega), kept_cell' (unhide HF7).2.2 k (by simp; omega)⟩)
      clear hj9 k9 HU2 HF7 c48 c4
      go_wp2
      go_roundg j
      case rel => exact ⟨G.B x, drawS G u t top b y, _, rfl, (unhide HD).2.2.2.2.2.2.2.2.2.2.2, by have := unhide hkk; show 0 ≤ G.k + 2; omega, by have := unhide hkk; show G.k + 2 + _ ≤ _; omega, by have := unhide hkk; show (G.q ++ [(y : Int)]).length + _ ≤ _; rw [unhide HQQ, List.length_append, List.length_singleton]; omega, unhide HFIN, (unhide HE).2.2, (unhide HEE).1, (unhide HEE).2, lt_of_cell (unhide HEE).1⟩
      case measure => omega
end
end Go.Proofs.Ytfilhbkenedchab
