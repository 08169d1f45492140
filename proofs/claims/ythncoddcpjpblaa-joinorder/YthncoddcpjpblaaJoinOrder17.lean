/- JoinOrder: its walk. (Written by make/mkorder.py.) -/
import Derived.Test.YthncoddcpjpblaaJoinOrder16
import Derived.BigRegion
import Derived.Deep.DeepCutAuto
namespace Go.Proofs.Ythncoddcpjpblaa
open Go.RowKit

set_option maxRecDepth 20000 in
set_option maxHeartbeats 16000000 in
theorem joinOrder_walk (w : World) (n0 : Int) (_ : InI n0) (v : Value) (len : Nat) (qa qb ql : Nat → Int) (hl : PairsAt w v len qa qb ql) (v2 : Value) (ts : List Int) (ht : IntsAt w v2 ts) :
    Calls Try.prog 5 #[.int .i64 n0, v, v2] w fun e w' => e = .returned (.bool true) ∧ Kept [] w w' := by
  obtain ⟨i, hi, hz0, hz1, hz2⟩ := info_parts infoPair
  obtain ⟨tao, tc, rfl, htm, htc⟩ := ht.shape
  have HT := hide htc
  have htI : (ts.length : Int) ≤ 9223372036854775807 := by unfold maxLen at htm; omega
  clear ht htc htm
  obtain ⟨ao, cap, rfl, hm, hlc⟩ := hl
  have HL := hide hlc
  have hmI : (len : Int) ≤ 9223372036854775807 := by unfold maxLen at hm; omega
  clear hm hlc
  obtain ⟨N, hN, hNe⟩ := mod_at n0 40 (by decide) (by decide)
  have hN0 : (0 : Int) ≤ (N : Int) := by omega
  go_enter Try.func5, Try.ntmps5
  go_upto_region 2 with fail
  obtain ⟨n, hn⟩ : ∃ n : Nat, 1 + (N : Int) = (n : Int) := ⟨N + 1, by omega⟩
  rw [hn]
  have hn1 : 1 ≤ n := by omega
  have hn60 : n ≤ 60 := by omega
  clear hNe hn hN hN0
  have hwn : IntKind.u64.wrap (n : Int) = (n : Int) := by show (n : Int) % 18446744073709551616 = (n : Int); omega
  have hnz : ((n : Int) == 0) = false := by rw [beq_eq_false_iff_ne]; omega
  have hnz2 : ¬ (n : Int) = 0 := by omega
  have hnz3 : ¬ n = 0 := by omega
  go_cut [7] (fun l wx => l = .slice none 0 0 ∧ wx = w)
  case first =>
    go_wp2
    go_meet
    case rel => exact ⟨rfl, rfl⟩
  obtain ⟨rfl, hw⟩ := hcut
  rw [hw]
  clear hw
  rename_i hgo
  refine hgo _ _ ?_
  clear hgo
  refine wp_seq_k (fun _ _ => ?_)
  go_cut [7, 8] (fun l c wx => ∃ (m : Nat) (so : Option Addr) (sc : Nat) (A B C : Nat → Nat), m ≤ 40 ∧ c = .int .i64 m ∧ l = .slice so m sc ∧ Hid (wx.ownsRow w.heap.size 30 3 l m (flatP A B C m) ∧ Kept [] w wx ∧ ∀ i, i < m → A i < n ∧ B i < n ∧ C i < n))
  case rest =>
    obtain ⟨m, so, sc, A, B, C, hm40, rfl, rfl, hcu⟩ := hcut
    have hmI : (m : Int) ≤ 9223372036854775807 := by omega
    obtain ⟨W1, hW1⟩ : ∃ W1, W1 = wc := ⟨wc, rfl⟩
    subst hW1
    go_upto_region 7 with fail
    go_cut [9] (fun o wx => ∃ (oo : Option Addr) (oc g1 g2 : Nat), o = .slice oo m oc ∧ Hid (TwoP w wx W1.heap.size m g1 g2 so oo A B C (fun i => i)))
    case first =>
      go_wp2_with (first | (at_builtin; refine wpList_append_src rfl (.const (.slice none 0 0)) (.tmp 65) 22 rfl W1.heap.size 30 i (.agg #[.int .i64 0, .int .i64 0, .int .i64 0]) 3 24 Try.underlying22 hi hz0 hz1 hz2 rfl (by decide) (.slice none 0 0) 0 [] rfl ⟨rfl, Or.inl ⟨rfl, rfl⟩⟩ _ _ _ rfl (own_src (unhide hcu).1 (flatP_one A B C m)) (by unfold maxLen; omega) (by omega) (Nat.le_refl _) ?_; intro v' w6 own6 g6))
      have k6 := (Kept.refl [] W1).grown g6 (by simp [Value.ownBlock])
      rw [List.nil_append, Nat.zero_add] at own6
      obtain ⟨oo, oc, rfl⟩ := own_slice own6
      obtain ⟨g1, g2, ht⟩ := TwoP.start (unhide hcu).1 own6 (unhide hcu).2.1 k6
      have HT2 := hide ht
      clear ht own6 g6 k6
      go_wp2
      go_meet
      case rel => exact ⟨_, _, _, _, rfl, unhide HT2⟩
    have HAB := hide (unhide hcu).2.2
    clear hcu
    obtain ⟨W6, hW6⟩ : ∃ W6, W6 = wc := ⟨wc, rfl⟩
    subst hW6
    obtain ⟨oo, oc, g1, g2, rfl, hcu⟩ := hcut
    generalize W1.heap.size = B1 at *
    rename_i hgo
    refine hgo _ _ ?_
    clear hgo
    refine wp_seq_k (fun _ _ => ?_)
    go_cut [10, 11] (fun _ _ wx => ∃ f, PermF m f ∧ Hid (TwoP w wx B1 m g1 g2 so oo A B C f))
    case first =>
      go_wp2_with fail
      go_loopw [10] (fun c wr => ∃ (t : Nat) (f : Nat → Nat), t ≤ 60 ∧ c = .int .i64 t ∧ PermF m f ∧ Hid (TwoP w wr B1 m g1 g2 so oo A B C f)) (fun c _ => 60 - (intOf c).toNat)
      case atStart => exact ⟨0, _, by omega, rfl, perm_id m, unhide hcu⟩
      case round =>
        obtain ⟨t, f, ht6, rfl, hpf, hh⟩ := hrel
        by_cases hc : (t : Int) < (ts.length : Int) ∧ (t : Int) < 60 ∧ 0 < (m : Int)
        · as_aux_lemma =>
          obtain ⟨hc1, hc2, hc3⟩ := hc
          obtain ⟨tg, tof, rfl, htin⟩ := unhide HT (by omega)
          have d0 := kept_cell (htin t (by omega)) (unhide hh).k
          clear htin
          generalize ts.getD t 0 = x at *
          have t0 : (0 : Int) ≤ (t : Int) := by omega
          have hwL : IntKind.u64.wrap (m : Int) = (m : Int) := by show (m : Int) % 18446744073709551616 = (m : Int); omega
          have hnzm : ((m : Int) == 0) = false := by rw [beq_eq_false_iff_ne]; omega
          have hnzm2 : ¬ (m : Int) = 0 := by omega
          obtain ⟨kk, hkl, hke⟩ := mod_at x (m : Int) (by omega) (by omega)
          obtain ⟨q, hq, hql⟩ : ∃ q : Nat, (t : Int).tmod (m : Int) = (q : Int) ∧ q < m := ⟨t % m, by simp; exact Int.tmod_eq_emod_of_nonneg t0, Nat.mod_lt _ (by omega)⟩
          have hwq : IntKind.i64.wrap (q : Int) = (q : Int) := by rw [IntWalk.i64_left, IntWalk.wrap64_in _ (by omega)]
          have q0 : (0 : Int) ≤ (q : Int) := by omega
          have q1 : (q : Int) < (m : Int) := by omega
          have k0 : (0 : Int) ≤ (kk : Int) := by omega
          have k1 : (kk : Int) < (m : Int) := by omega
          obtain ⟨ho1, ho2, ho3⟩ := (unhide hh).o (by omega)
          have aq := ho3.a q hql
          have bq := ho3.b q hql
          have cq := ho3.c q hql
          have ak := ho3.a kk (by omega)
          have bk := ho3.b kk (by omega)
          have ck := ho3.c kk (by omega)
          have fq0 := ho3.free (q * 3)
          have fq1 := ho3.free (q * 3 + 1)
          have fq2 := ho3.free (q * 3 + 2)
          have fk0 := ho3.free (kk * 3)
          have fk1 := ho3.free (kk * 3 + 1)
          have fk2 := ho3.free (kk * 3 + 2)
          have HO2 := hide (((unhide hh).swap hql (show kk < m by omega)).kept ((Kept.refl [] _).drew) (by simp) (by simp))
          have HPF := hide (hpf.swap hql (show kk < m by omega))
          clear ho3 ho2
          subst ho1
          go_wp2_with fail
          rw [hke]
          clear hke hwL hh hpf d0
          by_cases hqk : q = kk
          · subst hqk
            go_region
            go_wp2
            go_roundw
            case rel => exact ⟨t + 1, _, by omega, by go_num, unhide HPF, unhide HO2⟩
            case measure => simp [intOf]; omega
          · have n1 : q * 3 ≠ kk * 3 := by omega
            have n2 : q * 3 ≠ kk * 3 + 1 := by omega
            have n3 : q * 3 ≠ kk * 3 + 2 := by omega
            have n4 : q * 3 + 1 ≠ kk * 3 := by omega
            have n5 : q * 3 + 1 ≠ kk * 3 + 1 := by omega
            have n6 : q * 3 + 1 ≠ kk * 3 + 2 := by omega
            have n7 : q * 3 + 2 ≠ kk * 3 := by omega
            have n8 : q * 3 + 2 ≠ kk * 3 + 1 := by omega
            have n9 : q * 3 + 2 ≠ kk * 3 + 2 := by omega
            go_region
            go_wp2
            go_roundw
            case rel => exact ⟨t + 1, _, by omega, by go_num, unhide HPF, unhide HO2⟩
            case measure => simp [intOf]; omega
        · by_cases h1 : (t : Int) < (ts.length : Int)
          · by_cases h2 : (t : Int) < 60
            all_goals
              go_wp2_with fail
              go_meet
              case rel => exact ⟨f, hpf, unhide hh⟩
          · go_wp2_with fail
            go_meet
            case rel => exact ⟨f, hpf, unhide hh⟩
    obtain ⟨W7, hW7⟩ : ∃ W7, W7 = wc := ⟨wc, rfl⟩
    subst hW7
    obtain ⟨f, hpf, hcu2⟩ := hcut
    have H1 := hide (fun W => jnew_any W (n : Int))
    have HN := hide (show newN (n : Int) = n by unfold newN; omega)
    have HAW := hide (fun W => jawake_any W)
    clear hcu
    go_wp2_with fail
    refine (unhide H1 _).mono ?_
    rintro e w8 ⟨p, g, rfl, hj, hp, hg, k8⟩
    rw [unhide HN] at hj
    have hgl : g < w8.heap.size := by obtain ⟨_, _, _, _, _, _, h, _⟩ := hj.nodes; exact h.lt
    have hpl := lt_of_cell hj.c0
    have HJ := hide hj
    have K8 := hide k8
    clear hj
    go_wp2_with fail
    refine (unhide H1 _).mono ?_
    rintro e w9 ⟨p2, r2, rfl, hj2, hp2, hr2, k9⟩
    rw [unhide HN] at hj2
    have hs78 := k8.size
    have hw7 := (unhide hcu2).k.size
    have NP := hide (show p ∉ [p2, r2] ∧ g ∉ [p2, r2] ∧ p2 ∉ [p, g] ∧ r2 ∉ [p, g] by simp; omega)
    have NW := hide (show w.heap.size ≤ p ∧ w.heap.size ≤ g ∧ w.heap.size ≤ p2 ∧ w.heap.size ≤ r2 by omega)
    have HG := hide (show 0 < m → (g1 ∉ [p, g] ∧ g2 ∉ [p, g]) ∧ (g1 ∉ [p2, r2] ∧ g2 ∉ [p2, r2]) from fun h0 => by
      obtain ⟨_, _, _, x1⟩ := (unhide hcu2).s h0
      obtain ⟨_, _, x2⟩ := (unhide hcu2).o h0
      have y1 := x1.lt
      have y2 := x2.lt
      simp
      omega)
    have HB3 := hide (show JAt w9 p g n (fun k => k) (fun k => k) ∧ JAt w9 p2 r2 n (fun k => k) (fun k => k) ∧ TwoP w w9 B1 m g1 g2 so oo A B C f ∧ FinTo n 0 A B (fun k => k) ∧ FinTo n 0 (fun i => A (f i)) (fun i => B (f i)) (fun k => k) from ⟨(unhide HJ).kept (bs := []) k9 (by simp) (by simp), hj2, (unhide hcu2).kept ((unhide K8).trans k9) (by simp) (by simp), fin_start n _ _, fin_start n _ _⟩)
    clear hj2 hp hg hp2 hr2 hgl hpl k8 k9 hs78 hw7 HJ K8 H1 hcu2
    go_wp2
    go_loopw [14] (fun c wr => ∃ (t : Nat) (L L' R R' : Nat → Nat), t ≤ m ∧ c = .int .i64 t ∧ Hid (JAt wr p g n L L' ∧ JAt wr p2 r2 n R R' ∧ TwoP w wr B1 m g1 g2 so oo A B C f ∧ FinTo n t A B L ∧ FinTo n t (fun i => A (f i)) (fun i => B (f i)) R)) (fun c _ => m - (intOf c).toNat)
    case atStart => exact ⟨0, _, _, _, _, by omega, rfl, unhide HB3⟩
    case round =>
      obtain ⟨t, L, L', R, R', htm, rfl, hh⟩ := hrel
      clear HB3
      by_cases hlt : t < m
      · as_aux_lemma =>
        have t0 : (0 : Int) ≤ (t : Int) := by omega
        have t1 : (t : Int) < (m : Int) := by omega
        obtain ⟨hs1, hs2, hs3, hs4⟩ := (unhide hh).2.2.1.s (by omega)
        obtain ⟨ho1, ho2, ho3⟩ := (unhide hh).2.2.1.o (by omega)
        have a0 := hs4.a t hlt
        have a1 := hs4.b t hlt
        have a2 := hs4.c t hlt
        have b0 := ho3.a t hlt
        have b1 := ho3.b t hlt
        have b2 := ho3.c t hlt
        subst hs1 ho1
        obtain ⟨l1, l2, l3⟩ := unhide HAB t hlt
        obtain ⟨l4, l5, l6⟩ := unhide HAB (f t) (hpf.lt t hlt)
        have hG := unhide HG (by omega)
        have HU1 := hide (fun W (kk : Kept [] wr W) => unite_any ((unhide hh).1.kept (bs := []) kk (by simp) (by simp)) (A t : Int) (B t : Int) (C t : Int))
        have HU2 := hide (fun W (kk : Kept [p, g] wr W) => unite_any ((unhide hh).2.1.kept kk (unhide NP).2.2.1 (unhide NP).2.2.2) (A (f t) : Int) (B (f t) : Int) (C (f t) : Int))
        have HF1 := hide ((unhide hh).2.2.2.1.step l1 l2 l3)
        have HF2 := hide ((unhide hh).2.2.2.2.step (A := fun i => A (f i)) (B := fun i => B (f i)) l4 l5 l6)
        have HT3 := hide (unhide hh).2.2.1
        clear hh hs2 hs3 hs4 ho2 ho3 l1 l2 l3 l4 l5 l6
        generalize uniOK n L (A t : Int) (B t : Int) (C t : Int) = u1 at *
        generalize uniOK n R (A (f t) : Int) (B (f t) : Int) (C (f t) : Int) = u2 at *
        generalize stepL n L (A t : Int) (B t : Int) (C t : Int) = L2 at *
        generalize stepB n L L' (A t : Int) (B t : Int) (C t : Int) = L3 at *
        generalize stepL n R (A (f t) : Int) (B (f t) : Int) (C (f t) : Int) = R2 at *
        generalize stepB n R R' (A (f t) : Int) (B (f t) : Int) (C (f t) : Int) = R3 at *
        generalize (A t : Int) = xa at *
        generalize (B t : Int) = xb at *
        generalize (C t : Int) = xc at *
        generalize (A (f t) : Int) = ya at *
        generalize (B (f t) : Int) = yb at *
        generalize (C (f t) : Int) = yc at *
        go_wp2_with fail
        go_region_held3 (fun W => W.cell? ⟨g1, t * 3, none⟩ = some (.int .i64 xa) ∧ W.cell? ⟨g1, t * 3 + 1, none⟩ = some (.int .i64 xb) ∧ W.cell? ⟨g1, t * 3 + 2, none⟩ = some (.int .i64 xc)) (first | exact ⟨kept_cell' a0 K2 hG.1.1, kept_cell' a1 K2 hG.1.1, kept_cell' a2 K2 hG.1.1⟩ | go_keep)
          (first | (go_at_call 9; refine (unhide HU1 _ ((Kept.refl _ _).drew)).mono ?_; rintro e w4 ⟨rfl, hj4, k4⟩; have K2 := Kept.trans ((Kept.refl [p, g] wr).drew) k4))
        replace b0 := kept_cell' b0 K2 hG.1.2
        replace b1 := kept_cell' b1 K2 hG.1.2
        replace b2 := kept_cell' b2 K2 hG.1.2
        have HJ4 := hide hj4
        have KK2 := hide K2
        clear a0 a1 a2 hj4 k4 K2 HU1
        go_wp2_with fail
        go_region_held3 (fun W => W.cell? ⟨g2, t * 3, none⟩ = some (.int .i64 ya) ∧ W.cell? ⟨g2, t * 3 + 1, none⟩ = some (.int .i64 yb) ∧ W.cell? ⟨g2, t * 3 + 2, none⟩ = some (.int .i64 yc)) (first | exact ⟨kept_cell' b0 K3 hG.2.2, kept_cell' b1 K3 hG.2.2, kept_cell' b2 K3 hG.2.2⟩ | go_keep)
          (first | (go_at_call 9; refine (unhide HU2 _ ((unhide KK2).drew)).mono ?_; rintro e w5 ⟨rfl, hj5, k5⟩; have K3 := Kept.trans ((Kept.refl [p2, r2] w4).drew) k5))
        have HB5 := hide (show JAt w5 p g n L2 L3 ∧ JAt w5 p2 r2 n R2 R3 ∧ TwoP w w5 B1 m g1 g2 (some ⟨g1, 0, none⟩) (some ⟨g2, 0, none⟩) A B C f ∧ FinTo n (t + 1) A B L2 ∧ FinTo n (t + 1) (fun i => A (f i)) (fun i => B (f i)) R2 from ⟨(unhide HJ4).kept K3 (unhide NP).1 (unhide NP).2.1, hj5, ((unhide HT3).kept (unhide KK2) (fun b hb => by
          obtain ⟨y1, y2, _⟩ := unhide NW
          simp at hb
          rcases hb with rfl | rfl <;> assumption) (fun _ => hG.1)).kept K3 (fun b hb => by
          obtain ⟨_, _, y1, y2⟩ := unhide NW
          simp at hb
          rcases hb with rfl | rfl <;> assumption) (fun _ => hG.2), unhide HF1, unhide HF2⟩)
        clear b0 b1 b2 hj5 k5 K3 HU2 HJ4 KK2 HT3 HF1 HF2 hG
        go_wp2
        go_roundw
        case rel => exact ⟨t + 1, L2, L3, R2, R3, by omega, by go_num, unhide HB5⟩
        case measure => simp [intOf]; omega
      · as_aux_lemma =>
        have e : t = m := by omega
        subst e
        have hLR : ∀ k, k < n → L k = R k := fun k hk => (unhide hh).2.2.2.1.unique (unhide hh).2.2.2.2 hpf (unhide hh).1.isL (unhide hh).2.1.isL hk
        have HC := hide (show cntL n R = cntL n L from cntL_congr (fun k hk => by rw [hLR k hk]))
        have HS := hide (show setsL n R = setsL n L from setsL_congr (fun k hk => (hLR k hk).symm))
        have HP1 := hide (fun i (hi : i < t) => sameN_yes (unhide HAB i hi).1 (unhide HAB i hi).2.1 ((unhide hh).2.2.2.1.pair i hi))
        have HP2 := hide (fun i (hi : i < t) => sameN_yes (unhide HAB i hi).1 (unhide HAB i hi).2.1 ((unhide hh).2.2.2.2.other hpf hi))
        have HB6 := hide (show JAt wr p g n L L' ∧ JAt wr p2 r2 n R R' ∧ TwoP w wr B1 t g1 g2 so oo A B C f from ⟨(unhide hh).1, (unhide hh).2.1, (unhide hh).2.2.1⟩)
        clear hh hLR HAB
        obtain ⟨W9, hW9⟩ : ∃ W9, W9 = wr := ⟨wr, rfl⟩
        subst hW9
        go_wp2_with fail
        refine (unhide HAW _).mono ?_
        rintro e wa ⟨rfl, ka⟩
        have HB7 := hide (show JAt wa p g n L L' ∧ JAt wa p2 r2 n R R' ∧ TwoP w wa B1 t g1 g2 so oo A B C f from ⟨(unhide HB6).1.kept (bs := []) ka (by simp) (by simp), (unhide HB6).2.1.kept (bs := []) ka (by simp) (by simp), (unhide HB6).2.2.kept ka (by simp) (by simp)⟩)
        have HL1 := hide (jlen_any (unhide HB7).1.v)
        have HL2 := hide (unhide HC ▸ jlen_any (unhide HB7).2.1.v)
        clear ka HB6
        generalize cntL n L = cc at *
        go_wp2_with fail
        refine (unhide HL1).mono ?_
        rintro e w' ⟨rfl, rfl⟩
        go_wp2_with fail
        refine (unhide HL2).mono ?_
        rintro e wb ⟨rfl, rfl⟩
        go_wp2
        go_loopw [15] (fun c wr => ∃ (i q : Nat), i ≤ t ∧ c = .int .i64 i ∧ Hid (wr = wb.drewN q)) (fun c _ => t - (intOf c).toNat)
        case atStart => exact ⟨0, 0, by omega, rfl, rfl⟩
        case round =>
          obtain ⟨j, q, hj, rfl, hwr⟩ := hrel
          by_cases hlt : j < t
          · as_aux_lemma =>
            have t0 : (0 : Int) ≤ (j : Int) := by omega
            have t1 : (j : Int) < (t : Int) := by omega
            obtain ⟨hs1, _, _, hs4⟩ := (unhide HB7).2.2.s (by omega)
            have hk : Kept [] wb wr := by rw [unhide hwr]; exact (Kept.refl [] wb).drewN q
            have a0 := kept_cell (hs4.a j hlt) hk
            have a1 := kept_cell (hs4.b j hlt) hk
            subst hs1
            have HS1 := fun d => jsame_any ((unhide HB7).1.kept (bs := []) (hk.drewN d) (by simp) (by simp)).v (A j : Int) (B j : Int)
            rw [unhide HP1 j hlt] at HS1
            have HS2 := fun d => jsame_any ((unhide HB7).2.1.kept (bs := []) (hk.drewN d) (by simp) (by simp)).v (A j : Int) (B j : Int)
            rw [unhide HP2 j hlt] at HS2
            replace HS1 := hide HS1
            replace HS2 := hide HS2
            clear hs4 hk
            generalize (A j : Int) = xa at *
            generalize (B j : Int) = xb at *
            go_wp2_with fail
            go_quiet (first | (go_at_call_of 19 p; exact Calls.quiet_of_same (unhide HS1 _)) | (go_at_call_of 19 p2; exact Calls.quiet_of_same (unhide HS2 _)))
            have HW2 := hide (show wr.drewN nq = wb.drewN (q + nq) by rw [unhide hwr, World.drewN_drewN])
            generalize wr.drewN nq = wq at *
            go_wp2
            go_roundw
            case rel => exact ⟨j + 1, q + nq, by omega, by go_num, unhide HW2⟩
            case measure => simp [intOf]; omega
          · as_aux_lemma =>
            have hk : Kept [] wb wr := by rw [unhide hwr]; exact (Kept.refl [] wb).drewN q
            have hkk := (unhide HB7).2.2.k.trans hk
            have HS1 := hide (jsets_any ((unhide HB7).1.kept (bs := []) hk (by simp) (by simp)))
            have HS2 := hide (fun W (k : Kept [] wr W) => jsets_any ((unhide HB7).2.1.kept (bs := []) (hk.trans k) (by simp) (by simp)))
            have HKK := hide hkk
            rw [unhide HS] at HS2
            clear hk hkk
            generalize setsL n L = SL at *
            go_wp2_with fail
            refine (unhide HS1).mono ?_
            rintro e w6 ⟨r6, rfl, l6, _, k6⟩
            have L6 := hide l6
            have K6 := hide k6
            clear l6 k6
            go_wp2_with fail
            refine (unhide HS2 _ (unhide K6)).mono ?_
            rintro e w7 ⟨r7, rfl, l7, _, k7⟩
            have HLS := lists_any ((unhide L6).kept k7) l7
            rw [show decide (SL = SL) = true by simp] at HLS
            replace HLS := hide HLS
            have K7 := hide ((unhide HKK).trans ((unhide K6).trans k7))
            clear l7 k7
            go_wp2_with fail
            refine (unhide HLS).mono ?_
            rintro e w8 ⟨rfl, m8, rfl⟩
            go_wp2
            go_ret
            exact ⟨rfl, (unhide K7).drewN m8⟩
  case first =>
  go_wp2_with fail
  go_loopw [7, 8] (fun l c wr => ∃ (k : Nat) (so : Option Addr) (sc : Nat) (A B C : Nat → Nat), k ≤ len ∧ k ≤ 40 ∧ c = .int .i64 k ∧ l = .slice so k sc ∧ wr.ownsRow w.heap.size 30 3 l k (flatP A B C k) ∧ Hid (Kept [] w wr ∧ ∀ i, i < k → A i < n ∧ B i < n ∧ C i < n)) (fun _ c _ => 50 - (intOf c).toNat)
  case atStart => exact ⟨0, none, 0, fun _ => 0, fun _ => 0, fun _ => 0, Nat.zero_le _, Nat.zero_le _, rfl, rfl, ⟨rfl, Or.inl ⟨rfl, rfl⟩⟩, Kept.refl _ _, fun i h => by omega⟩
  case round =>
    obtain ⟨k, so, sc, A, B, C, hk, hk40, rfl, rfl, hown, hh⟩ := hrel
    by_cases hlt : (k : Int) < (len : Int) ∧ (k : Int) < 40
    · as_aux_lemma =>
      obtain ⟨hlt1, hlt2⟩ := hlt
      obtain ⟨eg, eo, rfl, hin⟩ := unhide HL (by omega)
      obtain ⟨d0, d1, d2⟩ := hin k (by omega)
      replace d0 := kept_cell d0 (unhide hh).1
      replace d1 := kept_cell d1 (unhide hh).1
      replace d2 := kept_cell d2 (unhide hh).1
      have HEG := fun (hm : eg ∈ (Value.slice so k sc).ownBlock.toList) => (show False from by have h1 := (own_lt' hown (by simpa using hm)).1; have h2 := lt_of_cell (hin k (by omega)).1; omega)
      clear hin
      generalize qa k = xa at *
      generalize qb k = xb at *
      generalize ql k = xl at *
      obtain ⟨pa, hpa, hpae⟩ := mod_at xa (n : Int) (by omega) (by omega)
      obtain ⟨pb, hpb, hpbe⟩ := mod_at xb (n : Int) (by omega) (by omega)
      obtain ⟨pc, hpc, hpce⟩ := mod_at xl (n : Int) (by omega) (by omega)
      have hpa2 : IntKind.i64.wrap ((IntKind.u64.wrap xa).tmod (n : Int)) = (pa : Int) := by rw [IntWalk.i64_left]; exact hpae
      have hpb2 : IntKind.i64.wrap ((IntKind.u64.wrap xb).tmod (n : Int)) = (pb : Int) := by rw [IntWalk.i64_left]; exact hpbe
      have hpc2 : IntKind.i64.wrap ((IntKind.u64.wrap xl).tmod (n : Int)) = (pc : Int) := by rw [IntWalk.i64_left]; exact hpce
      clear hpae hpbe hpce
      have t0 : (0 : Int) ≤ (k : Int) := by omega
      have hsz := (unhide hh).1.size
      go_wp2_with fail
      refine wp_region_held_drew (S := (fun W => W.cell? ⟨eg, eo + k * 3, none⟩ = some (.int .i64 xa) ∧ W.cell? ⟨eg, eo + k * 3 + 1, none⟩ = some (.int .i64 xb) ∧ W.cell? ⟨eg, eo + k * 3 + 2, none⟩ = some (.int .i64 xl))) (by kernel_rfl) ⟨d0, d1, d2⟩ (fun hHeld => ?_)
      refine take_on 0 31 (v := ?_) rfl rfl (by kernel_rfl) (by kernel_rfl) (by kernel_rfl) (fun _ _ _ h => h) (by kernel_rfl) (by intro w hSw; (try dsimp only at hSw); go_simp; first | done | with_reducible rfl) (by assumption) ?_
      simp only [Act.put, List.setIfInBounds_toArray, List.set_cons_zero, List.set_cons_succ]
      refine take_on 1 32 (v := ?_) rfl rfl (by kernel_rfl) (by kernel_rfl) (by kernel_rfl) (fun _ _ _ h => h) (by kernel_rfl) (by intro w hSw; (try dsimp only at hSw); go_simp; first | done | with_reducible rfl) (by assumption) ?_
      simp only [Act.put, List.setIfInBounds_toArray, List.set_cons_zero, List.set_cons_succ]
      refine take_on 2 33 (v := ?_) rfl rfl (by kernel_rfl) (by kernel_rfl) (by kernel_rfl) (fun _ _ _ h => h) (by kernel_rfl) (by intro w hSw; (try dsimp only at hSw); go_simp; first | done | with_reducible rfl) (by assumption) ?_
      simp only [Act.put, List.setIfInBounds_toArray, List.set_cons_zero, List.set_cons_succ]
      refine take_on 3 34 (v := ?_) rfl rfl (by kernel_rfl) (by kernel_rfl) (by kernel_rfl) (fun _ _ _ h => h) (by kernel_rfl) (by intro w hSw; (try dsimp only at hSw); go_simp; first | done | with_reducible rfl) (by assumption) ?_
      simp only [Act.put, List.setIfInBounds_toArray, List.set_cons_zero, List.set_cons_succ]
      refine take_on 4 35 (v := ?_) rfl rfl (by kernel_rfl) (by kernel_rfl) (by kernel_rfl) (fun _ _ _ h => h) (by kernel_rfl) (by intro w hSw; (try dsimp only at hSw); go_simp; first | done | with_reducible rfl) (by assumption) ?_
      simp only [Act.put, List.setIfInBounds_toArray, List.set_cons_zero, List.set_cons_succ]
      refine take_on 5 36 (v := ?_) rfl rfl (by kernel_rfl) (by kernel_rfl) (by kernel_rfl) (fun _ _ _ h => h) (by kernel_rfl) (by intro w hSw; (try dsimp only at hSw); go_simp; first | done | with_reducible rfl) (by assumption) ?_
      simp only [Act.put, List.setIfInBounds_toArray, List.set_cons_zero, List.set_cons_succ]
      refine take_on 6 37 (v := ?_) rfl rfl (by kernel_rfl) (by kernel_rfl) (by kernel_rfl) (fun _ _ _ h => h) (by kernel_rfl) (by intro w hSw; (try dsimp only at hSw); go_simp; first | done | with_reducible rfl) (by assumption) ?_
      simp only [Act.put, List.setIfInBounds_toArray, List.set_cons_zero, List.set_cons_succ]
      refine take_on 7 38 (v := ?_) rfl rfl (by kernel_rfl) (by kernel_rfl) (by kernel_rfl) (fun _ _ _ h => h) (by kernel_rfl) (by intro w hSw; (try dsimp only at hSw); go_simp; first | done | with_reducible rfl) (by assumption) ?_
      simp only [Act.put, List.setIfInBounds_toArray, List.set_cons_zero, List.set_cons_succ]
      refine take_on 8 39 (v := ?_) rfl rfl (by kernel_rfl) (by kernel_rfl) (by kernel_rfl) (fun _ _ _ h => h) (by kernel_rfl) (by intro w hSw; (try dsimp only at hSw); go_simp; first | done | with_reducible rfl) (by assumption) ?_
      simp only [Act.put, List.setIfInBounds_toArray, List.set_cons_zero, List.set_cons_succ]
      refine take_on 9 40 (v := ?_) rfl rfl (by kernel_rfl) (by kernel_rfl) (by kernel_rfl) (fun _ _ _ h => h) (by kernel_rfl) (by intro w hSw; (try dsimp only at hSw); go_simp; first | done | with_reducible rfl) (by assumption) ?_
      simp only [Act.put, List.setIfInBounds_toArray, List.set_cons_zero, List.set_cons_succ]
      refine take_on 10 41 (v := ?_) rfl rfl (by kernel_rfl) (by kernel_rfl) (by kernel_rfl) (fun _ _ _ h => h) (by kernel_rfl) (by intro w hSw; (try dsimp only at hSw); go_simp; first | done | with_reducible rfl) (by assumption) ?_
      simp only [Act.put, List.setIfInBounds_toArray, List.set_cons_zero, List.set_cons_succ]
      refine take_on 11 42 (v := ?_) rfl rfl (by kernel_rfl) (by kernel_rfl) (by kernel_rfl) (fun _ _ _ h => h) (by kernel_rfl) (by intro w hSw; (try dsimp only at hSw); go_simp; first | done | with_reducible rfl) (by assumption) ?_
      simp only [Act.put, List.setIfInBounds_toArray, List.set_cons_zero, List.set_cons_succ]
      refine take_on 12 43 (v := ?_) rfl rfl (by kernel_rfl) (by kernel_rfl) (by kernel_rfl) (fun _ _ _ h => h) (by kernel_rfl) (by intro w hSw; (try dsimp only at hSw); go_simp; first | done | with_reducible rfl) (by assumption) ?_
      simp only [Act.put, List.setIfInBounds_toArray, List.set_cons_zero, List.set_cons_succ]
      refine take_on 13 44 (v := ?_) rfl rfl (by kernel_rfl) (by kernel_rfl) (by kernel_rfl) (fun _ _ _ h => h) (by kernel_rfl) (by intro w hSw; (try dsimp only at hSw); go_simp; first | done | with_reducible rfl) (by assumption) ?_
      simp only [Act.put, List.setIfInBounds_toArray, List.set_cons_zero, List.set_cons_succ]
      refine take_on 14 45 (v := ?_) rfl rfl (by kernel_rfl) (by kernel_rfl) (by kernel_rfl) (fun _ _ _ h => h) (by kernel_rfl) (by intro w hSw; (try dsimp only at hSw); go_simp; first | done | with_reducible rfl) (by assumption) ?_
      simp only [Act.put, List.setIfInBounds_toArray, List.set_cons_zero, List.set_cons_succ]
      refine take_on 15 46 (v := ?_) rfl rfl (by kernel_rfl) (by kernel_rfl) (by kernel_rfl) (fun _ _ _ h => h) (by kernel_rfl) (by intro w hSw; (try dsimp only at hSw); go_simp; first | done | with_reducible rfl) (by assumption) ?_
      simp only [Act.put, List.setIfInBounds_toArray, List.set_cons_zero, List.set_cons_succ]
      refine take_on 16 47 (v := ?_) rfl rfl (by kernel_rfl) (by kernel_rfl) (by kernel_rfl) (fun _ _ _ h => h) (by kernel_rfl) (by intro w hSw; (try dsimp only at hSw); go_simp; first | done | with_reducible rfl) (by assumption) ?_
      simp only [Act.put, List.setIfInBounds_toArray, List.set_cons_zero, List.set_cons_succ]
      refine take_on 17 48 (v := ?_) rfl rfl (by kernel_rfl) (by kernel_rfl) (by kernel_rfl) (fun _ _ _ h => h) (by kernel_rfl) (by intro w hSw; (try dsimp only at hSw); go_simp; first | done | with_reducible rfl) (by assumption) ?_
      simp only [Act.put, List.setIfInBounds_toArray, List.set_cons_zero, List.set_cons_succ]
      refine take_on 18 49 (v := ?_) rfl rfl (by kernel_rfl) (by kernel_rfl) (by kernel_rfl) (fun _ _ _ h => h) (by kernel_rfl) (by intro w hSw; (try dsimp only at hSw); go_simp; first | done | with_reducible rfl) (by assumption) ?_
      simp only [Act.put, List.setIfInBounds_toArray, List.set_cons_zero, List.set_cons_succ]
      refine take_on 19 50 (v := ?_) rfl rfl (by kernel_rfl) (by kernel_rfl) (by kernel_rfl) (fun _ _ _ h => h) (by kernel_rfl) (by intro w hSw; (try dsimp only at hSw); go_simp; first | done | with_reducible rfl) (by assumption) ?_
      simp only [Act.put, List.setIfInBounds_toArray, List.set_cons_zero, List.set_cons_succ]
      refine take_on 20 51 (v := ?_) rfl rfl (by kernel_rfl) (by kernel_rfl) (by kernel_rfl) (fun _ _ _ h => h) (by kernel_rfl) (by intro w hSw; (try dsimp only at hSw); go_simp; first | done | with_reducible rfl) (by assumption) ?_
      simp only [Act.put, List.setIfInBounds_toArray, List.set_cons_zero, List.set_cons_succ]
      refine take_on 21 52 (v := ?_) rfl rfl (by kernel_rfl) (by kernel_rfl) (by kernel_rfl) (fun _ _ _ h => h) (by kernel_rfl) (by intro w hSw; (try dsimp only at hSw); go_simp; first | done | with_reducible rfl) (by assumption) ?_
      simp only [Act.put, List.setIfInBounds_toArray, List.set_cons_zero, List.set_cons_succ]
      refine take_on 22 53 (v := ?_) rfl rfl (by kernel_rfl) (by kernel_rfl) (by kernel_rfl) (fun _ _ _ h => h) (by kernel_rfl) (by intro w hSw; (try dsimp only at hSw); go_simp; first | done | with_reducible rfl) (by assumption) ?_
      simp only [Act.put, List.setIfInBounds_toArray, List.set_cons_zero, List.set_cons_succ]
      refine take_on 23 54 (v := ?_) rfl rfl (by kernel_rfl) (by kernel_rfl) (by kernel_rfl) (fun _ _ _ h => h) (by kernel_rfl) (by intro w hSw; (try dsimp only at hSw); go_simp; first | done | with_reducible rfl) (by assumption) ?_
      simp only [Act.put, List.setIfInBounds_toArray, List.set_cons_zero, List.set_cons_succ]
      refine take_on 24 55 (v := ?_) rfl rfl (by kernel_rfl) (by kernel_rfl) (by kernel_rfl) (fun _ _ _ h => h) (by kernel_rfl) (by intro w hSw; (try dsimp only at hSw); go_simp; first | done | with_reducible rfl) (by assumption) ?_
      simp only [Act.put, List.setIfInBounds_toArray, List.set_cons_zero, List.set_cons_succ]
      refine take_on 25 56 (v := ?_) rfl rfl (by kernel_rfl) (by kernel_rfl) (by kernel_rfl) (fun _ _ _ h => h) (by kernel_rfl) (by intro w hSw; (try dsimp only at hSw); go_simp; first | done | with_reducible rfl) (by assumption) ?_
      simp only [Act.put, List.setIfInBounds_toArray, List.set_cons_zero, List.set_cons_succ]
      refine take_on 26 57 (v := ?_) rfl rfl (by kernel_rfl) (by kernel_rfl) (by kernel_rfl) (fun _ _ _ h => h) (by kernel_rfl) (by intro w hSw; (try dsimp only at hSw); go_simp; first | done | with_reducible rfl) (by assumption) ?_
      simp only [Act.put, List.setIfInBounds_toArray, List.set_cons_zero, List.set_cons_succ]
      refine take_on 27 58 (v := ?_) rfl rfl (by kernel_rfl) (by kernel_rfl) (by kernel_rfl) (fun _ _ _ h => h) (by kernel_rfl) (by intro w hSw; (try dsimp only at hSw); go_simp; first | done | with_reducible rfl) (by assumption) ?_
      simp only [Act.put, List.setIfInBounds_toArray, List.set_cons_zero, List.set_cons_succ]
      refine take_on 28 59 (v := ?_) rfl rfl (by kernel_rfl) (by kernel_rfl) (by kernel_rfl) (fun _ _ _ h => h) (by kernel_rfl) (by intro w hSw; (try dsimp only at hSw); go_simp; first | done | with_reducible rfl) (by assumption) ?_
      simp only [Act.put, List.setIfInBounds_toArray, List.set_cons_zero, List.set_cons_succ]
      refine take_on 29 60 (v := ?_) rfl rfl (by kernel_rfl) (by kernel_rfl) (by kernel_rfl) (fun _ _ _ h => h) (by kernel_rfl) (by intro w hSw; (try dsimp only at hSw); go_simp; first | done | with_reducible rfl) (by assumption) ?_
      simp only [Act.put, List.setIfInBounds_toArray, List.set_cons_zero, List.set_cons_succ]
      refine take_on 30 61 (v := ?_) rfl rfl (by kernel_rfl) (by kernel_rfl) (by kernel_rfl) (fun _ _ _ h => h) (by kernel_rfl) (by intro w hSw; (try dsimp only at hSw); go_simp; first | done | with_reducible rfl) (by assumption) ?_
      simp only [Act.put, List.setIfInBounds_toArray, List.set_cons_zero, List.set_cons_succ]
      refine take_on 31 62 (v := ?_) rfl rfl (by kernel_rfl) (by kernel_rfl) (by kernel_rfl) (fun _ _ _ h => h) (by kernel_rfl) (by intro w hSw; (try dsimp only at hSw); go_simp; first | done | with_reducible rfl) (by assumption) ?_
      simp only [Act.put, List.setIfInBounds_toArray, List.set_cons_zero, List.set_cons_succ]
      refine wpAnyH_ready (rs := [32]) (by kernel_rfl) (by simp) ?_
      refine AllReadyH.cons rfl (fun K hK => ?_) AllReadyH.nil
      go_simp
      refine hK.out _ _ ⟨alloc_cell d0 _, alloc_cell d1 _, alloc_cell d2 _⟩ (fun hHeld => ?_)
      clear hK K
      have kb : Kept [] wr ((wr.alloc (.cells #[.int .i64 (pa : Int), .int .i64 (pb : Int), .int .i64 (pc : Int)] 30)).drew) := ((Kept.refl [] wr).alloc _).drew
      obtain ⟨b0, b1, b2⟩ := box3 ((Kept.refl [] (wr.alloc (.cells #[.int .i64 (pa : Int), .int .i64 (pb : Int), .int .i64 (pc : Int)] 30))).drew)
      have hownb := own_other hown kb (by simp)
      have d0' := kept_cell d0 kb
      have d1' := kept_cell d1 kb
      have d2' := kept_cell d2 kb
      have hsz2 := kb.size
      refine wpAnyH_ready (rs := [33]) (by kernel_rfl) (by simp) ?_
      refine AllReadyH.cons rfl (fun K hK => ?_) AllReadyH.nil
      refine step_append_lies _ rfl (.tmp 31) (.tmp 63) 22 rfl w.heap.size 30 i (.agg #[.int .i64 0, .int .i64 0, .int .i64 0]) 3 24 Try.underlying22 hi hz0 hz1 hz2 rfl (by decide) (.slice so k sc) k (flatP A B C k) rfl hownb ⟨wr.heap.size, 0, none⟩ 1 1 [.int .i64 (pa : Int), .int .i64 (pb : Int), .int .i64 (pc : Int)] rfl rfl (seen3 b0 b1 b2) (by simp [Value.oneCell']) (by decide) (by unfold maxLen; omega) (by omega) (by omega) _ rfl ?_
      intro g5 cap5 w5 own5 gr5 li5 lt5
      have kg : Kept (Value.slice so k sc).ownBlock.toList wr w5 := (kb.mono (by simp)).trans (grown_kept gr5)
      have e0 := kept_cell' d0 kg HEG
      have e1 := kept_cell' d1 kg HEG
      have e2 := kept_cell' d2 kg HEG
      change K (Act.put _ (some 64) _) _
      refine hK.out _ _ ⟨e0, e1, e2⟩ (fun hHeld => ?_)
      clear hK K
      simp only [Act.put, List.setIfInBounds_toArray, List.set_cons_zero, List.set_cons_succ]
      refine take_on 34 7 (v := ?_) rfl rfl (by kernel_rfl) (by kernel_rfl) (by kernel_rfl) (fun _ _ _ h => h) (by kernel_rfl) (by intro w hSw; (try dsimp only at hSw); go_simp; first | done | with_reducible rfl) (by assumption) ?_
      simp only [Act.put, List.setIfInBounds_toArray, List.set_cons_zero, List.set_cons_succ]
      refine wpAnyH_done (by kernel_rfl) ?_ _
      have HK5 := hide ((unhide hh).1.trans' kg (fun q hq => Or.inr (own_lt' hown (by simpa using hq)).1))
      have HOWN := hide (show w5.ownsRow w.heap.size 30 3 (.slice (some ⟨g5, 0, none⟩) (k + 1) cap5) (k + 1) (flatP (fun i => if i = k then pa else A i) (fun i => if i = k then pb else B i) (fun i => if i = k then pc else C i) (k + 1)) by
        rw [flatP_succ, flatP_congr (A' := A) (B' := B) (C' := C) (fun i hi => by simp [show i ≠ k by omega])]
        simpa using own5)
      have HALL := hide (show ∀ i, i < k + 1 → (fun i => if i = k then pa else A i) i < n ∧ (fun i => if i = k then pb else B i) i < n ∧ (fun i => if i = k then pc else C i) i < n from fun i hi => by
        by_cases e : i = k
        · simp [e]; omega
        · simp only [e, if_false]; exact (unhide hh).2 i (by omega))
      clear e0 e1 e2 d0 d1 d2 d0' d1' d2' b0 b1 b2 hownb kb kg own5 gr5 li5 lt5 hown hh hpa2 hpb2 hpc2 HEG hsz hsz2
      go_wp2
      go_roundw
      case rel => exact ⟨k + 1, _, _, _, _, _, by omega, by omega, by go_num, rfl, unhide HOWN, unhide HK5, unhide HALL⟩
      case measure => simp [intOf]; omega
    · have HR := hide (show wr.ownsRow w.heap.size 30 3 (.slice so k sc) k (flatP A B C k) ∧ Kept [] w wr ∧ ∀ i, i < k → A i < n ∧ B i < n ∧ C i < n from ⟨hown, unhide hh⟩)
      clear hown hh
      by_cases h1 : (k : Int) < (len : Int)
      all_goals
        go_wp2_with fail
        go_meet
        case rel => exact ⟨k, _, _, A, B, C, hk40, rfl, rfl, unhide HR⟩
end Go.Proofs.Ythncoddcpjpblaa
