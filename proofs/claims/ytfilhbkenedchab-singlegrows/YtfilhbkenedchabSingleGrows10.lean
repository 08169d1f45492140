/- A CYCLE IS DRAWN TOGETHER, one base after another; what is left is a search on its way: plain mathematics. WHAT A CYCLE DRAWN TOGETHER LEAVES IS A SEARCH ON ITS WAY; how many bases are left: plain mathematics. Numbers in sets: the least number of each one's set; what is united; how many sets there are. A join in memory; room, has, Len, top, Find, Label. garlandplay.Small: a graph that is right, of whatever numbers. A row of numbers of the call's own. -/
import Derived.Test.YtfilhbkenedchabSingleGrows9
import Derived.Test.YtfilhbkenedchabSingleGrows1
import Derived.Test.YtfilhbkenedchabSingleGrows7
import Derived.Test.YtfilhbkenedchabSingleGrows8
import Derived.Test.YtfilhbkenedchabSingleGrows6
namespace Go.Proofs.Ytfilhbkenedchab

/-- What is known when the bases S (of u's side) and T (of w's) have come to top. -/
structure Mid (N : Nat) (m : List Int) (ev od : Nat → Bool) (B : Nat → Nat) (F : FS) (u w top : Nat) (S T : Nat → Bool) (G : FS) : Prop where
  lab : ∀ y, y < N → G.lab y = if nO m od S T y = true then 1 else F.lab y
  dep : G.dep = F.dep
  up : G.up = F.up
  bf : ∀ y, y < N → G.bf y = if nO m od S T y = true then (if S (m.getD y 0).toNat = true then (u : Int) else (w : Int)) else F.bf y
  bt : ∀ y, y < N → G.bt y = if nO m od S T y = true then (if S (m.getD y 0).toNat = true then (w : Int) else (u : Int)) else F.bt y
  qn : G.q.Nodup
  qe : ∀ x, x ∈ G.q ↔ ∃ v : Nat, v < N ∧ (ev v = true ∨ nO m od S T v = true) ∧ x = (v : Int)
  qp : F.q <+: G.q
  bs : ∀ y, y < N → G.B y = if ((ev y = true ∧ (S (B y) = true ∨ T (B y) = true)) ∨ nO m od S T y = true) then top else F.B y

section
variable {N : Nat} {es : List E} {m : List Int} {F G : FS} {ev od : Nat → Bool} {B par : Nat → Nat} {P : Nat → List Int} {u w top : Nat} {S T : Nat → Bool}
theorem nO_iff {y : Nat} : nO m od S T y = true ↔ od y = true ∧ (S (m.getD y 0).toNat = true ∨ T (m.getD y 0).toNat = true) := by unfold nO; simp
theorem nO_no {y : Nat} (h : ∀ c, S c = false ∧ T c = false) : nO m od S T y = false := by unfold nO; rw [(h _).1, (h _).2]; simp
theorem Mid.start (h : FInv N es m F ev od B par P) : Mid N m ev od B F u w top (fun _ => false) (fun _ => false) F where
  lab y _ := by rw [nO_no (fun _ => ⟨rfl, rfl⟩)]; simp
  dep := rfl
  up := rfl
  bf y _ := by rw [nO_no (fun _ => ⟨rfl, rfl⟩)]; simp
  bt y _ := by rw [nO_no (fun _ => ⟨rfl, rfl⟩)]; simp
  qn := h.qn
  qe x := by
    rw [h.qe]
    have : ∀ v, nO m od (fun _ => false) (fun _ => false) v = false := fun v => nO_no (fun _ => ⟨rfl, rfl⟩)
    simp [this]
  qp := List.prefix_rfl
  bs y _ := by rw [nO_no (fun _ => ⟨rfl, rfl⟩)]; simp
/-- Seen from the other side. -/
theorem Mid.swap (h : Mid N m ev od B F u w top S T G) (hd : ∀ c, S c = true → T c = true → False) : Mid N m ev od B F w u top T S G := by
  have e : ∀ y, nO m od T S y = nO m od S T y := fun y => by unfold nO; rw [Bool.or_comm]
  refine ⟨fun y hy => by rw [e]; exact h.lab y hy, h.dep, h.up, fun y hy => ?_, fun y hy => ?_, h.qn, fun x => by simp only [e]; exact h.qe x, h.qp, fun y hy => by rw [e, h.bs y hy]; simp only [or_comm]⟩
  · rw [e, h.bf y hy]
    by_cases c : nO m od S T y = true
    · rw [if_pos c, if_pos c]
      rcases (nO_iff.1 c).2 with k | k
      · rw [if_pos k, if_neg (fun k2 => hd _ k k2)]
      · rw [if_pos k, if_neg (fun k2 => hd _ k2 k)]
    · rw [if_neg c, if_neg c]
  · rw [e, h.bt y hy]
    by_cases c : nO m od S T y = true
    · rw [if_pos c, if_pos c]
      rcases (nO_iff.1 c).2 with k | k
      · rw [if_pos k, if_neg (fun k2 => hd _ k k2)]
      · rw [if_pos k, if_neg (fun k2 => hd _ k2 k)]
    · rw [if_neg c, if_neg c]
theorem Mid.congr (h : Mid N m ev od B F u w top S T G) {S' : Nat → Bool} (hT : Tree N es m ev od B par P) (hS : ∀ c, c < N → S c = S' c) : Mid N m ev od B F u w top S' T G := by
  have e1 : ∀ y, y < N → od y = true → S (m.getD y 0).toNat = S' (m.getD y 0).toNat := fun y hy ho => by
    obtain ⟨b, hb, hbN, _⟩ := mate_at hT.mt hy (hT.oddM y hy ho)
    rw [hb, Int.toNat_natCast]; exact hS b hbN
  have e2 : ∀ y, y < N → nO m od S' T y = nO m od S T y := fun y hy => by
    unfold nO
    cases ho : od y
    · rfl
    · rw [e1 y hy ho]
  refine ⟨fun y hy => by rw [e2 y hy]; exact h.lab y hy, h.dep, h.up, fun y hy => ?_, fun y hy => ?_, h.qn, fun x => ?_, h.qp, fun y hy => ?_⟩
  · rw [e2 y hy, h.bf y hy]
    by_cases c : nO m od S T y = true
    · rw [if_pos c, if_pos c, e1 y hy (nO_iff.1 c).1]
    · rw [if_neg c, if_neg c]
  · rw [e2 y hy, h.bt y hy]
    by_cases c : nO m od S T y = true
    · rw [if_pos c, if_pos c, e1 y hy (nO_iff.1 c).1]
    · rw [if_neg c, if_neg c]
  · rw [h.qe]
    constructor
    · rintro ⟨v, a, b, c⟩; exact ⟨v, a, by rw [e2 v a]; exact b, c⟩
    · rintro ⟨v, a, b, c⟩; exact ⟨v, a, by rw [e2 v a] at b; exact b, c⟩
  · rw [e2 y hy, h.bs y hy]
    by_cases c : ev y = true
    · have := hS (B y) (hT.base y hy c).1
      simp only [this]
    · have c' : ev y = false := by simpa using c
      rw [c']; simp
/-- One base more. -/
theorem Mid.step (h : FInv N es m F ev od B par P) (hM : Mid N m ev od B F u w top S T G) (htop : IsB N ev B top) {b y : Nat} (hb : IsB N ev B b) (hbt : b ≠ top) (hSb : S b = false) (hTb : T b = false) (hm : m.getD b 0 = (y : Int)) {S' : Nat → Bool} (hS' : ∀ c, c < N → (S' c = true ↔ S c = true ∨ c = b)) :
    Mid N m ev od B F u w top S' T (drawS G u w top b y) ∧ G.B b = b ∧ G.B y = y ∧ y ≠ b ∧ y ≠ top := by
  obtain ⟨hy, ho, _⟩ := h.depUp hb hm
  have hey : ev y = false := by
    cases c : ev y
    · rfl
    · have := h.t.two y hy c; rw [ho] at this; cases this
  obtain ⟨y', a1, _, _, hmy, _⟩ := mate_at h.t.mt hb.1 (by omega)
  have : y' = y := by omega
  subst this
  have hyb : y' ≠ b := fun e => by rw [e, hb.2.1] at hey; cases hey
  have hyt : y' ≠ top := fun e => by rw [e, htop.2.1] at hey; cases hey
  have hnb : nO m od S T b = false := by
    cases c : nO m od S T b
    · rfl
    · have := (nO_iff.1 c).1; rw [h.t.two b hb.1 hb.2.1] at this; cases this
  have hny : nO m od S T y' = false := by
    cases c : nO m od S T y'
    · rfl
    · have := (nO_iff.1 c).2
      rw [hmy, Int.toNat_natCast, hSb, hTb] at this
      rcases this with k | k <;> cases k
  have hother : ∀ k, k < N → od k = true → k ≠ y' → S' (m.getD k 0).toNat = S (m.getD k 0).toNat := fun k hk ho' hne => by
    obtain ⟨c, hc, hcN, _, hback, _⟩ := mate_at h.t.mt hk (h.t.oddM k hk ho')
    rw [hc, Int.toNat_natCast]
    have hcb : c ≠ b := fun e => by subst e; omega
    cases k1 : S c
    · cases k2 : S' c
      · rfl
      · rcases (hS' c hcN).1 k2 with k3 | k3
        · rw [k1] at k3; cases k3
        · exact absurd k3 hcb
    · exact (hS' c hcN).2 (Or.inl k1)
  have hn' : ∀ k, k < N → k ≠ y' → nO m od S' T k = nO m od S T k := fun k hk hne => by
    unfold nO
    cases ho' : od k
    · rfl
    · rw [hother k hk ho' hne]
  have hny' : nO m od S' T y' = true := nO_iff.2 ⟨ho, Or.inl (by rw [hmy, Int.toNat_natCast]; exact (hS' b hb.1).2 (Or.inr rfl))⟩
  have hSy : S' (m.getD y' 0).toNat = true := by rw [hmy, Int.toNat_natCast]; exact (hS' b hb.1).2 (Or.inr rfl)
  have hGb : G.B b = b := by
    rw [hM.bs b hb.1, hb.2.2, hSb, hTb, hnb, h.eb b hb.1 hb.2.1, hb.2.2]; simp
  have hGy : G.B y' = y' := by
    rw [hM.bs y' hy, hey, hny, h.nb y' hy hey]; simp
  refine ⟨⟨fun k hk => ?_, hM.dep, hM.up, fun k hk => ?_, fun k hk => ?_, ?_, fun x => ?_, hM.qp.trans ⟨_, rfl⟩, fun k hk => ?_⟩, hGb, hGy, hyb, hyt⟩
  · show upd G.lab y' 1 k = _
    by_cases c : k = y'
    · subst c; rw [upd_at, if_pos hny']
    · rw [upd_off _ _ c, hn' k hk c]; exact hM.lab k hk
  · show upd G.bf y' (u : Int) k = _
    by_cases c : k = y'
    · subst c; rw [upd_at, if_pos hny', if_pos hSy]
    · rw [upd_off _ _ c, hn' k hk c, hM.bf k hk]
      by_cases d : nO m od S T k = true
      · rw [if_pos d, if_pos d, hother k hk (nO_iff.1 d).1 c]
      · rw [if_neg d, if_neg d]
  · show upd G.bt y' (w : Int) k = _
    by_cases c : k = y'
    · subst c; rw [upd_at, if_pos hny', if_pos hSy]
    · rw [upd_off _ _ c, hn' k hk c, hM.bt k hk]
      by_cases d : nO m od S T k = true
      · rw [if_pos d, if_pos d, hother k hk (nO_iff.1 d).1 c]
      · rw [if_neg d, if_neg d]
  · show (G.q ++ [(y' : Int)]).Nodup
    rw [List.nodup_append]
    refine ⟨hM.qn, by simp, fun a ha c hc e => ?_⟩
    rw [List.mem_singleton] at hc
    subst hc; subst e
    obtain ⟨v, _, e2, e3⟩ := (hM.qe _).1 ha
    have : v = y' := by omega
    subst this
    rw [hey, hny] at e2
    rcases e2 with k | k <;> cases k
  · show x ∈ G.q ++ [(y' : Int)] ↔ _
    rw [List.mem_append, List.mem_singleton, hM.qe]
    constructor
    · rintro (⟨v, p1, p2, p3⟩ | p)
      · by_cases c : v = y'
        · subst c; exact ⟨v, p1, Or.inr hny', p3⟩
        · exact ⟨v, p1, by rw [hn' v p1 c]; exact p2, p3⟩
      · exact ⟨y', hy, Or.inr hny', p⟩
    · rintro ⟨v, p1, p2, p3⟩
      by_cases c : v = y'
      · subst c; exact Or.inr p3
      · exact Or.inl ⟨v, p1, by rw [hn' v p1 c] at p2; exact p2, p3⟩
  · show (if G.B k = b ∨ G.B k = y' then top else G.B k) = _
    by_cases c : k = y'
    · subst c
      rw [if_pos (Or.inr hGy), if_pos (Or.inr hny')]
    · rw [hn' k hk c]
      have hbs := hM.bs k hk
      by_cases d : (ev k = true ∧ (S (B k) = true ∨ T (B k) = true)) ∨ nO m od S T k = true
      · rw [if_pos d] at hbs
        rw [hbs, if_neg (fun e => by
          rcases e with e | e
          · exact hbt e.symm
          · exact hyt e.symm), if_pos]
        rcases d with ⟨d1, d2⟩ | d
        · refine Or.inl ⟨d1, ?_⟩
          rcases d2 with d2 | d2
          · exact Or.inl ((hS' _ (h.t.base k hk d1).1).2 (Or.inl d2))
          · exact Or.inr d2
        · exact Or.inr d
      · rw [if_neg d] at hbs
        by_cases he : ev k = true
        · have hBk := h.eb k hk he
          obtain ⟨k1, k2, _⟩ := h.t.base k hk he
          rw [hBk] at hbs
          have hky : B k ≠ y' := fun e => by rw [e, hey] at k2; cases k2
          by_cases f : B k = b
          · rw [hbs, if_pos (Or.inl f), if_pos (Or.inl ⟨he, Or.inl ((hS' _ k1).2 (Or.inr f))⟩)]
          · rw [hbs, if_neg (fun e => e.elim f hky), if_neg, hBk]
            rintro (⟨_, e | e⟩ | e)
            · rcases (hS' _ k1).1 e with e | e
              · exact d (Or.inl ⟨he, Or.inl e⟩)
              · exact f e
            · exact d (Or.inl ⟨he, Or.inr e⟩)
            · exact d (Or.inr e)
        · have he' : ev k = false := by simpa using he
          have hBk := h.nb k hk he'
          rw [hBk] at hbs
          have f : k ≠ b := fun e => by rw [e] at he; exact he hb.2.1
          rw [hbs, if_neg (fun e => e.elim f c), if_neg, hBk]
          rintro (⟨e, _⟩ | e)
          · exact he e
          · exact d (Or.inr e)
theorem Mid.draws (h : FInv N es m F ev od B par P) (hr : Ring N es m ev B P u w top) (hT : ∀ c, c < N → T c = true → OnSide N ev B P w top c) : ∀ (n b : Nat) (S : Nat → Bool) (G : FS), IsB N ev B b → P b <+: P u → P top <+: P b → (P b).length ≤ n → (∀ c, c < N → (S c = true ↔ OnSide N ev B P u b c)) → Mid N m ev od B F u w top S T G →
    ∃ k G', Draws N m u w top k G b G' ∧ Mid N m ev od B F u w top (sideB N ev B P u top) T G' ∧ k + cntB N (sideB N ev B P u b) ≤ cntB N (sideB N ev B P u top)
  | 0, b, _, _, hb, _, _, hl, _, _ => by
    have := (h.t.path b hb.1 hb.2.1).odd
    omega
  | n + 1, b, S, G, hb, hp, ht, hl, hS, hM => by
    by_cases e : b = top
    · subst e
      exact ⟨0, G, .stop G, hM.congr h.t (fun c hc => by
        cases k1 : S c
        · cases k2 : sideB N ev B P u b c
          · rfl
          · have := (hS c hc).2 (sideB_iff.1 k2); rw [k1] at this; cases this
        · exact (sideB_iff.2 ((hS c hc).1 k1)).symm), by omega⟩
    · have hf : m.getD b 0 ≠ -1 := fun hf => e ((h.t.back0 hb hf hr.hb).1 ht).symm
      obtain ⟨y, hy, _⟩ := mate_at h.t.mt hb.1 hf
      obtain ⟨k1, k2, hB, hpB, hlt, hiff⟩ := h.t.back1 hb hy
      obtain ⟨d1, d0, d2, _, _⟩ := h.depUp hb hy
      have ht2 : P top <+: P (B (par y)) := by
        rcases (hiff top hr.hb).1 ht with e2 | e2
        · exact absurd e2.symm e
        · exact e2
      have hnS : ∀ c, c < N → (P c).length ≤ (P b).length → S c = false := fun c hc hle => by
        cases k : S c
        · rfl
        · have := ((hS c hc).1 k).2.2; omega
      have hnT : ∀ c, IsB N ev B c → P c <+: P u → T c = false := fun c hc hcu => by
        cases k : T c
        · rfl
        · have q := hT c hc.1 k
          have := hr.most c hc hcu q.2.1
          have := q.2.2
          omega
      have hSb := hnS b hb.1 (Nat.le_refl _)
      have hTb := hnT b hb hp
      have hS2 : ∀ c, c < N → (sideB N ev B P u (B (par y)) c = true ↔ S c = true ∨ c = b) := fun c hc => by
        rw [sideB_iff, hS c hc]
        constructor
        · rintro ⟨q1, q2, q3⟩
          by_cases hle : (P b).length < (P c).length
          · exact Or.inl ⟨q1, q2, hle⟩
          · rcases (hiff c q1).1 (pre_len q2 hp (by omega)) with q | q
            · exact Or.inr q
            · have := q.length_le; omega
        · rintro (⟨q1, q2, q3⟩ | q)
          · exact ⟨q1, q2, by omega⟩
          · subst q; exact ⟨hb, hp, hlt⟩
      obtain ⟨hM2, hGb, hGy, hyb, hyt⟩ := Mid.step h hM hr.hb hb e hSb hTb hy hS2
      have hnP : nO m od S T (par y) = false := by
        cases c : nO m od S T (par y)
        · rfl
        · have := (nO_iff.1 c).1; rw [h.t.two _ k1 k2] at this; cases this
      have hGx : G.B (par y) = B (par y) := by
        rw [hM.bs _ k1, hnP, hnS _ hB.1 (by omega), hnT _ hB (hpB.trans hp), h.eb _ k1 k2]; simp
      have hGt : G.B top = top := by
        rw [hM.bs _ hr.hb.1]
        by_cases c : (ev top = true ∧ (S (B top) = true ∨ T (B top) = true)) ∨ nO m od S T top = true
        · rw [if_pos c]
        · rw [if_neg c, h.eb _ hr.hb.1 hr.hb.2.1, hr.hb.2.2]
      obtain ⟨k, G', i1, i2, i3⟩ := Mid.draws h hr hT n (B (par y)) (sideB N ev B P u (B (par y))) (drawS G u w top b y) hB (hpB.trans hp) ht2 (by omega) (fun c _ => sideB_iff) hM2
      have hcn := side_more (P := P) hb hp hlt
      refine ⟨k + 1, G', .step e hb.1 hy d1 (by rw [hM.up]; exact d2) k1 (by rw [hGx]; exact hB.1) hGb hGy hGt hyb hyt (by rw [hGx]; exact i1), i2, by omega⟩
end
end Go.Proofs.Ytfilhbkenedchab

namespace Go.Proofs.Ytfilhbkenedchab

/-- What was come to stays so; who has one base has one. -/
structure Later (N : Nat) (ev od : Nat → Bool) (B : Nat → Nat) (ev' od' : Nat → Bool) (B' : Nat → Nat) : Prop where
  e : ∀ v, v < N → ev v = true → ev' v = true
  o : ∀ v, v < N → od v = true → ev' v = true ∨ od' v = true
  b : ∀ v w, v < N → w < N → ev v = true → ev w = true → B v = B w → B' v = B' w
theorem Later.refl (N : Nat) (ev od : Nat → Bool) (B : Nat → Nat) : Later N ev od B ev od B := ⟨fun _ _ h => h, fun _ _ h => Or.inr h, fun _ _ _ _ _ _ h => h⟩

section
variable {N : Nat} {es : List E} {m : List Int} {F G : FS} {ev od : Nat → Bool} {B par : Nat → Nat} {P : Nat → List Int} {u w top : Nat}
theorem FInv.shrink (h : FInv N es m F ev od B par P) (hr : Ring N es m ev B P u w top) (hM : Mid N m ev od B F u w top (sideB N ev B P u top) (sideB N ev B P w top) G) :
    FInv N es m G (evR m ev od (sideB N ev B P u top) (sideB N ev B P w top)) (odR m od (sideB N ev B P u top) (sideB N ev B P w top)) (BR m ev od (sideB N ev B P u top) (sideB N ev B P w top) B top) par (PR m ev (sideB N ev B P u top) par P u w) := by
  have hT := h.t.shrink hr (S := sideB N ev B P u top) (T := sideB N ev B P w top) (fun c _ => sideB_iff) (fun c _ => sideB_iff)
  generalize hS : sideB N ev B P u top = S at *
  generalize hTT : sideB N ev B P w top = T at *
  have iS : ∀ c, S c = true ↔ OnSide N ev B P u top c := fun c => by rw [← hS]; exact sideB_iff
  have iT : ∀ c, T c = true ↔ OnSide N ev B P w top c := fun c => by rw [← hTT]; exact sideB_iff
  have hno : ∀ v, v < N → ev v = true → nO m od S T v = false := fun v hv e => by
    cases c : nO m od S T v
    · rfl
    · have := (nO_iff.1 c).1; rw [h.t.two v hv e] at this; cases this
  have hev : ∀ v, evR m ev od S T v = true ↔ ev v = true ∨ nO m od S T v = true := fun v => by unfold evR; simp
  have hBe : ∀ v, ev v = true → BR m ev od S T B top v = if S (B v) = true ∨ T (B v) = true then top else B v := fun v e => by
    unfold BR; rw [if_pos e]
    by_cases c : S (B v) = true ∨ T (B v) = true
    · rw [if_pos c, if_pos (by simpa using c)]
    · rw [if_neg c, if_neg (by simpa using c)]
  have hBn : ∀ v, v < N → nO m od S T v = true → BR m ev od S T B top v = top := fun v hv e => by
    have : ev v ≠ true := fun e2 => by rw [hno v hv e2] at e; cases e
    unfold BR; rw [if_neg this, if_pos e]
  have hPe : ∀ v, ev v = true → PR m ev S par P u w v = P v := fun v e => by unfold PR; rw [if_pos e]
  have hbf : ∀ v, v < N → ev v = true → G.bf v = F.bf v ∧ G.bt v = F.bt v := fun v hv e => by
    rw [hM.bf v hv, hM.bt v hv, hno v hv e]; simp
  have hclm : ∀ {v t : Nat} {l : List Int}, Clm N m F v t l → v < N → ev v = true → Clm N m G v t l := fun hc hv he => h.clm hbf (fun v _ _ => by rw [hM.up]) hc hv he
  have hur : ∀ v, v < N → od v = true → G.up v ≠ -1 := fun v hv e => by rw [hM.up, (h.uo v hv e).1]; omega
  have hBtop : ∀ x, x < N → ev x = true → P top <+: P x → (∀ c, c = B x → IsB N ev B c → P c <+: P x → (P top).length < (P c).length → S c = true ∨ T c = true) → BR m ev od S T B top x = top := fun x hx e hp hc => by
    rw [hBe x e]
    by_cases c : S (B x) = true ∨ T (B x) = true
    · rw [if_pos c]
    · rw [if_neg c]
      have hb := h.t.isB hx e
      have hp2 := (h.t.sameB hr.hb hx e).1 hp
      obtain ⟨rest, r1, _⟩ := h.t.hang x hx e
      have hle : (P (B x)).length ≤ (P top).length := Classical.byContradiction fun hlt => c (hc _ rfl hb ⟨rest, r1.symm⟩ (by omega))
      exact (h.t.eqB hr.hb hb hp2 hle).symm
  have hBu : BR m ev od S T B top u = top := hBtop u hr.hu hr.eu hr.pu (fun c _ h1 h2 h3 => Or.inl ((iS c).2 ⟨h1, h2, h3⟩))
  have hBw : BR m ev od S T B top w = top := hBtop w hr.hw hr.ew hr.pw (fun c _ h1 h2 h3 => Or.inr ((iT c).2 ⟨h1, h2, h3⟩))
  have dtop : ∀ c, IsB N ev B c → P top <+: P c → F.dep top ≤ F.dep c := fun c hc hp => by
    rcases h.depPre _ top c hr.hb hc (Nat.le_refl _) hp with e | e
    · rw [e]; exact Int.le_refl _
    · omega
  have ptop : ∀ c, (S c = true ∨ T c = true) → IsB N ev B c ∧ P top <+: P c ∧ (P top).length < (P c).length := fun c hc => by
    rcases hc with hc | hc
    · obtain ⟨a1, a2, a3⟩ := (iS c).1 hc
      exact ⟨a1, pre_len hr.pu a2 (by omega), a3⟩
    · obtain ⟨a1, a2, a3⟩ := (iT c).1 hc
      exact ⟨a1, pre_len hr.pw a2 (by omega), a3⟩
  refine ⟨hT, fun v hv => ?_, fun v hv e => ?_, fun v hv e => ?_, hM.qn, fun x => ?_, fun v hv e => ?_, fun v hv e => ?_, fun v hv e => ?_, fun y hy e => ?_, fun v z hv e hup hm => ?_, fun v z hv e hup hm => ?_⟩
  · rw [hM.lab v hv, h.lab v hv]
    unfold evR odR
    cases c1 : nO m od S T v <;> cases c2 : ev v <;> cases c3 : od v <;> simp
  · rw [hM.bs v hv]
    rcases (hev v).1 e with e1 | e1
    · rw [hBe v e1, hno v hv e1, h.eb v hv e1]
      by_cases c : S (B v) = true ∨ T (B v) = true
      · rw [if_pos c, if_pos (Or.inl ⟨e1, c⟩)]
      · rw [if_neg c, if_neg]
        rintro (⟨_, k⟩ | k)
        · exact c k
        · cases k
    · rw [hBn v hv e1, if_pos (Or.inr e1)]
  · have e1 : ev v = false ∧ nO m od S T v = false := by unfold evR at e; simpa using e
    rw [hM.bs v hv, e1.1, e1.2, h.nb v hv e1.1]; simp
  · rw [hM.qe]; simp only [hev]
  · have e1 : ev v = true ∨ od v = true := by
      rcases e with e | e
      · rcases (hev v).1 e with k | k
        · exact Or.inl k
        · exact Or.inr (nO_iff.1 k).1
      · unfold odR at e; simp at e; exact Or.inr e.1
    have := h.d0 v hv e1
    have := hM.qp.length_le
    rw [hM.dep]; omega
  · rw [hM.dep]
    rcases (hev v).1 e with e1 | e1
    · rw [hBe v e1]
      by_cases c : S (B v) = true ∨ T (B v) = true
      · rw [if_pos c]
        obtain ⟨a1, a2, _⟩ := ptop _ c
        have := dtop _ a1 a2
        have := h.dB v hv e1
        omega
      · rw [if_neg c]; exact h.dB v hv e1
    · rw [hBn v hv e1]
      obtain ⟨o1, o2⟩ := nO_iff.1 e1
      obtain ⟨c, hc, hcN, _, hback, _⟩ := mate_at h.t.mt hv (h.t.oddM v hv o1)
      rw [hc, Int.toNat_natCast] at o2
      obtain ⟨a1, a2, a3⟩ := ptop _ o2
      obtain ⟨_, _, hB, _, _, hiff⟩ := h.t.back1 a1 hback
      obtain ⟨_, _, _, _, d4⟩ := h.depUp a1 hback
      have d5 := (h.uo v hv o1).2
      rcases (hiff top hr.hb).1 a2 with k | k
      · rw [k] at a3; omega
      · have := dtop _ hB k; omega
  · rw [hM.dep, hM.up]; exact h.dR v hv e
  · have e1 : od y = true := by unfold odR at e; simp at e; exact e.1
    rw [hM.dep, hM.up]; exact h.uo y hy e1
  · rcases (hev v).1 e with e1 | e1
    · rw [hM.up] at hup ⊢
      obtain ⟨x, b1, b2, b3, b4, b5⟩ := h.bo v z hv e1 hup hm
      exact ⟨x, b1, (hev x).2 (Or.inl b2), b3, by rw [hPe v e1, hPe x b2]; exact b4, by rw [hM.dep]; exact b5⟩
    · exact absurd hup (hur v hv (nO_iff.1 e1).1)
  · rcases (hev v).1 e with e1 | e1
    · rw [hM.up] at hup
      obtain ⟨x, y, s, b1, b2, b3, b4, b5, b6, b7, b8, b9⟩ := h.ba v z hv e1 hup hm
      obtain ⟨f1, f2⟩ := hbf v hv e1
      exact ⟨x, y, s, b1, b2, (hev x).2 (Or.inl b3), (hev y).2 (Or.inl b4), by rw [hBe y b4, hBe v e1, b5], by rw [f1]; exact b6, by rw [f2]; exact b7, hclm b8 b1 b3, by rw [hPe v e1, hPe y b4]; exact b9⟩
    · obtain ⟨o1, o2⟩ := nO_iff.1 e1
      have ne : ev v ≠ true := fun e2 => by rw [hno v hv e2] at e1; cases e1
      have hzN : z < N := by
        obtain ⟨c, hc, hcN, _⟩ := mate_at h.t.mt hv (h.t.oddM v hv o1)
        omega
      rw [hm, Int.toNat_natCast] at o2
      rw [hBn v hv e1]
      have f1 := hM.bf v hv
      have f2 := hM.bt v hv
      rw [if_pos e1, hm, Int.toNat_natCast] at f1 f2
      by_cases s : S z = true
      · rw [if_pos s] at f1 f2
        obtain ⟨_, _, t, _, q2, q3, _⟩ := h.t.segment hr.hu hr.eu ((iS z).1 s) hv o1 hm
        obtain ⟨l, l1, l2⟩ := h.stop _ u z hr.hu hr.eu (Nat.le_refl _) ((iS z).1 s).1 ((iS z).1 s).2.1
        have et : t = l.reverse := List.append_cancel_left (q3.symm.trans l2)
        refine ⟨u, w, l, hr.hu, hr.hw, (hev u).2 (Or.inl hr.eu), (hev w).2 (Or.inl hr.ew), hBw, f1, f2, hclm l1 hr.hu hr.eu, ?_⟩
        rw [hPe w hr.ew]
        unfold PR
        rw [if_neg ne, hm, Int.toNat_natCast, if_pos s, q2, et]
        simp
      · rw [if_neg s] at f1 f2
        have t' : T z = true := o2.elim (fun k => absurd k s) id
        obtain ⟨_, _, t, _, q2, q3, _⟩ := h.t.segment hr.hw hr.ew ((iT z).1 t') hv o1 hm
        obtain ⟨l, l1, l2⟩ := h.stop _ w z hr.hw hr.ew (Nat.le_refl _) ((iT z).1 t').1 ((iT z).1 t').2.1
        have et : t = l.reverse := List.append_cancel_left (q3.symm.trans l2)
        refine ⟨w, u, l, hr.hw, hr.hu, (hev w).2 (Or.inl hr.ew), (hev u).2 (Or.inl hr.eu), hBu, f1, f2, hclm l1 hr.hw hr.ew, ?_⟩
        rw [hPe u hr.eu]
        unfold PR
        rw [if_neg ne, hm, Int.toNat_natCast, if_neg s, q2, et]
        simp
theorem cntB_plus {p r : Nat → Bool} (a : Nat) (h : ∀ v, v < N → p v = true → r v = true ∨ v = a) : cntB N p ≤ cntB N r + 1 := by
  unfold cntB
  have := (cntB_nodup N p).length_le_of_subset (l₂ := a :: (List.range N).filter r) (fun v hv => by
    rw [mem_flt] at hv
    rcases h v hv.1 hv.2 with k | k
    · exact List.mem_cons_of_mem _ (mem_flt.2 ⟨hv.1, k⟩)
    · rw [k]; exact List.mem_cons_self)
  simpa using this
/-- Of a growth: a base more, and two less that were not come to. -/
theorem FInv.growPot (h : FInv N es m F ev od B par P) {x z : Nat} (hx : x < N) (he : ev x = false) (ho : od x = false) (hz : m.getD x 0 = (z : Int)) :
    nbF N m (fun v => if v = z then true else ev v) (fun v => if v = z then z else B v) ≤ nbF N m ev B + 1 ∧ outF N (fun v => if v = z then true else ev v) (fun v => if v = x then true else od v) + 2 ≤ outF N ev od := by
  obtain ⟨z', a1, a2, a3, _, a5, a6⟩ := h.t.fresh hx he ho
  have : z' = z := by omega
  subst this
  constructor
  · refine cntB_plus z' (fun v _ e => ?_)
    by_cases c : v = z'
    · exact Or.inr c
    · simp only [if_neg c] at e; exact Or.inl e
  · have h1 : cntB N (fun c => !(if c = z' then true else ev c) && !(if c = x then true else od c)) + 1 ≤ cntB N (fun c => !(if c = z' then true else ev c) && !od c) := by
      refine cntB_more hx (by simp) (by simp [he, ho, Ne.symm a3]) (fun v _ e => ?_)
      by_cases c : v = x
      · subst c; simp at e
      · simpa [c] using e
    have h2 : cntB N (fun c => !(if c = z' then true else ev c) && !od c) + 1 ≤ cntB N (fun c => !ev c && !od c) := by
      refine cntB_more a2 (by simp) (by simp [a5, a6]) (fun v _ e => ?_)
      by_cases c : v = z'
      · subst c; simp at e
      · simpa [c] using e
    unfold outF
    dsimp only
    omega
/-- Of a cycle: as many bases less as were drawn. -/
theorem FInv.shrinkPot (h : FInv N es m F ev od B par P) (hr : Ring N es m ev B P u w top) :
    nbF N m (evR m ev od (sideB N ev B P u top) (sideB N ev B P w top)) (BR m ev od (sideB N ev B P u top) (sideB N ev B P w top) B top) + cntB N (sideB N ev B P u top) + cntB N (sideB N ev B P w top) ≤ nbF N m ev B ∧
    outF N (evR m ev od (sideB N ev B P u top) (sideB N ev B P w top)) (odR m od (sideB N ev B P u top) (sideB N ev B P w top)) ≤ outF N ev od := by
  generalize hS : sideB N ev B P u top = S
  generalize hTT : sideB N ev B P w top = T
  have iS : ∀ c, S c = true ↔ OnSide N ev B P u top c := fun c => by rw [← hS]; exact sideB_iff
  have iT : ∀ c, T c = true ↔ OnSide N ev B P w top c := fun c => by rw [← hTT]; exact sideB_iff
  have nS : S top = false := by
    cases c : S top
    · rfl
    · have := ((iS top).1 c).2.2; omega
  have nT : T top = false := by
    cases c : T top
    · rfl
    · have := ((iT top).1 c).2.2; omega
  have key : ∀ c, c < N → evR m ev od S T c = true → BR m ev od S T B top c = c → ev c = true ∧ B c = c ∧ S c = false ∧ T c = false := fun c hc e hb => by
    unfold BR at hb
    by_cases k : ev c = true
    · rw [if_pos k] at hb
      by_cases d : (S (B c) || T (B c)) = true
      · rw [if_pos d] at hb
        subst hb
        exact ⟨k, hr.hb.2.2, nS, nT⟩
      · rw [if_neg d] at hb
        rw [hb] at d
        exact ⟨k, hb, by simpa using d⟩
    · rw [if_neg k] at hb
      have hn : nO m od S T c = true := by unfold evR at e; simpa [k] using e
      rw [if_pos hn] at hb
      subst hb
      exact absurd hr.hb.2.1 k
  constructor
  · have h1 := cntB_two (N := N) (p := fun c => evR m ev od S T c && (BR m ev od S T B top c == c) && !(m.getD c 0 == -1)) (q := S) (r := fun c => (evR m ev od S T c && (BR m ev od S T B top c == c) && !(m.getD c 0 == -1)) || S c) (fun v _ e => by rw [e]; rfl) (fun v _ e => by rw [e]; simp) (fun v hv e1 e2 => by
      simp only [Bool.and_eq_true, beq_iff_eq] at e1
      have := (key v hv e1.1.1 e1.1.2).2.2.1
      rw [this] at e2; cases e2)
    have h2 := cntB_two (N := N) (p := fun c => (evR m ev od S T c && (BR m ev od S T B top c == c) && !(m.getD c 0 == -1)) || S c) (q := T) (r := fun c => ev c && (B c == c) && !(m.getD c 0 == -1)) (fun v hv e => by
      simp only [Bool.or_eq_true] at e
      rcases e with e | e
      · simp only [Bool.and_eq_true, beq_iff_eq] at e
        obtain ⟨k1, k2, _⟩ := key v hv e.1.1 e.1.2
        simp only [Bool.and_eq_true, beq_iff_eq]
        exact ⟨⟨k1, k2⟩, e.2⟩
      · exact side_nb h hr.hb ((iS v).1 e)) (fun v _ e => side_nb h hr.hb ((iT v).1 e)) (fun v hv e1 e2 => by
      simp only [Bool.or_eq_true] at e1
      rcases e1 with e1 | e1
      · simp only [Bool.and_eq_true, beq_iff_eq] at e1
        have := (key v hv e1.1.1 e1.1.2).2.2.2
        rw [this] at e2; cases e2
      · have a := (iS v).1 e1
        have b := (iT v).1 e2
        have := hr.most v a.1 a.2.1 b.2.1
        have := a.2.2
        omega)
    unfold nbF
    omega
  · unfold outF
    refine cntB_le (fun v _ e => ?_)
    unfold evR odR at e
    cases c1 : nO m od S T v <;> cases c2 : ev v <;> cases c3 : od v <;> simp_all
theorem FInv.shrinkLater (h : FInv N es m F ev od B par P) (hr : Ring N es m ev B P u w top) :
    Later N ev od B (evR m ev od (sideB N ev B P u top) (sideB N ev B P w top)) (odR m od (sideB N ev B P u top) (sideB N ev B P w top)) (BR m ev od (sideB N ev B P u top) (sideB N ev B P w top) B top) ∧ evR m ev od (sideB N ev B P u top) (sideB N ev B P w top) u = true ∧ BR m ev od (sideB N ev B P u top) (sideB N ev B P w top) B top u = BR m ev od (sideB N ev B P u top) (sideB N ev B P w top) B top w := by
  have key : ∀ x, x < N → ev x = true → P top <+: P x → (∀ c, IsB N ev B c → P c <+: P x → (P top).length < (P c).length → (sideB N ev B P u top c || sideB N ev B P w top c) = true) → BR m ev od (sideB N ev B P u top) (sideB N ev B P w top) B top x = top := fun x hx e hp hc => by
    unfold BR
    rw [if_pos e]
    by_cases c : (sideB N ev B P u top (B x) || sideB N ev B P w top (B x)) = true
    · rw [if_pos c]
    · rw [if_neg c]
      have hb := h.t.isB hx e
      obtain ⟨rest, r1, _⟩ := h.t.hang x hx e
      have hle : (P (B x)).length ≤ (P top).length := Classical.byContradiction fun hlt => c (hc _ hb ⟨rest, r1.symm⟩ (by omega))
      exact (h.t.eqB hr.hb hb ((h.t.sameB hr.hb hx e).1 hp) hle).symm
  refine ⟨⟨fun v _ e => by unfold evR; rw [e]; rfl, fun v _ e => ?_, fun v x _ _ e1 e2 e3 => by unfold BR; rw [if_pos e1, if_pos e2, e3]⟩, by unfold evR; rw [hr.eu]; rfl, ?_⟩
  · unfold evR odR
    cases c : nO m od (sideB N ev B P u top) (sideB N ev B P w top) v <;> simp [e]
  · rw [key u hr.hu hr.eu hr.pu (fun c h1 h2 h3 => by rw [sideB_iff.2 ⟨h1, h2, h3⟩]; rfl), key w hr.hw hr.ew hr.pw (fun c h1 h2 h3 => by rw [(sideB_iff (u := w)).2 ⟨h1, h2, h3⟩]; simp)]
end
end Go.Proofs.Ytfilhbkenedchab

namespace Go.Proofs.Ytfilhbkenedchab

/-- L tells the least number of each one's set, of the numbers below n. -/
structure IsL (n : Nat) (L : Nat → Nat) : Prop where
  le : ∀ k, k < n → L k ≤ k
  idem : ∀ k, k < n → L (L k) = L k
theorem IsL.lt {n : Nat} {L : Nat → Nat} (h : IsL n L) {k : Nat} (hk : k < n) : L k < n := Nat.lt_of_le_of_lt (h.le k hk) hk
theorem isL_id (n : Nat) : IsL n (fun k => k) := ⟨fun _ _ => Nat.le_refl _, fun _ _ => rfl⟩
/-- The sets whose least numbers are x and y are one. -/
def uniL (L : Nat → Nat) (x y : Nat) : Nat → Nat := fun k => if L k = x ∨ L k = y then min x y else L k
def uniB (L B : Nat → Nat) (x y l : Nat) : Nat → Nat := fun k => if L k = x ∨ L k = y then l else B k
theorem uniL_comm (L : Nat → Nat) (x y : Nat) : uniL L x y = uniL L y x := by
  funext k; unfold uniL; rw [Nat.min_comm]; simp only [or_comm]
theorem uniB_comm (L B : Nat → Nat) (x y l : Nat) : uniB L B x y l = uniB L B y x l := by
  funext k; unfold uniB; simp only [or_comm]
theorem IsL.uni {n : Nat} {L : Nat → Nat} (h : IsL n L) {x y : Nat} (ex : L x = x) (ey : L y = y) : IsL n (uniL L x y) := by
  have hm : uniL L x y (min x y) = min x y := by
    unfold uniL
    rcases Nat.le_total x y with h1 | h1
    · rw [Nat.min_eq_left h1, ex]; simp
    · rw [Nat.min_eq_right h1, ey]; simp
  refine ⟨fun k hk => ?_, fun k hk => ?_⟩
  · have := h.le k hk
    unfold uniL
    split
    · rename_i h1; rcases h1 with h1 | h1 <;> omega
    · exact this
  · by_cases h1 : L k = x ∨ L k = y
    · rw [show uniL L x y k = min x y by unfold uniL; rw [if_pos h1]]; exact hm
    · rw [show uniL L x y k = L k by unfold uniL; rw [if_neg h1]]
      unfold uniL
      rw [h.idem k hk, if_neg h1]
/-- How many sets there are. -/
def cntL (n : Nat) (L : Nat → Nat) : Nat := (List.range n).countP (fun k => L k == k)
theorem cntL_succ (n : Nat) (L : Nat → Nat) : cntL (n + 1) L = cntL n L + (if L n = n then 1 else 0) := by
  unfold cntL
  rw [List.range_succ, List.countP_append]
  simp [List.countP_cons]
theorem cntL_id (n : Nat) : cntL n (fun k => k) = n := by
  induction n with
  | zero => rfl
  | succ n ih => rw [cntL_succ, ih]; simp
theorem cntL_le (n : Nat) (L : Nat → Nat) : cntL n L ≤ n := by
  unfold cntL
  have := List.countP_le_length (p := fun k => L k == k) (l := List.range n)
  simpa using this
theorem cntL_congr {n : Nat} {L M : Nat → Nat} (h : ∀ k, k < n → (L k = k ↔ M k = k)) : cntL n L = cntL n M := by
  induction n with
  | zero => rfl
  | succ n ih => rw [cntL_succ, cntL_succ, ih (fun k hk => h k (by omega))]; simp only [h n (by omega)]
/-- One less where just one is lost. -/
theorem cntL_lose {n m : Nat} {L M : Nat → Nat} (hm : m < n) (hL : L m = m) (hM : M m ≠ m) (h : ∀ k, k < n → k ≠ m → (L k = k ↔ M k = k)) : cntL n M + 1 = cntL n L := by
  induction n with
  | zero => omega
  | succ n ih =>
    rw [cntL_succ, cntL_succ]
    by_cases e : m = n
    · subst e
      rw [if_neg hM, if_pos hL, cntL_congr (n := m) (L := L) (M := M) (fun k hk => h k (by omega) (by omega))]
    · have := ih (by omega) (fun k hk => h k (by omega))
      simp only [h n (by omega) (fun e2 => e e2.symm)]
      omega
theorem cntL_uni {n : Nat} {L : Nat → Nat} {x y : Nat} (hx : x < n) (hy : y < n) (ex : L x = x) (ey : L y = y) (hne : x ≠ y) : cntL n (uniL L x y) + 1 = cntL n L := by
  have hmx : max x y < n := by omega
  refine cntL_lose (m := max x y) hmx ?_ ?_ ?_
  · rcases Nat.le_total x y with h1 | h1
    · rw [Nat.max_eq_right h1, ey]
    · rw [Nat.max_eq_left h1, ex]
  · unfold uniL
    rcases Nat.le_total x y with h1 | h1
    · rw [Nat.max_eq_right h1, ey]; simp; omega
    · rw [Nat.max_eq_left h1, ex]; simp; omega
  · intro k hk hkm
    unfold uniL
    by_cases h1 : L k = x ∨ L k = y
    · rw [if_pos h1]
      rcases h1 with h1 | h1
      · rw [h1]
        constructor
        · intro e; omega
        · intro e
          by_cases e2 : x ≤ y
          · omega
          · have : k = y := by omega
            rw [this, ey] at h1; omega
      · rw [h1]
        constructor
        · intro e; omega
        · intro e
          by_cases e2 : x ≤ y
          · have : k = x := by omega
            rw [this, ex] at h1; omega
          · omega
    · rw [if_neg h1]
/-- The sets. -/
def setOf (n : Nat) (L : Nat → Nat) (x : Nat) : List Int := ((List.range n).filter (fun m => L m == x)).map Int.ofNat
def setsL (n : Nat) (L : Nat → Nat) : List (List Int) := ((List.range n).filter (fun k => L k == k)).map (setOf n L)
theorem setsL_len (n : Nat) (L : Nat → Nat) : (setsL n L).length = cntL n L := by
  unfold setsL cntL; rw [List.length_map, List.countP_eq_length_filter]
theorem setsL_congr {n : Nat} {L M : Nat → Nat} (h : ∀ k, k < n → L k = M k) : setsL n L = setsL n M := by
  have e : ∀ x, setOf n L x = setOf n M x := fun x => by
    unfold setOf
    rw [List.filter_congr (q := fun m => M m == x) (fun m hm => by rw [h m (by simpa using hm)])]
  unfold setsL
  rw [List.filter_congr (q := fun k => M k == k) (fun m hm => by rw [h m (by simpa using hm)])]
  exact List.map_congr_left (fun x _ => e x)
/-- A forest that tells the same: up leads on, root is where it ends, d is how far it is. -/
structure Forest (n : Nat) (L B : Nat → Nat) (up le la root d : Nat → Nat) : Prop where
  lt : ∀ k, k < n → up k < n
  rt : ∀ k, k < n → root k < n ∧ up (root k) = root k ∧ root (root k) = root k ∧ le (root k) = L k ∧ la (root k) = B k
  step : ∀ k, k < n → up k ≠ k → root (up k) = root k ∧ d (up k) < d k
  stop : ∀ k, k < n → up k = k → root k = k
  same : ∀ k l, k < n → l < n → L k = L l → root k = root l
theorem forest_id (n : Nat) : Forest n (fun k => k) (fun k => k) (fun k => k) (fun k => k) (fun k => k) (fun k => k) (fun _ => 0) :=
  ⟨fun _ h => h, fun _ h => ⟨h, rfl, rfl, rfl, rfl⟩, fun _ _ h => absurd rfl h, fun _ _ _ => rfl, fun _ _ _ _ h => h⟩
theorem Forest.leq {n : Nat} {L B up le la root d : Nat → Nat} (h : Forest n L B up le la root d) {k l : Nat} (hk : k < n) (hl : l < n) : L k = L l ↔ root k = root l := by
  refine ⟨h.same k l hk hl, fun e => ?_⟩
  rw [← (h.rt k hk).2.2.2.1, ← (h.rt l hl).2.2.2.1, e]
/-- The set of u comes under that of o. -/
theorem Forest.uni {n : Nat} {L B up le la root d : Nat → Nat} (h : Forest n L B up le la root d) {a b : Nat} (ha : a < n) (hb : b < n) (hne : root a ≠ root b) (l : Nat) :
    ∃ root' d', Forest n (uniL L (L a) (L b)) (uniB L B (L a) (L b) l) (fun k => if k = root b then root a else up k) (fun k => if k = root a then min (le (root a)) (le (root b)) else le k) (fun k => if k = root a then l else la k) root' d' := by
  obtain ⟨o1, o2, o3, o4, o5⟩ := h.rt a ha
  obtain ⟨u1, u2, u3, u4, u5⟩ := h.rt b hb
  have key : ∀ k, k < n → (L k = L b ↔ root k = root b) := fun k hk => h.leq hk hb
  have keya : ∀ k, k < n → (L k = L a ↔ root k = root a) := fun k hk => h.leq hk ha
  refine ⟨fun k => if root k = root b then root a else root k, fun k => if root k = root b then d k + d (root a) + 1 else d k, fun k hk => ?_, fun k hk => ?_, fun k hk hs => ?_, fun k hk hs => ?_, fun k m hk hm he => ?_⟩
  · by_cases e : k = root b
    · simp only [e, if_true]; exact o1
    · simp only [e, if_false]; exact h.lt k hk
  · obtain ⟨r1, r2, r3, r4, r5⟩ := h.rt k hk
    by_cases e : root k = root b
    · simp only [e, if_pos]
      simp only [hne, if_false, o3, o2]
      refine ⟨o1, trivial, trivial, ?_, ?_⟩
      · unfold uniL; rw [if_pos (Or.inr ((key k hk).2 e)), o4, u4]
      · unfold uniB; rw [if_pos (Or.inr ((key k hk).2 e))]
    · simp only [e, if_false, r3]
      refine ⟨r1, r2, trivial, ?_, ?_⟩
      · by_cases e2 : root k = root a
        · simp only [e2, if_true]; unfold uniL; rw [if_pos (Or.inl ((keya k hk).2 e2)), o4, u4]
        · simp only [e2, if_false]; unfold uniL; rw [if_neg (fun hh => by rcases hh with hh | hh; exact e2 ((keya k hk).1 hh); exact e ((key k hk).1 hh)), r4]
      · by_cases e2 : root k = root a
        · simp only [e2, if_true]; unfold uniB; rw [if_pos (Or.inl ((keya k hk).2 e2))]
        · simp only [e2, if_false]; unfold uniB; rw [if_neg (fun hh => by rcases hh with hh | hh; exact e2 ((keya k hk).1 hh); exact e ((key k hk).1 hh)), r5]
  · by_cases e : k = root b
    · subst e
      simp only [if_true, u3, o3, hne, if_false]
      exact ⟨trivial, by omega⟩
    · simp only [e, if_false] at hs ⊢
      obtain ⟨s1, s2⟩ := h.step k hk hs
      simp only [s1]
      refine ⟨trivial, ?_⟩
      split <;> omega
  · by_cases e : k = root b
    · subst e
      simp only [if_true] at hs
      exact absurd hs hne
    · simp only [e, if_false] at hs
      have hr := h.stop k hk hs
      rw [if_neg (by rw [hr]; exact e), hr]
  · have hc : ∀ i, i < n → uniL L (L a) (L b) i = if root i = root a ∨ root i = root b then min (L a) (L b) else L i := fun i hi => by
      unfold uniL
      simp only [keya i hi, key i hi]
    have hmin : ∀ i, i < n → L i = min (L a) (L b) → root i = root a ∨ root i = root b := fun i hi e => by
      rcases Nat.le_total (L a) (L b) with h1 | h1
      · exact Or.inl ((keya i hi).1 (by omega))
      · exact Or.inr ((key i hi).1 (by omega))
    rw [hc k hk, hc m hm] at he
    by_cases e1 : root k = root a ∨ root k = root b
    · rw [if_pos e1] at he
      have e2 : root m = root a ∨ root m = root b := by
        by_cases e2 : root m = root a ∨ root m = root b
        · exact e2
        · rw [if_neg e2] at he; exact hmin m hm he.symm
      have f : ∀ i, (root i = root a ∨ root i = root b) → (if root i = root b then root a else root i) = root a := fun i hi => by
        rcases hi with hi | hi
        · rw [hi, if_neg hne]
        · rw [if_pos hi]
      show (if root k = root b then root a else root k) = if root m = root b then root a else root m
      rw [f k e1, f m e2]
    · rw [if_neg e1] at he
      have e2 : ¬ (root m = root a ∨ root m = root b) := fun e2 => by
        rw [if_pos e2] at he; exact e1 (hmin k hk he)
      rw [if_neg e2] at he
      have := h.same k m hk hm he
      show (if root k = root b then root a else root k) = if root m = root b then root a else root m
      rw [this]
end Go.Proofs.Ytfilhbkenedchab

namespace Go.Proofs.Ytfilhbkenedchab
open Go.RowKit

/-- The nodes in block g: four cells each. -/
structure NodesAt (w : World) (g n : Nat) (up : Nat → Nat) (sz : Nat → Int) (le la : Nat → Nat) : Prop where
  lt : g < w.heap.size
  up : ∀ k, k < n → w.cell? ⟨g, k * 4, none⟩ = some (.int .i64 (up k : Int))
  sz : ∀ k, k < n → w.cell? ⟨g, k * 4 + 1, none⟩ = some (.int .i64 (sz k))
  le : ∀ k, k < n → w.cell? ⟨g, k * 4 + 2, none⟩ = some (.int .i64 (le k : Int))
  la : ∀ k, k < n → w.cell? ⟨g, k * 4 + 3, none⟩ = some (.int .i64 (la k : Int))
  free : ∀ o, w.frozen? ⟨g, o, none⟩ = false
  blk : ∃ cs T, w.heap[g]? = some (.cells cs T (0, 0))
theorem NodesAt.kept {w w' : World} {g n : Nat} {up le la : Nat → Nat} {sz : Nat → Int} {bs : List Nat} (h : NodesAt w g n up sz le la) (k : Kept bs w w') (hg : g ∉ bs) : NodesAt w' g n up sz le la :=
  ⟨Nat.lt_of_lt_of_le h.lt k.size, fun i hi => kept_cell' (h.up i hi) k hg, fun i hi => kept_cell' (h.sz i hi) k hg, fun i hi => kept_cell' (h.le i hi) k hg, fun i hi => kept_cell' (h.la i hi) k hg, fun o => by rw [k.frozen h.lt hg]; exact h.free o, by rw [k.block g h.lt hg]; exact h.blk⟩
/-- A join of the numbers below n in blocks p and g: L tells the least number of each one's set, B its label. -/
structure JAt (w : World) (p g n : Nat) (L B : Nat → Nat) : Prop where
  c0 : w.cell? ⟨p, 0, none⟩ = some (.slice (some ⟨g, 0, none⟩) n n)
  c1 : w.cell? ⟨p, 1, none⟩ = some (.int .i64 (cntL n L : Int))
  free : w.frozen? ⟨p, 1, none⟩ = false
  ne : p ≠ g
  isL : IsL n L
  most : n ≤ 70000
  nodes : ∃ up sz le la root d, NodesAt w g n up sz le la ∧ Forest n L B up le la root d
theorem JAt.kept {w w' : World} {p g n : Nat} {L B : Nat → Nat} {bs : List Nat} (h : JAt w p g n L B) (k : Kept bs w w') (hp : p ∉ bs) (hg : g ∉ bs) : JAt w' p g n L B := by
  obtain ⟨up, sz, le, la, root, d, h1, h2⟩ := h.nodes
  exact ⟨kept_cell' h.c0 k hp, kept_cell' h.c1 k hp, by rw [k.frozen (lt_of_cell h.c0) hp]; exact h.free, h.ne, h.isL, h.most, up, sz, le, la, root, d, h1.kept k hg, h2⟩
/-- A join, or nil. -/
def JV (w : World) (v : Value) (n : Nat) (L B : Nat → Nat) : Prop := (v = .pointer none ∧ n = 0) ∨ ∃ p g, v = .pointer (some ⟨p, 0, none⟩) ∧ JAt w p g n L B
theorem JAt.v {w : World} {p g n : Nat} {L B : Nat → Nat} (h : JAt w p g n L B) : JV w (.pointer (some ⟨p, 0, none⟩)) n L B := Or.inr ⟨p, g, rfl, h⟩
theorem JV.nil (w : World) (L B : Nat → Nat) : JV w (.pointer none) 0 L B := Or.inl ⟨rfl, rfl⟩
theorem JV.kept {w w' : World} {v : Value} {n : Nat} {L B : Nat → Nat} (h : JV w v n L B) (k : Kept [] w w') : JV w' v n L B := by
  rcases h with h | ⟨p, g, rfl, h⟩
  · exact Or.inl h
  · exact Or.inr ⟨p, g, rfl, h.kept k (by simp) (by simp)⟩
theorem JV.most {w : World} {v : Value} {n : Nat} {L B : Nat → Nat} (h : JV w v n L B) : n ≤ 70000 := by
  rcases h with ⟨_, rfl⟩ | ⟨p, g, rfl, h⟩
  · omega
  · exact h.most

set_option maxHeartbeats 1000000 in
theorem room_any {w : World} {v : Value} {n : Nat} {L B : Nat → Nat} (h : JV w v n L B) :
    Calls Try.prog 58 #[v] w fun e w' => e = .returned (.int .i64 (n : Int)) ∧ w' = w := by
  have hm := h.most
  rcases h with ⟨rfl, rfl⟩ | ⟨p, g, rfl, h⟩
  · go_enter Try.func58, Try.ntmps58
    go_wp2
    go_ret
    exact ⟨rfl, rfl⟩
  · have c0 := h.c0
    have hn : (n : Int) ≤ 9223372036854775807 := by omega
    clear h
    go_enter Try.func58, Try.ntmps58
    go_wp2
    go_ret
    exact ⟨rfl, rfl⟩
/-- Is it a number? -/
def hasN (n : Nat) (x : Int) : Bool := decide (0 ≤ x ∧ x < (n : Int))
set_option maxHeartbeats 1000000 in
theorem has_any {w : World} {v : Value} {n : Nat} {L B : Nat → Nat} (h : JV w v n L B) (x : Int) :
    Calls Try.prog 48 #[v, .int .i64 x] w fun e w' => e = .returned (.bool (hasN n x)) ∧ w' = w := by
  have H := hide (room_any h)
  clear h
  by_cases h0 : 0 ≤ x
  · have hfin := hide (show hasN n x = decide (x < (n : Int)) by unfold hasN; simp [h0])
    go_enter Try.func48, Try.ntmps48
    go_wp2_with fail
    refine (unhide H).mono ?_
    rintro e w' ⟨rfl, rfl⟩
    go_wp2
    go_ret
    exact ⟨ret_bool (unhide hfin).symm, rfl⟩
  · have hfin := hide (show hasN n x = false by unfold hasN; simp; intro h; exact absurd h h0)
    go_enter Try.func48, Try.ntmps48
    go_wp2
    go_ret
    exact ⟨ret_bool (unhide hfin).symm, rfl⟩
set_option maxHeartbeats 2000000 in
theorem top_any {w : World} {p g n : Nat} {L B up le la root d : Nat → Nat} {sz : Nat → Int} (c0 : w.cell? ⟨p, 0, none⟩ = some (.slice (some ⟨g, 0, none⟩) n n)) (hN : NodesAt w g n up sz le la) (hF : Forest n L B up le la root d) {k : Nat} (hk : k < n) :
    Calls Try.prog 49 #[.pointer (some ⟨p, 0, none⟩), .int .i64 (k : Int)] w fun e w' => e = .returned (.pointer (some ⟨g, root k * 4, none⟩)) ∧ w' = w := by
  have HN := hide hN
  have HF := hide hF
  have HK := hide hk
  clear hN hF hk
  go_enter Try.func49, Try.ntmps49
  go_wp2
  go_loop [1] (fun i => ∃ m : Nat, m < n ∧ i = .int .i64 m ∧ Hid (root m = root k)) (fun i => d (intOf i).toNat)
  case atStart => exact ⟨k, unhide HK, rfl, rfl⟩
  case round =>
    obtain ⟨m, hm, rfl, hr⟩ := hrel
    have hu := (unhide HN).up m hm
    have k0 : (0 : Int) ≤ (m : Int) := by omega
    have k1 : (m : Int) < (n : Int) := by omega
    by_cases he : up m = m
    · have hfin := hide (show root k = m by rw [← unhide hr]; exact (unhide HF).stop m hm he)
      have hq : ((up m : Int) != (m : Int)) = false := by rw [he]; simp
      clear he
      generalize up m = u at *
      go_wp2
      go_ret
      refine ⟨?_, rfl⟩
      rw [unhide hfin]
      rfl
    · obtain ⟨s1, s2⟩ := (unhide HF).step m hm he
      have hl := (unhide HF).lt m hm
      have S1 := hide (s1.trans (unhide hr))
      have S2 := hide s2
      have hq : ((up m : Int) != (m : Int)) = true := by simp; omega
      clear he s1 s2
      have HU := hide (rfl : up m = up m)
      generalize hug : up m = u at *
      have HUG := hide hug
      clear hug HU
      go_wp2
      go_round
      case rel => exact ⟨u, hl, rfl, unhide S1⟩
      case measure => simpa [intOf] using unhide S2
/-- What Find tells, and Label. -/
def tellI (n : Nat) (f : Nat → Nat) (x : Int) : Int := if hasN n x = true then (f x.toNat : Int) else -1
theorem hasN_at {n : Nat} {x : Int} (h : hasN n x = true) : ∃ k : Nat, k < n ∧ x = (k : Int) := by
  unfold hasN at h
  simp at h
  exact ⟨x.toNat, by omega, by omega⟩
theorem hasN_nat {n k : Nat} (h : k < n) : hasN n (k : Int) = true := by unfold hasN; simp; omega
theorem tellI_nat {n k : Nat} (h : k < n) (f : Nat → Nat) : tellI n f (k : Int) = (f k : Int) := by unfold tellI; rw [if_pos (hasN_nat h)]; simp
theorem tellI_no {n : Nat} {x : Int} (h : hasN n x = false) (f : Nat → Nat) : tellI n f x = -1 := by unfold tellI; rw [h]; simp
set_option maxHeartbeats 2000000 in
theorem label_any {w : World} {v : Value} {n : Nat} {L B : Nat → Nat} (h : JV w v n L B) (x : Int) :
    Calls Try.prog 33 #[v, .int .i64 x] w fun e w' => e = .returned (.int .i64 (tellI n B x)) ∧ w' = w := by
  have HA := has_any h x
  cases hh : hasN n x
  · rw [tellI_no hh]
    rw [hh] at HA
    have H := hide HA
    clear HA h hh
    go_enter Try.func33, Try.ntmps33
    go_wp2_with fail
    refine (unhide H).mono ?_
    rintro e w' ⟨rfl, rfl⟩
    go_wp2
    go_ret
    exact ⟨rfl, rfl⟩
  · obtain ⟨k, hk, rfl⟩ := hasN_at hh
    rw [tellI_nat hk]
    rw [hh] at HA
    have H := hide HA
    clear HA hh
    rcases h with ⟨_, rfl⟩ | ⟨p, g, rfl, h⟩
    · omega
    obtain ⟨up, sz, le, la, root, d, hN, hF⟩ := h.nodes
    have HT := hide (top_any h.c0 hN hF hk)
    obtain ⟨r1, r2, r3, r4, r5⟩ := hF.rt k hk
    have hc := hN.la _ r1
    rw [r5] at hc
    clear h hN hF r1 r2 r3 r4 r5
    generalize root k = r at *
    generalize B k = l at *
    go_enter Try.func33, Try.ntmps33
    go_wp2_with fail
    refine (unhide H).mono ?_
    rintro e w' ⟨rfl, rfl⟩
    go_wp2_with fail
    refine (unhide HT).mono ?_
    rintro e w'' ⟨rfl, rfl⟩
    go_wp2
    go_ret
    exact ⟨rfl, rfl⟩
end Go.Proofs.Ytfilhbkenedchab

namespace Go.Proofs.Ytfilhbkenedchab
open Go.RowKit

theorem Rs.told {w W : World} {m : Int} {r : Value} {es : List E} (h : Rs w W) (hr : EdgesAt W r es) (hf : FreshAt (w.heap.size + 1) r) :
    EdgesAt ((W.setCell ⟨w.heap.size, 0, none⟩ (.int .i64 m)).setCell ⟨w.heap.size, 1, none⟩ r) r es ∧ FreshAt w.heap.size r ∧ Kept [] w ((W.setCell ⟨w.heap.size, 0, none⟩ (.int .i64 m)).setCell ⟨w.heap.size, 1, none⟩ r) := by
  refine ⟨?_, fun a x y e => by have := hf a x y e; omega, ((h.kept.setCell (Or.inr (Nat.le_refl _)) _).setCell (Or.inr (Nat.le_refl _)) _)⟩
  refine hr.keptAt (bs := [w.heap.size]) (((Kept.refl _ _).setCell (Or.inl (by simp)) _).setCell (Or.inl (by simp)) _) ?_
  intro a x y e
  have := hf a x y e
  simp; omega
theorem u64_nonneg (n : Int) : 0 ≤ IntKind.u64.wrap n := by
  show 0 ≤ n % 18446744073709551616
  omega
theorem mod_small (n V : Int) (h0 : 0 ≤ V) (h1 : V ≤ 4096) : 0 ≤ wrap64 ((IntKind.u64.wrap n).tmod (V + 1)) ∧ wrap64 ((IntKind.u64.wrap n).tmod (V + 1)) ≤ V := by
  have h2 := u64_nonneg n
  have h3 : 0 ≤ (IntKind.u64.wrap n).tmod (V + 1) := Int.tmod_nonneg _ h2
  have h4 : (IntKind.u64.wrap n).tmod (V + 1) < V + 1 := Int.tmod_lt_of_pos _ (by omega)
  rw [IntWalk.wrap64_in _ (by omega)]
  omega

set_option maxRecDepth 20000 in
set_option maxHeartbeats 8000000 in
theorem small_any {w : World} {v : Value} {xs : List Int} (h : IntsAt w v xs) (n V Ed : Int) (hV0 : 0 ≤ V) (hV : V ≤ 4096) (hE0 : 0 ≤ Ed) (_ : Ed ≤ 60000) : Calls Try.prog 4 #[.int .i64 n, v, .int .i64 V, .int .i64 Ed] w fun e w' => ∃ N r es, e = .returned (gv N r) ∧ EdgesAt w' r es ∧ rightB N es = true ∧ N ≤ V ∧ (es.length : Int) ≤ Ed ∧ FreshAt w.heap.size r ∧ Kept [] w w' := by
  obtain ⟨ao, cap, rfl, hm, hxs⟩ := h.shape
  have HXS := hide hxs
  clear h hxs
  have hm' : (xs.length : Int) ≤ 9223372036854775807 := by unfold maxLen at hm; omega
  clear hm
  go_enter Try.func4, Try.ntmps4
  go_wp2
  obtain ⟨hN0, hN1⟩ := mod_small n V hV0 hV
  generalize wrap64 ((IntKind.u64.wrap n).tmod (V + 1)) = N at *
  have MS := hide (Mr.start w N 25 25)
  have HR0 := hide (show rightB N [] = true by unfold rightB; simp [chk]; omega)
  have HNV := hide hN1
  have hN2 : N ≤ 4096 := by omega
  clear hN1
  go_loopw [10] (fun ii wr => ∃ (i : Nat) (r : Value) (es : List E), i ≤ 402 ∧ ii = .int .i64 i ∧ (es.length : Int) ≤ Ed ∧ Hid (Mr w N r es wr ∧ rightB N es = true)) (fun ii _ => 500 - (intOf ii).toNat)
  case atStart => exact ⟨0, _, [], by omega, rfl, by simpa using hE0, unhide MS, unhide HR0⟩
  case round =>
    obtain ⟨i, r, es, hi, rfl, hle, hh⟩ := hrel
    obtain ⟨ro, rc, rfl, _⟩ := (unhide hh).1.at'.shape
    have c0 := (unhide hh).1.g0; have c1 := (unhide hh).1.g1
    by_cases hc : (i : Int) + 1 < (xs.length : Int) ∧ (es.length : Int) < Ed ∧ 0 < N ∧ (i : Int) < 400
    · obtain ⟨hc1, hc2, hc3, hc4⟩ := hc
      obtain ⟨g, o, rfl, hin⟩ := unhide HXS (by omega)
      have d0 := kept_cell (hin i (by omega)) (unhide hh).1.rs.kept
      have d1 := kept_cell (hin (i + 1) (by omega)) (unhide hh).1.rs.kept
      clear hin
      generalize xs.getD i 0 = a at *
      generalize xs.getD (i + 1) 0 = b at *
      have HA := hide (show ∀ W, Kept [] wr W → ∀ a b, Calls Try.prog 11 #[gv N (.slice ro es.length rc), .int .i64 a, .int .i64 b] W fun e w' => ∃ c nn ee, Answers W w' e nn ee c ∧ Hid (c = 0 → ee.length = es.length + 1 ∧ rightB N ee = true ∧ nn = N) from fun W k' a b => (radd_any (n := N) ((unhide hh).1.at'.kept k') a b).mono fun e w' h => ⟨_, _, _, h, fun hz => by
        unfold addE addN; rw [if_pos hz, if_pos hz]; exact ⟨insE_len, ins_right hz, rfl⟩⟩)
      have hc0 := lt_of_cell c0
      have hd0 := lt_of_cell d0
      have hwN : IntKind.u64.wrap N = N := by show N % 18446744073709551616 = N; omega
      have hwi : IntKind.i64.wrap ((i : Int) + 1) = (i : Int) + 1 := by rw [IntWalk.i64_left, IntWalk.wrap64_in _ (by omega)]
      have hnz : (N == 0) = false := by simp; omega
      have i0 : (0 : Int) ≤ (i : Int) := by omega
      have i2 : (0 : Int) ≤ (i : Int) + 1 := by omega
      have hnz2 : ¬ N = 0 := by omega
      have hti : ((i : Int) + 1).toNat = i + 1 := by omega
      have i1 : (i : Int) < (xs.length : Int) := by omega
      go_wp2_with fail
      go_region_held3 (fun W => W.cell? ⟨w.heap.size + 1, 0, none⟩ = some (.int .i64 N) ∧ W.cell? ⟨w.heap.size + 1, 1, none⟩ = some (.slice ro es.length rc) ∧ W.cell? ⟨g, o + i, none⟩ = some (.int .i64 a) ∧ W.cell? ⟨g, o + (i + 1), none⟩ = some (.int .i64 b)) (first | exact ⟨kept_cell c0 K2, kept_cell c1 K2, kept_cell d0 K2, kept_cell d1 K2⟩ | exact ⟨(cell_set2 (by omega)).trans (kept_cell c0 K2), (cell_set2 (by omega)).trans (kept_cell c1 K2), (cell_set2 (by omega)).trans (kept_cell d0 K2), (cell_set2 (by omega)).trans (kept_cell d1 K2)⟩ | exact ⟨alloc_cell (kept_cell c0 K2) _, alloc_cell (kept_cell c1 K2) _, alloc_cell (kept_cell d0 K2) _, alloc_cell (kept_cell d1 K2) _⟩ | go_keep)
        (first | (go_at_call 11; refine (unhide HA _ (by repeat' first | exact Kept.refl _ _ | apply Kept.drew | apply Kept.alloc) _ _).mono ?_; rintro e w2 ⟨c, nn, ee, ⟨r2, rfl, hr2, hf2, k2⟩, HST⟩; obtain ⟨so, sm, sc, rfl⟩ := hr2.form; have kz := (Kept.refl [] (wr.alloc (.cells #[.int .i64 0, .slice none 0 0] 25))).drew.trans k2; obtain ⟨z0, z1⟩ := box2 kz (by simp); obtain ⟨y0, y1⟩ := box2f kz; have K2 : Kept [] wr w2 := ((Kept.refl [] wr).alloc _).trans kz) | (go_at_call 11; refine (unhide HA _ (by repeat' first | exact Kept.refl _ _ | apply Kept.drew | apply Kept.alloc) _ _).mono ?_; rintro e w2 ⟨c, nn, ee, ⟨r2, rfl, hr2, hf2, k2⟩, HST⟩; obtain ⟨so, sm, sc, rfl⟩ := hr2.form; have K2 : Kept [] wr w2 := (Kept.refl [] wr).drew.trans k2))
      · have M3 := (unhide hh).1.go (K2.alloc (.cells #[.int .i64 nn, .slice so sm sc] 25))
        obtain ⟨v0, v1⟩ := box2 (Kept.refl [] (w2.alloc (.cells #[.int .i64 nn, .slice so sm sc] 25))) (by simp)
        have hr3 := hr2.kept ((Kept.refl [] w2).alloc (.cells #[.int .i64 nn, .slice so sm sc] 25))
        have hf3 : FreshAt (w.heap.size + 2) (.slice so sm sc) := fun a x y e => Nat.le_trans hc0 (hf2 a x y e)
        have nP : w2.heap.size ≠ w.heap.size + 1 := by have := K2.size; omega
        clear k2 K2 hr2 hf2 c0 c1 d0 d1
        generalize w2.alloc (.cells #[.int .i64 nn, .slice so sm sc] 25) = w3 at *
        generalize w2.heap.size = pp at *
        have HM3 := hide M3
        have HR3 := hide hr3
        have HF3 := hide hf3
        have s0 := M3.g0; have s1 := M3.g1; have t0 := M3.f0; have t1 := M3.f1
        clear M3 hr3 hf3 hc0 hd0
        by_cases hcz : c = 0
        · have hq : (c == 0) = true := by simpa using hcz
          obtain ⟨hl2, hr2', hnn⟩ := unhide HST hcz
          subst hnn
          have HL2 := hide hl2
          have HRR := hide hr2'
          clear hcz hl2 hr2'
          go_wp2
          go_roundw
          case rel =>
            refine ⟨i + 2, .slice so sm sc, ee, by omega, by go_num, by rw [unhide HL2]; omega, ?_, unhide HRR⟩
            exact (unhide HM3).put (unhide HR3) (unhide HF3)
          case measure => simp [intOf]; omega
        · have hq : (c == 0) = false := by simpa using hcz
          clear hcz
          go_wp2
          go_roundw
          case rel => exact ⟨i + 2, _, es, by omega, by go_num, hle, unhide HM3, (unhide hh).2⟩
          case measure => simp [intOf]; omega
      · have kS : Kept [wr.heap.size] w2 ((w2.setCell ⟨wr.heap.size, 0, none⟩ (.int .i64 nn)).setCell ⟨wr.heap.size, 1, none⟩ (.slice so sm sc)) := ((Kept.refl _ _).setCell (Or.inl (by simp)) _).setCell (Or.inl (by simp)) _
        have kA : Kept [] wr ((w2.setCell ⟨wr.heap.size, 0, none⟩ (.int .i64 nn)).setCell ⟨wr.heap.size, 1, none⟩ (.slice so sm sc)) := K2.trans' kS (by simp)
        have M3 := (unhide hh).1.go kA
        have v0 : ((w2.setCell ⟨wr.heap.size, 0, none⟩ (.int .i64 nn)).setCell ⟨wr.heap.size, 1, none⟩ (.slice so sm sc)).cell? ⟨wr.heap.size, 0, none⟩ = some (.int .i64 nn) := by go_simp
        have v1 : ((w2.setCell ⟨wr.heap.size, 0, none⟩ (.int .i64 nn)).setCell ⟨wr.heap.size, 1, none⟩ (.slice so sm sc)).cell? ⟨wr.heap.size, 1, none⟩ = some (.slice so sm sc) := by go_simp
        have hr3 := hr2.keptAt kS (fun a x y e => by have h2 := hf2 a x y e; have h3 : (wr.alloc (.cells #[.int .i64 0, .slice none 0 0] 25)).heap.size ≤ a.block := h2; simp at h3 ⊢; omega)
        have hf3 : FreshAt (w.heap.size + 2) (.slice so sm sc) := fun a x y e => by have h2 := hf2 a x y e; have h3 : (wr.alloc (.cells #[.int .i64 0, .slice none 0 0] 25)).heap.size ≤ a.block := h2; simp at h3; omega
        have nP : wr.heap.size ≠ w.heap.size + 1 := by omega
        clear k2 kz K2 hr2 hf2 c0 c1 d0 d1 z0 z1 y0 y1 kS kA
        generalize (w2.setCell ⟨wr.heap.size, 0, none⟩ (.int .i64 nn)).setCell ⟨wr.heap.size, 1, none⟩ (.slice so sm sc) = w3 at *
        have HM3 := hide M3
        have HR3 := hide hr3
        have HF3 := hide hf3
        have s0 := M3.g0; have s1 := M3.g1; have t0 := M3.f0; have t1 := M3.f1
        clear M3 hr3 hf3 hc0 hd0
        by_cases hcz : c = 0
        · have hq : (c == 0) = true := by simpa using hcz
          obtain ⟨hl2, hr2', hnn⟩ := unhide HST hcz
          subst hnn
          have HL2 := hide hl2
          have HRR := hide hr2'
          clear hcz hl2 hr2'
          go_wp2
          go_roundw
          case rel =>
            refine ⟨i + 2, .slice so sm sc, ee, by omega, by go_num, by rw [unhide HL2]; omega, ?_, unhide HRR⟩
            exact (unhide HM3).put (unhide HR3) (unhide HF3)
          case measure => simp [intOf]; omega
        · have hq : (c == 0) = false := by simpa using hcz
          clear hcz
          go_wp2
          go_roundw
          case rel => exact ⟨i + 2, _, es, by omega, by go_num, hle, unhide HM3, (unhide hh).2⟩
          case measure => simp [intOf]; omega
    · have r0 := (unhide hh).1.rs.r0; have r1 := (unhide hh).1.rs.r1; have f0 := (unhide hh).1.rs.f0; have f1 := (unhide hh).1.rs.f1
      have HT := hide ((unhide hh).1.rs.told (m := N) (unhide hh).1.at' (fun a x y e => by have := (unhide hh).1.fresh a x y e; omega))
      have HC := hide hc
      clear hc
      go_wp2
      all_goals (first | (exfalso; have hc := unhide HC; omega) | exact bodyPost_ret (v := gv N (.slice ro es.length rc)) (by simp [results, Try.results4, go_sem, r0, r1]) rfl ⟨N, .slice ro es.length rc, rfl, es, (unhide HT).1, (unhide hh).2, unhide HNV, hle, (unhide HT).2⟩ | exact bodyPost_ret (v := gv N (.slice ro es.length rc)) (by simp [results, Try.results4, go_sem, r0, r1]) rfl ⟨N, .slice ro es.length rc, es, rfl, (unhide HT).1, (unhide hh).2, unhide HNV, hle, (unhide HT).2⟩)
end Go.Proofs.Ytfilhbkenedchab

namespace Go.Proofs.Ytfilhbkenedchab
open Go.RowKit

theorem make_ints (N : Nat) (hN : N ≤ 100000) (W : World) : (Instr.makeSlice 22 (.int .i64 (N : Int)) (.int .i64 (N : Int))).run Try.prog W = .ok (.slice (some ⟨W.heap.size, 0, none⟩) N N) (W.alloc (.cells (madeCells #[.int .i64 0] N) 3)) := by
  obtain ⟨i, hi, hz0, hz1, hz2⟩ := info_parts infoInt
  have := run_make (P := Try.prog) W 22 3 i (.int .i64 0) Try.underlying22 hi hz0 .i64 .i64 (N : Int) (N : Int) (by omega) (by omega) (by rw [hz2]; omega) (by omega)
  rw [this, hz1]
  simp [Value.cells]
/-- A row of numbers of the call's own. -/
structure OfAt (w : World) (g N : Nat) (f : Nat → Int) : Prop where
  cell : ∀ v, v < N → w.cell? ⟨g, v, none⟩ = some (.int .i64 (f v))
  free : ∀ v, w.frozen? ⟨g, v, none⟩ = false
  lt : g < w.heap.size
theorem OfAt.start (W : World) (N : Nat) : OfAt (W.alloc (.cells (madeCells #[.int .i64 0] N) 3)) W.heap.size N (fun _ => 0) :=
  ⟨fun v hv => by rw [cell_of_block (new_block W _)]; simp [madeCells, hv, Nat.mod_one], fun v => by simp only [World.frozen?, new_block W (.cells (madeCells #[.int .i64 0] N) 3)]; rfl, by simp⟩
theorem OfAt.kept {w w' : World} {g N : Nat} {f : Nat → Int} (h : OfAt w g N f) (k : Kept [] w w') : OfAt w' g N f :=
  ⟨fun v hv => kept_cell (h.cell v hv) k, fun v => by rw [k.frozen h.lt (by simp)]; exact h.free v, Nat.lt_of_lt_of_le h.lt k.size⟩
theorem OfAt.set {w : World} {g N v : Nat} {f : Nat → Int} (h : OfAt w g N f) (hv : v < N) (y : Int) : OfAt (w.setCell ⟨g, v, none⟩ (.int .i64 y)) g N (fun u => if u = v then y else f u) := by
  refine ⟨fun u hu => ?_, fun u => by rw [frozen_set]; exact h.free u, by simpa [World.setCell] using h.lt⟩
  by_cases e : u = v
  · subst e; simp only [if_true]; exact cell_set_eq (h.cell u hu)
  · simp only [e, if_false]; rw [cell_set_off e]; exact h.cell u hu

end Go.Proofs.Ytfilhbkenedchab
