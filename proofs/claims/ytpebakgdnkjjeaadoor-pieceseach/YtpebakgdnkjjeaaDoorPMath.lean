/- PIECES: plain mathematics: who is come to, and what the pieces are. -/
import Derived.Test.YtpebakgdnkjjeaaDoorMath
namespace Go.Proofs.YtpebakgdnkjjeaaDoor
open Go.RowKit

/-- x and y are joined. -/
def Adj (es : List E) (x y : Int) : Prop := (x, y) ∈ es ∨ (y, x) ∈ es
theorem Adj.symm {es : List E} {x y : Int} (h : Adj es x y) : Adj es y x := Or.symm h
/-- y is come to from x, through S alone. -/
def Reach (es : List E) (S : Int → Prop) (x y : Int) : Prop := S x ∧ ∀ P : Int → Prop, P x → (∀ y z, P y → S y → Adj es y z → S z → P z) → P y
theorem Reach.refl {es : List E} {S : Int → Prop} {x : Int} (h : S x) : Reach es S x x := ⟨h, fun _ h _ => h⟩
theorem Reach.left {es : List E} {S : Int → Prop} {x y : Int} (h : Reach es S x y) : S x := h.1
theorem Reach.right {es : List E} {S : Int → Prop} {x y : Int} (h : Reach es S x y) : S y := h.2 S h.1 (fun _ _ _ _ _ h => h)
theorem Reach.step {es : List E} {S : Int → Prop} {x y z : Int} (h : Reach es S x y) (ha : Adj es y z) (hz : S z) : Reach es S x z :=
  ⟨h.1, fun P h0 hs => hs y z (h.2 P h0 hs) h.right ha hz⟩
theorem Reach.trans {es : List E} {S : Int → Prop} {x y z : Int} (h : Reach es S x y) (k : Reach es S y z) : Reach es S x z :=
  k.2 (fun z => Reach es S x z) h (fun _ _ h _ ha hz => h.step ha hz)
theorem Reach.symm {es : List E} {S : Int → Prop} {x y : Int} (h : Reach es S x y) : Reach es S y x :=
  h.2 (fun y => Reach es S y x) (.refl h.1) (fun _ _ h hy ha hz => ((Reach.refl hz).step ha.symm hy).trans h)
/-- What is closed holds all that is come to. -/
theorem Reach.closed {es : List E} {S P : Int → Prop} {x y : Int} (h : Reach es S x y) (h0 : P x) (hs : ∀ y z, P y → S y → Adj es y z → S z → P z) : P y := h.2 P h0 hs
/-- Through fewer vertices, of which all that are left out are come to by nobody that is in. -/
theorem Reach.less {es : List E} {S T : Int → Prop} (hts : ∀ x, T x → S x) (hcl : ∀ x y, T x → Adj es x y → S y → T y) {x y : Int} (hx : T x) : Reach es T x y ↔ Reach es S x y := by
  constructor
  · intro h
    exact h.closed (P := fun y => Reach es S x y) (.refl (hts x hx)) (fun _ z h _ ha hz => h.step ha (hts z hz))
  · intro h
    exact h.closed (P := fun y => Reach es T x y) (.refl hx) (fun y z h _ ha hz => h.step ha (hcl y z h.right ha hz))
theorem Reach.congr {es : List E} {S T : Int → Prop} (h : ∀ x, S x ↔ T x) {x y : Int} : Reach es S x y ↔ Reach es T x y := by
  have : S = T := funext fun x => propext (h x)
  rw [this]

/-- The pieces of what S has: each rises, and they rise by their least ones. -/
structure IsPieces (es : List E) (S : Int → Prop) (L : List (List Int)) : Prop where
  rise : ∀ l ∈ L, l.Pairwise (· < ·)
  ne : ∀ l ∈ L, l ≠ []
  cls : ∀ l ∈ L, ∀ x ∈ l, S x ∧ ∀ y, y ∈ l ↔ Reach es S x y
  heads : L.Pairwise (fun l m => l.headD 0 < m.headD 0)
  all : ∀ x, S x → ∃ l ∈ L, x ∈ l

theorem pair_irr {l : List Int} (h : l.Pairwise (· < ·)) : l.Nodup := h.imp (fun h e => by subst e; exact Int.lt_irrefl _ h)
theorem rising_eq {l m : List Int} (hl : l.Pairwise (· < ·)) (hm : m.Pairwise (· < ·)) (h : ∀ x, x ∈ l ↔ x ∈ m) : l = m :=
  ((List.perm_ext_iff_of_nodup (pair_irr hl) (pair_irr hm)).2 h).eq_of_pairwise (fun a b _ _ h1 h2 => by omega) (hl.imp Int.le_of_lt) (hm.imp Int.le_of_lt)
theorem IsPieces.sub {es : List E} {S : Int → Prop} {L M : List (List Int)} (h : IsPieces es S L) (k : IsPieces es S M) : ∀ l ∈ L, l ∈ M := by
  intro l hl
  obtain ⟨x, hx⟩ := List.exists_mem_of_ne_nil l (h.ne l hl)
  obtain ⟨m, hm, hxm⟩ := k.all x (h.cls l hl x hx).1
  have : l = m := rising_eq (h.rise l hl) (k.rise m hm) (fun y => by rw [(h.cls l hl x hx).2 y, (k.cls m hm x hxm).2 y])
  rw [this]; exact hm
theorem heads_nodup {L : List (List Int)} (h : L.Pairwise (fun l m => l.headD 0 < m.headD 0)) : L.Nodup := h.imp (fun h e => by subst e; exact Int.lt_irrefl _ h)
/-- There is one list of pieces. -/
theorem IsPieces.unique {es : List E} {S : Int → Prop} {L M : List (List Int)} (h : IsPieces es S L) (k : IsPieces es S M) : L = M :=
  ((List.perm_ext_iff_of_nodup (heads_nodup h.heads) (heads_nodup k.heads)).2 (fun l => ⟨h.sub k l, k.sub h l⟩)).eq_of_pairwise (le := fun l m => l.headD 0 ≤ m.headD 0)
    (fun a b ha hb h1 h2 => by
      have he : a.headD 0 = b.headD 0 := by omega
      cases a with
      | nil => exact absurd rfl (h.ne _ ha)
      | cons x r =>
        cases b with
        | nil => exact absurd rfl (k.ne _ hb)
        | cons y t =>
          simp at he
          subst he
          have hb' := k.sub h _ hb
          exact rising_eq (h.rise _ ha) (h.rise _ hb') (fun z => by rw [(h.cls _ ha x (by simp)).2 z, (h.cls _ hb' x (by simp)).2 z]))
    (h.heads.imp Int.le_of_lt) (k.heads.imp Int.le_of_lt)

/-- Pieces that are taken already, one by one. -/
structure Taken (es : List E) (S T : Int → Prop) (L : List (List Int)) : Prop where
  rise : ∀ l ∈ L, l.Pairwise (· < ·)
  ne : ∀ l ∈ L, l ≠ []
  cls : ∀ l ∈ L, ∀ x ∈ l, S x ∧ ∀ y, y ∈ l ↔ Reach es S x y
  heads : L.Pairwise (fun l m => l.headD 0 < m.headD 0)
  left : ∀ x, T x ↔ S x ∧ ∀ l ∈ L, x ∉ l
  low : ∀ l ∈ L, ∀ x, T x → l.headD 0 < x
theorem Taken.start {es : List E} {S : Int → Prop} : Taken es S S [] := ⟨by simp, by simp, by simp, .nil, by simp, by simp⟩
/-- What is left is closed. -/
theorem Taken.closed {es : List E} {S T : Int → Prop} {L : List (List Int)} (h : Taken es S T L) (x y : Int) (hx : T x) (ha : Adj es x y) (hy : S y) : T y := by
  rw [h.left]
  refine ⟨hy, fun l hl hm => ?_⟩
  have hc := h.cls l hl y hm
  have hxS := ((h.left x).1 hx)
  exact hxS.2 l hl ((hc.2 x).2 ((Reach.refl hy).step ha.symm hxS.1))
theorem Taken.reach {es : List E} {S T : Int → Prop} {L : List (List Int)} (h : Taken es S T L) {x y : Int} (hx : T x) : Reach es T x y ↔ Reach es S x y :=
  Reach.less (fun x hx => ((h.left x).1 hx).1) h.closed hx
/-- One piece more: that of the least that is left. -/
theorem Taken.next {es : List E} {S T U : Int → Prop} {L : List (List Int)} (h : Taken es S T L) {v : Int} {l : List Int} (hv : T v) (hmin : ∀ x, T x → v ≤ x) (hr : l.Pairwise (· < ·)) (hl : ∀ y, y ∈ l ↔ Reach es T v y) (hU : ∀ x, U x ↔ T x ∧ x ∉ l) : Taken es S U (L ++ [l]) := by
  have hvl : v ∈ l := (hl v).2 (.refl hv)
  have hne : l ≠ [] := fun e => by rw [e] at hvl; simp at hvl
  have hhead : l.headD 0 = v := by
    cases l with
    | nil => exact absurd rfl hne
    | cons x r =>
      have hx := hmin x ((hl x).1 (by simp)).right
      simp only [List.headD_cons]
      rcases List.mem_cons.1 hvl with e | hm
      · exact e.symm
      · have := (List.pairwise_cons.1 hr).1 v hm; omega
  have hsub : ∀ x, T x → S x := fun x hx => ((h.left x).1 hx).1
  refine ⟨?_, ?_, ?_, ?_, ?_, ?_⟩
  · intro m hm
    rcases List.mem_append.1 hm with hm | hm
    · exact h.rise m hm
    · simp at hm; subst hm; exact hr
  · intro m hm
    rcases List.mem_append.1 hm with hm | hm
    · exact h.ne m hm
    · simp at hm; subst hm; exact hne
  · intro m hm x hx
    rcases List.mem_append.1 hm with hm | hm
    · exact h.cls m hm x hx
    · simp at hm
      subst hm
      have hxr := (hl x).1 hx
      refine ⟨hsub x hxr.right, fun y => ?_⟩
      rw [hl y, h.reach hv]
      have h2 := (h.reach hv).1 hxr
      exact ⟨fun k => h2.symm.trans k, fun k => h2.trans k⟩
  · rw [List.pairwise_append]
    refine ⟨h.heads, by simp, fun m hm k hk => ?_⟩
    simp at hk
    subst hk
    rw [hhead]
    exact h.low m hm v hv
  · intro x
    rw [hU, h.left]
    constructor
    · rintro ⟨⟨h1, h2⟩, h3⟩
      refine ⟨h1, fun m hm => ?_⟩
      rcases List.mem_append.1 hm with hm | hm
      · exact h2 m hm
      · simp at hm; subst hm; exact h3
    · rintro ⟨h1, h2⟩
      exact ⟨⟨h1, fun m hm => h2 m (by simp [hm])⟩, h2 l (by simp)⟩
  · intro m hm x hx
    have hx' := (hU x).1 hx
    rcases List.mem_append.1 hm with hm | hm
    · exact h.low m hm x hx'.1
    · simp at hm
      subst hm
      rw [hhead]
      have := hmin x hx'.1
      have hne2 : v ≠ x := fun e => hx'.2 (e ▸ hvl)
      omega
theorem Taken.done {es : List E} {S T : Int → Prop} {L : List (List Int)} (h : Taken es S T L) (he : ∀ x, ¬ T x) : IsPieces es S L :=
  ⟨h.rise, h.ne, h.cls, h.heads, fun x hx => by
    by_cases hc : ∃ l ∈ L, x ∈ l
    · exact hc
    · exact absurd ((h.left x).2 ⟨hx, fun l hl hm => hc ⟨l, hl, hm⟩⟩) (he x)⟩
end Go.Proofs.YtpebakgdnkjjeaaDoor
