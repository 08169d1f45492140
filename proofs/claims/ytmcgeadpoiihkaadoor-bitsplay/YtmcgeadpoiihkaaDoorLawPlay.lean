/- BitsPlay: the walk. -/
import Derived.Test.YtmcgeadpoiihkaaDoorPlayHas
import Derived.Deep.RegionHeldLaw
namespace Go.Proofs.YtmcgeadpoiihkaaDoor
open Go.RowKit

theorem pick_n (a : Int) (L : Nat) (h0 : 0 < L) (h1 : L ≤ 100000) : ∃ k : Nat, wrap64 ((IntKind.u64.wrap a).tmod (L : Int)) = (k : Int) ∧ k < L := by
  rw [IntKind.wrap_u64]
  have h2 : 0 ≤ a % 18446744073709551616 := by omega
  generalize a % 18446744073709551616 = c at *
  have h3 := Int.tmod_nonneg (L : Int) h2
  have h4 := Int.tmod_lt_of_pos c (show (0 : Int) < (L : Int) by omega)
  refine ⟨(c.tmod (L : Int)).toNat, ?_, by omega⟩
  rw [IntWalk.wrap64_in _ (by omega)]
  omega

/-- The list of things to do, in memory: of the i-th its kind, its number, its list. -/
def OpsAt (w : World) (v : Value) (n : Nat) (kind key : Nat → Int) (lv : Nat → Value) (ls : Nat → List Int) : Prop :=
  ∃ ao cap, v = .slice ao n cap ∧ n ≤ maxLen ∧ (0 < n → ∃ g o, ao = some ⟨g, o, none⟩ ∧ g < w.heap.size ∧ ∀ i, i < n → w.cell? ⟨g, o + i * 3, none⟩ = some (.int .i64 (kind i)) ∧ w.cell? ⟨g, o + i * 3 + 1, none⟩ = some (.int .i64 (key i)) ∧ w.cell? ⟨g, o + i * 3 + 2, none⟩ = some (lv i) ∧ IntsAt w (lv i) (ls i))

theorem infoBool : (Tryd.prog.info? 4).map (fun i => (i.zero, i.size, i.bytes)) = some (some (.bool false), 1, 1) := by kernel_rfl
theorem make_bools (X : Int) (m : Nat) (hX : X = m) (hm : m ≤ 100000) (W : World) : (Instr.makeSlice 27 (.int .i64 X) (.int .i64 X)).run Tryd.prog W = .ok (.slice (some ⟨W.heap.size, 0, none⟩) m m) (W.alloc (.cells (madeCells #[.bool false] m) 4)) := by
  obtain ⟨i, hi, hz0, hz1, hz2⟩ := info_parts infoBool
  have := run_make (P := Tryd.prog) W 27 4 i (.bool false) Tryd.underlying27 hi hz0 .i64 .i64 X X (by omega) (by omega) (by rw [hz2]; omega) (by omega)
  rw [this, hz1, hX]
  simp [Value.cells]

/-- What BitsPlay keeps in memory: the set, and beside it a list of bools of the statement's own. -/
structure Play (w0 : World) (N nb ib ab s b c : Nat) (inn : Nat → Bool) (ws : Nat → Nat) (W : World) : Prop where
  set : SetAt W s b N ((N + 63) / 64) c ws
  tab : Tab W
  num : W.cell? ⟨nb, 0, none⟩ = some (.int .i64 (N : Nat))
  arr : W.cell? ⟨ib, 0, none⟩ = some (.slice (some ⟨ab, 0, none⟩) N N)
  has : ∀ k, k < N → W.cell? ⟨ab, k, none⟩ = some (.bool (inn k))
  free : ∀ k, k < N → W.frozen? ⟨ab, k, none⟩ = false
  kept : Kept [] w0 W
  b1 : w0.heap.size ≤ b
  ab1 : w0.heap.size ≤ ab
  d1 : nb ≠ ab ∧ nb ≠ b ∧ ib ≠ ab ∧ ib ≠ b ∧ ab ≠ b ∧ s ≠ ab ∧ ab ≠ 0
  nl : nb < W.heap.size
  il : ib < W.heap.size
  al : ab < W.heap.size
  nN : N < 300

theorem Play.keep {w0 : World} {N nb ib ab s b c : Nat} {inn : Nat → Bool} {ws : Nat → Nat} {W W' : World} (h : Play w0 N nb ib ab s b c inn ws W) (k : Kept [] W W') : Play w0 N nb ib ab s b c inn ws W' :=
  { h with
    set := h.set.kept k (by simp) (by simp)
    tab := h.tab.kept k (by simp)
    num := by rw [k.cell h.nl (by simp)]; exact h.num
    arr := by rw [k.cell h.il (by simp)]; exact h.arr
    has := fun j hj => by rw [k.cell h.al (by simp)]; exact h.has j hj
    free := fun j hj => by rw [k.frozen h.al (by simp)]; exact h.free j hj
    kept := h.kept.trans k
    nl := Nat.lt_of_lt_of_le h.nl k.size
    il := Nat.lt_of_lt_of_le h.il k.size
    al := Nat.lt_of_lt_of_le h.al k.size }
/-- The set's words have been written, nothing else. -/
theorem Play.words {w0 : World} {N nb ib ab s b c : Nat} {inn : Nat → Bool} {ws ws' : Nat → Nat} {W W' : World} (h : Play w0 N nb ib ab s b c inn ws W) (k : Kept [b] W W') (hs : SetAt W' s b N ((N + 63) / 64) c ws') : Play w0 N nb ib ab s b c inn ws' W' := by
  obtain ⟨e1, e2, e3, e4, e5, e6, e7⟩ := h.d1
  exact { h with
    set := hs
    tab := h.tab.kept k (by have := h.set.b0; simpa using fun e => this e.symm)
    num := by rw [k.cell h.nl (by simpa using e2)]; exact h.num
    arr := by rw [k.cell h.il (by simpa using e4)]; exact h.arr
    has := fun j hj => by rw [k.cell h.al (by simpa using e5)]; exact h.has j hj
    free := fun j hj => by rw [k.frozen h.al (by simpa using e5)]; exact h.free j hj
    kept := h.kept.put k h.b1
    nl := Nat.lt_of_lt_of_le h.nl k.size
    il := Nat.lt_of_lt_of_le h.il k.size
    al := Nat.lt_of_lt_of_le h.al k.size }
/-- One of the bools has been written. -/
theorem Play.store {w0 : World} {N nb ib ab s b c : Nat} {inn : Nat → Bool} {ws : Nat → Nat} {W : World} (h : Play w0 N nb ib ab s b c inn ws W) (j : Nat) (v : Bool) : Play w0 N nb ib ab s b c (fun i => if i = j then v else inn i) ws (W.setCell ⟨ab, j, none⟩ (.bool v)) := by
  obtain ⟨e1, e2, e3, e4, e5, e6, e7⟩ := h.d1
  have k : Kept [ab] W (W.setCell ⟨ab, j, none⟩ (.bool v)) := (Kept.refl [ab] W).setCell (by simp) _
  exact { h with
    set := h.set.kept k (by simpa using e6) (by simpa using fun e => e5 e.symm)
    tab := h.tab.kept k (by simpa using fun e => e7 e.symm)
    num := by rw [k.cell h.nl (by simpa using e1)]; exact h.num
    arr := by rw [k.cell h.il (by simpa using e3)]; exact h.arr
    has := fun i hi => by
      by_cases e : i = j
      · subst e
        rw [World.cell?_setCell_same _ _ _ (h.has i hi), if_pos rfl]
      · rw [World.cell?_setCell_other _ _ _ _ (by intro h; simp only [Addr.mk.injEq] at h; omega), if_neg e]
        exact h.has i hi
    free := fun i hi => by
      have := h.free i hi
      rw [← this]
      unfold World.frozen? World.setCell
      simp only [Array.getElem?_modify]
      cases W.heap[ab]? with
      | none => rfl
      | some o => cases o <;> simp
    kept := h.kept.put k h.ab1
    nl := Nat.lt_of_lt_of_le h.nl k.size
    il := Nat.lt_of_lt_of_le h.il k.size
    al := Nat.lt_of_lt_of_le h.al k.size }

theorem Play.congr {w0 : World} {N nb ib ab s b c : Nat} {inn inn2 : Nat → Bool} {ws : Nat → Nat} {W : World} (h : Play w0 N nb ib ab s b c inn ws W) (e : ∀ k, k < N → inn k = inn2 k) : Play w0 N nb ib ab s b c inn2 ws W :=
  { h with has := fun k hk => by rw [← e k hk]; exact h.has k hk }
/-- BitsPlay's has answers as the set did. -/
theorem Play.hasFn {w0 : World} {N nb ib ab s b c : Nat} {ws ws2 : Nat → Nat} {W : World} (h : Play w0 N nb ib ab s b c (Bm.mem ws) ws2 W) (ht : ∀ k, Bm.mem ws k = true → k < N) (k : Int) :
    Calls Tryd.prog 10 #[.int .i64 k, .pointer (some ⟨nb, 0, none⟩), .pointer (some ⟨ib, 0, none⟩)] W fun e w' => e = .returned (.bool (hasI ws k)) ∧ w' = W := by
  by_cases hk : k < 0 ∨ (N : Int) ≤ k
  · have e : hasI ws k = false := by
      unfold hasI
      by_cases h0 : 0 ≤ k
      · cases hm : Bm.mem ws k.toNat
        · simp
        · have := ht _ hm; omega
      · simp [h0]
    rw [e]
    exact has_out W nb ib N k h.num hk
  · obtain ⟨m, rfl⟩ := Int.eq_ofNat_of_zero_le (show 0 ≤ k by omega)
    have e : hasI ws (m : Int) = Bm.mem ws m := by simp [hasI]
    rw [e]
    exact has_in W nb ib ab N m _ h.num h.arr (h.has m (by omega)) (by omega)

/-- What a turn of BitsPlay goes on: the thing to do in block ob, the set t made of its list. -/
structure TurnSays (w0 : World) (N nb ib ab s b c : Nat) (inn : Nat → Bool) (ws : Nat → Nat) (ob tp tb : Nat) (wt : Nat → Nat) (kd ky : Int) (vl : Value) (xs : List Int) (W : World) : Prop where
  play : Play w0 N nb ib ab s b c inn ws W
  t : SetAt W tp tb 400 7 7 wt
  tm : ∀ j, Bm.mem wt j = (decide (j < 400) && decide ((j : Int) ∈ xs.take 60))
  kind : W.cell? ⟨ob, 0, none⟩ = some (.int .i64 kd)
  key : W.cell? ⟨ob, 1, none⟩ = some (.int .i64 ky)
  lst : W.cell? ⟨ob, 2, none⟩ = some vl
  ints : IntsAt w0 vl xs
  ol : ob < W.heap.size
  dist : ob ≠ b ∧ ob ≠ ab ∧ tp ≠ b ∧ tp ≠ ab ∧ tb ≠ b ∧ tb ≠ ab

theorem TurnSays.keep {w0 : World} {N nb ib ab s b c : Nat} {inn : Nat → Bool} {ws : Nat → Nat} {ob tp tb : Nat} {wt : Nat → Nat} {kd ky : Int} {vl : Value} {xs : List Int} {W W' : World} (h : TurnSays w0 N nb ib ab s b c inn ws ob tp tb wt kd ky vl xs W) (k : Kept [] W W') : TurnSays w0 N nb ib ab s b c inn ws ob tp tb wt kd ky vl xs W' :=
  { h with
    play := h.play.keep k
    t := h.t.kept k (by simp) (by simp)
    kind := by rw [k.cell h.ol (by simp)]; exact h.kind
    key := by rw [k.cell h.ol (by simp)]; exact h.key
    lst := by rw [k.cell h.ol (by simp)]; exact h.lst
    ol := Nat.lt_of_lt_of_le h.ol k.size }
theorem TurnSays.words {w0 : World} {N nb ib ab s b c : Nat} {inn : Nat → Bool} {ws ws' : Nat → Nat} {ob tp tb : Nat} {wt : Nat → Nat} {kd ky : Int} {vl : Value} {xs : List Int} {W W' : World} (h : TurnSays w0 N nb ib ab s b c inn ws ob tp tb wt kd ky vl xs W) (k : Kept [b] W W') (hs : SetAt W' s b N ((N + 63) / 64) c ws') : TurnSays w0 N nb ib ab s b c inn ws' ob tp tb wt kd ky vl xs W' := by
  obtain ⟨e1, e2, e3, e4, e5, e6⟩ := h.dist
  exact { h with
    play := h.play.words k hs
    t := h.t.kept k (by simpa using e3) (by simpa using e5)
    kind := by rw [k.cell h.ol (by simpa using e1)]; exact h.kind
    key := by rw [k.cell h.ol (by simpa using e1)]; exact h.key
    lst := by rw [k.cell h.ol (by simpa using e1)]; exact h.lst
    ol := Nat.lt_of_lt_of_le h.ol k.size }
theorem TurnSays.store {w0 : World} {N nb ib ab s b c : Nat} {inn : Nat → Bool} {ws : Nat → Nat} {ob tp tb : Nat} {wt : Nat → Nat} {kd ky : Int} {vl : Value} {xs : List Int} {W : World} (h : TurnSays w0 N nb ib ab s b c inn ws ob tp tb wt kd ky vl xs W) (j : Nat) (v : Bool) : TurnSays w0 N nb ib ab s b c (fun i => if i = j then v else inn i) ws ob tp tb wt kd ky vl xs (W.setCell ⟨ab, j, none⟩ (.bool v)) := by
  obtain ⟨e1, e2, e3, e4, e5, e6⟩ := h.dist
  have k : Kept [ab] W (W.setCell ⟨ab, j, none⟩ (.bool v)) := (Kept.refl [ab] W).setCell (by simp) _
  exact { h with
    play := h.play.store j v
    t := h.t.kept k (by simpa using e4) (by simpa using e6)
    kind := by rw [k.cell h.ol (by simpa using e2)]; exact h.kind
    key := by rw [k.cell h.ol (by simpa using e2)]; exact h.key
    lst := by rw [k.cell h.ol (by simpa using e2)]; exact h.lst
    ol := Nat.lt_of_lt_of_le h.ol k.size }

theorem TurnSays.congr {w0 : World} {N nb ib ab s b c : Nat} {inn inn2 : Nat → Bool} {ws : Nat → Nat} {ob tp tb : Nat} {wt : Nat → Nat} {kd ky : Int} {vl : Value} {xs : List Int} {W : World} (h : TurnSays w0 N nb ib ab s b c inn ws ob tp tb wt kd ky vl xs W) (e : ∀ k, k < N → inn k = inn2 k) : TurnSays w0 N nb ib ab s b c inn2 ws ob tp tb wt kd ky vl xs W :=
  { h with play := h.play.congr e }

theorem nat_getD {xs : List Nat} {k : Nat} (h : k < xs.length) : xs.getD k 0 = xs[k] := by simp [List.getD, h]
theorem take_mem {xs : List Nat} {k : Nat} (h : k < xs.length) (j : Nat) : (j ∈ xs.take (k + 1)) ↔ (j ∈ xs.take k ∨ j = xs.getD k 0) := by
  rw [List.take_succ_eq_append_getElem h, List.mem_append, nat_getD h]
  simp
theorem take_not {xs : List Nat} (hr : xs.Pairwise (· < ·)) {k : Nat} (h : k < xs.length) : xs.getD k 0 ∉ xs.take k := by
  intro hm
  rw [nat_getD h] at hm
  obtain ⟨i, hi, e⟩ := List.getElem_of_mem hm
  rw [List.length_take] at hi
  rw [List.getElem_take] at e
  have := (List.pairwise_iff_getElem.1 hr) i k (by omega) h (by omega)
  omega
theorem count_succ (p : Nat → Bool) {xs : List Nat} {k : Nat} (h : k < xs.length) : ((xs.take (k + 1)).filter p).length = ((xs.take k).filter p).length + (if p (xs.getD k 0) then 1 else 0) := by
  rw [List.take_succ_eq_append_getElem h, filter_snoc, nat_getD h]
theorem count_le (p : Nat → Bool) (xs : List Nat) (k : Nat) : ((xs.take k).filter p).length ≤ k := Nat.le_trans (List.length_filter_le _ _) (List.length_take_le _ _)

/-- 'o.L[:min(len(o.L), 60)]': the list's first. -/
theorem ints_take {w : World} {al : Option Addr} {n n' cl cl' : Nat} {xs : List Int} (h : IntsAt w (.slice al n cl) xs) (k : Nat) (hn : n' = (xs.take k).length) (hc : n' ≤ cl') (al' : Option Addr) (ha : 0 < n' → al' = al) : IntsAt w (.slice al' n' cl') (xs.take k) := by
  obtain ⟨ao, cap, e, h1, h2, h3⟩ := h
  cases e
  subst hn
  have hle : (xs.take k).length ≤ xs.length := by rw [List.length_take]; omega
  refine ⟨al', cl', rfl, hc, by omega, fun h0 => ?_⟩
  obtain ⟨g, o, rfl, hg, hcell⟩ := h3 (by omega)
  refine ⟨g, o, ha h0, hg, fun i hi => ?_⟩
  rw [hcell i (by omega)]
  rw [List.length_take] at hi
  have : i < k := by omega
  simp [List.getD, this]

/-- Is j among the first 60 of the list? -/
def memL (xs : List Int) (j : Nat) : Bool := decide ((j : Int) ∈ xs.take 60)
theorem owns_none (w : World) (base e : Nat) : w.ownsRow base e 1 (.slice none 0 0) 0 [] := ⟨by simp, Or.inl ⟨rfl, rfl⟩⟩

theorem below_memL {wt : Nat → Nat} {xs : List Int} (h : ∀ j, Bm.mem wt j = (decide (j < 400) && decide ((j : Int) ∈ xs.take 60))) : Bm.below (memL xs) 400 = elems wt 400 := by
  unfold elems
  refine Bm.below_congr _ _ 400 (fun j hj => ?_)
  rw [h]
  unfold memL
  simp [hj]
theorem own_shape {w : World} {base e size n : Nat} {v : Value} {xs : List Value} (h : w.ownsRow base e size v n xs) : ∃ ao cap, v = .slice ao n cap := by
  rcases h.2 with ⟨rfl, rfl⟩ | ⟨g, cap, cur, rfl, _⟩
  · exact ⟨none, 0, rfl⟩
  · exact ⟨_, cap, rfl⟩

/-- The numbers from f on that m holds of, d of them looked at. -/
def up (m : Nat → Bool) : Nat → Nat → List Nat
  | _, 0 => []
  | f, d + 1 => (if m f then [f] else []) ++ up m (f + 1) d
theorem below_up (m : Nat → Bool) (f d : Nat) : Bm.below m (f + d) = Bm.below m f ++ up m f d := by
  induction d generalizing f with
  | zero => simp [up]
  | succ d ih => rw [show f + (d + 1) = (f + 1) + d by omega, ih, Bm.below_succ]; simp [up]
theorem up_all (m : Nat → Bool) (N : Nat) : up m 0 N = Bm.below m N := by
  have := below_up m 0 N
  rw [Nat.zero_add, Bm.below_zero, List.nil_append] at this
  exact this.symm
theorem up_le (m : Nat → Bool) (f d : Nat) : (up m f d).length ≤ d := by
  induction d generalizing f with
  | zero => simp [up]
  | succ d ih => simp only [up, List.length_append]; have := ih (f + 1); split <;> simp <;> omega
theorem up_step (m : Nat → Bool) (f N : Nat) (h : f < N) : up m f (N - f) = (if m f then [f] else []) ++ up m (f + 1) (N - (f + 1)) := by
  rw [show N - f = (N - (f + 1)) + 1 by omega]
  rfl

/-- The least from f on, and from a on. -/
theorem least_none {m : Nat → Bool} {N a : Nat} (ht : ∀ k, m k = true → k < N) : IsLeast m (max N a) (-1) :=
  Or.inl ⟨rfl, fun j hj => by
    cases h : m j
    · rfl
    · have := ht j h; omega⟩
theorem least_skip {m : Nat → Bool} {f a : Nat} {r : Int} (h : IsLeast m (max (f + 1) a) r) (hf : m f = false ∨ f < a) : IsLeast m (max f a) r := by
  have key : ∀ j, max f a ≤ j → m j = true → max (f + 1) a ≤ j := by
    intro j hj hm
    rcases hf with hf | hf
    · by_cases e : j = f
      · subst e; rw [hf] at hm; simp at hm
      · omega
    · omega
  rcases h with ⟨rfl, h⟩ | ⟨k, rfl, h1, h2, h3⟩
  · refine Or.inl ⟨rfl, fun j hj => ?_⟩
    cases hm : m j
    · rfl
    · rw [← hm]; exact h j (key j hj hm)
  · refine Or.inr ⟨k, rfl, by omega, h2, fun j hj hjk => ?_⟩
    cases hm : m j
    · rfl
    · rw [← hm]; exact h3 j (key j hj hm) hjk
theorem least_take {m : Nat → Bool} {f a : Nat} (hf : m f = true) (ha : a ≤ f) : IsLeast m (max f a) (f : Nat) :=
  Or.inr ⟨f, rfl, by omega, hf, fun j h1 h2 => by omega⟩
theorem owns_one (w : World) (base : Nat) (v : Value) (e : TypeId) (hb : base ≤ w.heap.size) : (w.alloc (.cells #[v] e)).ownsRow base e 1 (.slice (some ⟨w.heap.size, 0, none⟩) 1 1) 1 [v] :=
  ⟨by simp, Or.inr ⟨w.heap.size, 1, #[v], rfl, hb, heap_new w _, Nat.le_refl _, by unfold maxLen; omega, by simp, by simp⟩⟩

theorem play_start {w w1 w2 : World} {N s b c : Nat} (hs : SetAt w1 s b N ((N + 63) / 64) c (fun _ => 0)) (k2 : Kept [] w1 w2) (K2 : Kept [] w w2) (hT : Tab w) (hn : w2.cell? ⟨w.heap.size, 0, none⟩ = some (.int .i64 (N : Nat))) (hN : N < 300) (hb1 : w.heap.size + 1 ≤ b) :
    Play w N w.heap.size (w2.heap.size + 1) w2.heap.size s b c (Bm.mem fun _ => 0) (fun _ => 0) ((w2.alloc (.cells (madeCells #[.bool false] N) 4)).alloc (.cells #[.slice (some ⟨w2.heap.size, 0, none⟩) N N] 27)) := by
  have kk : Kept [] w2 ((w2.alloc (.cells (madeCells #[.bool false] N) 4)).alloc (.cells #[.slice (some ⟨w2.heap.size, 0, none⟩) N N] 27)) := ((Kept.refl [] w2).alloc _).alloc _
  have h2 := hs.kept k2 (by simp) (by simp)
  have hz : 0 < w.heap.size := lt_of_cell (hT 0 (by decide))
  have hl := lt_of_cell hn
  have hib := heap_new (w2.alloc (.cells (madeCells #[.bool false] N) 4)) (.cells #[.slice (some ⟨w2.heap.size, 0, none⟩) N N] 27)
  rw [World.size_alloc] at hib
  have hab : ((w2.alloc (.cells (madeCells #[.bool false] N) 4)).alloc (.cells #[.slice (some ⟨w2.heap.size, 0, none⟩) N N] 27)).heap[w2.heap.size]? = some (.cells (madeCells #[.bool false] N) 4) := by
    rw [Below.heap_alloc _ _ _ (by rw [World.size_alloc]; omega)]; exact heap_new w2 _
  have hsl := h2.sl
  have hbl := h2.bl
  have hK := K2.size
  refine { set := h2.kept kk (by simp) (by simp), tab := hT.kept (K2.trans kk) (by simp), num := ?_, arr := ?_, has := ?_, free := ?_, kept := K2.trans kk, b1 := by omega, ab1 := hK, d1 := ⟨by omega, by omega, by omega, by omega, by omega, by omega, by omega⟩, nl := by simp; omega, il := by simp, al := by simp; omega, nN := hN }
  · rw [kk.cell hl (by simp)]; exact hn
  · rw [cell_of_heap hib]; rfl
  · intro k hk
    rw [cell_of_heap hab, mem_zero]
    simp [madeCells, hk, Nat.mod_one]
  · intro k hk
    exact frozen_of_heap hab

set_option maxHeartbeats 4000000 in
set_option maxRecDepth 100000 in
theorem play_walk (w : World) (n0 : Int) (vo : Value) (m : Nat) (kind key : Nat → Int) (lv : Nat → Value) (ls : Nat → List Int) (ho : OpsAt w vo m kind key lv ls) (ask : Int) (hT : Tab w) :
    Calls Tryd.prog 3 #[.int .i64 n0, vo, .int .i64 ask] w fun e w' => e = .returned (.bool true) ∧ Kept [] w w' := by
  obtain ⟨i, hi, hz0, hz1, hz2⟩ := info_parts infoInt
  obtain ⟨N, hN, hN3⟩ := pick_n n0 300 (by decide) (by decide)
  rw [show ((300 : Nat) : Int) = 300 from rfl] at hN
  obtain ⟨ao, cap, rfl, hm, hops⟩ := ho
  have HO := hide hops
  have HT := hide hT
  clear hops hT
  unfold maxLen at hm
  go_enter Tryd.func3, Tryd.ntmps3
  have hk0 : Kept [] w (w.alloc (.cells #[.int .i64 (N : Nat)] 3)) := (Kept.refl [] w).alloc _
  have C := new_any (w.alloc (.cells #[.int .i64 (N : Nat)] 3)) (N : Int) ((unhide HT).kept hk0 (by simp))
  rw [show newRoom (N : Int) = N from by unfold newRoom; omega] at C
  replace C := hide C
  go_wp2_with fail
  refine (unhide C).mono ?_
  rintro e w1 ⟨s, b, rfl, hs, k1, hs1, hb1⟩
  have HS := hide hs
  have HT1 := hide ((unhide HT).kept (hk0.trans k1) (by simp))
  have hsz1 := k1.size
  rw [World.size_alloc] at hs1 hb1 hsz1
  clear C hs
  have C := hide (awake_any w1 (unhide HT1))
  go_wp2_with fail
  refine (unhide C).mono ?_
  rintro e w2 ⟨rfl, k2⟩
  clear C
  have K2 := hide (hk0.trans (k1.trans k2))
  have HN2 := hide (show w2.cell? ⟨w.heap.size, 0, none⟩ = some (.int .i64 (N : Nat)) by
    rw [(k1.trans k2).cell (by rw [World.size_alloc]; omega) (by simp), cell_of_heap (heap_new w _)]; rfl)
  have hn2 := unhide HN2
  have hmk := make_bools (N : Int) N rfl (by omega)
  have HP0 := hide (play_start (unhide HS) k2 (unhide K2) (unhide HT) (unhide HN2) hN3 hb1)
  clear hn2
  have hn2 := unhide HN2
  go_wp2
  clear hmk hn2 HN2 K2 HS HT1
  have hnb : w.heap.size ≠ w2.heap.size + 1 := by have := k2.size; omega
  generalize w2.heap.size + 1 = ib at *
  generalize hab : w2.heap.size = ab at *
  replace hab := hide hab
  go_loopw [7, 10] (fun sv iv wr => ∃ (k s b c : Nat) (ws : Nat → Nat), k ≤ m ∧ k ≤ 60 ∧ iv = .int .i64 k ∧ sv = .pointer (some ⟨s, 0, none⟩) ∧ Hid (Play w N w.heap.size ib ab s b c (Bm.mem ws) ws wr)) (fun _ iv _ => m - (intOf iv).toNat)
  case atStart => exact ⟨0, s, b, _, _, Nat.zero_le _, Nat.zero_le _, rfl, rfl, HP0⟩
  case round =>
    obtain ⟨k, s, b, c, ws, hkm, hk60, rfl, rfl, hP⟩ := hrel
    by_cases hgo : k < m ∧ k < 60
    · obtain ⟨hlt, hlt2⟩ := hgo
      obtain ⟨g, o, rfl, hgl, hcells⟩ := unhide HO (by omega)
      obtain ⟨hc0, hc1, hc2, hints⟩ := hcells k hlt
      rw [← (unhide hP).kept.cell hgl (by simp)] at hc0 hc1 hc2
      have hi0 := hints
      have hi2 := hints.kept (unhide hP).kept
      obtain ⟨al, cl, hv, hll, hlm, -⟩ := hints
      rw [hv] at hc2 hi2 hi0
      have HI := hide hi2
      have HI0 := hide hi0
      clear hcells hi2 hv hi0
      generalize kind k = kd at *
      generalize key k = ky at *
      generalize ls k = xs at *
      have ka : Kept [] wr (wr.alloc (.cells #[.int .i64 kd, .int .i64 ky, .slice al xs.length cl] 31)) := (Kept.refl [] wr).alloc _
      have C := made_any (wr.alloc (.cells #[.int .i64 kd, .int .i64 ky, .slice al xs.length cl] 31)) 400 ((unhide HI).kept ka) (((unhide hP).keep ka).tab)
      rw [show newRoom 400 = 400 from by decide] at C
      replace C := hide C
      have hkk : ((k : Int) < 60) := by omega
      go_wp2_with fail
      clear hc0 hc1 hc2
      refine (unhide C).mono ?_
      rintro e w4 ⟨tp, tb, wt, rfl, ht, hwt, ht1, htb1, k4⟩
      have hbs := (unhide hP).set.bl
      have has := (unhide hP).al
      have hsz4 := k4.size
      rw [World.size_alloc] at hsz4 ht1 htb1
      have HTS := hide (TurnSays.mk (ob := wr.heap.size) ((unhide hP).keep (ka.trans k4)) ht hwt (by rw [k4.cell (by rw [World.size_alloc]; omega) (by simp), cell_of_heap (heap_new wr _)]; rfl) (by rw [k4.cell (by rw [World.size_alloc]; omega) (by simp), cell_of_heap (heap_new wr _)]; rfl) (by rw [k4.cell (by rw [World.size_alloc]; omega) (by simp), cell_of_heap (heap_new wr _)]; rfl) (unhide HI0) (by omega) ⟨by omega, by omega, by omega, by omega, by omega, by omega⟩)
      clear C ht hwt HI HI0 ht1 htb1 k4 ka hbs has hsz4
      have HAB4 := hide (unhide HTS).play.al
      have HBB4 := hide (unhide HTS).play.set.bl
      generalize wr.heap.size = ob at *
      go_wp2
      go_loopw [13, 14] (fun v kk wr2 => ∃ (f : Nat) (ao2 : Option Addr) (cap2 : Nat), v = .slice ao2 (Bm.below (memL xs) f).length cap2 ∧ kk = .int .i64 f ∧ f ≤ 400 ∧ wr2.ownsRow w4.heap.size 3 1 (.slice ao2 (Bm.below (memL xs) f).length cap2) (Bm.below (memL xs) f).length (((Bm.below (memL xs) f).map Int.ofNat).map (Value.int .i64)) ∧ Kept [] w4 wr2) (fun _ kk _ => 400 - (intOf kk).toNat)
      case atStart => exact ⟨0, none, 0, rfl, rfl, Nat.zero_le _, owns_none _ _ _, Kept.refl _ _⟩
      case round =>
        obtain ⟨f, ao2, cap2, rfl, rfl, hf, hown, hk4⟩ := hrel
        by_cases hf4 : f < 400
        · have hf4i : (f : Int) < 400 := by omega
          have hT4 := (unhide HTS).keep hk4
          have hlst := hT4.lst
          have HT5 := hide hT4
          clear hT4
          have hi5 := (unhide HT5).ints.kept (unhide HT5).play.kept
          by_cases hl60 : xs.length ≤ 60
          · have hl60i : (xs.length : Int) ≤ 60 := by omega
            have C := in_any (ints_take (cl' := cl) hi5 60 (n' := xs.length) (by rw [List.length_take]; omega) (by omega) al (fun _ => rfl)) (f : Int)
            rw [show decide ((f : Int) ∈ xs.take 60) = memL xs f from rfl] at C
            clear hi5
            cases hmf : memL xs f
            · rw [hmf] at C
              as_aux_lemma =>
              have hbs := hide (Bm.below_succ (memL xs) f)
              rw [hmf] at hbs
              replace C := hide C
              clear hmf
              go_wp2_with fail
              refine (unhide C).mono ?_
              rintro e1 w5 ⟨rfl, hw5⟩
              obtain rfl := hw5.symm
              clear hlst C
              go_wp2
              go_roundw
              case rel => exact ⟨f + 1, ao2, cap2, by rw [unhide hbs]; simp, by go_num, by omega, by rw [unhide hbs]; simpa using hown, hk4⟩
              case measure => simp [intOf]; omega
            · rw [hmf] at C
              have hbs := hide (Bm.below_succ (memL xs) f)
              rw [hmf] at hbs
              have hbl := Bm.below_le (memL xs) f
              replace C := hide C
              clear hmf
              go_wp2_with fail
              refine (unhide C).mono ?_
              rintro e1 w5 ⟨rfl, hw5⟩
              obtain rfl := hw5.symm
              clear hlst C
              go_wp2_with (first | (at_builtin; refine wpList_append_own _ rfl (.tmp 66) (.tmp 68) 29 rfl w4.heap.size 3 i (.int .i64 0) 1 8 Tryd.underlying29 hi hz0 hz1 hz2 rfl (by decide) _ _ _ rfl (hown.alloc _) _ 1 _ [.int .i64 (f : Nat)] rfl rfl (one_cell _ _) (by simp [Value.oneCell']) (by unfold maxLen; omega) (by omega) (by simp; have := hk4.size; omega) ?_; intro v' w6 hown2 hg2 _))
              go_roundw
              case rel =>
                obtain ⟨ao3, cap3, rfl⟩ := own_shape hown2
                refine ⟨f + 1, ao3, cap3, ?_, by go_num, by omega, ?_, (hk4.alloc _).grown hg2 (fun j hj => Or.inr (own_block hown j hj))⟩
                · rw [unhide hbs, List.length_append]; rfl
                · rw [unhide hbs, List.length_append, List.map_append, List.map_append]
                  exact hown2
              case measure => simp [intOf]; omega
          · have hl60i : (60 : Int) < (xs.length : Int) := by omega
            have C := in_any (ints_take (cl' := cl) hi5 60 (n' := 60) (by rw [List.length_take]; omega) (by omega) al (fun _ => rfl)) (f : Int)
            rw [show decide ((f : Int) ∈ xs.take 60) = memL xs f from rfl] at C
            clear hi5
            cases hmf : memL xs f
            · rw [hmf] at C
              as_aux_lemma =>
              have hbs := hide (Bm.below_succ (memL xs) f)
              rw [hmf] at hbs
              replace C := hide C
              clear hmf
              go_wp2_with fail
              refine (unhide C).mono ?_
              rintro e1 w5 ⟨rfl, hw5⟩
              obtain rfl := hw5.symm
              clear hlst C
              go_wp2
              go_roundw
              case rel => exact ⟨f + 1, ao2, cap2, by rw [unhide hbs]; simp, by go_num, by omega, by rw [unhide hbs]; simpa using hown, hk4⟩
              case measure => simp [intOf]; omega
            · rw [hmf] at C
              have hbs := hide (Bm.below_succ (memL xs) f)
              rw [hmf] at hbs
              have hbl := Bm.below_le (memL xs) f
              replace C := hide C
              clear hmf
              go_wp2_with fail
              refine (unhide C).mono ?_
              rintro e1 w5 ⟨rfl, hw5⟩
              obtain rfl := hw5.symm
              clear hlst C
              go_wp2_with (first | (at_builtin; refine wpList_append_own _ rfl (.tmp 66) (.tmp 68) 29 rfl w4.heap.size 3 i (.int .i64 0) 1 8 Tryd.underlying29 hi hz0 hz1 hz2 rfl (by decide) _ _ _ rfl (hown.alloc _) _ 1 _ [.int .i64 (f : Nat)] rfl rfl (one_cell _ _) (by simp [Value.oneCell']) (by unfold maxLen; omega) (by omega) (by simp; have := hk4.size; omega) ?_; intro v' w6 hown2 hg2 _))
              go_roundw
              case rel =>
                obtain ⟨ao3, cap3, rfl⟩ := own_shape hown2
                refine ⟨f + 1, ao3, cap3, ?_, by go_num, by omega, ?_, (hk4.alloc _).grown hg2 (fun j hj => Or.inr (own_block hown j hj))⟩
                · rw [unhide hbs, List.length_append]; rfl
                · rw [unhide hbs, List.length_append, List.map_append, List.map_append]
                  exact hown2
              case measure => simp [intOf]; omega
        · have hf4e : f = 400 := by omega
          subst hf4e
          have HT6 := hide ((unhide HTS).keep hk4)
          have hkind := (unhide HT6).kind
          have hl6 := Bm.below_le (memL xs) 400
          have HLL := hide (below_memL (unhide HT6).tm)
          have HOW := hide hown
          have hsz := hk4.size
          clear hown hk4 HTS
          by_cases h1 : kd = 1
          · subst h1
            as_aux_lemma =>
              have hkey := (unhide HT6).key
              have htg := hide (unhide HT6).play.set.tight
              have CH := hide (fun (ws' : Nat → Nat) (W : World) (hW : TurnSays w N w.heap.size ib ab s b c (Bm.mem ws) ws' ob tp tb wt 1 ky (.slice al xs.length cl) xs W) => hW.play.hasFn (unhide htg) ky)
              have CD := hide (fun (W : World) (hW : TurnSays w N w.heap.size ib ab s b c (Bm.mem ws) ws ob tp tb wt 1 ky (.slice al xs.length cl) xs W) => (drop_any hW.play.set ky).mono (fun e w' hq => show e = .returned (.bool (hasI ws ky)) ∧ TurnSays w N w.heap.size ib ab s b c (Bm.mem ws) (dropS ws ky) ob tp tb wt 1 ky (.slice al xs.length cl) xs w' from ⟨hq.1, hW.words hq.2.2 hq.2.1⟩))
              have KE := hide (fun (ws' : Nat → Nat) (W : World) (hW : TurnSays w N w.heap.size ib ab s b c (Bm.mem ws) ws' ob tp tb wt 1 ky (.slice al xs.length cl) xs W) => hW.key)
              have HT7 := hide ((unhide HT6).keep (Kept.refl [] wr).drew)
              have hmd := hide (mem_dropS ws ky)
              cases hx : hasI ws ky
              · have hxx := hide hx
                rw [hx] at CH CD
                clear hx
                go_wp2_with fail
                go_region_held_law (fun W => W.cell? ⟨ob, 1, none⟩ = some (.int .i64 ky)) (first | (exact unhide KE _ _ (by assumption)) | go_keep) (first
                  | (go_at_call 13; refine (unhide CD _ (unhide HT7)).mono ?_; rintro e1 w7 ⟨rfl, h7⟩)
                  | (go_at_call 10; refine (unhide CH _ _ h7).mono ?_; rintro e1 w8 ⟨rfl, hw8⟩; obtain rfl := hw8.symm))
                all_goals
                  have hkey7 := h7.key
                  have CH7 := hide (unhide CH _ _ h7)
                  go_wp2_with fail
                  refine (unhide CH7).mono ?_
                  rintro e1 w9 ⟨rfl, hw9⟩
                  obtain rfl := hw9.symm
                  go_wp2
                  go_roundw
                  case rel =>
                    refine ⟨k + 1, s, b, c, dropS ws ky, by omega, by omega, by go_num, rfl, hide (h7.play.congr (fun j _ => ?_))⟩
                    rw [unhide hmd j]
                    by_cases e : (j : Int) = ky
                    · have := unhide hxx
                      rw [← e] at this
                      simp [hasI] at this
                      simp [this]
                    · simp [e]
                  case measure => simp [intOf]; omega
              · have hxm : 0 ≤ ky ∧ Bm.mem ws ky.toNat = true := by simpa [hasI] using hx
                obtain ⟨j, hj⟩ := Int.eq_ofNat_of_zero_le hxm.1
                subst hj
                have hjN : j < N := unhide htg j (by simpa using hxm.2)
                rw [hx] at CH CD
                clear hx hxm
                go_wp2_with fail
                go_region_held_law (fun W => W.cell? ⟨ob, 1, none⟩ = some (.int .i64 (j : Int))) (first | (exact unhide KE _ _ (by assumption)) | go_keep) (first
                  | (go_at_call 13; refine (unhide CD _ (unhide HT7)).mono ?_; rintro e1 w7 ⟨rfl, h7⟩)
                  | (go_at_call 10; refine (unhide CH _ _ h7).mono ?_; rintro e1 w8 ⟨rfl, hw8⟩; obtain rfl := hw8.symm))
                all_goals
                  have hkey7 := h7.key
                  have CH7 := hide (unhide CH _ _ h7)
                  have harr := h7.play.arr
                  have hhas := h7.play.has j hjN
                  have hfre := h7.play.free j hjN
                  have HST := hide (h7.play.store j false)
                  go_wp2_with fail
                  refine (unhide CH7).mono ?_
                  rintro e1 w9 ⟨rfl, hw9⟩
                  obtain rfl := hw9.symm
                  go_wp2
                  go_roundw
                  case rel =>
                    refine ⟨k + 1, s, b, c, dropS ws (j : Int), by omega, by omega, by go_num, rfl, hide ((unhide HST).congr (fun i _ => ?_))⟩
                    rw [unhide hmd i]
                    by_cases e : i = j
                    · simp [e]
                    · have : ¬ (i : Int) = (j : Int) := by omega
                      simp [e, this]
                  case measure => simp [intOf]; omega
          · by_cases h2 : kd = 2
            · subst h2
              as_aux_lemma =>
                generalize hlst0 : Bm.below (memL xs) 400 = lst at *
                have hrise := hide (show lst.Pairwise (· < ·) by rw [← hlst0]; exact Bm.below_rises _ _)
                clear hlst0
                obtain ⟨il, fl⟩ := ints_of_owns (unhide HOW)
                have hLm : lst.length ≤ 400 := hl6
                have IL := hide il
                have HFR := hide fl
                have htg := hide (unhide HT6).play.set.tight
                have hab6 := (unhide HT6).play.al
                have hbb6 := (unhide HT6).play.set.bl
                have hfl : ∀ gl ol, ao2 = some ⟨gl, ol, none⟩ → w4.heap.size ≤ gl := fun gl ol e => by
                  have := fl ⟨gl, ol, none⟩ lst.length cap2 (by rw [e])
                  exact this
                have HFL := hide hfl
                have hab4 : ab < w4.heap.size := (unhide HAB4)
                have hbb4 : b < w4.heap.size := (unhide HBB4)
                clear il fl hfl HOW hl6
                have hI0 := hide (show TurnSays w N w.heap.size ib ab s b c (fun i => Bm.mem ws i || decide (i ∈ lst.take 0)) ws ob tp tb wt 2 ky (.slice al xs.length cl) xs wr ∧ IntsAt wr (.slice ao2 lst.length cap2) (lst.map Int.ofNat) from ⟨(unhide HT6).congr (fun j _ => by simp), unhide IL⟩)
                go_wp2
                go_loopw [15, 16] (fun xv kk wr3 => ∃ q : Nat, q ≤ lst.length ∧ kk = .int .i64 q ∧ xv = .int .i64 (((lst.take q).filter (fun e => decide (e < N) && !Bm.mem ws e)).length : Nat) ∧ Hid (TurnSays w N w.heap.size ib ab s b c (fun i => Bm.mem ws i || decide (i ∈ lst.take q)) ws ob tp tb wt 2 ky (.slice al xs.length cl) xs wr3 ∧ IntsAt wr3 (.slice ao2 lst.length cap2) (lst.map Int.ofNat))) (fun _ kk _ => lst.length - (intOf kk).toNat)
                case atStart => exact ⟨0, Nat.zero_le _, rfl, by simp, hI0⟩
                case round =>
                  obtain ⟨q, hq, rfl, rfl, hTI⟩ := hrel
                  have hcl := count_le (fun e => decide (e < N) && !Bm.mem ws e) lst q
                  by_cases hql : q < lst.length
                  · have hcs := hide (count_succ (fun e => decide (e < N) && !Bm.mem ws e) hql)
                    have htm := hide (take_mem hql)
                    have hnt := hide (take_not (unhide hrise) hql)
                    obtain ⟨ao3, cap3, ev, -, -, hcl3⟩ := (unhide hTI).2
                    rw [List.length_map] at hcl3
                    obtain ⟨gl, ol, eg, hgl, hcell⟩ := hcl3 (by omega)
                    have hck := hcell q hql
                    have ea : ao2 = some ⟨gl, ol, none⟩ := by rw [List.length_map] at ev; cases ev; exact eg
                    have hgl4 := unhide HFL gl ol ea
                    subst ea
                    rw [show (lst.map Int.ofNat).getD q 0 = ((lst.getD q 0 : Nat) : Int) by simp [List.getD, hql]] at hck
                    have hkind := (unhide hTI).1.kind
                    have hnum := (unhide hTI).1.play.num
                    have harr := (unhide hTI).1.play.arr
                    clear hcell hcl3 ev eg cap3 ao3
                    generalize he : lst.getD q 0 = e at *
                    replace he := hide he
                    generalize hcx : ((lst.take q).filter (fun e => decide (e < N) && !Bm.mem ws e)).length = cx at *
                    replace hcx := hide hcx
                    by_cases heN : e < N
                    · have heN2 : (e : Int) < (N : Int) := by omega
                      have hhas := (unhide hTI).1.play.has e heN
                      have hfre := (unhide hTI).1.play.free e heN
                      rw [show (Bm.mem ws e || decide (e ∈ lst.take q)) = Bm.mem ws e by simp [unhide hnt]] at hhas
                      cases hme : Bm.mem ws e
                      · rw [hme] at hhas
                        have hme2 := hide hme
                        rw [hme] at hcs
                        clear hme
                        have HST := hide (fun n : Nat => show TurnSays w N w.heap.size ib ab s b c (fun i => Bm.mem ws i || decide (i ∈ lst.take (q + 1))) ws ob tp tb wt 2 ky (.slice al xs.length cl) xs ((wr.drewN n).setCell ⟨ab, e, none⟩ (.bool true)) ∧ IntsAt ((wr.drewN n).setCell ⟨ab, e, none⟩ (.bool true)) (.slice (some ⟨gl, ol, none⟩) lst.length cap2) (lst.map Int.ofNat) from by
                          have kd1 : Kept [] wr (wr.drewN n) := (Kept.refl [] wr).drewN n
                          refine ⟨(((unhide hTI).1.keep kd1).store e true).congr (fun i hi => ?_), ((unhide hTI).2.kept kd1).keptAt ((Kept.refl [ab] _).setCell (by simp) _) ?_⟩
                          · by_cases ei : i = e
                            · have : e ∈ lst.take (q + 1) := (unhide htm e).2 (Or.inr rfl)
                              simp [ei, this]
                            · have : (i ∈ lst.take (q + 1)) ↔ (i ∈ lst.take q) := by rw [unhide htm i]; simp [ei]
                              simp [ei, this]
                          · intro a n c e; cases e; simp; omega)
                        have KS := hide (fun n : Nat => show ((wr.drewN n).setCell ⟨ab, e, none⟩ (.bool true)).cell? ⟨ib, 0, none⟩ = some (.slice (some ⟨ab, 0, none⟩) N N) ∧ ((wr.drewN n).setCell ⟨ab, e, none⟩ (.bool true)).cell? ⟨gl, ol + q, none⟩ = some (.int .i64 (e : Nat)) ∧ ((wr.drewN n).setCell ⟨ab, e, none⟩ (.bool true)).cell? ⟨ob, 0, none⟩ = some (.int .i64 2) from
                          ⟨(unhide HST n).1.play.arr, by rw [World.cell?_setCell_other _ _ _ _ (by intro h; simp only [Addr.mk.injEq] at h; omega)]; exact hck, (unhide HST n).1.kind⟩)
                        go_wp2_with fail
                        go_quiet (fail)
                        go_wp2
                        go_region_held_law (fun W => W.cell? ⟨ib, 0, none⟩ = some (.slice (some ⟨ab, 0, none⟩) N N) ∧ W.cell? ⟨gl, ol + q, none⟩ = some (.int .i64 (e : Nat)) ∧ W.cell? ⟨ob, 0, none⟩ = some (.int .i64 2)) (first | (exact unhide KS _) | go_keep) (fail)
                        all_goals go_wp2
                        all_goals
                          go_roundw
                          case rel =>
                            have hrl : ((((lst.take (q + 1)).filter (fun e => decide (e < N) && !Bm.mem ws e)).length : Nat) : Int) = (cx : Int) + 1 := by rw [unhide hcs]; simp [heN]
                            first
                              | exact ⟨q + 1, by omega, by go_num, by rw [hrl], hide (unhide HST _)⟩
                              | ((repeat apply Exists.intro); exact ⟨⟨q + 1, by omega, by go_num, by rw [hrl], hide (unhide HST _)⟩, rfl⟩)
                          case measure => simp [intOf]; omega
                      · rw [hme] at hhas
                        have hme2 := hide hme
                        rw [hme] at hcs
                        clear hme
                        go_wp2_with fail
                        go_quiet (fail)
                        have HSK := hide (show TurnSays w N w.heap.size ib ab s b c (fun i => Bm.mem ws i || decide (i ∈ lst.take (q + 1))) ws ob tp tb wt 2 ky (.slice al xs.length cl) xs (wr.drewN nq) ∧ IntsAt (wr.drewN nq) (.slice (some ⟨gl, ol, none⟩) lst.length cap2) (lst.map Int.ofNat) from by
                          have kd1 : Kept [] wr (wr.drewN nq) := (Kept.refl [] wr).drewN nq
                          refine ⟨((unhide hTI).1.keep kd1).congr (fun i hi => ?_), (unhide hTI).2.kept kd1⟩
                          by_cases ei : i = e
                          · subst ei; simp [unhide hme2]
                          · have : (i ∈ lst.take (q + 1)) ↔ (i ∈ lst.take q) := by rw [unhide htm i]; simp [ei]
                            simp [this])
                        go_wp2
                        go_roundw
                        case rel => exact ⟨q + 1, by omega, by go_num, by rw [unhide hcs]; simp, HSK⟩
                        case measure => simp [intOf]; omega
                    · have hmf : Bm.mem ws e = false := by
                        cases hm : Bm.mem ws e
                        · rfl
                        · exact absurd (unhide htg e hm) heN
                      have heN2 : decide ((e : Int) < (N : Int)) = false := by simp; omega
                      rw [hmf] at hcs
                      have hmf2 := hide hmf
                      clear hmf
                      go_wp2_with fail
                      go_quiet (fail)
                      have HSK := hide (show TurnSays w N w.heap.size ib ab s b c (fun i => Bm.mem ws i || decide (i ∈ lst.take (q + 1))) ws ob tp tb wt 2 ky (.slice al xs.length cl) xs (wr.drewN nq) ∧ IntsAt (wr.drewN nq) (.slice (some ⟨gl, ol, none⟩) lst.length cap2) (lst.map Int.ofNat) from by
                        have kd1 : Kept [] wr (wr.drewN nq) := (Kept.refl [] wr).drewN nq
                        refine ⟨((unhide hTI).1.keep kd1).congr (fun i hi => ?_), (unhide hTI).2.kept kd1⟩
                        by_cases ei : i = e
                        · omega
                        · have : (i ∈ lst.take (q + 1)) ↔ (i ∈ lst.take q) := by rw [unhide htm i]; simp [ei]
                          simp [this])
                      go_wp2
                      go_roundw
                      case rel => exact ⟨q + 1, by omega, by go_num, by rw [unhide hcs]; simp [heN], HSK⟩
                      case measure => simp [intOf]; omega
                  · have hqe : q = lst.length := by omega
                    have hcx : ((lst.take q).filter (fun e => decide (e < N) && !Bm.mem ws e)).length = ((elems wt 400).filter (fun k => decide (k < N) && !Bm.mem ws k)).length := by rw [hqe, List.take_length, unhide HLL]
                    have hkind := (unhide hTI).1.kind
                    obtain ⟨d1, d2, d3, d4, d5, d6⟩ := (unhide hTI).1.dist
                    have C := join_set (unhide hTI).1.play.set (unhide hTI).1.t (unhide hTI).1.play.tab d3 d5
                    rw [← hcx] at C
                    replace C := hide C
                    have HQE := hide hqe
                    clear hqe hcx d1 d2 d3 d4 d5 d6
                    generalize ((lst.take q).filter (fun e => decide (e < N) && !Bm.mem ws e)).length = cx at *
                    go_wp2_with fail
                    refine (unhide C).mono ?_
                    rintro e1 w8 ⟨rfl, ws2, hs8, hm2, k8⟩
                    have T8 := hide ((unhide hTI).1.words k8 hs8)
                    have I8 := hide ((unhide hTI).2.keptAt k8 (fun a n c e => by have := unhide HFR a n c e; simp; omega))
                    have HM2 := hide hm2
                    have hkind8 := (unhide T8).kind
                    clear C hs8 hm2 k8
                    have C := hide (list_set (unhide T8).t (unhide T8).play.tab)
                    go_wp2_with fail
                    refine (unhide C).mono ?_
                    rintro e1 w9 ⟨v9, rfl, i9, -, k9⟩
                    have T9 := hide ((unhide T8).keep k9)
                    have I9 := (unhide I8).kept k9
                    clear C
                    have C := plain_any i9 I9
                    rw [show decide ((elems wt 400).map Int.ofNat = lst.map Int.ofNat) = true by rw [unhide HLL]; simp] at C
                    replace C := hide C
                    clear i9 I9
                    go_wp2_with fail
                    refine (unhide C).mono ?_
                    rintro e1 w10 ⟨rfl, m10, hw10⟩
                    have k10 : Kept [] w9 w10 := by rw [hw10]; exact (Kept.refl [] w9).drewN m10
                    have T10 := hide ((unhide T9).keep k10)
                    clear C hw10 k10
                    go_wp2
                    go_roundw
                    case rel =>
                      refine ⟨k + 1, s, b, c, ws2, by omega, by omega, by go_num, rfl, hide ((unhide T10).play.congr (fun i hi => ?_))⟩
                      have hel := mem_elems wt 400 (unhide T10).t.tight i
                      rw [unhide HM2 i, ← hel, ← unhide HLL, unhide HQE, List.take_length]
                      simp [hi]
                    case measure => simp [intOf]; omega
            · by_cases h3 : kd = 3
              · subst h3
                as_aux_lemma =>
                  generalize hlst0 : Bm.below (memL xs) 400 = lst at *
                  have hrise := hide (show lst.Pairwise (· < ·) by rw [← hlst0]; exact Bm.below_rises _ _)
                  clear hlst0
                  obtain ⟨il, fl⟩ := ints_of_owns (unhide HOW)
                  have hLm : lst.length ≤ 400 := hl6
                  have IL := hide il
                  have HFR := hide fl
                  have htg := hide (unhide HT6).play.set.tight
                  have hab6 := (unhide HT6).play.al
                  have hbb6 := (unhide HT6).play.set.bl
                  have hfl : ∀ gl ol, ao2 = some ⟨gl, ol, none⟩ → w4.heap.size ≤ gl := fun gl ol e => by
                    have := fl ⟨gl, ol, none⟩ lst.length cap2 (by rw [e])
                    exact this
                  have HFL := hide hfl
                  have hab4 : ab < w4.heap.size := (unhide HAB4)
                  have hbb4 : b < w4.heap.size := (unhide HBB4)
                  clear il fl hfl HOW hl6
                  have hI0 := hide (show TurnSays w N w.heap.size ib ab s b c (fun i => Bm.mem ws i && !decide (i ∈ lst.take 0)) ws ob tp tb wt 3 ky (.slice al xs.length cl) xs wr ∧ IntsAt wr (.slice ao2 lst.length cap2) (lst.map Int.ofNat) from ⟨(unhide HT6).congr (fun j _ => by simp), unhide IL⟩)
                  go_wp2
                  go_loopw [15, 16] (fun xv kk wr3 => ∃ q : Nat, q ≤ lst.length ∧ kk = .int .i64 q ∧ xv = .int .i64 (((lst.take q).filter (fun e => Bm.mem ws e)).length : Nat) ∧ Hid (TurnSays w N w.heap.size ib ab s b c (fun i => Bm.mem ws i && !decide (i ∈ lst.take q)) ws ob tp tb wt 3 ky (.slice al xs.length cl) xs wr3 ∧ IntsAt wr3 (.slice ao2 lst.length cap2) (lst.map Int.ofNat))) (fun _ kk _ => lst.length - (intOf kk).toNat)
                  case atStart => exact ⟨0, Nat.zero_le _, rfl, by simp, hI0⟩
                  case round =>
                    obtain ⟨q, hq, rfl, rfl, hTI⟩ := hrel
                    have hcl := count_le (fun e => Bm.mem ws e) lst q
                    by_cases hql : q < lst.length
                    · have hcs := hide (count_succ (fun e => Bm.mem ws e) hql)
                      have htm := hide (take_mem hql)
                      have hnt := hide (take_not (unhide hrise) hql)
                      obtain ⟨ao3, cap3, ev, -, -, hcl3⟩ := (unhide hTI).2
                      rw [List.length_map] at hcl3
                      obtain ⟨gl, ol, eg, hgl, hcell⟩ := hcl3 (by omega)
                      have hck := hcell q hql
                      have ea : ao2 = some ⟨gl, ol, none⟩ := by rw [List.length_map] at ev; cases ev; exact eg
                      have hgl4 := unhide HFL gl ol ea
                      subst ea
                      rw [show (lst.map Int.ofNat).getD q 0 = ((lst.getD q 0 : Nat) : Int) by simp [List.getD, hql]] at hck
                      have hkind := (unhide hTI).1.kind
                      have hnum := (unhide hTI).1.play.num
                      have harr := (unhide hTI).1.play.arr
                      clear hcell hcl3 ev eg cap3 ao3
                      generalize he : lst.getD q 0 = e at *
                      replace he := hide he
                      generalize hcx : ((lst.take q).filter (fun e => Bm.mem ws e)).length = cx at *
                      replace hcx := hide hcx
                      by_cases heN : e < N
                      · have heN2 : (e : Int) < (N : Int) := by omega
                        have hhas := (unhide hTI).1.play.has e heN
                        have hfre := (unhide hTI).1.play.free e heN
                        rw [show (Bm.mem ws e && !decide (e ∈ lst.take q)) = Bm.mem ws e by simp [unhide hnt]] at hhas
                        cases hme : Bm.mem ws e
                        · rw [hme] at hhas
                          have hme2 := hide hme
                          rw [hme] at hcs
                          clear hme
                          go_wp2_with fail
                          go_quiet (fail)
                          have HSK := hide (show TurnSays w N w.heap.size ib ab s b c (fun i => Bm.mem ws i && !decide (i ∈ lst.take (q + 1))) ws ob tp tb wt 3 ky (.slice al xs.length cl) xs (wr.drewN nq) ∧ IntsAt (wr.drewN nq) (.slice (some ⟨gl, ol, none⟩) lst.length cap2) (lst.map Int.ofNat) from by
                            have kd1 : Kept [] wr (wr.drewN nq) := (Kept.refl [] wr).drewN nq
                            refine ⟨((unhide hTI).1.keep kd1).congr (fun i hi => ?_), (unhide hTI).2.kept kd1⟩
                            by_cases ei : i = e
                            · subst ei; simp [unhide hme2]
                            · have : (i ∈ lst.take (q + 1)) ↔ (i ∈ lst.take q) := by rw [unhide htm i]; simp [ei]
                              simp [this])
                          go_wp2
                          go_roundw
                          case rel => exact ⟨q + 1, by omega, by go_num, by rw [unhide hcs]; simp, HSK⟩
                          case measure => simp [intOf]; omega
                        · rw [hme] at hhas
                          have hme2 := hide hme
                          rw [hme] at hcs
                          clear hme
                          have HST := hide (fun n : Nat => show TurnSays w N w.heap.size ib ab s b c (fun i => Bm.mem ws i && !decide (i ∈ lst.take (q + 1))) ws ob tp tb wt 3 ky (.slice al xs.length cl) xs ((wr.drewN n).setCell ⟨ab, e, none⟩ (.bool false)) ∧ IntsAt ((wr.drewN n).setCell ⟨ab, e, none⟩ (.bool false)) (.slice (some ⟨gl, ol, none⟩) lst.length cap2) (lst.map Int.ofNat) from by
                            have kd1 : Kept [] wr (wr.drewN n) := (Kept.refl [] wr).drewN n
                            refine ⟨(((unhide hTI).1.keep kd1).store e false).congr (fun i hi => ?_), ((unhide hTI).2.kept kd1).keptAt ((Kept.refl [ab] _).setCell (by simp) _) ?_⟩
                            · by_cases ei : i = e
                              · have : e ∈ lst.take (q + 1) := (unhide htm e).2 (Or.inr rfl)
                                simp [ei, this]
                              · have : (i ∈ lst.take (q + 1)) ↔ (i ∈ lst.take q) := by rw [unhide htm i]; simp [ei]
                                simp [ei, this]
                            · intro a n c e; cases e; simp; omega)
                          have KS := hide (fun n : Nat => show ((wr.drewN n).setCell ⟨ab, e, none⟩ (.bool false)).cell? ⟨ib, 0, none⟩ = some (.slice (some ⟨ab, 0, none⟩) N N) ∧ ((wr.drewN n).setCell ⟨ab, e, none⟩ (.bool false)).cell? ⟨gl, ol + q, none⟩ = some (.int .i64 (e : Nat)) ∧ ((wr.drewN n).setCell ⟨ab, e, none⟩ (.bool false)).cell? ⟨ob, 0, none⟩ = some (.int .i64 3) from
                            ⟨(unhide HST n).1.play.arr, by rw [World.cell?_setCell_other _ _ _ _ (by intro h; simp only [Addr.mk.injEq] at h; omega)]; exact hck, (unhide HST n).1.kind⟩)
                          go_wp2_with fail
                          go_quiet (fail)
                          go_wp2
                          go_region_held_law (fun W => W.cell? ⟨ib, 0, none⟩ = some (.slice (some ⟨ab, 0, none⟩) N N) ∧ W.cell? ⟨gl, ol + q, none⟩ = some (.int .i64 (e : Nat)) ∧ W.cell? ⟨ob, 0, none⟩ = some (.int .i64 3)) (first | (exact unhide KS _) | go_keep) (fail)
                          all_goals go_wp2
                          all_goals
                            go_roundw
                            case rel =>
                              have hrl : ((((lst.take (q + 1)).filter (fun e => Bm.mem ws e)).length : Nat) : Int) = (cx : Int) + 1 := by rw [unhide hcs]; simp
                              first
                                | exact ⟨q + 1, by omega, by go_num, by rw [hrl], hide (unhide HST _)⟩
                                | ((repeat apply Exists.intro); exact ⟨⟨q + 1, by omega, by go_num, by rw [hrl], hide (unhide HST _)⟩, rfl⟩)
                            case measure => simp [intOf]; omega
                      · have hmf : Bm.mem ws e = false := by
                          cases hm : Bm.mem ws e
                          · rfl
                          · exact absurd (unhide htg e hm) heN
                        have heN2 : decide ((e : Int) < (N : Int)) = false := by simp; omega
                        rw [hmf] at hcs
                        have hmf2 := hide hmf
                        clear hmf
                        go_wp2_with fail
                        go_quiet (fail)
                        have HSK := hide (show TurnSays w N w.heap.size ib ab s b c (fun i => Bm.mem ws i && !decide (i ∈ lst.take (q + 1))) ws ob tp tb wt 3 ky (.slice al xs.length cl) xs (wr.drewN nq) ∧ IntsAt (wr.drewN nq) (.slice (some ⟨gl, ol, none⟩) lst.length cap2) (lst.map Int.ofNat) from by
                          have kd1 : Kept [] wr (wr.drewN nq) := (Kept.refl [] wr).drewN nq
                          refine ⟨((unhide hTI).1.keep kd1).congr (fun i hi => ?_), (unhide hTI).2.kept kd1⟩
                          by_cases ei : i = e
                          · omega
                          · have : (i ∈ lst.take (q + 1)) ↔ (i ∈ lst.take q) := by rw [unhide htm i]; simp [ei]
                            simp [this])
                        go_wp2
                        go_roundw
                        case rel => exact ⟨q + 1, by omega, by go_num, by rw [unhide hcs]; simp, HSK⟩
                        case measure => simp [intOf]; omega
                    · have hqe : q = lst.length := by omega
                      have hcx : ((lst.take q).filter (fun e => Bm.mem ws e)).length = ((elems wt 400).filter (fun k => Bm.mem ws k)).length := by rw [hqe, List.take_length, unhide HLL]
                      have hkind := (unhide hTI).1.kind
                      obtain ⟨d1, d2, d3, d4, d5, d6⟩ := (unhide hTI).1.dist
                      have C := less_set (unhide hTI).1.play.set (unhide hTI).1.t (unhide hTI).1.play.tab d3 d5
                      rw [← hcx] at C
                      replace C := hide C
                      have HQE := hide hqe
                      clear hqe hcx d1 d2 d3 d4 d5 d6
                      generalize ((lst.take q).filter (fun e => Bm.mem ws e)).length = cx at *
                      go_wp2_with fail
                      refine (unhide C).mono ?_
                      rintro e1 w8 ⟨rfl, ws2, hs8, hm2, k8⟩
                      have T8 := hide ((unhide hTI).1.words k8 hs8)
                      have I8 := hide ((unhide hTI).2.keptAt k8 (fun a n c e => by have := unhide HFR a n c e; simp; omega))
                      have HM2 := hide hm2
                      have hkind8 := (unhide T8).kind
                      clear C hs8 hm2 k8
                      have C := hide (list_set (unhide T8).t (unhide T8).play.tab)
                      go_wp2_with fail
                      refine (unhide C).mono ?_
                      rintro e1 w9 ⟨v9, rfl, i9, -, k9⟩
                      have T9 := hide ((unhide T8).keep k9)
                      have I9 := (unhide I8).kept k9
                      clear C
                      have C := plain_any i9 I9
                      rw [show decide ((elems wt 400).map Int.ofNat = lst.map Int.ofNat) = true by rw [unhide HLL]; simp] at C
                      replace C := hide C
                      clear i9 I9
                      go_wp2_with fail
                      refine (unhide C).mono ?_
                      rintro e1 w10 ⟨rfl, m10, hw10⟩
                      have k10 : Kept [] w9 w10 := by rw [hw10]; exact (Kept.refl [] w9).drewN m10
                      have T10 := hide ((unhide T9).keep k10)
                      clear C hw10 k10
                      go_wp2
                      go_roundw
                      case rel =>
                        refine ⟨k + 1, s, b, c, ws2, by omega, by omega, by go_num, rfl, hide ((unhide T10).play.congr (fun i hi => ?_))⟩
                        have hel := mem_elems wt 400 (unhide T10).t.tight i
                        rw [unhide HM2 i, ← hel, ← unhide HLL, unhide HQE, List.take_length]
                      case measure => simp [intOf]; omega
              · by_cases h4 : kd = 4
                · subst h4
                  as_aux_lemma =>
                    have CF := hide (fork_set (unhide HT6).play.set)
                    go_wp2_with fail
                    refine (unhide CF).mono ?_
                    rintro e1 w7 ⟨f2, g2, cap3, rfl, hf2, hf3, hg3, k7⟩
                    have P7 := hide ((unhide HT6).play.keep k7)
                    have HF7 := hide hf2
                    have C := hide (put_any (unhide P7).set 0)
                    clear CF hf2
                    go_wp2_with fail
                    refine (unhide C).mono ?_
                    rintro e1 w8 ⟨rfl, hs8, k8⟩
                    have P8 := hide ((unhide P7).words k8 hs8)
                    have hab6 := (unhide HT6).play.al
                    have hbb6 := (unhide HT6).play.set.bl
                    have hs6 := (unhide HT6).play.set.sl
                    have hnl6 := (unhide HT6).play.nl
                    have hil6 := (unhide HT6).play.il
                    have HF8 := hide ((unhide HF7).kept k8 (by simp; omega) (by simp; omega))
                    clear C hs8 HF7 P7
                    have C := hide (drop_any (unhide P8).set 1)
                    go_wp2_with fail
                    refine (unhide C).mono ?_
                    rintro e1 w9 ⟨rfl, hs9, k9⟩
                    have P9 := hide ((unhide P8).words k9 hs9)
                    have HF9 := hide ((unhide HF8).kept k9 (by simp; omega) (by simp; omega))
                    have hw0 := (unhide HT6).play.kept.size
                    have hb1 := (unhide HT6).play.b1
                    have hd1 := (unhide HT6).play.d1
                    have hab0 := hd1.2.2.2.2.2.2
                    clear C hs9 HF8 P8
                    go_wp2
                    go_roundw
                    case rel =>
                      refine ⟨k + 1, f2, g2, cap3, ws, by omega, by omega, by go_num, rfl, hide ?_⟩
                      exact { (unhide P9) with set := unhide HF9, b1 := by omega, d1 := ⟨hd1.1, by omega, hd1.2.2.1, by omega, by omega, by omega, hab0⟩ }
                    case measure => simp [intOf]; omega
                · have g1 : (kd == 1) = false := by simpa using h1
                  have g2 : (kd == 2) = false := by simpa using h2
                  have g3 : (kd == 3) = false := by simpa using h3
                  have g4 : (kd == 4) = false := by simpa using h4
                  clear h1 h2 h3 h4
                  as_aux_lemma =>
                    have hkey := (unhide HT6).key
                    have hnum := (unhide HT6).play.num
                    have harr := (unhide HT6).play.arr
                    have CP := hide (fun (W : World) (hW : TurnSays w N w.heap.size ib ab s b c (Bm.mem ws) ws ob tp tb wt kd ky (.slice al xs.length cl) xs W) => (put_any hW.play.set ky).mono (fun e w' hq => show e = .returned (.bool (putAns N ws ky)) ∧ TurnSays w N w.heap.size ib ab s b c (Bm.mem ws) (putS N ws ky) ob tp tb wt kd ky (.slice al xs.length cl) xs w' from ⟨hq.1, hW.words hq.2.2 hq.2.1⟩))
                    have HT7 := hide ((unhide HT6).keep (Kept.refl [] wr).drew)
                    have hmd := hide (mem_putS N ws ky)
                    by_cases hneg : ky < 0
                    · have hge : decide (0 ≤ ky) = false := by simp; omega
                      have CPQ := hide (fun m2 => put_no (wr.drewN m2) (.pointer (some ⟨s, 0, none⟩)) ky (hide (fits_no ((unhide HT6).play.set.drewN m2) ky (by omega))))
                      clear harr CP HT7 hmd
                      go_wp2_with fail
                      go_quiet ((go_at_call 19; exact Calls.quiet_of (unhide CPQ _)))
                      have HT8 := hide ((unhide HT6).keep ((Kept.refl [] wr).drewN nq))
                      go_wp2
                      go_roundw
                      case rel => exact ⟨k + 1, s, b, c, ws, by omega, by omega, by go_num, rfl, hide (unhide HT8).play⟩
                      case measure => simp [intOf]; omega
                    · by_cases hbig : (N : Int) ≤ ky
                      · have hge : decide (0 ≤ ky) = true := by simp; omega
                        have h0 : 0 ≤ ky := by omega
                        have hlt3 : decide (ky < (N : Int)) = false := by simp; omega
                        have CPQ := hide (fun m2 => put_no (wr.drewN m2) (.pointer (some ⟨s, 0, none⟩)) ky (hide (fits_no ((unhide HT6).play.set.drewN m2) ky (by omega))))
                        clear harr CP HT7 hmd
                        go_wp2_with fail
                        go_quiet ((go_at_call 19; exact Calls.quiet_of (unhide CPQ _)))
                        have HT8 := hide ((unhide HT6).keep ((Kept.refl [] wr).drewN nq))
                        go_wp2
                        go_roundw
                        case rel => exact ⟨k + 1, s, b, c, ws, by omega, by omega, by go_num, rfl, hide (unhide HT8).play⟩
                        case measure => simp [intOf]; omega
                      · obtain ⟨j, hj⟩ := Int.eq_ofNat_of_zero_le (show 0 ≤ ky by omega)
                        subst hj
                        have hjN : j < N := by omega
                        have hjN2 : (j : Int) < (N : Int) := by omega
                        have hhas := (unhide HT6).play.has j hjN
                        have KE := hide (fun (ws' : Nat → Nat) (W : World) (hW : TurnSays w N w.heap.size ib ab s b c (Bm.mem ws) ws' ob tp tb wt kd (j : Int) (.slice al xs.length cl) xs W) => show W.cell? ⟨ob, 1, none⟩ = some (.int .i64 (j : Int)) ∧ W.cell? ⟨w.heap.size, 0, none⟩ = some (.int .i64 (N : Nat)) ∧ W.cell? ⟨ib, 0, none⟩ = some (.slice (some ⟨ab, 0, none⟩) N N) ∧ W.cell? ⟨ab, j, none⟩ = some (.bool (Bm.mem ws j)) from ⟨hW.key, hW.play.num, hW.play.arr, hW.play.has j hjN⟩)
                        have e1 : putAns N ws (j : Int) = !Bm.mem ws j := by unfold putAns; simp [hjN]
                        rw [e1] at CP
                        clear e1 hneg hbig
                        generalize hv : Bm.mem ws j = v at *
                        replace hv := hide hv
                        cases v
                        · go_wp2_with fail
                          go_region_held_law (fun W => W.cell? ⟨ob, 1, none⟩ = some (.int .i64 (j : Int)) ∧ W.cell? ⟨w.heap.size, 0, none⟩ = some (.int .i64 (N : Nat)) ∧ W.cell? ⟨ib, 0, none⟩ = some (.slice (some ⟨ab, 0, none⟩) N N) ∧ W.cell? ⟨ab, j, none⟩ = some (.bool false)) (first | (exact unhide KE _ _ (by assumption)) | go_keep) (first
                            | (go_at_call 19; refine (unhide CP _ (unhide HT7)).mono ?_; rintro e1 w7 ⟨rfl, h7⟩))
                          all_goals
                            have hkey7 := h7.key
                            have hnum7 := h7.play.num
                            have harr7 := h7.play.arr
                            have hhas7 := h7.play.has j hjN
                            have hfre7 := h7.play.free j hjN
                            have HST := hide (h7.play.store j true)
                            clear hhas
                            go_wp2
                            go_roundw
                            case rel =>
                              refine ⟨k + 1, s, b, c, putS N ws (j : Int), by omega, by omega, by go_num, rfl, hide ((unhide HST).congr (fun i hi => ?_))⟩
                              rw [unhide hmd i]
                              by_cases e : i = j
                              · simp [e, hjN]
                              · have : ¬ (i : Int) = (j : Int) := by omega
                                simp [e, this]
                            case measure => simp [intOf]; omega
                        · go_wp2_with fail
                          go_region_held_law (fun W => W.cell? ⟨ob, 1, none⟩ = some (.int .i64 (j : Int)) ∧ W.cell? ⟨w.heap.size, 0, none⟩ = some (.int .i64 (N : Nat)) ∧ W.cell? ⟨ib, 0, none⟩ = some (.slice (some ⟨ab, 0, none⟩) N N) ∧ W.cell? ⟨ab, j, none⟩ = some (.bool true)) (first | (exact unhide KE _ _ (by assumption)) | go_keep) (first
                            | (go_at_call 19; refine (unhide CP _ (unhide HT7)).mono ?_; rintro e1 w7 ⟨rfl, h7⟩))
                          all_goals
                            have hkey7 := h7.key
                            have hnum7 := h7.play.num
                            have harr7 := h7.play.arr
                            have hhas7 := h7.play.has j hjN
                            have hfre7 := h7.play.free j hjN
                            have HST := hide (h7.play.store j true)
                            clear hhas
                            go_wp2
                            go_roundw
                            case rel =>
                              refine ⟨k + 1, s, b, c, putS N ws (j : Int), by omega, by omega, by go_num, rfl, hide ((unhide HST).congr (fun i hi => ?_))⟩
                              rw [unhide hmd i]
                              by_cases e : i = j
                              · simp [e, hjN]
                              · have : ¬ (i : Int) = (j : Int) := by omega
                                simp [e, this]
                            case measure => simp [intOf]; omega
    · have hdone : k = m ∨ k = 60 := by omega
      clear hgo
      have hnum := (unhide hP).num
      have htg := hide (unhide hP).set.tight
      have HNX := hide (show ((N : Int) - 1 + 1).toNat = N by omega)
      have hdone2 : decide ((k : Int) < (m : Int)) = true → decide ((k : Int) < 60) = false := by simp; omega
      have HD2 := hide hdone2
      have HDN := hide hdone
      clear hdone hdone2
      have hl0 := hide (least_none (a := ask.toNat) (unhide htg))
      by_cases hkm2 : k < m
      · have hk6 : decide ((k : Int) < 60) = false := by have := unhide HDN; simp; omega
        have hkm3 : (k : Int) < (m : Int) := by omega
        as_aux_lemma =>
          obtain ⟨W0, hW0⟩ : ∃ W0 : World, W0 = wr := ⟨wr, rfl⟩
          subst hW0
          go_wp2
          go_loopw [18, 19, 20] (fun v lv2 kv wr4 => ∃ (f : Nat) (r : Int) (ao4 : Option Addr) (cap4 : Nat), f ≤ N ∧ kv = .int .i64 ((f : Int) - 1) ∧ lv2 = .int .i64 r ∧ v = .slice ao4 (up (Bm.mem ws) f (N - f)).length cap4 ∧ Hid (IsLeast (Bm.mem ws) (max f ask.toNat) r) ∧ wr4.ownsRow W0.heap.size 3 1 (.slice ao4 (up (Bm.mem ws) f (N - f)).length cap4) (up (Bm.mem ws) f (N - f)).length (((up (Bm.mem ws) f (N - f)).map Int.ofNat).map (Value.int .i64)) ∧ Hid (Kept [] W0 wr4)) (fun _ _ kv _ => (intOf kv + 1).toNat)
          case atStart => exact ⟨N, -1, none, 0, Nat.le_refl _, rfl, rfl, by rw [Nat.sub_self]; rfl, hl0, by rw [Nat.sub_self]; exact owns_none _ _ _, hide (Kept.refl _ _)⟩
          case round =>
            obtain ⟨f, r, ao4, cap4, hfN, rfl, rfl, rfl, hlr, hown, hk4⟩ := hrel
            by_cases hf0 : f = 0
            · subst hf0
              have HLF := hide (show IsLeast (Bm.mem ws) ask.toNat r by have := unhide hlr; rwa [Nat.zero_max] at this)
              have hua := up_all (Bm.mem ws) N
              rw [Nat.sub_zero] at hown ⊢
              rw [hua] at hown ⊢
              obtain ⟨il, -⟩ := ints_of_owns hown
              have IL := hide il
              have P4 := hide ((unhide hP).keep (unhide hk4))
              clear hown hlr il hua hnum
              have C := hide (list_set (unhide P4).set (unhide P4).tab)
              go_wp2_with fail
              refine (unhide C).mono ?_
              rintro e1 w5 ⟨v5, rfl, i5, -, k5⟩
              have P5 := hide ((unhide P4).keep k5)
              have C := plain_any i5 ((unhide IL).kept k5)
              rw [show decide ((elems ws N).map Int.ofNat = (Bm.below (Bm.mem ws) N).map Int.ofNat) = true by simp [elems]] at C
              replace C := hide C
              clear i5
              go_wp2_with fail
              refine (unhide C).mono ?_
              rintro e1 w6 ⟨rfl, m6, hw6⟩
              have k6 : Kept [] w5 w6 := by rw [hw6]; exact (Kept.refl [] w5).drewN m6
              have P6 := hide ((unhide P5).keep k6)
              clear C hw6 k6 k5 P4
              have C := hide (len_set (unhide P6).set)
              go_wp2_with fail
              refine (unhide C).mono ?_
              rintro e1 w7 ⟨rfl, hw7⟩
              obtain rfl := hw7.symm
              clear C
              have hlen : (((elems ws N).length : Int) == ((Bm.below (Bm.mem ws) N).length : Int)) = true := by simp [elems]
              have C := has_any (unhide P6).set ask
              have C2 := fun m2 : Nat => ((unhide P6).keep ((Kept.refl [] w6).drewN m2)).hasFn (unhide htg) ask
              have C3 := hide (fun m2 : Nat => least_any ((unhide P6).set.drewN m2) ((unhide P6).keep ((Kept.refl [] w6).drewN m2)).tab ask)
              cases hx : hasI ws ask
              all_goals
                rw [hx] at C
                simp only [hx] at C2
                replace C := hide C
                replace C2 := hide C2
                go_wp2_with fail
                refine (unhide C).mono ?_
                rintro e1 w8 ⟨rfl, m8, rfl⟩
                go_wp2_with fail
                refine (unhide C2 m8).mono ?_
                rintro e1 w9 ⟨rfl, hw9⟩
                obtain rfl := hw9.symm
                go_wp2_with fail
                refine (unhide C3 m8).mono ?_
                rintro e1 w10 ⟨r2, rfl, hr2, m10, rfl⟩
                have hrr := isLeast_unique hr2 (unhide HLF)
                subst hrr
                go_wp2
                go_ret
                exact ⟨rfl, (unhide P6).kept.drewN _⟩
            · obtain ⟨f', rfl⟩ : ∃ f', f = f' + 1 := ⟨f - 1, by omega⟩
              have hP4 := (unhide hP).keep (unhide hk4)
              have harr := hP4.arr
              have hhas := hP4.has f' (by omega)
              have hst := hide (up_step (Bm.mem ws) f' N (by omega))
              have hul := up_le (Bm.mem ws) (f' + 1) (N - (f' + 1))
              have hidx : ((f' + 1 : Nat) : Int) - 1 = (f' : Int) := by omega
              rw [hidx]
              clear hP4 hidx
              have hf'N : (f' : Int) < (N : Int) := by omega
              cases hm : Bm.mem ws f'
              · rw [hm] at hhas hst
                have HLS := hide (least_skip (unhide hlr) (Or.inl hm))
                clear hm
                go_wp2
                go_roundw
                case rel => exact ⟨f', r, ao4, cap4, by omega, rfl, rfl, by rw [unhide hst]; simp, HLS, by rw [unhide hst]; simpa using hown, hk4⟩
                case measure => simp [intOf]
              · rw [hm] at hhas hst
                have hstl : (up (Bm.mem ws) f' (N - f')).length = 1 + (up (Bm.mem ws) (f' + 1) (N - (f' + 1))).length := by rw [unhide hst, List.length_append]; rfl
                have HSTL := hide hstl
                have HVL := hide (show ((up (Bm.mem ws) f' (N - f')).map Int.ofNat).map (Value.int .i64) = [Value.int .i64 (f' : Nat)] ++ ((up (Bm.mem ws) (f' + 1) (N - (f' + 1))).map Int.ofNat).map (Value.int .i64) by rw [unhide hst]; simp)
                clear hstl
                by_cases hask : ask ≤ (f' : Int)
                · have HLS := hide (least_take (a := ask.toNat) hm (by omega))
                  clear hm
                  cases ao4 with
                  | none =>
                    have hn0 : (up (Bm.mem ws) (f' + 1) (N - (f' + 1))).length = 0 ∧ cap4 = 0 := by
                      rcases hown.2 with ⟨e, e2⟩ | ⟨_, _, _, e, _⟩
                      · exact ⟨e2, (Value.slice.inj e).2.2⟩
                      · exact absurd (Value.slice.inj e).1 (by simp)
                    obtain ⟨hn1, rfl⟩ := hn0
                    have hnil : up (Bm.mem ws) (f' + 1) (N - (f' + 1)) = [] := List.eq_nil_of_length_eq_zero hn1
                    have HNIL := hide hnil
                    rw [hn1]
                    clear hn1 hnil hul
                    have HO1 := hide (owns_one wr W0.heap.size (.int .i64 (f' : Nat)) 3 (unhide hk4).size)
                    go_wp2_with (first | (at_builtin; refine wpList_append_fits_any _ rfl (.tmp 214) (.tmp 215) 29 rfl W0.heap.size 3 i 1 Tryd.underlying29 hi hz1 wr.heap.size 1 1 _ rfl (unhide HO1) none 0 0 [] rfl rfl (fun _ => ⟨rfl, rfl⟩) (by intro _ h; cases h) (by simp) (by omega) ?_; intro w6 hown2 hg2))
                    go_roundw
                    case rel => exact ⟨f', (f' : Nat), some ⟨wr.heap.size, 0, none⟩, 1, by omega, rfl, rfl, by rw [unhide HSTL, unhide HNIL]; rfl, HLS, by rw [unhide HSTL, unhide HVL, unhide HNIL]; exact hown2, hide (((unhide hk4).alloc _).grown hg2 (by intro j hj; cases hj; exact Or.inr (unhide hk4).size))⟩
                    case measure => simp [intOf]
                  | some ad =>
                    obtain ⟨gg, hgg⟩ : ∃ gg, ad = ⟨gg, 0, none⟩ := by
                      rcases hown.2 with ⟨e, _⟩ | ⟨gg, _, _, e, _⟩
                      · exact absurd (Value.slice.inj e).1 (by simp)
                      · exact ⟨gg, Option.some.inj (Value.slice.inj e).1⟩
                    subst hgg
                    have HCE := hide (fun o2 : Obj => (hown.alloc o2).cells (g := gg) rfl)
                    have HLE := hide hown.1
                    have HO1 := hide (owns_one wr W0.heap.size (.int .i64 (f' : Nat)) 3 (unhide hk4).size)
                    go_wp2_with (first | (at_builtin; refine wpList_append_own _ rfl (.tmp 214) (.tmp 215) 29 rfl W0.heap.size 3 i (.int .i64 0) 1 8 Tryd.underlying29 hi hz0 hz1 hz2 rfl (by decide) _ _ _ rfl (unhide HO1) ⟨gg, 0, none⟩ _ _ (((up (Bm.mem ws) (f' + 1) (N - (f' + 1))).map Int.ofNat).map (Value.int .i64)) rfl (unhide HLE) (unhide HCE _) (ints_oneCell _ _) (by unfold maxLen; omega) (by omega) (by simp; have := (unhide hk4).size; omega) ?_; intro v' w6 hown2 hg2 _))
                    go_roundw
                    case rel =>
                      obtain ⟨ao5, cap5, rfl⟩ := own_shape hown2
                      exact ⟨f', (f' : Nat), ao5, cap5, by omega, rfl, rfl, by rw [unhide HSTL], HLS, by rw [unhide HSTL, unhide HVL]; exact hown2, hide (((unhide hk4).alloc _).grown hg2 (by intro j hj; cases hj; exact Or.inr (unhide hk4).size))⟩
                    case measure => simp [intOf]
                · have HLS := hide (least_skip (unhide hlr) (Or.inr (by omega)))
                  clear hm
                  cases ao4 with
                  | none =>
                    have hn0 : (up (Bm.mem ws) (f' + 1) (N - (f' + 1))).length = 0 ∧ cap4 = 0 := by
                      rcases hown.2 with ⟨e, e2⟩ | ⟨_, _, _, e, _⟩
                      · exact ⟨e2, (Value.slice.inj e).2.2⟩
                      · exact absurd (Value.slice.inj e).1 (by simp)
                    obtain ⟨hn1, rfl⟩ := hn0
                    have hnil : up (Bm.mem ws) (f' + 1) (N - (f' + 1)) = [] := List.eq_nil_of_length_eq_zero hn1
                    have HNIL := hide hnil
                    rw [hn1]
                    clear hn1 hnil hul
                    have HO1 := hide (owns_one wr W0.heap.size (.int .i64 (f' : Nat)) 3 (unhide hk4).size)
                    go_wp2_with (first | (at_builtin; refine wpList_append_fits_any _ rfl (.tmp 214) (.tmp 215) 29 rfl W0.heap.size 3 i 1 Tryd.underlying29 hi hz1 wr.heap.size 1 1 _ rfl (unhide HO1) none 0 0 [] rfl rfl (fun _ => ⟨rfl, rfl⟩) (by intro _ h; cases h) (by simp) (by omega) ?_; intro w6 hown2 hg2))
                    go_roundw
                    case rel => exact ⟨f', r, some ⟨wr.heap.size, 0, none⟩, 1, by omega, rfl, rfl, by rw [unhide HSTL, unhide HNIL]; rfl, HLS, by rw [unhide HSTL, unhide HVL, unhide HNIL]; exact hown2, hide (((unhide hk4).alloc _).grown hg2 (by intro j hj; cases hj; exact Or.inr (unhide hk4).size))⟩
                    case measure => simp [intOf]
                  | some ad =>
                    obtain ⟨gg, hgg⟩ : ∃ gg, ad = ⟨gg, 0, none⟩ := by
                      rcases hown.2 with ⟨e, _⟩ | ⟨gg, _, _, e, _⟩
                      · exact absurd (Value.slice.inj e).1 (by simp)
                      · exact ⟨gg, Option.some.inj (Value.slice.inj e).1⟩
                    subst hgg
                    have HCE := hide (fun o2 : Obj => (hown.alloc o2).cells (g := gg) rfl)
                    have HLE := hide hown.1
                    have HO1 := hide (owns_one wr W0.heap.size (.int .i64 (f' : Nat)) 3 (unhide hk4).size)
                    go_wp2_with (first | (at_builtin; refine wpList_append_own _ rfl (.tmp 214) (.tmp 215) 29 rfl W0.heap.size 3 i (.int .i64 0) 1 8 Tryd.underlying29 hi hz0 hz1 hz2 rfl (by decide) _ _ _ rfl (unhide HO1) ⟨gg, 0, none⟩ _ _ (((up (Bm.mem ws) (f' + 1) (N - (f' + 1))).map Int.ofNat).map (Value.int .i64)) rfl (unhide HLE) (unhide HCE _) (ints_oneCell _ _) (by unfold maxLen; omega) (by omega) (by simp; have := (unhide hk4).size; omega) ?_; intro v' w6 hown2 hg2 _))
                    go_roundw
                    case rel =>
                      obtain ⟨ao5, cap5, rfl⟩ := own_shape hown2
                      exact ⟨f', r, ao5, cap5, by omega, rfl, rfl, by rw [unhide HSTL], HLS, by rw [unhide HSTL, unhide HVL]; exact hown2, hide (((unhide hk4).alloc _).grown hg2 (by intro j hj; cases hj; exact Or.inr (unhide hk4).size))⟩
                    case measure => simp [intOf]
      · have hkm3 : decide ((k : Int) < (m : Int)) = false := by simp; omega
        as_aux_lemma =>
          obtain ⟨W0, hW0⟩ : ∃ W0 : World, W0 = wr := ⟨wr, rfl⟩
          subst hW0
          go_wp2
          go_loopw [18, 19, 20] (fun v lv2 kv wr4 => ∃ (f : Nat) (r : Int) (ao4 : Option Addr) (cap4 : Nat), f ≤ N ∧ kv = .int .i64 ((f : Int) - 1) ∧ lv2 = .int .i64 r ∧ v = .slice ao4 (up (Bm.mem ws) f (N - f)).length cap4 ∧ Hid (IsLeast (Bm.mem ws) (max f ask.toNat) r) ∧ wr4.ownsRow W0.heap.size 3 1 (.slice ao4 (up (Bm.mem ws) f (N - f)).length cap4) (up (Bm.mem ws) f (N - f)).length (((up (Bm.mem ws) f (N - f)).map Int.ofNat).map (Value.int .i64)) ∧ Hid (Kept [] W0 wr4)) (fun _ _ kv _ => (intOf kv + 1).toNat)
          case atStart => exact ⟨N, -1, none, 0, Nat.le_refl _, rfl, rfl, by rw [Nat.sub_self]; rfl, hl0, by rw [Nat.sub_self]; exact owns_none _ _ _, hide (Kept.refl _ _)⟩
          case round =>
            obtain ⟨f, r, ao4, cap4, hfN, rfl, rfl, rfl, hlr, hown, hk4⟩ := hrel
            by_cases hf0 : f = 0
            · subst hf0
              have HLF := hide (show IsLeast (Bm.mem ws) ask.toNat r by have := unhide hlr; rwa [Nat.zero_max] at this)
              have hua := up_all (Bm.mem ws) N
              rw [Nat.sub_zero] at hown ⊢
              rw [hua] at hown ⊢
              obtain ⟨il, -⟩ := ints_of_owns hown
              have IL := hide il
              have P4 := hide ((unhide hP).keep (unhide hk4))
              clear hown hlr il hua hnum
              have C := hide (list_set (unhide P4).set (unhide P4).tab)
              go_wp2_with fail
              refine (unhide C).mono ?_
              rintro e1 w5 ⟨v5, rfl, i5, -, k5⟩
              have P5 := hide ((unhide P4).keep k5)
              have C := plain_any i5 ((unhide IL).kept k5)
              rw [show decide ((elems ws N).map Int.ofNat = (Bm.below (Bm.mem ws) N).map Int.ofNat) = true by simp [elems]] at C
              replace C := hide C
              clear i5
              go_wp2_with fail
              refine (unhide C).mono ?_
              rintro e1 w6 ⟨rfl, m6, hw6⟩
              have k6 : Kept [] w5 w6 := by rw [hw6]; exact (Kept.refl [] w5).drewN m6
              have P6 := hide ((unhide P5).keep k6)
              clear C hw6 k6 k5 P4
              have C := hide (len_set (unhide P6).set)
              go_wp2_with fail
              refine (unhide C).mono ?_
              rintro e1 w7 ⟨rfl, hw7⟩
              obtain rfl := hw7.symm
              clear C
              have hlen : (((elems ws N).length : Int) == ((Bm.below (Bm.mem ws) N).length : Int)) = true := by simp [elems]
              have C := has_any (unhide P6).set ask
              have C2 := fun m2 : Nat => ((unhide P6).keep ((Kept.refl [] w6).drewN m2)).hasFn (unhide htg) ask
              have C3 := hide (fun m2 : Nat => least_any ((unhide P6).set.drewN m2) ((unhide P6).keep ((Kept.refl [] w6).drewN m2)).tab ask)
              cases hx : hasI ws ask
              all_goals
                rw [hx] at C
                simp only [hx] at C2
                replace C := hide C
                replace C2 := hide C2
                go_wp2_with fail
                refine (unhide C).mono ?_
                rintro e1 w8 ⟨rfl, m8, rfl⟩
                go_wp2_with fail
                refine (unhide C2 m8).mono ?_
                rintro e1 w9 ⟨rfl, hw9⟩
                obtain rfl := hw9.symm
                go_wp2_with fail
                refine (unhide C3 m8).mono ?_
                rintro e1 w10 ⟨r2, rfl, hr2, m10, rfl⟩
                have hrr := isLeast_unique hr2 (unhide HLF)
                subst hrr
                go_wp2
                go_ret
                exact ⟨rfl, (unhide P6).kept.drewN _⟩
            · obtain ⟨f', rfl⟩ : ∃ f', f = f' + 1 := ⟨f - 1, by omega⟩
              have hP4 := (unhide hP).keep (unhide hk4)
              have harr := hP4.arr
              have hhas := hP4.has f' (by omega)
              have hst := hide (up_step (Bm.mem ws) f' N (by omega))
              have hul := up_le (Bm.mem ws) (f' + 1) (N - (f' + 1))
              have hidx : ((f' + 1 : Nat) : Int) - 1 = (f' : Int) := by omega
              rw [hidx]
              clear hP4 hidx
              have hf'N : (f' : Int) < (N : Int) := by omega
              cases hm : Bm.mem ws f'
              · rw [hm] at hhas hst
                have HLS := hide (least_skip (unhide hlr) (Or.inl hm))
                clear hm
                go_wp2
                go_roundw
                case rel => exact ⟨f', r, ao4, cap4, by omega, rfl, rfl, by rw [unhide hst]; simp, HLS, by rw [unhide hst]; simpa using hown, hk4⟩
                case measure => simp [intOf]
              · rw [hm] at hhas hst
                have hstl : (up (Bm.mem ws) f' (N - f')).length = 1 + (up (Bm.mem ws) (f' + 1) (N - (f' + 1))).length := by rw [unhide hst, List.length_append]; rfl
                have HSTL := hide hstl
                have HVL := hide (show ((up (Bm.mem ws) f' (N - f')).map Int.ofNat).map (Value.int .i64) = [Value.int .i64 (f' : Nat)] ++ ((up (Bm.mem ws) (f' + 1) (N - (f' + 1))).map Int.ofNat).map (Value.int .i64) by rw [unhide hst]; simp)
                clear hstl
                by_cases hask : ask ≤ (f' : Int)
                · have HLS := hide (least_take (a := ask.toNat) hm (by omega))
                  clear hm
                  cases ao4 with
                  | none =>
                    have hn0 : (up (Bm.mem ws) (f' + 1) (N - (f' + 1))).length = 0 ∧ cap4 = 0 := by
                      rcases hown.2 with ⟨e, e2⟩ | ⟨_, _, _, e, _⟩
                      · exact ⟨e2, (Value.slice.inj e).2.2⟩
                      · exact absurd (Value.slice.inj e).1 (by simp)
                    obtain ⟨hn1, rfl⟩ := hn0
                    have hnil : up (Bm.mem ws) (f' + 1) (N - (f' + 1)) = [] := List.eq_nil_of_length_eq_zero hn1
                    have HNIL := hide hnil
                    rw [hn1]
                    clear hn1 hnil hul
                    have HO1 := hide (owns_one wr W0.heap.size (.int .i64 (f' : Nat)) 3 (unhide hk4).size)
                    go_wp2_with (first | (at_builtin; refine wpList_append_fits_any _ rfl (.tmp 214) (.tmp 215) 29 rfl W0.heap.size 3 i 1 Tryd.underlying29 hi hz1 wr.heap.size 1 1 _ rfl (unhide HO1) none 0 0 [] rfl rfl (fun _ => ⟨rfl, rfl⟩) (by intro _ h; cases h) (by simp) (by omega) ?_; intro w6 hown2 hg2))
                    go_roundw
                    case rel => exact ⟨f', (f' : Nat), some ⟨wr.heap.size, 0, none⟩, 1, by omega, rfl, rfl, by rw [unhide HSTL, unhide HNIL]; rfl, HLS, by rw [unhide HSTL, unhide HVL, unhide HNIL]; exact hown2, hide (((unhide hk4).alloc _).grown hg2 (by intro j hj; cases hj; exact Or.inr (unhide hk4).size))⟩
                    case measure => simp [intOf]
                  | some ad =>
                    obtain ⟨gg, hgg⟩ : ∃ gg, ad = ⟨gg, 0, none⟩ := by
                      rcases hown.2 with ⟨e, _⟩ | ⟨gg, _, _, e, _⟩
                      · exact absurd (Value.slice.inj e).1 (by simp)
                      · exact ⟨gg, Option.some.inj (Value.slice.inj e).1⟩
                    subst hgg
                    have HCE := hide (fun o2 : Obj => (hown.alloc o2).cells (g := gg) rfl)
                    have HLE := hide hown.1
                    have HO1 := hide (owns_one wr W0.heap.size (.int .i64 (f' : Nat)) 3 (unhide hk4).size)
                    go_wp2_with (first | (at_builtin; refine wpList_append_own _ rfl (.tmp 214) (.tmp 215) 29 rfl W0.heap.size 3 i (.int .i64 0) 1 8 Tryd.underlying29 hi hz0 hz1 hz2 rfl (by decide) _ _ _ rfl (unhide HO1) ⟨gg, 0, none⟩ _ _ (((up (Bm.mem ws) (f' + 1) (N - (f' + 1))).map Int.ofNat).map (Value.int .i64)) rfl (unhide HLE) (unhide HCE _) (ints_oneCell _ _) (by unfold maxLen; omega) (by omega) (by simp; have := (unhide hk4).size; omega) ?_; intro v' w6 hown2 hg2 _))
                    go_roundw
                    case rel =>
                      obtain ⟨ao5, cap5, rfl⟩ := own_shape hown2
                      exact ⟨f', (f' : Nat), ao5, cap5, by omega, rfl, rfl, by rw [unhide HSTL], HLS, by rw [unhide HSTL, unhide HVL]; exact hown2, hide (((unhide hk4).alloc _).grown hg2 (by intro j hj; cases hj; exact Or.inr (unhide hk4).size))⟩
                    case measure => simp [intOf]
                · have HLS := hide (least_skip (unhide hlr) (Or.inr (by omega)))
                  clear hm
                  cases ao4 with
                  | none =>
                    have hn0 : (up (Bm.mem ws) (f' + 1) (N - (f' + 1))).length = 0 ∧ cap4 = 0 := by
                      rcases hown.2 with ⟨e, e2⟩ | ⟨_, _, _, e, _⟩
                      · exact ⟨e2, (Value.slice.inj e).2.2⟩
                      · exact absurd (Value.slice.inj e).1 (by simp)
                    obtain ⟨hn1, rfl⟩ := hn0
                    have hnil : up (Bm.mem ws) (f' + 1) (N - (f' + 1)) = [] := List.eq_nil_of_length_eq_zero hn1
                    have HNIL := hide hnil
                    rw [hn1]
                    clear hn1 hnil hul
                    have HO1 := hide (owns_one wr W0.heap.size (.int .i64 (f' : Nat)) 3 (unhide hk4).size)
                    go_wp2_with (first | (at_builtin; refine wpList_append_fits_any _ rfl (.tmp 214) (.tmp 215) 29 rfl W0.heap.size 3 i 1 Tryd.underlying29 hi hz1 wr.heap.size 1 1 _ rfl (unhide HO1) none 0 0 [] rfl rfl (fun _ => ⟨rfl, rfl⟩) (by intro _ h; cases h) (by simp) (by omega) ?_; intro w6 hown2 hg2))
                    go_roundw
                    case rel => exact ⟨f', r, some ⟨wr.heap.size, 0, none⟩, 1, by omega, rfl, rfl, by rw [unhide HSTL, unhide HNIL]; rfl, HLS, by rw [unhide HSTL, unhide HVL, unhide HNIL]; exact hown2, hide (((unhide hk4).alloc _).grown hg2 (by intro j hj; cases hj; exact Or.inr (unhide hk4).size))⟩
                    case measure => simp [intOf]
                  | some ad =>
                    obtain ⟨gg, hgg⟩ : ∃ gg, ad = ⟨gg, 0, none⟩ := by
                      rcases hown.2 with ⟨e, _⟩ | ⟨gg, _, _, e, _⟩
                      · exact absurd (Value.slice.inj e).1 (by simp)
                      · exact ⟨gg, Option.some.inj (Value.slice.inj e).1⟩
                    subst hgg
                    have HCE := hide (fun o2 : Obj => (hown.alloc o2).cells (g := gg) rfl)
                    have HLE := hide hown.1
                    have HO1 := hide (owns_one wr W0.heap.size (.int .i64 (f' : Nat)) 3 (unhide hk4).size)
                    go_wp2_with (first | (at_builtin; refine wpList_append_own _ rfl (.tmp 214) (.tmp 215) 29 rfl W0.heap.size 3 i (.int .i64 0) 1 8 Tryd.underlying29 hi hz0 hz1 hz2 rfl (by decide) _ _ _ rfl (unhide HO1) ⟨gg, 0, none⟩ _ _ (((up (Bm.mem ws) (f' + 1) (N - (f' + 1))).map Int.ofNat).map (Value.int .i64)) rfl (unhide HLE) (unhide HCE _) (ints_oneCell _ _) (by unfold maxLen; omega) (by omega) (by simp; have := (unhide hk4).size; omega) ?_; intro v' w6 hown2 hg2 _))
                    go_roundw
                    case rel =>
                      obtain ⟨ao5, cap5, rfl⟩ := own_shape hown2
                      exact ⟨f', r, ao5, cap5, by omega, rfl, rfl, by rw [unhide HSTL], HLS, by rw [unhide HSTL, unhide HVL]; exact hown2, hide (((unhide hk4).alloc _).grown hg2 (by intro j hj; cases hj; exact Or.inr (unhide hk4).size))⟩
                    case measure => simp [intOf]
end Go.Proofs.YtmcgeadpoiihkaaDoor
