/- Join, Less, Common. -/
import Derived.Test.YtmcgeadpoiihkaaDoorOps5
namespace Go.Proofs.YtmcgeadpoiihkaaDoor
open Go.RowKit

set_option maxHeartbeats 1000000 in
theorem each_Put (w : World) (p q : Value) (m : Nat → Bool) (room : Nat) (I : List Nat → World → Prop) (cn : List Nat → Nat) (hr : room ≤ 70000) (htight : Hid (∀ k, m k = true → k < room))
    (hcn : Hid (∀ xs : List Nat, cn xs ≤ xs.length)) (hc0 : Hid (cn [] = 0)) (hI0 : Hid (I [] w)) (hId : Hid (∀ xs W q, I xs W → I xs (W.drewN q)))
    (hleast : Hid (∀ (W : World) (f : Nat) (xs : List Nat), I xs W → Calls Tryd.prog 22 #[q, .int .i64 f] W fun e w' => ∃ r, e = .returned (.int .i64 r) ∧ IsLeast m f r ∧ ∃ q, w' = W.drewN q))
    (hdo : Hid (∀ (W : World) (k : Nat) (xs : List Nat), I xs W → m k = true → k < room → (∀ x, x ∈ xs → x < k) → Calls Tryd.prog 19 #[p, .int .i64 k] W fun e w' => ∃ b : Bool, e = .returned (.bool b) ∧ I (xs ++ [k]) w' ∧ cn (xs ++ [k]) = cn xs + (if b then 1 else 0))) :
    Calls Tryd.prog 26 #[p, q, .func (.func 19) #[] #[]] w fun e w' => e = .returned (.int .i64 (cn (Bm.below m room) : Nat)) ∧ I (Bm.below m room) w' := by
  have HL := hide (unhide hleast w 0 [] (unhide hI0))
  go_enter Tryd.func26, Tryd.ntmps26
  go_wp2_with (go_at_call 22; refine (unhide HL).mono ?_; rintro e w2 ⟨r, rfl, hr1, q1, rfl⟩)
  go_loopw [7, 8] (fun cv kk wr => ∃ (f : Nat) (r : Int), kk = .int .i64 r ∧ cv = .int .i64 (cn (Bm.below m f) : Nat) ∧ IsLeast m f r ∧ f ≤ room ∧ Hid (I (Bm.below m f) wr)) (fun _ kk _ => lm room kk)
  case atStart => exact ⟨0, r, rfl, by rw [Bm.below_zero, unhide hc0]; rfl, hr1, Nat.zero_le _, hide (by rw [Bm.below_zero]; exact unhide hId _ _ _ (unhide hI0))⟩
  case round =>
    obtain ⟨f, r, rfl, rfl, hr2, hf, hI⟩ := hrel
    rcases hr2 with ⟨rfl, hnone⟩ | ⟨k, rfl, hfk, hmk, hno⟩
    · have HN := hide hnone
      clear hnone
      go_wp2
      go_ret
      rw [Bm.below_stay m f room hf (fun j h1 _ => unhide HN j h1)]
      exact ⟨rfl, unhide hI⟩
    · have hkr : k < room := unhide htight k hmk
      have hst := hide (Bm.below_step m f k hfk hno hmk)
      have hbl := Bm.below_le m f
      have hcl := unhide hcn (Bm.below m f)
      have HD := hide (unhide hdo wr k _ (unhide hI) hmk hkr (fun x hx => by have := ((Bm.mem_below m f x).1 hx).1; omega))
      clear hno hmk
      generalize hxs : Bm.below m f = xs at *
      have HX := hide hxs
      clear hxs
      generalize hcx : cn xs = cx at *
      have HC := hide hcx
      clear hcx
      go_wp2_with fail
      refine (unhide HD).mono ?_
      rintro e w3 ⟨b, rfl, hI3, hcn3⟩
      have HL2 := unhide hleast w3 (k + 1) _ hI3
      rw [show (((k + 1 : Nat)) : Int) = (k : Int) + 1 from by omega] at HL2
      have HL3 := hide HL2
      have HN3 := hide hcn3
      have HI3 := hide hI3
      clear HL2 hcn3 hI3
      cases b
      all_goals
        go_wp2_with (go_at_call 22; refine (unhide HL3).mono ?_; rintro e w4 ⟨r', rfl, hr3, q', rfl⟩)
        go_roundw
        case rel =>
          refine ⟨k + 1, r', rfl, ?_, hr3, by omega, ?_⟩
          · rw [unhide hst, unhide HN3]
            simp
          · rw [unhide hst]
            exact hide (unhide hId _ _ _ (unhide HI3))
        case measure => exact hr3.next hkr (unhide htight)

set_option maxHeartbeats 1000000 in
theorem each_Drop (w : World) (p q : Value) (m : Nat → Bool) (room : Nat) (I : List Nat → World → Prop) (cn : List Nat → Nat) (hr : room ≤ 70000) (htight : Hid (∀ k, m k = true → k < room))
    (hcn : Hid (∀ xs : List Nat, cn xs ≤ xs.length)) (hc0 : Hid (cn [] = 0)) (hI0 : Hid (I [] w)) (hId : Hid (∀ xs W q, I xs W → I xs (W.drewN q)))
    (hleast : Hid (∀ (W : World) (f : Nat) (xs : List Nat), I xs W → Calls Tryd.prog 22 #[q, .int .i64 f] W fun e w' => ∃ r, e = .returned (.int .i64 r) ∧ IsLeast m f r ∧ ∃ q, w' = W.drewN q))
    (hdo : Hid (∀ (W : World) (k : Nat) (xs : List Nat), I xs W → m k = true → k < room → (∀ x, x ∈ xs → x < k) → Calls Tryd.prog 13 #[p, .int .i64 k] W fun e w' => ∃ b : Bool, e = .returned (.bool b) ∧ I (xs ++ [k]) w' ∧ cn (xs ++ [k]) = cn xs + (if b then 1 else 0))) :
    Calls Tryd.prog 26 #[p, q, .func (.func 13) #[] #[]] w fun e w' => e = .returned (.int .i64 (cn (Bm.below m room) : Nat)) ∧ I (Bm.below m room) w' := by
  have HL := hide (unhide hleast w 0 [] (unhide hI0))
  go_enter Tryd.func26, Tryd.ntmps26
  go_wp2_with (go_at_call 22; refine (unhide HL).mono ?_; rintro e w2 ⟨r, rfl, hr1, q1, rfl⟩)
  go_loopw [7, 8] (fun cv kk wr => ∃ (f : Nat) (r : Int), kk = .int .i64 r ∧ cv = .int .i64 (cn (Bm.below m f) : Nat) ∧ IsLeast m f r ∧ f ≤ room ∧ Hid (I (Bm.below m f) wr)) (fun _ kk _ => lm room kk)
  case atStart => exact ⟨0, r, rfl, by rw [Bm.below_zero, unhide hc0]; rfl, hr1, Nat.zero_le _, hide (by rw [Bm.below_zero]; exact unhide hId _ _ _ (unhide hI0))⟩
  case round =>
    obtain ⟨f, r, rfl, rfl, hr2, hf, hI⟩ := hrel
    rcases hr2 with ⟨rfl, hnone⟩ | ⟨k, rfl, hfk, hmk, hno⟩
    · have HN := hide hnone
      clear hnone
      go_wp2
      go_ret
      rw [Bm.below_stay m f room hf (fun j h1 _ => unhide HN j h1)]
      exact ⟨rfl, unhide hI⟩
    · have hkr : k < room := unhide htight k hmk
      have hst := hide (Bm.below_step m f k hfk hno hmk)
      have hbl := Bm.below_le m f
      have hcl := unhide hcn (Bm.below m f)
      have HD := hide (unhide hdo wr k _ (unhide hI) hmk hkr (fun x hx => by have := ((Bm.mem_below m f x).1 hx).1; omega))
      clear hno hmk
      generalize hxs : Bm.below m f = xs at *
      have HX := hide hxs
      clear hxs
      generalize hcx : cn xs = cx at *
      have HC := hide hcx
      clear hcx
      go_wp2_with fail
      refine (unhide HD).mono ?_
      rintro e w3 ⟨b, rfl, hI3, hcn3⟩
      have HL2 := unhide hleast w3 (k + 1) _ hI3
      rw [show (((k + 1 : Nat)) : Int) = (k : Int) + 1 from by omega] at HL2
      have HL3 := hide HL2
      have HN3 := hide hcn3
      have HI3 := hide hI3
      clear HL2 hcn3 hI3
      cases b
      all_goals
        go_wp2_with (go_at_call 22; refine (unhide HL3).mono ?_; rintro e w4 ⟨r', rfl, hr3, q', rfl⟩)
        go_roundw
        case rel =>
          refine ⟨k + 1, r', rfl, ?_, hr3, by omega, ?_⟩
          · rw [unhide hst, unhide HN3]
            simp
          · rw [unhide hst]
            exact hide (unhide hId _ _ _ (unhide HI3))
        case measure => exact hr3.next hkr (unhide htight)

set_option maxHeartbeats 1000000 in
theorem each_Has (w : World) (p q : Value) (m : Nat → Bool) (room : Nat) (I : List Nat → World → Prop) (cn : List Nat → Nat) (hr : room ≤ 70000) (htight : Hid (∀ k, m k = true → k < room))
    (hcn : Hid (∀ xs : List Nat, cn xs ≤ xs.length)) (hc0 : Hid (cn [] = 0)) (hI0 : Hid (I [] w)) (hId : Hid (∀ xs W q, I xs W → I xs (W.drewN q)))
    (hleast : Hid (∀ (W : World) (f : Nat) (xs : List Nat), I xs W → Calls Tryd.prog 22 #[q, .int .i64 f] W fun e w' => ∃ r, e = .returned (.int .i64 r) ∧ IsLeast m f r ∧ ∃ q, w' = W.drewN q))
    (hdo : Hid (∀ (W : World) (k : Nat) (xs : List Nat), I xs W → m k = true → k < room → (∀ x, x ∈ xs → x < k) → Calls Tryd.prog 21 #[p, .int .i64 k] W fun e w' => ∃ b : Bool, e = .returned (.bool b) ∧ I (xs ++ [k]) w' ∧ cn (xs ++ [k]) = cn xs + (if b then 1 else 0))) :
    Calls Tryd.prog 26 #[p, q, .func (.func 21) #[] #[]] w fun e w' => e = .returned (.int .i64 (cn (Bm.below m room) : Nat)) ∧ I (Bm.below m room) w' := by
  have HL := hide (unhide hleast w 0 [] (unhide hI0))
  go_enter Tryd.func26, Tryd.ntmps26
  go_wp2_with (go_at_call 22; refine (unhide HL).mono ?_; rintro e w2 ⟨r, rfl, hr1, q1, rfl⟩)
  go_loopw [7, 8] (fun cv kk wr => ∃ (f : Nat) (r : Int), kk = .int .i64 r ∧ cv = .int .i64 (cn (Bm.below m f) : Nat) ∧ IsLeast m f r ∧ f ≤ room ∧ Hid (I (Bm.below m f) wr)) (fun _ kk _ => lm room kk)
  case atStart => exact ⟨0, r, rfl, by rw [Bm.below_zero, unhide hc0]; rfl, hr1, Nat.zero_le _, hide (by rw [Bm.below_zero]; exact unhide hId _ _ _ (unhide hI0))⟩
  case round =>
    obtain ⟨f, r, rfl, rfl, hr2, hf, hI⟩ := hrel
    rcases hr2 with ⟨rfl, hnone⟩ | ⟨k, rfl, hfk, hmk, hno⟩
    · have HN := hide hnone
      clear hnone
      go_wp2
      go_ret
      rw [Bm.below_stay m f room hf (fun j h1 _ => unhide HN j h1)]
      exact ⟨rfl, unhide hI⟩
    · have hkr : k < room := unhide htight k hmk
      have hst := hide (Bm.below_step m f k hfk hno hmk)
      have hbl := Bm.below_le m f
      have hcl := unhide hcn (Bm.below m f)
      have HD := hide (unhide hdo wr k _ (unhide hI) hmk hkr (fun x hx => by have := ((Bm.mem_below m f x).1 hx).1; omega))
      clear hno hmk
      generalize hxs : Bm.below m f = xs at *
      have HX := hide hxs
      clear hxs
      generalize hcx : cn xs = cx at *
      have HC := hide hcx
      clear hcx
      go_wp2_with fail
      refine (unhide HD).mono ?_
      rintro e w3 ⟨b, rfl, hI3, hcn3⟩
      have HL2 := unhide hleast w3 (k + 1) _ hI3
      rw [show (((k + 1 : Nat)) : Int) = (k : Int) + 1 from by omega] at HL2
      have HL3 := hide HL2
      have HN3 := hide hcn3
      have HI3 := hide hI3
      clear HL2 hcn3 hI3
      cases b
      all_goals
        go_wp2_with (go_at_call 22; refine (unhide HL3).mono ?_; rintro e w4 ⟨r', rfl, hr3, q', rfl⟩)
        go_roundw
        case rel =>
          refine ⟨k + 1, r', rfl, ?_, hr3, by omega, ?_⟩
          · rw [unhide hst, unhide HN3]
            simp
          · rw [unhide hst]
            exact hide (unhide hId _ _ _ (unhide HI3))
        case measure => exact hr3.next hkr (unhide htight)

set_option maxHeartbeats 400000 in
theorem call_Join (w : World) (p q : Value) (c : Int) (R : World → Prop) (h : Calls Tryd.prog 26 #[p, q, .func (.func 19) #[] #[]] w fun e w' => e = .returned (.int .i64 c) ∧ R w') :
    Calls Tryd.prog 14 #[p, q] w fun e w' => e = .returned (.int .i64 c) ∧ R w' := by
  have H := hide h
  clear h
  go_enter Tryd.func14, Tryd.ntmps14
  go_wp2_with (go_at_call 26; refine (unhide H).mono ?_; rintro e w' ⟨rfl, hq⟩)
  go_ret
  exact ⟨rfl, hq⟩

set_option maxHeartbeats 400000 in
theorem call_Less (w : World) (p q : Value) (c : Int) (R : World → Prop) (h : Calls Tryd.prog 26 #[p, q, .func (.func 13) #[] #[]] w fun e w' => e = .returned (.int .i64 c) ∧ R w') :
    Calls Tryd.prog 15 #[p, q] w fun e w' => e = .returned (.int .i64 c) ∧ R w' := by
  have H := hide h
  clear h
  go_enter Tryd.func15, Tryd.ntmps15
  go_wp2_with (go_at_call 26; refine (unhide H).mono ?_; rintro e w' ⟨rfl, hq⟩)
  go_ret
  exact ⟨rfl, hq⟩

set_option maxHeartbeats 400000 in
theorem call_Common (w : World) (p q : Value) (c : Int) (R : World → Prop) (h : Calls Tryd.prog 26 #[p, q, .func (.func 21) #[] #[]] w fun e w' => e = .returned (.int .i64 c) ∧ R w') :
    Calls Tryd.prog 23 #[p, q] w fun e w' => e = .returned (.int .i64 c) ∧ R w' := by
  have H := hide h
  clear h
  go_enter Tryd.func23, Tryd.ntmps23
  go_wp2_with (go_at_call 26; refine (unhide H).mono ?_; rintro e w' ⟨rfl, hq⟩)
  go_ret
  exact ⟨rfl, hq⟩

theorem filter_snoc (p : Nat → Bool) (xs : List Nat) (k : Nat) : ((xs ++ [k]).filter p).length = (xs.filter p).length + (if p k then 1 else 0) := by
  rw [List.filter_append, List.length_append]
  congr 1
  cases h : p k <;> simp [h]

theorem mem_elems (ws : Nat → Nat) (room : Nat) (ht : ∀ k, Bm.mem ws k = true → k < room) (j : Nat) : decide (j ∈ elems ws room) = Bm.mem ws j := by
  unfold elems
  cases hm : Bm.mem ws j
  · simp [Bm.mem_below, hm]
  · simp [Bm.mem_below, hm, ht j hm]

/-- Join: all that t has, and there is room for, is in it; how many are new. -/
theorem join_set {w : World} {s b room n c : Nat} {ws : Nat → Nat} {t b' room' n' c' : Nat} {ws' : Nat → Nat} (h : SetAt w s b room n c ws) (h' : SetAt w t b' room' n' c' ws') (hT : Tab w) (h1 : t ≠ b) (h2 : b' ≠ b) :
    Calls Tryd.prog 14 #[.pointer (some ⟨s, 0, none⟩), .pointer (some ⟨t, 0, none⟩)] w fun e w' => e = .returned (.int .i64 (((elems ws' room').filter (fun k => decide (k < room) && !Bm.mem ws k)).length : Nat)) ∧
      ∃ ws2, SetAt w' s b room n c ws2 ∧ (∀ j, Bm.mem ws2 j = (Bm.mem ws j || (Bm.mem ws' j && decide (j < room)))) ∧ Kept [b] w w' := by
  refine call_Join w _ _ _ _ ?_
  have hb0 : 0 ∉ [b] := by have := h.b0; simpa using fun e => this e.symm
  refine (each_Put w (.pointer (some ⟨s, 0, none⟩)) (.pointer (some ⟨t, 0, none⟩)) (Bm.mem ws') room'
    (fun xs W => ∃ ws2, SetAt W s b room n c ws2 ∧ (∀ j, Bm.mem ws2 j = (Bm.mem ws j || (decide (j ∈ xs) && decide (j < room)))) ∧ Kept [b] w W)
    (fun xs => (xs.filter (fun k => decide (k < room) && !Bm.mem ws k)).length) h'.most (hide h'.tight) (hide (fun _ => List.length_filter_le _ _)) (hide rfl)
    (hide ⟨ws, h, fun j => by simp, Kept.refl _ _⟩) (hide (fun _ _ q ⟨ws2, a1, a2, a3⟩ => ⟨ws2, a1.drewN q, a2, a3.drewN q⟩)) (hide ?_) (hide ?_)).mono ?_
  · rintro W f xs ⟨ws2, a1, a2, a3⟩
    have := least_any (h'.kept a3 (by simpa using h1) (by simpa using h2)) (hT.kept a3 hb0) (f : Int)
    rw [Int.toNat_natCast] at this
    exact this
  · rintro W k xs ⟨ws2, a1, a2, a3⟩ hmk hkr hlt
    refine (put_any a1 (k : Int)).mono ?_
    rintro e W' ⟨rfl, b1, b2⟩
    have hnk : k ∉ xs := fun hk => by have := hlt k hk; omega
    have hm2 : Bm.mem ws2 k = Bm.mem ws k := by rw [a2]; simp [hnk]
    refine ⟨_, rfl, ⟨_, b1, fun j => ?_, a3.trans b2⟩, ?_⟩
    · rw [mem_putS, a2]
      by_cases e : j = k
      · subst e; simp [hnk]
      · have : ¬ (j : Int) = (k : Int) := by omega
        simp [e, this]
    · rw [filter_snoc]
      congr 1
      unfold putAns
      simp [hm2]
  · rintro e W ⟨rfl, ws2, a1, a2, a3⟩
    refine ⟨rfl, ws2, a1, fun j => ?_, a3⟩
    rw [a2]
    have := mem_elems ws' room' h'.tight j
    unfold elems at this
    rw [this]

/-- Less: all that t has is not in it; how many were. -/
theorem less_set {w : World} {s b room n c : Nat} {ws : Nat → Nat} {t b' room' n' c' : Nat} {ws' : Nat → Nat} (h : SetAt w s b room n c ws) (h' : SetAt w t b' room' n' c' ws') (hT : Tab w) (h1 : t ≠ b) (h2 : b' ≠ b) :
    Calls Tryd.prog 15 #[.pointer (some ⟨s, 0, none⟩), .pointer (some ⟨t, 0, none⟩)] w fun e w' => e = .returned (.int .i64 (((elems ws' room').filter (fun k => Bm.mem ws k)).length : Nat)) ∧
      ∃ ws2, SetAt w' s b room n c ws2 ∧ (∀ j, Bm.mem ws2 j = (Bm.mem ws j && !Bm.mem ws' j)) ∧ Kept [b] w w' := by
  refine call_Less w _ _ _ _ ?_
  have hb0 : 0 ∉ [b] := by have := h.b0; simpa using fun e => this e.symm
  refine (each_Drop w (.pointer (some ⟨s, 0, none⟩)) (.pointer (some ⟨t, 0, none⟩)) (Bm.mem ws') room'
    (fun xs W => ∃ ws2, SetAt W s b room n c ws2 ∧ (∀ j, Bm.mem ws2 j = (Bm.mem ws j && !decide (j ∈ xs))) ∧ Kept [b] w W)
    (fun xs => (xs.filter (fun k => Bm.mem ws k)).length) h'.most (hide h'.tight) (hide (fun _ => List.length_filter_le _ _)) (hide rfl)
    (hide ⟨ws, h, fun j => by simp, Kept.refl _ _⟩) (hide (fun _ _ q ⟨ws2, a1, a2, a3⟩ => ⟨ws2, a1.drewN q, a2, a3.drewN q⟩)) (hide ?_) (hide ?_)).mono ?_
  · rintro W f xs ⟨ws2, a1, a2, a3⟩
    have := least_any (h'.kept a3 (by simpa using h1) (by simpa using h2)) (hT.kept a3 hb0) (f : Int)
    rw [Int.toNat_natCast] at this
    exact this
  · rintro W k xs ⟨ws2, a1, a2, a3⟩ hmk hkr hlt
    refine (drop_any a1 (k : Int)).mono ?_
    rintro e W' ⟨rfl, b1, b2⟩
    have hnk : k ∉ xs := fun hk => by have := hlt k hk; omega
    have hm2 : Bm.mem ws2 k = Bm.mem ws k := by rw [a2]; simp [hnk]
    refine ⟨_, rfl, ⟨_, b1, fun j => ?_, a3.trans b2⟩, ?_⟩
    · rw [mem_dropS, a2]
      by_cases e : j = k
      · subst e; simp
      · have : ¬ (j : Int) = (k : Int) := by omega
        simp [e, this]
    · rw [filter_snoc]
      congr 1
      unfold hasI
      simp [hm2]
  · rintro e W ⟨rfl, ws2, a1, a2, a3⟩
    refine ⟨rfl, ws2, a1, fun j => ?_, a3⟩
    rw [a2]
    have := mem_elems ws' room' h'.tight j
    unfold elems at this
    rw [this]

/-- Common: how many both have. -/
theorem common_set {w : World} {s b room n c : Nat} {ws : Nat → Nat} {t b' room' n' c' : Nat} {ws' : Nat → Nat} (h : SetAt w s b room n c ws) (h' : SetAt w t b' room' n' c' ws') (hT : Tab w) :
    Calls Tryd.prog 23 #[.pointer (some ⟨s, 0, none⟩), .pointer (some ⟨t, 0, none⟩)] w fun e w' => e = .returned (.int .i64 (((elems ws' room').filter (fun k => Bm.mem ws k)).length : Nat)) ∧ Kept [] w w' := by
  refine call_Common w _ _ _ _ ?_
  refine each_Has w (.pointer (some ⟨s, 0, none⟩)) (.pointer (some ⟨t, 0, none⟩)) (Bm.mem ws') room' (fun _ W => Kept [] w W)
    (fun xs => (xs.filter (fun k => Bm.mem ws k)).length) h'.most (hide h'.tight) (hide (fun _ => List.length_filter_le _ _)) (hide rfl)
    (hide (Kept.refl _ _)) (hide (fun _ _ q a => a.drewN q)) (hide ?_) (hide ?_)
  · intro W f xs a
    have := least_any (h'.kept a (by simp) (by simp)) (hT.kept a (by simp)) (f : Int)
    rw [Int.toNat_natCast] at this
    exact this
  · intro W k xs a hmk hkr hlt
    refine (has_any (h.kept a (by simp) (by simp)) (k : Int)).mono ?_
    rintro e W' ⟨rfl, q, rfl⟩
    refine ⟨_, rfl, a.drewN q, ?_⟩
    rw [filter_snoc]
    simp [hasI]

theorem least_false (w : World) : Hid (∀ (W : World) (f : Nat) (_ : List Nat), Kept [] w W → Calls Tryd.prog 22 #[.pointer none, .int .i64 f] W fun e w' => ∃ r, e = .returned (.int .i64 r) ∧ IsLeast (fun _ => false) f r ∧ ∃ q, w' = W.drewN q) :=
  fun W f _ _ => (least_nil W f).mono fun _ _ h => ⟨-1, h.1, Or.inl ⟨rfl, fun _ _ => rfl⟩, h.2⟩
theorem least_kept {w : World} {t b' room' n' c' : Nat} {ws' : Nat → Nat} (h' : SetAt w t b' room' n' c' ws') (hT : Tab w) :
    Hid (∀ (W : World) (f : Nat) (_ : List Nat), Kept [] w W → Calls Tryd.prog 22 #[.pointer (some ⟨t, 0, none⟩), .int .i64 f] W fun e w' => ∃ r, e = .returned (.int .i64 r) ∧ IsLeast (Bm.mem ws') f r ∧ ∃ q, w' = W.drewN q) := by
  intro W f xs a
  have := least_any (h'.kept a (by simp) (by simp)) (hT.kept a (by simp)) (f : Int)
  rw [Int.toNat_natCast] at this
  exact this

/-- nil counts as empty. -/
theorem join_nil {w : World} {t b' room' n' c' : Nat} {ws' : Nat → Nat} (h' : SetAt w t b' room' n' c' ws') (hT : Tab w) :
    Calls Tryd.prog 14 #[.pointer none, .pointer (some ⟨t, 0, none⟩)] w fun e w' => e = .returned (.int .i64 0) ∧ Kept [] w w' := by
  refine call_Join w _ _ _ _ ?_
  exact each_Put w (.pointer none) _ (Bm.mem ws') room' (fun _ W => Kept [] w W) (fun _ => 0) h'.most (hide h'.tight) (hide (fun _ => Nat.zero_le _)) (hide rfl) (hide (Kept.refl _ _)) (hide (fun _ _ q a => a.drewN q)) (least_kept h' hT)
    (hide fun W k _ a _ _ _ => (put_nil k W).mono (by rintro e W' ⟨rfl, q, rfl⟩; exact ⟨false, rfl, a.drewN q, rfl⟩))
theorem less_nil {w : World} {t b' room' n' c' : Nat} {ws' : Nat → Nat} (h' : SetAt w t b' room' n' c' ws') (hT : Tab w) :
    Calls Tryd.prog 15 #[.pointer none, .pointer (some ⟨t, 0, none⟩)] w fun e w' => e = .returned (.int .i64 0) ∧ Kept [] w w' := by
  refine call_Less w _ _ _ _ ?_
  exact each_Drop w (.pointer none) _ (Bm.mem ws') room' (fun _ W => Kept [] w W) (fun _ => 0) h'.most (hide h'.tight) (hide (fun _ => Nat.zero_le _)) (hide rfl) (hide (Kept.refl _ _)) (hide (fun _ _ q a => a.drewN q)) (least_kept h' hT)
    (hide fun W k _ a _ _ _ => (drop_nil k W).mono (by rintro e W' ⟨rfl, q, rfl⟩; exact ⟨false, rfl, a.drewN q, rfl⟩))
theorem common_nil {w : World} {t b' room' n' c' : Nat} {ws' : Nat → Nat} (h' : SetAt w t b' room' n' c' ws') (hT : Tab w) :
    Calls Tryd.prog 23 #[.pointer none, .pointer (some ⟨t, 0, none⟩)] w fun e w' => e = .returned (.int .i64 0) ∧ Kept [] w w' := by
  refine call_Common w _ _ _ _ ?_
  exact each_Has w (.pointer none) _ (Bm.mem ws') room' (fun _ W => Kept [] w W) (fun _ => 0) h'.most (hide h'.tight) (hide (fun _ => Nat.zero_le _)) (hide rfl) (hide (Kept.refl _ _)) (hide (fun _ _ q a => a.drewN q)) (least_kept h' hT)
    (hide fun W k _ a _ _ _ => (has_nil k W).mono (by rintro e W' ⟨rfl, q, rfl⟩; exact ⟨false, rfl, a.drewN q, rfl⟩))
/-- With nil nothing is new, nothing in common: whatever the set is. -/
theorem join_with_nil (w : World) (p : Value) : Calls Tryd.prog 14 #[p, .pointer none] w fun e w' => e = .returned (.int .i64 0) ∧ Kept [] w w' := by
  refine call_Join w _ _ _ _ ?_
  exact each_Put w p _ (fun _ => false) 0 (fun _ W => Kept [] w W) (fun _ => 0) (by omega) (hide (by simp)) (hide (fun _ => Nat.zero_le _)) (hide rfl) (hide (Kept.refl _ _)) (hide (fun _ _ q a => a.drewN q)) (least_false w)
    (hide fun _ _ _ _ h _ _ => by simp at h)
theorem common_with_nil (w : World) (p : Value) : Calls Tryd.prog 23 #[p, .pointer none] w fun e w' => e = .returned (.int .i64 0) ∧ Kept [] w w' := by
  refine call_Common w _ _ _ _ ?_
  exact each_Has w p _ (fun _ => false) 0 (fun _ W => Kept [] w W) (fun _ => 0) (by omega) (hide (by simp)) (hide (fun _ => Nat.zero_le _)) (hide rfl) (hide (Kept.refl _ _)) (hide (fun _ _ q a => a.drewN q)) (least_false w)
    (hide fun _ _ _ _ h _ _ => by simp at h)
end Go.Proofs.YtmcgeadpoiihkaaDoor
