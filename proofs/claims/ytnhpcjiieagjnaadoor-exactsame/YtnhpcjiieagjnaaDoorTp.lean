/-
  P13.3 of no function: how an estimate rises, falls by half when all is aged, and is none at the start.
-/
import Derived.Test.YtnhpcjiieagjnaaDoorTn
namespace Go.Proofs.YtnhpcjiieagjnaaDoor
open Go.RowKit
open nb (Keep ct cell_of frozen_of heap_set heap_set_other heap_old heap_next heap_lt addAt mayAdd)
/-- rows and bytes of their lengths, counters of four bits. -/
structure Fine (c : Cs) (z : Zs) : Prop where
  len : ∀ i, i < 4 → (z.f i).length = c.n
  low : ∀ i j, i < 4 → ct (z.f i) j ≤ 15
  n0 : 0 < c.n
  bl : z.bs.length = c.m
  m0 : 0 < c.m
theorem At.fine {w0 W : World} {a : Ad} {c : Cs} {z : Zs} (h : At w0 a c z W) : Fine c z :=
  ⟨h.s.sk.len, fun i j hi => (h.s.sk.row i hi).low j, h.s.sk.pos, h.ln, h.ln ▸ h.d.dr.pos⟩
/-- the four counters of a key. -/
theorem cnt_four (c : Cs) (x : Nat) (f : Nat → List Nat) : cntZ c x f = min (min (min (min 15 (ct (f 0) (sk.plN c.seed c.n x 0))) (ct (f 1) (sk.plN c.seed c.n x 1))) (ct (f 2) (sk.plN c.seed c.n x 2))) (ct (f 3) (sk.plN c.seed c.n x 3)) := rfl
theorem ct_addAt (cs : List Nat) (p : Nat) (hp : p < cs.length) (hl : ct cs p ≤ 15) (j : Nat) : ct (addAt cs (p : Int)) j = if j = p then min 15 (ct cs p + 1) else ct cs j := by
  unfold addAt
  by_cases hm : mayAdd cs (p : Int) = true
  · rw [if_pos hm]
    have h := of_decide_eq_true hm
    simp only [Int.toNat_natCast] at h ⊢
    rw [nb.ct_set cs _ _ hp]
    split <;> omega
  · rw [if_neg hm]
    have h : ¬ (0 ≤ (p : Int) ∧ (p : Int) < cs.length ∧ ct cs (p : Int).toNat < 15) := fun h' => hm (decide_eq_true h')
    simp only [Int.toNat_natCast] at h
    split
    · rename_i e; subst e; omega
    · rfl
theorem pl_lt (c : Cs) (z : Zs) (h : Fine c z) (x i : Nat) (hi : i < 4) : sk.plN c.seed c.n x i < (z.f i).length := by
  rw [h.len i hi]
  exact sk.plN_lt _ _ _ _ h.n0
theorem adds_at {c : Cs} {z : Zs} (h : Fine c z) (x i : Nat) (hi : i < 4) : ct (addsZ c x z.f i) (sk.plN c.seed c.n x i) = min 15 (ct (z.f i) (sk.plN c.seed c.n x i) + 1) := by
  show ct (addAt (z.f i) _) _ = _
  rw [ct_addAt _ _ (pl_lt c z h x i hi) (h.low i _ hi), if_pos rfl]
theorem adds_ge {c : Cs} {z : Zs} (h : Fine c z) (x i j : Nat) (hi : i < 4) : ct (z.f i) j ≤ ct (addsZ c x z.f i) j ∧ ct (addsZ c x z.f i) j ≤ 15 := by
  show ct (z.f i) j ≤ ct (addAt (z.f i) _) j ∧ ct (addAt (z.f i) _) j ≤ 15
  have h1 := h.low i j hi
  have h2 := h.low i (sk.plN c.seed c.n x i) hi
  rw [ct_addAt _ _ (pl_lt c z h x i hi) h2]
  split
  · rename_i e; subst e; omega
  · omega
theorem cnt_adds {c : Cs} {z : Zs} (h : Fine c z) (x : Nat) : cntZ c x (addsZ c x z.f) = min 15 (cntZ c x z.f + 1) := by
  rw [cnt_four, cnt_four, adds_at h x 0 (by decide), adds_at h x 1 (by decide), adds_at h x 2 (by decide), adds_at h x 3 (by decide)]
  omega
theorem cnt_ge {c : Cs} {z : Zs} (h : Fine c z) (x y : Nat) : cntZ c y z.f ≤ cntZ c y (addsZ c x z.f) := by
  rw [cnt_four, cnt_four]
  have h0 := (adds_ge h x 0 (sk.plN c.seed c.n y 0) (by decide)).1
  have h1 := (adds_ge h x 1 (sk.plN c.seed c.n y 1) (by decide)).1
  have h2 := (adds_ge h x 2 (sk.plN c.seed c.n y 2) (by decide)).1
  have h3 := (adds_ge h x 3 (sk.plN c.seed c.n y 3) (by decide)).1
  omega
theorem cnt_half {c : Cs} {f : Nat → List Nat} (h : ∀ i j, i < 4 → ct (f i) j ≤ 15) (x : Nat) : cntZ c x (halvesZ f) = cntZ c x f / 2 := by
  rw [cnt_four, cnt_four]
  have e : ∀ i j, ct (halvesZ f i) j = ct (f i) j / 2 := fun i j => nb.ct_half (f i) j
  rw [e, e, e, e]
  have h0 := h 0 (sk.plN c.seed c.n x 0) (by decide)
  omega
theorem cnt_none (c : Cs) (x : Nat) : cntZ c x (zerosS c) = 0 := by
  rw [cnt_four]
  have e : ∀ i j, ct (zerosS c i) j = 0 := fun i j => nb.ct_zeros c.n j
  rw [e, e, e, e]
  rfl
theorem has_none (c : Cs) (x : Nat) : hasZ c x (zerosD c) = false := dr.has_false 0 (by decide) (dr.bt_zeros c.m _)
theorem pd_lt {c : Cs} {z : Zs} (h : Fine c z) (x i : Nat) : dr.plN (dr.mixF c.seed) (8 * c.m) x i < 8 * z.bs.length := by
  rw [h.bl]
  exact dr.plN_lt _ _ _ _ (by have := h.m0; omega)
/-- what was put is there. -/
theorem has_put {c : Cs} {z : Zs} (h : Fine c z) (x : Nat) : hasZ c x (putZ c x z.bs) = true := by
  show dr.hasB _ (dr.putB _ z.bs) = true
  unfold dr.putB
  split
  · assumption
  · exact dr.has_true fun i hi => by rw [dr.bt_putTo _ z.bs (pd_lt h x), if_pos ⟨i, hi, rfl⟩]
/-- .. and what was there still is. -/
theorem has_keep {c : Cs} {z : Zs} (h : Fine c z) (x y : Nat) (hy : hasZ c y z.bs = true) : hasZ c y (putZ c x z.bs) = true := by
  show dr.hasB _ (dr.putB _ z.bs) = true
  unfold dr.putB
  split
  · exact hy
  · refine dr.has_true fun i hi => ?_
    rw [dr.bt_putTo _ z.bs (pd_lt h x)]
    split
    · rfl
    · exact dr.has_at hy i hi
theorem Fine.come {c : Cs} {z : Zs} (h : Fine c z) (x : Nat) : Fine c (comeZ c x z) := by
  have hl : (dr.putB (dr.plN (dr.mixF c.seed) (8 * c.m) x) z.bs).length = c.m := by rw [dr.putB_len]; exact h.bl
  refine ⟨fun i hi => ?_, fun i j hi => ?_, h.n0, hl, h.m0⟩
  · show List.length ((if hasZ c x z.bs = true then addsZ c x z.f else z.f) i) = c.n
    split
    · exact (nb.addAt_len _ _).trans (h.len i hi)
    · exact h.len i hi
  · show ct ((if hasZ c x z.bs = true then addsZ c x z.f else z.f) i) j ≤ 15
    split
    · exact (adds_ge h x i j hi).2
    · exact h.low i j hi
theorem Fine.age {c : Cs} {z : Zs} (h : Fine c z) : Fine c (ageZ c z) :=
  ⟨fun i hi => (List.length_map _).trans (h.len i hi), fun i j hi => by
    have := h.low i j hi
    show ct (halvesZ z.f i) j ≤ 15
    rw [show ct (halvesZ z.f i) j = ct (z.f i) j / 2 from nb.ct_half (z.f i) j]
    omega, h.n0, List.length_replicate .., h.m0⟩
theorem Fine.add {c : Cs} {z : Zs} (h : Fine c z) (x : Nat) : Fine c (addZ c x z) := by
  unfold addZ
  split
  · exact (h.come x).age
  · exact ⟨(h.come x).len, (h.come x).low, h.n0, (h.come x).bl, h.m0⟩
theorem Fine.push {c : Cs} : ∀ {l : List Nat} {z : Zs}, Fine c z → Fine c (pushZ c l z)
  | [], _, h => h
  | x :: l, _, h => (h.add x).push (l := l)
theorem Fine.start (c : Int) (seed : Nat) : Fine (csN c seed) (zs0 (csN c seed)) :=
  ⟨fun _ _ => List.length_replicate .., fun i j _ => by
    show ct (zerosS _ i) j ≤ 15
    rw [show ct (zerosS (csN c seed) i) j = 0 from nb.ct_zeros _ j]
    omega, (sk.wdN_bd _).1, List.length_replicate .., (dr.bdN_bd _).2.1⟩
/-- the key that comes. -/
theorem est_come {c : Cs} {z : Zs} (h : Fine c z) (x : Nat) : estZ c x (comeZ c x z) = min 16 (estZ c x z + 1) ∧ cntZ c x (comeZ c x z).f ≤ estZ c x z := by
  have h1 := has_put h x
  have h2 := cnt_adds h x
  have h3 := cnt_le c x z.f
  have e : (comeZ c x z).f = if hasZ c x z.bs = true then addsZ c x z.f else z.f := rfl
  have e2 : estZ c x (comeZ c x z) = cntZ c x (comeZ c x z).f + if hasZ c x (putZ c x z.bs) = true then 1 else 0 := rfl
  rw [e2, e, h1, if_pos rfl]
  unfold estZ
  by_cases hb : hasZ c x z.bs = true
  · rw [if_pos hb, if_pos hb, h2]
    omega
  · rw [if_neg hb, if_neg hb]
    omega
/-- .. and another. -/
theorem est_other {c : Cs} {z : Zs} (h : Fine c z) (x y : Nat) : estZ c y z ≤ estZ c y (comeZ c x z) := by
  have h2 := cnt_ge h x y
  have e : (comeZ c x z).f = if hasZ c x z.bs = true then addsZ c x z.f else z.f := rfl
  have e2 : estZ c y (comeZ c x z) = cntZ c y (comeZ c x z).f + if hasZ c y (putZ c x z.bs) = true then 1 else 0 := rfl
  rw [e2, e]
  unfold estZ
  have h3 : cntZ c y z.f ≤ cntZ c y (if hasZ c x z.bs = true then addsZ c x z.f else z.f) := by split <;> omega
  by_cases hy : hasZ c y z.bs = true
  · rw [if_pos hy, if_pos (has_keep h x y hy)]
    omega
  · rw [if_neg hy]
    omega
/-- P13.3. -/
theorem rises {c : Cs} {z : Zs} (h : Fine c z) (x y : Nat) :
    ((addZ c x z).aged = z.aged ∧ estZ c x (addZ c x z) = min 16 (estZ c x z + 1) ∧ estZ c y z ≤ estZ c y (addZ c x z)) ∨
    ((addZ c x z).aged = z.aged + 1 ∧ (addZ c x z).cnt = 0 ∧ estZ c x (addZ c x z) ≤ (estZ c x z + 1) / 2) := by
  unfold addZ
  by_cases hl : z.cnt + 1 = c.lim
  · rw [if_pos hl]
    refine .inr ⟨rfl, rfl, ?_⟩
    have e : estZ c x (ageZ c (comeZ c x z)) = cntZ c x (halvesZ (comeZ c x z).f) + if hasZ c x (zerosD c) = true then 1 else 0 := rfl
    rw [e, has_none, cnt_half (h.come x).low]
    have h1 := (est_come h x).2
    simp
    omega
  · rw [if_neg hl]
    refine .inl ⟨rfl, ?_, ?_⟩
    · exact (est_come h x).1
    · exact est_other h x y
theorem est_zero (c : Cs) (x g h : Nat) : estZ c x ⟨zerosS c, zerosD c, g, h⟩ = 0 := by
  have e : estZ c x ⟨zerosS c, zerosD c, g, h⟩ = cntZ c x (zerosS c) + if hasZ c x (zerosD c) = true then 1 else 0 := rfl
  rw [e, cnt_none, has_none]
  rfl
/-- the same key three times, at a limit of four. -/
theorem three {c : Cs} {z : Zs} (h : Fine c z) (hl : c.lim = 4) (h0 : z.cnt = 0) (x : Nat) (he : estZ c x z = 0) : estZ c x (pushZ c [x, x, x] z) = 3 ∧ (pushZ c [x, x, x] z).cnt = 3 := by
  have step : ∀ y : Zs, Fine c y → y.cnt < 3 → (addZ c x y).cnt = y.cnt + 1 ∧ estZ c x (addZ c x y) = min 16 (estZ c x y + 1) := fun y hy hc => by
    unfold addZ
    rw [if_neg (by omega)]
    exact ⟨rfl, (est_come hy x).1⟩
  obtain ⟨a1, b1⟩ := step z h (by omega)
  obtain ⟨a2, b2⟩ := step _ (h.add x) (by omega)
  obtain ⟨a3, b3⟩ := step _ ((h.add x).add x) (by omega)
  have e : pushZ c [x, x, x] z = addZ c x (addZ c x (addZ c x z)) := rfl
  rw [e]
  omega
end Go.Proofs.YtnhpcjiieagjnaaDoor
