/-
  Of no function, for layer 14: a tiny's estimate is never below an exact's ('Dom'); where keys are apart it is the same ('Same').
-/
import Derived.Test.YtnhpcjiieagjnaaDoorTp
import Derived.Test.YtnhpcjiieagjnaaDoorRkAwake
namespace Go.Proofs.YtnhpcjiieagjnaaDoor
open nb (ct addAt mayAdd)
open rk (Ez comeE addE es0 estE come_num come_came Low runE run_next run_cnt)
/-! never too little -/
/-- the tiny has each number, and each key that came. -/
structure Dom (c : Cs) (z : Zs) (e : Ez) : Prop where
  num : ∀ x, e.num x ≤ cntZ c x z.f
  came : ∀ x, e.came x = true → hasZ c x z.bs = true
  cnt : z.cnt = e.cnt
theorem Dom.est {c : Cs} {z : Zs} {e : Ez} (h : Dom c z e) (x : Nat) : estE x e ≤ estZ c x z := by
  have h1 := h.num x
  have h2 := h.came x
  unfold estE estZ
  by_cases hc : e.came x = true
  · rw [if_pos hc, if_pos (h2 hc)]; omega
  · rw [if_neg hc]; omega
theorem Dom.start (c : Cs) : Dom c (zs0 c) es0 := ⟨fun _ => Nat.zero_le _, fun _ h => absurd h (by simp [es0]), rfl⟩
theorem come_f (c : Cs) (x : Nat) (z : Zs) : (comeZ c x z).f = if hasZ c x z.bs = true then addsZ c x z.f else z.f := rfl
theorem come_bs (c : Cs) (x : Nat) (z : Zs) : (comeZ c x z).bs = putZ c x z.bs := rfl
theorem cnt_mono {c : Cs} {z : Zs} (hF : Fine c z) (x y : Nat) : cntZ c y z.f ≤ cntZ c y (comeZ c x z).f := by
  rw [come_f]
  split
  · exact cnt_ge hF x y
  · exact Nat.le_refl _
theorem Dom.come {c : Cs} {z : Zs} {e : Ez} (hF : Fine c z) (h : Dom c z e) (x : Nat) : (∀ k, (comeE x e).num k ≤ cntZ c k (comeZ c x z).f) ∧ ∀ k, (comeE x e).came k = true → hasZ c k (comeZ c x z).bs = true := by
  refine ⟨fun k => ?_, fun k hk => ?_⟩
  · rw [come_num]
    split
    · rename_i hk
      obtain ⟨rfl, hk⟩ := hk
      rw [come_f, if_pos (h.came _ hk), cnt_adds hF]
      have := h.num k
      omega
    · exact Nat.le_trans (h.num k) (cnt_mono hF x k)
  · rw [come_bs]
    rw [come_came] at hk
    by_cases e1 : k = x
    · subst e1; exact has_put hF k
    · rw [if_neg e1] at hk
      exact has_keep hF x k (h.came k hk)
theorem Dom.add {c : Cs} {z : Zs} {e : Ez} (hF : Fine c z) (h : Dom c z e) (x : Nat) : Dom c (addZ c x z) (addE c.lim x e) := by
  obtain ⟨h1, h2⟩ := h.come hF x
  have h3 := h.cnt
  unfold addZ addE
  rw [← h3]
  by_cases hl : z.cnt + 1 = c.lim
  · rw [if_pos hl, if_pos hl]
    refine ⟨fun k => ?_, fun k hk => absurd hk (by simp), rfl⟩
    show (comeE x e).num k / 2 ≤ cntZ c k (halvesZ (comeZ c x z).f)
    rw [cnt_half (hF.come x).low]
    have := h1 k
    omega
  · rw [if_neg hl, if_neg hl]
    exact ⟨h1, h2, rfl⟩
/-! where keys are apart -/
/-- in row i no other key of l stands where x does. -/
def aloneS (c : Cs) (l : List Nat) (x i : Nat) : Prop := i < 4 ∧ ∀ y ∈ l, y ≠ x → sk.plN c.seed c.n y i ≠ sk.plN c.seed c.n x i
/-- x's place i in the door is none of another key's of l. -/
def aloneD (c : Cs) (l : List Nat) (x i : Nat) : Prop := i < 4 ∧ ∀ y ∈ l, y ≠ x → ∀ j, j < 4 → dr.plN (dr.mixF c.seed) (8 * c.m) y j ≠ dr.plN (dr.mixF c.seed) (8 * c.m) x i
def Lone (c : Cs) (l : List Nat) : Prop := ∀ x ∈ l, (∃ i, aloneS c l x i) ∧ ∃ i, aloneD c l x i
/-- at each place of a key's own stands its number, its bit. -/
structure Same (c : Cs) (l : List Nat) (z : Zs) (e : Ez) : Prop where
  dom : Dom c z e
  low : Low e
  row : ∀ x ∈ l, ∀ i, aloneS c l x i → ct (z.f i) (sk.plN c.seed c.n x i) = e.num x
  bit : ∀ x ∈ l, ∀ i, aloneD c l x i → dr.bt z.bs (dr.plN (dr.mixF c.seed) (8 * c.m) x i) = if e.came x = true then 1 else 0
theorem Same.start (c : Cs) (l : List Nat) : Same c l (zs0 c) es0 :=
  ⟨Dom.start c, fun _ => Nat.zero_le _, fun _ _ _ _ => nb.ct_zeros c.n _, fun _ _ _ _ => dr.bt_zeros c.m _⟩
theorem cnt_row (c : Cs) (x : Nat) (f : Nat → List Nat) (i : Nat) (hi : i < 4) : cntZ c x f ≤ ct (f i) (sk.plN c.seed c.n x i) := by
  rw [cnt_four]
  rcases (show i = 0 ∨ i = 1 ∨ i = 2 ∨ i = 3 by omega) with rfl | rfl | rfl | rfl <;> omega
theorem Same.num {c : Cs} {l : List Nat} {z : Zs} {e : Ez} (h : Same c l z e) (hL : Lone c l) (x : Nat) (hx : x ∈ l) : cntZ c x z.f = e.num x := by
  obtain ⟨⟨i, hi⟩, _⟩ := hL x hx
  have h1 := h.row x hx i hi
  have h2 := cnt_row c x z.f i hi.1
  have h3 := h.dom.num x
  omega
theorem Same.came {c : Cs} {l : List Nat} {z : Zs} {e : Ez} (h : Same c l z e) (hL : Lone c l) (x : Nat) (hx : x ∈ l) : hasZ c x z.bs = e.came x := by
  obtain ⟨_, i, hi⟩ := hL x hx
  have h1 := h.bit x hx i hi
  cases hc : e.came x
  · rw [hc, if_neg (by decide)] at h1
    exact dr.has_false i hi.1 h1
  · exact h.dom.came x hc
theorem Same.est {c : Cs} {l : List Nat} {z : Zs} {e : Ez} (h : Same c l z e) (hL : Lone c l) (x : Nat) (hx : x ∈ l) : estZ c x z = estE x e := by
  unfold estZ estE
  rw [h.num hL x hx, h.came hL x hx]
theorem Same.add {c : Cs} {l : List Nat} {z : Zs} {e : Ez} (hF : Fine c z) (hL : Lone c l) (h : Same c l z e) (y : Nat) (hy : y ∈ l) : Same c l (addZ c y z) (addE c.lim y e) := by
  have hd := h.dom.add hF y
  have hlo := h.low.add c.lim y
  have hcy := h.came hL y hy
  -- ahead of the aging
  have hrow : ∀ x ∈ l, ∀ i, aloneS c l x i → ct ((comeZ c y z).f i) (sk.plN c.seed c.n x i) = (comeE y e).num x := fun x hx i hi => by
    have h1 := h.row x hx i hi
    rw [come_f, come_num, hcy]
    by_cases hc : e.came y = true
    · rw [if_pos hc]
      by_cases exy : x = y
      · subst exy
        rw [if_pos ⟨rfl, hc⟩, adds_at hF x i hi.1, h1]
      · rw [if_neg (fun h => exy h.1)]
        show ct (addAt (z.f i) _) _ = _
        rw [ct_addAt _ _ (pl_lt c z hF y i hi.1) (hF.low i _ hi.1), if_neg (fun h => hi.2 y hy (fun e => exy e.symm) h.symm)]
        exact h1
    · rw [if_neg hc, if_neg (fun h => hc h.2)]
      exact h1
  have hbit : ∀ x ∈ l, ∀ i, aloneD c l x i → dr.bt (comeZ c y z).bs (dr.plN (dr.mixF c.seed) (8 * c.m) x i) = if (comeE y e).came x = true then 1 else 0 := fun x hx i hi => by
    have h1 := h.bit x hx i hi
    rw [come_bs, come_came]
    show dr.bt (dr.putB _ z.bs) _ = _
    unfold dr.putB
    by_cases exy : x = y
    · subst exy
      rw [if_pos rfl, if_pos rfl]
      split
      · rename_i hh
        exact dr.has_at hh i hi.1
      · rw [dr.bt_putTo _ z.bs (pd_lt hF x), if_pos ⟨i, hi.1, rfl⟩]
    · rw [if_neg exy]
      split
      · exact h1
      · rw [dr.bt_putTo _ z.bs (pd_lt hF y), if_neg (fun ⟨j, hj, e1⟩ => hi.2 y hy (fun e => exy e.symm) j hj e1.symm)]
        exact h1
  refine ⟨hd, hlo, ?_, ?_⟩
  · intro x hx i hi
    have := hrow x hx i hi
    unfold addZ addE
    rw [← h.dom.cnt]
    by_cases hl : z.cnt + 1 = c.lim
    · rw [if_pos hl, if_pos hl]
      show ct (halvesZ (comeZ c y z).f i) _ = (comeE y e).num x / 2
      rw [show ct (halvesZ (comeZ c y z).f i) (sk.plN c.seed c.n x i) = ct ((comeZ c y z).f i) (sk.plN c.seed c.n x i) / 2 from nb.ct_half _ _, this]
    · rw [if_neg hl, if_neg hl]
      exact this
  · intro x hx i hi
    have := hbit x hx i hi
    unfold addZ addE
    rw [← h.dom.cnt]
    by_cases hl : z.cnt + 1 = c.lim
    · rw [if_pos hl, if_pos hl]
      exact dr.bt_zeros c.m _
    · rw [if_neg hl, if_neg hl]
      exact this
end Go.Proofs.YtnhpcjiieagjnaaDoor
