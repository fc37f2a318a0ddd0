/-
  Of no function: a sketch's counters behind steps ('runF'), and how often a key came ('sim').
-/
import Derived.Test.YtljfidbplecggaaDoorDo
namespace Go.Proofs.YtljfidbplecggaaDoor
open nb (ct addAt mayAdd)
/-- the rows behind a step. -/
noncomputable def stepF (seed n : Nat) (f : Nat → List Nat) (k : Nat × Nat) : Nat → List Nat := if 6 ≤ k.1 % 8 then halves f else adds seed n k.2 f
/-- .. behind steps. -/
noncomputable def runF (seed n : Nat) (ks : List (Nat × Nat)) : Nat → List Nat := ks.foldl (stepF seed n) fun _ => List.replicate n 0
/-- how often a key came, as one who counts it alone says. -/
def simS (x c : Nat) (k : Nat × Nat) : Nat := if 6 ≤ k.1 % 8 then c / 2 else if k.2 = x then min 15 (c + 1) else c
def sim (x : Nat) (ks : List (Nat × Nat)) : Nat := ks.foldl (simS x) 0
/-- the keys that came. -/
def keys (ks : List (Nat × Nat)) : List Nat := (ks.filter fun k => decide (k.1 % 8 < 6)).map (·.2)
theorem runF_nil (seed n : Nat) : runF seed n [] = fun _ => List.replicate n 0 := rfl
theorem runF_snoc (seed n : Nat) (ks : List (Nat × Nat)) (k : Nat × Nat) : runF seed n (ks ++ [k]) = stepF seed n (runF seed n ks) k := by simp [runF]
theorem sim_snoc (x : Nat) (ks : List (Nat × Nat)) (k : Nat × Nat) : sim x (ks ++ [k]) = simS x (sim x ks) k := by simp [sim]
theorem keys_snoc (ks : List (Nat × Nat)) (k : Nat × Nat) : keys (ks ++ [k]) = if 6 ≤ k.1 % 8 then keys ks else keys ks ++ [k.2] := by
  unfold keys
  rw [List.filter_append, List.map_append]
  by_cases h : 6 ≤ k.1 % 8
  · rw [if_pos h, List.filter_cons_of_neg (by simpa using h)]; simp
  · rw [if_neg h, List.filter_cons_of_pos (by simp; omega)]; simp
theorem keys_len (ks : List (Nat × Nat)) : (keys ks).length ≤ ks.length := by unfold keys; rw [List.length_map]; exact List.length_filter_le _ _
/-- all rows of one width, no counter above 15. -/
def Inv (n : Nat) (f : Nat → List Nat) : Prop := ∀ i, i < 4 → (f i).length = n ∧ ∀ p, ct (f i) p ≤ 15
theorem ct_adds {seed n x : Nat} {f : Nat → List Nat} (hn : 0 < n) (i : Nat) (hl : (f i).length = n) (hc : ∀ p, ct (f i) p ≤ 15) (p : Nat) : ct (adds seed n x f i) p = if p = plN seed n x i then min 15 (ct (f i) p + 1) else ct (f i) p := by
  show ct (addAt (f i) _) p = _
  have hp := plN_lt seed n x i hn
  have hb := hc (plN seed n x i)
  unfold addAt
  by_cases hm : mayAdd (f i) (plN seed n x i : Int) = true
  · rw [if_pos hm]
    have := of_decide_eq_true hm
    rw [nb.ct_set _ _ _ (by omega)]
    have e : ((plN seed n x i : Int)).toNat = plN seed n x i := by omega
    rw [e] at this ⊢
    by_cases h : p = plN seed n x i
    · rw [if_pos h, if_pos h, h]; omega
    · rw [if_neg h, if_neg h]
  · rw [if_neg hm]
    by_cases h : p = plN seed n x i
    · rw [if_pos h, h]
      have h15 : ¬ ct (f i) (plN seed n x i) < 15 := fun h' => hm (decide_eq_true ⟨by omega, by omega, by simpa using h'⟩)
      omega
    · rw [if_neg h]
theorem ct_halves (f : Nat → List Nat) (i p : Nat) : ct (halves f i) p = ct (f i) p / 2 := nb.ct_half _ _
theorem Inv.zeros (n : Nat) : Inv n fun _ => List.replicate n 0 := fun _ _ => ⟨by simp, fun p => by rw [nb.ct_zeros]; omega⟩
theorem Inv.step {seed n : Nat} {f : Nat → List Nat} (h : Inv n f) (hn : 0 < n) (k : Nat × Nat) : Inv n (stepF seed n f k) := fun i hi => by
  obtain ⟨hl, hc⟩ := h i hi
  unfold stepF
  split
  · exact ⟨by simp [halves, hl], fun p => by rw [ct_halves]; have := hc p; omega⟩
  · refine ⟨by show (addAt _ _).length = n; rw [nb.addAt_len]; exact hl, fun p => ?_⟩
    rw [ct_adds hn i hl hc]
    have := hc p
    split <;> omega
/-- a counter behind a step. -/
theorem ct_step {seed n : Nat} {f : Nat → List Nat} (h : Inv n f) (hn : 0 < n) (k : Nat × Nat) (i p : Nat) (hi : i < 4) : ct (stepF seed n f k i) p = if 6 ≤ k.1 % 8 then ct (f i) p / 2 else if p = plN seed n k.2 i then min 15 (ct (f i) p + 1) else ct (f i) p := by
  unfold stepF
  split
  · exact ct_halves f i p
  · exact ct_adds hn i (h i hi).1 (h i hi).2 p
theorem run_inv {seed n : Nat} (hn : 0 < n) : ∀ (ks : List (Nat × Nat)) (f : Nat → List Nat), Inv n f → Inv n (ks.foldl (stepF seed n) f)
  | [], _, h => h
  | k :: r, f, h => run_inv hn r (stepF seed n f k) (h.step hn k)
theorem run_ge {seed n : Nat} (hn : 0 < n) (x i : Nat) (hi : i < 4) : ∀ (ks : List (Nat × Nat)) (f : Nat → List Nat) (c : Nat), Inv n f → c ≤ ct (f i) (plN seed n x i) → ks.foldl (simS x) c ≤ ct (ks.foldl (stepF seed n) f i) (plN seed n x i)
  | [], _, _, _, h => h
  | k :: r, f, c, hI, h => by
    refine run_ge hn x i hi r (stepF seed n f k) (simS x c k) (hI.step hn k) ?_
    rw [ct_step hI hn k i _ hi]
    have := (hI i hi).2 (plN seed n x i)
    unfold simS
    by_cases h6 : 6 ≤ k.1 % 8
    · rw [if_pos h6, if_pos h6]; omega
    · rw [if_neg h6, if_neg h6]
      by_cases he : k.2 = x
      · rw [if_pos he, he, if_pos rfl]; omega
      · rw [if_neg he]; split <;> omega
theorem run_eq {seed n : Nat} (hn : 0 < n) (x i : Nat) (hi : i < 4) : ∀ (ks : List (Nat × Nat)) (f : Nat → List Nat) (c : Nat), Inv n f → (∀ y ∈ keys ks, y ≠ x → plN seed n y i ≠ plN seed n x i) → c = ct (f i) (plN seed n x i) → ks.foldl (simS x) c = ct (ks.foldl (stepF seed n) f i) (plN seed n x i)
  | [], _, _, _, _, h => h
  | k :: r, f, c, hI, hk, h => by
    refine run_eq hn x i hi r (stepF seed n f k) (simS x c k) (hI.step hn k) (fun y hy => hk y ?_) ?_
    · unfold keys at hy ⊢
      rw [List.mem_map] at hy ⊢
      obtain ⟨a, ha, rfl⟩ := hy
      rw [List.mem_filter] at ha
      exact ⟨a, List.mem_filter.2 ⟨List.mem_cons_of_mem _ ha.1, ha.2⟩, rfl⟩
    · rw [ct_step hI hn k i _ hi, ← h]
      unfold simS
      by_cases h6 : 6 ≤ k.1 % 8
      · rw [if_pos h6, if_pos h6]
      · rw [if_neg h6, if_neg h6]
        by_cases he : k.2 = x
        · rw [if_pos he, he, if_pos rfl]
        · rw [if_neg he, if_neg fun h' => hk k.2 (by
            unfold keys
            exact List.mem_map.2 ⟨k, List.mem_filter.2 ⟨List.mem_cons_self, by simp; omega⟩, rfl⟩) he h'.symm]
theorem run_le {seed n : Nat} (hn : 0 < n) (i p : Nat) (hi : i < 4) : ∀ (ks : List (Nat × Nat)) (f : Nat → List Nat), Inv n f → ct (ks.foldl (stepF seed n) f i) p ≤ min 15 (ct (f i) p + ks.length)
  | [], f, h => by have := (h i hi).2 p; simp only [List.foldl_nil, List.length_nil]; omega
  | k :: r, f, h => by
    refine Nat.le_trans (run_le hn i p hi r (stepF seed n f k) (h.step hn k)) ?_
    rw [ct_step h hn k i p hi, List.length_cons]
    split
    · omega
    · split <;> omega
theorem sim_le (x : Nat) : ∀ (ks : List (Nat × Nat)) (c : Nat), c ≤ 15 → ks.foldl (simS x) c ≤ 15
  | [], _, h => h
  | k :: r, c, h => sim_le x r (simS x c k) (by unfold simS; split; omega; split <;> omega)
theorem cnt_ge {f : Nat → List Nat} {p : Nat → Nat} {c : Nat} : ∀ j, (∀ i, i < j → c ≤ ct (f i) (p i)) → c ≤ 15 → c ≤ cntTo f p j
  | 0, _, h => h
  | j + 1, h, h15 => by
    have h1 := cnt_ge j (fun i hi => h i (by omega)) h15
    have h2 := h j (by omega)
    show c ≤ min (cntTo f p j) _
    omega
theorem cnt_le {f : Nat → List Nat} {p : Nat → Nat} : ∀ j i, i < j → cntTo f p j ≤ ct (f i) (p i)
  | 0, _, h => absurd h (by omega)
  | j + 1, i, h => by
    show min (cntTo f p j) (ct (f j) (p j)) ≤ _
    by_cases e : i = j
    · subst e; omega
    · have := cnt_le (f := f) (p := p) j i (by omega); omega
/-- has a key, in the row i, a place where none of the others stands? -/
noncomputable def aloneIn (seed n x : Nat) (l : List Nat) (i : Nat) : Bool := l.all fun y => y == x || plN seed n y i != plN seed n x i
/-- .. in some row? -/
noncomputable def lonely (seed n x : Nat) (l : List Nat) : Bool := (List.range 4).any fun i => aloneIn seed n x l i
theorem lonely_some {seed n x : Nat} {l : List Nat} (i : Nat) (hi : i < 4) (h : aloneIn seed n x l i = true) : lonely seed n x l = true := List.any_eq_true.2 ⟨i, List.mem_range.2 hi, h⟩
theorem lonely_none {seed n x : Nat} {l : List Nat} (h : ∀ i, i < 4 → aloneIn seed n x l i = false) : lonely seed n x l = false := by
  rw [lonely, List.any_eq_false]
  intro i hi
  rw [h i (List.mem_range.1 hi)]
  exact Bool.noConfusion
/-- a key with a place of its own is counted as if it were alone. -/
theorem lonely_cnt {seed n x : Nat} (hn : 0 < n) (ks : List (Nat × Nat)) (h : lonely seed n x (keys ks) = true) : cntN seed n x (runF seed n ks) = sim x ks := by
  obtain ⟨i, hi, ha⟩ := List.any_eq_true.1 h
  have hi := List.mem_range.1 hi
  have h0 := fun i => nb.ct_zeros n (plN seed n x i)
  have e := run_eq hn x i hi ks (fun _ => List.replicate n 0) 0 (Inv.zeros n) (fun y hy hne => by
    have := List.all_eq_true.1 ha y hy
    simp only [Bool.or_eq_true, beq_iff_eq, bne_iff_ne, ne_eq] at this
    rcases this with h | h
    · exact absurd h hne
    · exact h) (h0 i).symm
  have g := cnt_ge (f := runF seed n ks) (p := plN seed n x) (c := sim x ks) 4 (fun i hi => run_ge hn x i hi ks _ 0 (Inv.zeros n) (by omega)) (sim_le x ks 0 (by omega))
  have l := cnt_le (f := runF seed n ks) (p := plN seed n x) 4 i hi
  unfold cntN
  have : ct (runF seed n ks i) (plN seed n x i) = sim x ks := e.symm
  omega
/-- keys alone, each an adding. -/
abbrev addsOf (l : List Nat) : List (Nat × Nat) := l.map fun x => (0, x)
theorem sim_adds (x : Nat) : ∀ (l : List Nat) (c : Nat), c ≤ 15 → (addsOf l).foldl (simS x) c = min 15 (c + l.count x)
  | [], c, h => by simp; omega
  | y :: r, c, h => by
    show (addsOf r).foldl (simS x) (simS x c (0, y)) = _
    have e : simS x c (0, y) = if y = x then min 15 (c + 1) else c := by simp [simS]
    rw [e, sim_adds x r _ (by split <;> omega), List.count_cons]
    by_cases h : y = x
    · simp only [h, if_pos, beq_self_eq_true]; omega
    · simp only [h, beq_iff_eq, if_false]; omega
/-- no count is below how often the key came, up to 15, nor above how many keys came. -/
theorem least_cnt {seed n : Nat} (hn : 0 < n) (x : Nat) (l : List Nat) : min (l.count x) 15 ≤ cntN seed n x (runF seed n (addsOf l)) ∧ cntN seed n x (runF seed n (addsOf l)) ≤ min l.length 15 := by
  have g := cnt_ge (f := runF seed n (addsOf l)) (p := plN seed n x) (c := sim x (addsOf l)) 4 (fun i hi => run_ge hn x i hi _ _ 0 (Inv.zeros n) (by omega)) (sim_le x _ 0 (by omega))
  have e : sim x (addsOf l) = min 15 (l.count x) := by have := sim_adds x l 0 (by omega); rw [Nat.zero_add] at this; exact this
  have u := run_le (seed := seed) hn 0 (plN seed n x 0) (by decide) (addsOf l) _ (Inv.zeros n)
  have d := cnt_le (f := runF seed n (addsOf l)) (p := plN seed n x) 4 0 (by decide)
  rw [nb.ct_zeros, List.length_map] at u
  unfold cntN
  have : ct (runF seed n (addsOf l) 0) (plN seed n x 0) ≤ min 15 (0 + l.length) := u
  omega
end Go.Proofs.YtljfidbplecggaaDoor
