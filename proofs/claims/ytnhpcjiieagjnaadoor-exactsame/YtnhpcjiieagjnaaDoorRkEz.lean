/-
  Of no function: an exact as two functions of keys ('Ez'); what one key's number is, key by key; rows of what is known ('Rep': they say what the functions say), put into and faded.
-/
import Derived.Test.YtnhpcjiieagjnaaDoorRkSeek
namespace Go.Proofs.YtnhpcjiieagjnaaDoor.rk
open Go.RowKit
/-- which keys came since all was aged last, each key's number, the count. -/
structure Ez where
  came : Nat → Bool
  num : Nat → Nat
  cnt : Nat
/-- a key comes. -/
def comeE (x : Nat) (e : Ez) : Ez := ⟨fun k => if k = x then true else e.came k, fun k => if k = x ∧ e.came x = true then min 15 (e.num x + 1) else e.num k, e.cnt⟩
/-- .. and all is aged, if it fills the count. -/
def addE (lim x : Nat) (e : Ez) : Ez := if e.cnt + 1 = lim then ⟨fun _ => false, fun k => (comeE x e).num k / 2, 0⟩ else ⟨(comeE x e).came, (comeE x e).num, e.cnt + 1⟩
def es0 : Ez := ⟨fun _ => false, fun _ => 0, 0⟩
def estE (x : Nat) (e : Ez) : Nat := e.num x + if e.came x = true then 1 else 0
theorem come_num (x k : Nat) (e : Ez) : (comeE x e).num k = if k = x ∧ e.came x = true then min 15 (e.num x + 1) else e.num k := rfl
theorem come_came (x k : Nat) (e : Ez) : (comeE x e).came k = if k = x then true else e.came k := rfl
/-- numbers of four bits. -/
def Low (e : Ez) : Prop := ∀ k, e.num k ≤ 15
theorem Low.add {e : Ez} (h : Low e) (lim x : Nat) : Low (addE lim x e) := fun k => by
  have hc : (comeE x e).num k ≤ 15 := by
    rw [come_num]
    have := h k
    split <;> omega
  unfold addE
  split
  · show (comeE x e).num k / 2 ≤ 15
    omega
  · exact hc
/-! one key, by the document: whether it came, its number -/
/-- the keys l come. -/
def runE (lim : Nat) (l : List Nat) : Ez := l.foldl (fun e x => addE lim x e) es0
theorem run_next (lim : Nat) (l : List Nat) (j x : Nat) (h : l[j]? = some x) : runE lim (l.take (j + 1)) = addE lim x (runE lim (l.take j)) := by
  obtain ⟨hj, rfl⟩ := List.getElem?_eq_some_iff.1 h
  rw [List.take_succ_eq_append_getElem hj, runE, List.foldl_append]
  rfl
/-- the count behind i keys. -/
theorem run_cnt (lim : Nat) (hl : 0 < lim) (l : List Nat) : ∀ i, i ≤ l.length → (runE lim (l.take i)).cnt = i % lim
  | 0, _ => by
    rw [List.take_zero, Nat.zero_mod]
    rfl
  | i + 1, h => by
    have ih := run_cnt lim hl l i (by omega)
    have hlt := Nat.mod_lt i hl
    rw [run_next lim l i l[i] (by simp [show i < l.length by omega])]
    unfold addE
    rw [ih]
    by_cases e : i % lim + 1 = lim
    · rw [if_pos e]
      show 0 = (i + 1) % lim
      rw [Nat.add_mod, ← Nat.add_mod_mod]
      have : (i + 1) % lim = 0 := by
        rw [← Nat.mod_add_div i lim]
        rw [show i % lim + lim * (i / lim) + 1 = lim + lim * (i / lim) by omega]
        simp
      simpa using this.symm
    · rw [if_neg e]
      show i % lim + 1 = (i + 1) % lim
      have : (i + 1) % lim = (i % lim + 1) % lim := by rw [Nat.mod_add_mod]
      have h3 : (i % lim + 1) % lim = i % lim + 1 := Nat.mod_eq_of_lt (by omega)
      rw [this, h3]
theorem full_iff (lim : Nat) (hl : 0 < lim) (i : Nat) : i % lim + 1 = lim ↔ (i + 1) % lim = 0 := by
  have hlt := Nat.mod_lt i hl
  have h2 : (i + 1) % lim = (i % lim + 1) % lim := by rw [Nat.mod_add_mod]
  constructor
  · intro e
    rw [h2, e, Nat.mod_self]
  · intro h
    rw [h2] at h
    rcases Nat.lt_or_ge (i % lim + 1) lim with h3 | h3
    · have h4 : (i % lim + 1) % lim = i % lim + 1 := Nat.mod_eq_of_lt h3
      rw [h4] at h
      omega
    · omega
/-- what the key number i does to a key h. -/
theorem run_step (lim : Nat) (hl : 0 < lim) (l : List Nat) (i x h : Nat) (hi : l[i]? = some x) :
    ((runE lim (l.take (i + 1))).num h = (if (i + 1) % lim = 0 then (if x = h ∧ (runE lim (l.take i)).came h = true then min 15 ((runE lim (l.take i)).num h + 1) else (runE lim (l.take i)).num h) / 2 else (if x = h ∧ (runE lim (l.take i)).came h = true then min 15 ((runE lim (l.take i)).num h + 1) else (runE lim (l.take i)).num h))) ∧
    ((runE lim (l.take (i + 1))).came h = if (i + 1) % lim = 0 then false else if x = h then true else (runE lim (l.take i)).came h) := by
  have hlen := (List.getElem?_eq_some_iff.1 hi).1
  have hc := run_cnt lim hl l i (by omega)
  rw [run_next lim l i x hi]
  generalize runE lim (l.take i) = e at *
  have e1 : (comeE x e).num h = if x = h ∧ e.came h = true then min 15 (e.num h + 1) else e.num h := by
    rw [come_num]
    by_cases ex : x = h
    · subst ex; simp
    · rw [if_neg (fun h' => ex h'.1.symm), if_neg (fun h' => ex h'.1)]
  have e2 : (comeE x e).came h = if x = h then true else e.came h := by
    rw [come_came]
    by_cases ex : x = h
    · subst ex; simp
    · rw [if_neg (fun h' => ex h'.symm), if_neg ex]
  unfold addE
  rw [hc]
  by_cases hf : (i + 1) % lim = 0
  · rw [if_pos ((full_iff lim hl i).2 hf), if_pos hf, if_pos hf]
    exact ⟨by show (comeE x e).num h / 2 = _; rw [e1], rfl⟩
  · rw [if_neg (fun h' => hf ((full_iff lim hl i).1 h')), if_neg hf, if_neg hf]
    exact ⟨e1, e2⟩
/-! rows of what is known -/
def againK (v : Kn) : Kn := ⟨if v.c = true then min (v.n + 1) 15 else v.n, true⟩
def fadedK (v : Kn) : Kn := ⟨v.n / 2, false⟩
def estK (v : Kn) : Nat := v.n + if v.c = true then 1 else 0
/-- the row says what the functions say; nothing is kept of which nothing is known. -/
structure Rep (xs : List (Int × Kn)) (e : Ez) : Prop where
  val : ∀ k : Nat, (look (k : Int) xs).getD kn0 = ⟨e.num k, e.came k⟩
  pos : ∀ p ∈ xs, ∃ k : Nat, p.1 = (k : Int)
  est : ∀ p ∈ xs, 0 < estK p.2
theorem Rep.start : Rep [] es0 := ⟨fun _ => rfl, fun _ h => absurd h (by simp), fun _ h => absurd h (by simp)⟩
theorem look_lo {j k : Int} (h : j < k) : ∀ xs : List (Int × Kn), look j (lo k xs) = look j xs
  | [] => rfl
  | p :: xs => by
    rw [lo_cons, look_cons]
    split
    · rw [look_cons, look_lo h xs]
    · rename_i h2
      rw [if_neg (by omega), look_lo h xs]
theorem look_hi {j k : Int} (h : k < j) : ∀ xs : List (Int × Kn), look j (hi k xs) = look j xs
  | [] => rfl
  | p :: xs => by
    rw [hi_cons, look_cons]
    split
    · rw [look_cons, look_hi h xs]
    · rename_i h2
      rw [if_neg (by omega), look_hi h xs]
theorem look_ins (j k : Int) (v : Kn) (xs : List (Int × Kn)) : look j (ins k v xs) = if j = k then some v else look j xs := by
  rw [ins, look_append, look_cons]
  rcases Int.lt_trichotomy j k with h | h | h
  · rw [look_lo h, if_neg (by omega), if_neg (by omega), look_none (xs := hi k xs) (fun e he => by have := (mem_hi.1 he).2; omega), Option.or_none]
  · subst h
    rw [look_none (xs := lo j xs) (fun e he => by have := (mem_lo.1 he).2; omega), if_pos rfl, if_pos rfl, Option.none_or]
  · rw [look_none (xs := lo k xs) (fun e he => by have := (mem_lo.1 he).2; omega), if_neg (by omega), if_neg (by omega), look_hi h, Option.none_or]
theorem mem_ins {e : Int × Kn} {k : Int} {v : Kn} {xs : List (Int × Kn)} (h : e ∈ ins k v xs) : e = (k, v) ∨ e ∈ xs := by
  rw [ins, List.mem_append, List.mem_cons] at h
  rcases h with h | h | h
  · exact .inr (mem_lo.1 h).1
  · exact .inl h
  · exact .inr (mem_hi.1 h).1
theorem Rep.come {xs : List (Int × Kn)} {e : Ez} (h : Rep xs e) (x : Nat) : Rep (ins (x : Int) (againK ((look (x : Int) xs).getD kn0)) xs) (comeE x e) := by
  have hx := h.val x
  refine ⟨fun k => ?_, fun p hp => ?_, fun p hp => ?_⟩
  · rw [look_ins]
    by_cases e1 : k = x
    · subst e1
      rw [if_pos rfl, Option.getD_some, hx]
      show Kn.mk _ _ = Kn.mk _ _
      rw [come_num, come_came]
      simp only [if_true, true_and]
      congr 1
      split <;> omega
    · rw [if_neg (by omega), h.val k, come_num, come_came, if_neg (fun h => e1 h.1), if_neg e1]
  · rcases mem_ins hp with rfl | hp
    · exact ⟨x, rfl⟩
    · exact h.pos p hp
  · rcases mem_ins hp with rfl | hp
    · show 0 < _ + if true = true then 1 else 0
      rw [if_pos rfl]; omega
    · exact h.est p hp
/-- what is left of a row behind an aging. -/
def fdl (xs : List (Int × Kn)) : List (Int × Kn) := (xs.map fun p => (p.1, fadedK p.2)).filter fun p => decide (0 < p.2.n)
theorem fdl_nil : fdl [] = [] := rfl
theorem fdl_snoc (xs : List (Int × Kn)) (p : Int × Kn) : fdl (xs ++ [p]) = if 0 < (fadedK p.2).n then fdl xs ++ [(p.1, fadedK p.2)] else fdl xs := by
  unfold fdl
  rw [List.map_append, List.filter_append]
  by_cases h : 0 < (fadedK p.2).n
  · rw [if_pos h]; simp [h]
  · rw [if_neg h]; simp [h]
theorem fdl_keys {xs : List (Int × Kn)} {q : Int × Kn} (h : q ∈ fdl xs) : ∃ p ∈ xs, q = (p.1, fadedK p.2) ∧ 0 < (fadedK p.2).n := by
  unfold fdl at h
  obtain ⟨h1, h2⟩ := List.mem_filter.1 h
  obtain ⟨p, hp, rfl⟩ := List.mem_map.1 h1
  exact ⟨p, hp, rfl, by simpa using h2⟩
theorem fdl_next {xs : List (Int × Kn)} (hu : Up xs) (i : Nat) (p : Int × Kn) (hi : xs[i]? = some p) : fdl (xs.take (i + 1)) = if 0 < (fadedK p.2).n then ins p.1 (fadedK p.2) (fdl (xs.take i)) else fdl (xs.take i) := by
  obtain ⟨hlt, hp⟩ := List.getElem?_eq_some_iff.1 hi
  rw [List.take_succ_eq_append_getElem hlt, hp, fdl_snoc]
  have hall : ∀ q ∈ fdl (xs.take i), q.1 < p.1 := fun q hq => by
    obtain ⟨r, hr, rfl, _⟩ := fdl_keys hq
    have h2 : Up (xs.take i ++ p :: xs.drop (i + 1)) := by
      rw [← hp, ← List.drop_eq_getElem_cons hlt, List.take_append_drop]; exact hu
    exact h2.parts.2.2.1 r hr
  split
  · rw [ins, lo_all hall, hi_none (fun q hq => by have := hall q hq; omega)]
  · rfl
theorem look_fdl {k : Int} : ∀ {xs : List (Int × Kn)}, Up xs → (look k (fdl xs)).getD kn0 = fadedK ((look k xs).getD kn0)
  | [], _ => by simp [fdl, look, fadedK, kn0]
  | p :: xs, hu => by
    have ih := look_fdl (k := k) hu.cons.1
    have hc : fdl (p :: xs) = if 0 < (fadedK p.2).n then (p.1, fadedK p.2) :: fdl xs else fdl xs := by
      unfold fdl
      rw [List.map_cons, List.filter_cons]
      simp
    have hn : p.1 = k → look k (fdl xs) = none := fun e => look_none fun q hq => by
      obtain ⟨r, hr, rfl, _⟩ := fdl_keys hq
      have := hu.cons.2 r hr
      show r.1 ≠ k
      omega
    rw [hc, look_cons]
    by_cases e : p.1 = k
    · rw [if_pos e, Option.getD_some]
      split
      · rw [look_cons, if_pos e, Option.getD_some]
      · rename_i h0
        rw [hn e]
        show kn0 = fadedK p.2
        unfold fadedK kn0 at *
        congr 1
        simp only at h0
        omega
    · rw [if_neg e, ← ih]
      split
      · rw [look_cons, if_neg e]
      · rfl
theorem fdl_up {xs : List (Int × Kn)} (hu : Up xs) : Up (fdl xs) := by
  unfold fdl
  refine List.Pairwise.filter _ ?_
  rw [List.pairwise_map]
  exact hu
theorem Rep.fade {xs : List (Int × Kn)} {e : Ez} (h : Rep xs e) (hu : Up xs) : Rep (fdl xs) ⟨fun _ => false, fun k => e.num k / 2, 0⟩ := by
  refine ⟨fun k => ?_, fun p hp => ?_, fun p hp => ?_⟩
  · rw [look_fdl hu, h.val k]
    rfl
  · obtain ⟨r, hr, rfl, _⟩ := fdl_keys hp
    exact h.pos r hr
  · obtain ⟨r, hr, rfl, h0⟩ := fdl_keys hp
    show 0 < (fadedK r.2).n + _
    omega
theorem Rep.num {xs : List (Int × Kn)} {e : Ez} (h : Rep xs e) (k : Nat) : ((look (k : Int) xs).getD kn0).n = e.num k := by rw [h.val k]
theorem Rep.estOf {xs : List (Int × Kn)} {e : Ez} (h : Rep xs e) (k : Nat) : estK ((look (k : Int) xs).getD kn0) = estE k e := by rw [h.val k]; rfl
/-- the keys of the row are those whose estimate isn't 0. -/
theorem look_some_mem {k : Int} {v : Kn} : ∀ {xs : List (Int × Kn)}, look k xs = some v → (k, v) ∈ xs
  | [], h => by simp [look] at h
  | p :: xs, h => by
    rw [look_cons] at h
    split at h
    · rename_i e
      cases h
      subst e
      exact List.mem_cons_self
    · exact List.mem_cons_of_mem _ (look_some_mem h)
theorem look_mem {xs : List (Int × Kn)} (hu : Up xs) {p : Int × Kn} (hp : p ∈ xs) : look p.1 xs = some p.2 := by
  obtain ⟨ys, zs, rfl⟩ := List.append_of_mem hp
  exact look_at hu
theorem Rep.mem {xs : List (Int × Kn)} {e : Ez} (h : Rep xs e) (hu : Up xs) (k : Nat) : (∃ v, ((k : Int), v) ∈ xs) ↔ 0 < estE k e := by
  rw [← h.estOf k]
  constructor
  · rintro ⟨v, hv⟩
    rw [look_mem hu hv, Option.getD_some]
    exact h.est _ hv
  · intro h0
    cases hl : look (k : Int) xs with
    | none => rw [hl] at h0; simp [kn0, estK] at h0
    | some v => exact ⟨v, look_some_mem hl⟩
end Go.Proofs.YtnhpcjiieagjnaaDoor.rk
