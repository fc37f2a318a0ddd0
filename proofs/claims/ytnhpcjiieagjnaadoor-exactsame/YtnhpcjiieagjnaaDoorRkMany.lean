/-
  Of no function: how many keys of a list have an estimate that isn't 0, each counted once: as many as a tree has.
-/
import Derived.Test.YtnhpcjiieagjnaaDoorRkPush
namespace Go.Proofs.YtnhpcjiieagjnaaDoor.rk
open Go.RowKit
/-- the keys of which f holds, each where it stands first. -/
def fs (f : Nat → Bool) (l : List Nat) : List Nat := l.foldl (fun acc x => if f x = true ∧ x ∉ acc then acc ++ [x] else acc) []
theorem fs_nil (f : Nat → Bool) : fs f [] = [] := rfl
theorem fs_snoc (f : Nat → Bool) (l : List Nat) (x : Nat) : fs f (l ++ [x]) = if f x = true ∧ x ∉ fs f l then fs f l ++ [x] else fs f l := by
  unfold fs
  rw [List.foldl_append]
  rfl
theorem fs_take (f : Nat → Bool) (l : List Nat) (k x : Nat) (h : l[k]? = some x) : fs f (l.take (k + 1)) = if f x = true ∧ x ∉ fs f (l.take k) then fs f (l.take k) ++ [x] else fs f (l.take k) := by
  obtain ⟨hk, rfl⟩ := List.getElem?_eq_some_iff.1 h
  rw [List.take_succ_eq_append_getElem hk, fs_snoc]
theorem fs_mem (f : Nat → Bool) (l : List Nat) (y : Nat) : ∀ k, k ≤ l.length → (y ∈ fs f (l.take k) ↔ y ∈ l.take k ∧ f y = true)
  | 0, _ => by simp [fs]
  | k + 1, h => by
    have ih := fs_mem f l y k (by omega)
    rw [fs_take f l k l[k] (by simp [show k < l.length by omega]), List.take_succ_eq_append_getElem (by omega : k < l.length)]
    split
    · rename_i hc
      rw [List.mem_append, List.mem_append, ih]
      constructor
      · rintro (⟨h1, h2⟩ | h1)
        · exact ⟨.inl h1, h2⟩
        · obtain rfl : y = l[k] := by simpa using h1
          exact ⟨.inr h1, hc.1⟩
      · rintro ⟨h1 | h1, h2⟩
        · exact .inl ⟨h1, h2⟩
        · exact .inr h1
    · rename_i hc
      rw [ih, List.mem_append]
      constructor
      · rintro ⟨h1, h2⟩
        exact ⟨.inl h1, h2⟩
      · rintro ⟨h1 | h1, h2⟩
        · exact ⟨h1, h2⟩
        · obtain rfl : y = l[k] := by simpa using h1
          refine ⟨?_, h2⟩
          have : l[k] ∈ fs f (l.take k) := Classical.byContradiction fun h3 => hc ⟨h2, h3⟩
          have h3 := fs_mem f l l[k] k (by omega)
          exact (h3.1 this).1
theorem fs_nodup (f : Nat → Bool) (l : List Nat) : ∀ k, k ≤ l.length → (fs f (l.take k)).Nodup
  | 0, _ => by simp [fs]
  | k + 1, h => by
    have ih := fs_nodup f l k (by omega)
    rw [fs_take f l k l[k] (by simp [show k < l.length by omega])]
    split
    · rename_i hc
      rw [List.nodup_append]
      refine ⟨ih, by simp, fun a ha b hb e => ?_⟩
      obtain rfl : b = l[k] := by simpa using hb
      exact hc.2 (e ▸ ha)
    · exact ih
/-- is no key of these that one? -/
def noneOf (x : Nat) (l : List Nat) (j : Nat) : Bool := (l.take j).all fun y => y != x
theorem noneOf_zero (x : Nat) (l : List Nat) : noneOf x l 0 = true := rfl
theorem noneOf_next (x : Nat) (l : List Nat) (j y : Nat) (h : l[j]? = some y) : noneOf x l (j + 1) = (noneOf x l j && (y != x)) := by
  obtain ⟨hj, rfl⟩ := List.getElem?_eq_some_iff.1 h
  unfold noneOf
  rw [List.take_succ_eq_append_getElem hj, List.all_append]
  simp
theorem noneOf_iff (x : Nat) (l : List Nat) (j : Nat) : noneOf x l j = true ↔ x ∉ l.take j := by
  unfold noneOf
  rw [List.all_eq_true]
  constructor
  · intro h hx
    have := h x hx
    simp at this
  · intro h y hy
    have : y ≠ x := fun e => h (e ▸ hy)
    simpa using this
theorem many_next (f : Nat → Bool) (l : List Nat) (k x : Nat) (h : l[k]? = some x) : (fs f (l.take (k + 1))).length = (fs f (l.take k)).length + if f x = true ∧ noneOf x l k = true then 1 else 0 := by
  have hk := (List.getElem?_eq_some_iff.1 h).1
  rw [fs_take f l k x h]
  have hm := fs_mem f l x k (by omega)
  by_cases hf : f x = true
  · by_cases hx : x ∈ l.take k
    · rw [if_neg (fun h' => h'.2 (hm.2 ⟨hx, hf⟩)), if_neg (fun h' => (noneOf_iff x l k).1 h'.2 hx)]
      rfl
    · rw [if_pos ⟨hf, fun h' => hx (hm.1 h').1⟩, if_pos ⟨hf, (noneOf_iff x l k).2 hx⟩]
      simp
  · rw [if_neg (fun h' => hf h'.1), if_neg (fun h' => hf h'.1)]
    rfl
/-- a row's keys. -/
theorem keys_nodup {xs : List (Int × Kn)} {e : Ez} (hu : Up xs) (hr : Rep xs e) : (xs.map fun p => p.1.toNat).Nodup := by
  unfold List.Nodup
  rw [List.pairwise_map]
  refine List.Pairwise.imp_of_mem ?_ hu
  intro a b ha hb hab
  obtain ⟨i, hi⟩ := hr.pos a ha
  obtain ⟨j, hj⟩ := hr.pos b hb
  omega
theorem keys_mem {xs : List (Int × Kn)} {e : Ez} (hu : Up xs) (hr : Rep xs e) (k : Nat) : k ∈ (xs.map fun p => p.1.toNat) ↔ 0 < estE k e := by
  rw [← hr.mem hu k]
  constructor
  · intro h
    obtain ⟨p, hp, rfl⟩ := List.mem_map.1 h
    obtain ⟨i, hi⟩ := hr.pos p hp
    refine ⟨p.2, ?_⟩
    rw [hi, Int.toNat_natCast, ← hi]
    exact hp
  · rintro ⟨v, hv⟩
    exact List.mem_map.2 ⟨_, hv, by simp⟩
theorem len_many {xs : List (Int × Kn)} {e : Ez} (hu : Up xs) (hr : Rep xs e) (l : List Nat) (hall : ∀ k, 0 < estE k e → k ∈ l) : xs.length = (fs (fun k => decide (0 < estE k e)) l).length := by
  have h1 := keys_nodup hu hr
  have h2 := fs_nodup (fun k => decide (0 < estE k e)) l l.length (Nat.le_refl _)
  rw [List.take_length] at h2
  have hp : (xs.map fun p => p.1.toNat).Perm (fs (fun k => decide (0 < estE k e)) l) := by
    rw [List.perm_ext_iff_of_nodup h1 h2]
    intro k
    have h3 := fs_mem (fun k => decide (0 < estE k e)) l k l.length (Nat.le_refl _)
    rw [List.take_length] at h3
    rw [keys_mem hu hr k, h3]
    constructor
    · intro h
      exact ⟨hall k h, by simpa using h⟩
    · intro h
      simpa using h.2
  have := hp.length_eq
  rwa [List.length_map] at this
/-- of keys that didn't come nothing is known. -/
theorem push_fresh (lim k : Nat) : ∀ (l : List Nat) (e : Ez), k ∉ l → e.num k = 0 ∧ e.came k = false → (pushE lim l e).num k = 0 ∧ (pushE lim l e).came k = false
  | [], _, _, h => h
  | x :: l, e, hk, h => by
    have hx : k ≠ x := fun h => hk (h ▸ List.mem_cons_self)
    refine push_fresh lim k l (addE lim x e) (fun h => hk (List.mem_cons_of_mem _ h)) ?_
    have h1 : (comeE x e).num k = 0 := by rw [come_num, if_neg (fun h => hx h.1)]; exact h.1
    have h2 : (comeE x e).came k = false := by rw [come_came, if_neg hx]; exact h.2
    unfold addE
    split
    · exact ⟨by show (comeE x e).num k / 2 = 0; rw [h1], rfl⟩
    · exact ⟨h1, h2⟩
theorem run_mem (lim : Nat) (l : List Nat) (k : Nat) (h : 0 < estE k (runE lim l)) : k ∈ l := Classical.byContradiction fun hk => by
  obtain ⟨h1, h2⟩ := push_fresh lim k l es0 hk ⟨rfl, rfl⟩
  unfold estE at h
  rw [run_push, h1, h2] at h
  simp at h
end Go.Proofs.YtnhpcjiieagjnaaDoor.rk
