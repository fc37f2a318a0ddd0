/-
  Of no function: rows that rise and have the same keys are the same; places turned round; and RankAlike's state.
-/
import Derived.Test.YtaoiadejafaleaaTells
namespace Go.Proofs.Ytaoiadejafaleaa
open Go.RowKit Go.Shelf
theorem up_ext : ∀ {xs ys : List (Int × Int)}, Up xs → Up ys → (∀ e, e ∈ xs ↔ e ∈ ys) → xs = ys
  | [], [], _, _, _ => rfl
  | [], b :: s, _, _, h => absurd ((h b).2 (by simp)) (by simp)
  | a :: r, [], _, _, h => absurd ((h a).1 (by simp)) (by simp)
  | a :: r, b :: s, hx, hy, h => by
    obtain ⟨h1, h2⟩ := hx.cons
    obtain ⟨h3, h4⟩ := hy.cons
    have hab : a = b := by
      rcases List.mem_cons.1 ((h a).1 (by simp)) with e | ha
      · exact e
      · rcases List.mem_cons.1 ((h b).2 (by simp)) with e | hb
        · exact e.symm
        · have := h4 a ha; have := h2 b hb; omega
    subst hab
    rw [up_ext h1 h3 fun e => ⟨fun he => ?_, fun he => ?_⟩]
    · rcases List.mem_cons.1 ((h e).1 (List.mem_cons_of_mem _ he)) with rfl | h'
      · have := h2 e he; omega
      · exact h'
    · rcases List.mem_cons.1 ((h e).2 (List.mem_cons_of_mem _ he)) with rfl | h'
      · have := h4 e he; omega
      · exact h'
theorem mem_ins {k v : Int} {xs : List (Int × Int)} {e : Int × Int} : e ∈ ins k v xs ↔ e = (k, v) ∨ (e ∈ xs ∧ e.1 ≠ k) := by
  rw [ins, List.mem_append, List.mem_cons, mem_lo, mem_hi]
  constructor
  · rintro (⟨h1, h2⟩ | h | ⟨h1, h2⟩)
    · exact .inr ⟨h1, by omega⟩
    · exact .inl h
    · exact .inr ⟨h1, by omega⟩
  · rintro (h | ⟨h1, h2⟩)
    · exact .inr (.inl h)
    · rcases Int.lt_or_gt_of_ne h2 with h | h
      · exact .inl ⟨h1, h⟩
      · exact .inr (.inr ⟨h1, h⟩)
/-- the keys of xs are the first n ones of f. -/
def Keys (xs : List (Int × Int)) (f : Nat → Int) (n : Nat) : Prop := ∀ e, e ∈ xs ↔ ∃ m, m < n ∧ e = (f m, f m)
theorem Keys.nil (f : Nat → Int) : Keys [] f 0 := fun e => ⟨fun h => by simp at h, fun ⟨m, h, _⟩ => by omega⟩
theorem Keys.ins {xs : List (Int × Int)} {f : Nat → Int} {n : Nat} {k : Int} (h : Keys xs f n) (hk : f n = k) : Keys (ins k k xs) f (n + 1) := fun e => by
  rw [mem_ins]
  constructor
  · rintro (rfl | ⟨h1, _⟩)
    · exact ⟨n, by omega, by rw [hk]⟩
    · obtain ⟨m, h2, h3⟩ := (h e).1 h1
      exact ⟨m, by omega, h3⟩
  · rintro ⟨m, h1, h2⟩
    by_cases he : f m = k
    · exact .inl (by rw [h2, he])
    · refine .inr ⟨(h e).2 ⟨m, ?_, h2⟩, by rw [h2]; exact he⟩
      rcases Nat.lt_or_ge m n with h3 | h3
      · exact h3
      · obtain rfl : m = n := by omega
        exact absurd hk he
/-- turned round by k, and from the end. -/
def pl (n k m : Nat) : Nat := n - 1 - (m + k) % n
theorem pl_lt {n k m : Nat} (h : 0 < n) : pl n k m < n := by unfold pl; omega
theorem pl_onto {n k q : Nat} (hk : k < n) (hq : q < n) : ∃ m, m < n ∧ pl n k m = q := by
  by_cases h : k ≤ n - 1 - q
  · refine ⟨n - 1 - q - k, by omega, ?_⟩
    unfold pl
    rw [show n - 1 - q - k + k = n - 1 - q by omega, Nat.mod_eq_of_lt (by omega)]
    omega
  · refine ⟨n - 1 - q + n - k, by omega, ?_⟩
    unfold pl
    rw [show n - 1 - q + n - k + k = n - 1 - q + n by omega, Nat.add_mod_right, Nat.mod_eq_of_lt (by omega)]
    omega
theorem keys_same {xs ys : List (Int × Int)} {f : Nat → Int} {n k : Nat} (hx : Up xs) (hy : Up ys) (h1 : Keys xs f n) (h2 : Keys ys (fun m => f (pl n k m)) n) (hk : k < n ∨ n = 0) : ys = xs := by
  refine up_ext hy hx fun e => ?_
  rw [h1 e, h2 e]
  constructor
  · rintro ⟨m, hm, rfl⟩
    exact ⟨pl n k m, pl_lt (by omega), rfl⟩
  · rintro ⟨q, hq, rfl⟩
    obtain ⟨m, hm, he⟩ := pl_onto (k := k) (by omega) hq
    exact ⟨m, hm, by simp only [he]⟩
theorem look_mem {k : Int} {xs : List (Int × Int)} (h : look k xs = none) : ∀ e ∈ xs, e.1 ≠ k := by
  induction xs with
  | nil => intro e he; simp at he
  | cons a r ih =>
    rw [look_cons] at h
    split at h
    · cases h
    · rename_i hk
      intro e he
      rcases List.mem_cons.1 he with rfl | he
      · exact hk
      · exact ih h e he
theorem put_drop {k v : Int} {xs : List (Int × Int)} (hu : Up xs) (h : look k xs = none) : del k (ins k v xs) = xs := by
  have h1 := sides_at (e := (k, v)) (xs := lo k xs) (ys := hi k xs) (hu.ins v)
  have h2 : del k (ins k v xs) = del k xs := by
    show lo k (ins k v xs) ++ hi k (ins k v xs) = lo k xs ++ hi k xs
    rw [show ins k v xs = lo k xs ++ (k, v) :: hi k xs from rfl, h1.1, h1.2]
  rw [h2, del_filter hu]
  exact List.filter_eq_self.2 fun e he => by simpa using look_mem h e he
/-- a slice of ints at a reads as ls. -/
def Ia (w : World) (a : Option Addr) (ls : List Int) : Prop := 0 < ls.length → ∃ b o, a = some ⟨b, o, none⟩ ∧ ∀ i (h : i < ls.length), w.cell? ⟨b, o + i, none⟩ = some (.int .i64 ls[i])
/-- two trees, and the first one's row. -/
structure Al (w : World) (N ga gb : Nat) (ta tb : Tr) (v : Value) (W : World) : Prop where
  one : At W ga ta
  two : At W gb tb
  row : Es W v ta.list
  bel : Below N w W
  size : N ≤ W.heap.size
namespace Al
variable {w W W' : World} {N ga gb : Nat} {ta tb : Tr} {v : Value}
theorem below (h : Al w N ga gb ta tb v W) (hb : Below W.heap.size W W') : Al w N ga gb ta tb v W' :=
  ⟨h.one.below hb, h.two.below hb, h.row.below hb, h.bel.trans (hb.mono h.size), Nat.le_trans h.size hb.size⟩
theorem quiet (h : Al w N ga gb ta tb v W) (hw : ∃ m, W' = W.drewN m) : Al w N ga gb ta tb v W' := by
  obtain ⟨m, rfl⟩ := hw
  exact h.below (below_drewN W m)
end Al
end Go.Proofs.Ytaoiadejafaleaa
