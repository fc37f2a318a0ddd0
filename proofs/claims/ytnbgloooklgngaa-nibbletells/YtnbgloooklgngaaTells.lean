/-
  NibbleTells, its state; where the places that are told end.
-/
import Derived.Test.YtnbgloooklgngaaPlays
namespace Go.Proofs.Ytnbgloooklgngaa
open Go.RowKit
theorem told_mono (cs : List Nat) (p : Nat) : ∀ n, p ≤ n → (told cs p).length ≤ (told cs n).length
  | 0, h => by obtain rfl : p = 0 := by omega
               exact Nat.le_refl _
  | n + 1, h => by
    by_cases e : p = n + 1
    · subst e; exact Nat.le_refl _
    · have ih := told_mono cs p n (by omega)
      by_cases hz : ct cs n = 0
      · rw [told_skip hz]; exact ih
      · rw [told_next hz, List.length_append]; omega
/-- what stands in what is told. -/
theorem told_of {cs : List Nat} : ∀ n (i : Nat) (x : Nat × Nat), (told cs n)[i]? = some x → x.1 < n ∧ x.2 = ct cs x.1 ∧ x.2 ≠ 0 ∧ (told cs x.1).length = i
  | 0, i, x, h => by simp [told] at h
  | n + 1, i, x, h => by
    by_cases hz : ct cs n = 0
    · rw [told_skip hz] at h
      obtain ⟨h1, h2⟩ := told_of n i x h
      exact ⟨by omega, h2⟩
    · rw [told_next hz] at h
      by_cases hi : i < (told cs n).length
      · rw [List.getElem?_append_left hi] at h
        obtain ⟨h1, h2⟩ := told_of n i x h
        exact ⟨by omega, h2⟩
      · rw [List.getElem?_append_right (by omega)] at h
        obtain ⟨hl, hx⟩ := List.getElem?_eq_some_iff.1 h
        simp at hl
        have e : i = (told cs n).length := by omega
        subst e
        simp at hx
        subst hx
        exact ⟨Nat.lt_succ_self n, rfl, hz, rfl⟩
/-- behind the last one of the first t that are told. -/
def upTo (xs : List (Nat × Nat)) (t : Nat) : Nat := match t with
  | 0 => 0
  | i + 1 => (xs[i]?.getD (0, 0)).1 + 1
theorem upTo_zero (xs : List (Nat × Nat)) : upTo xs 0 = 0 := rfl
theorem upTo_next {xs : List (Nat × Nat)} {t : Nat} {x : Nat × Nat} (h : xs[t]? = some x) : upTo xs (t + 1) = x.1 + 1 := by simp [upTo, h]
theorem upTo_told {cs : List Nat} {n t : Nat} (ht : t ≤ (told cs n).length) : upTo (told cs n) t ≤ n ∧ (told cs (upTo (told cs n) t)).length = t := by
  cases t with
  | zero => exact ⟨Nat.zero_le _, by rw [upTo_zero]; rfl⟩
  | succ i =>
    have hx : (told cs n)[i]? = some (told cs n)[i] := by simp
    obtain ⟨h1, h2, h3, h4⟩ := told_of n i _ hx
    rw [upTo_next hx]
    refine ⟨by omega, ?_⟩
    rw [told_next (by omega), List.length_append, h4]
    rfl
/-- the next one that is told stands behind those. -/
theorem upTo_le {cs : List Nat} {n t : Nat} {x : Nat × Nat} (h : (told cs n)[t]? = some x) : upTo (told cs n) t ≤ x.1 := by
  have hl := (List.getElem?_eq_some_iff.1 h).1
  obtain ⟨_, h2⟩ := upTo_told (t := t) (Nat.le_of_lt hl)
  obtain ⟨h3, h4, h5, h6⟩ := told_of n t x h
  by_cases e : upTo (told cs n) t ≤ x.1
  · exact e
  · have hm := told_mono cs (x.1 + 1) (upTo (told cs n) t) (by omega)
    rw [told_next (by omega), List.length_append, h6, h2] at hm
    simp only [List.length_cons, List.length_nil] at hm
    omega
/-- how many stand below j and below E. -/
theorem want_next (cs : List Nat) (E j : Nat) : (told cs (min (j + 1) E)).length = if 0 < ct cs j ∧ j < E then (told cs (min j E)).length + 1 else (told cs (min j E)).length := by
  by_cases h1 : j < E
  · rw [show min (j + 1) E = j + 1 by omega, show min j E = j by omega]
    by_cases hz : ct cs j = 0
    · rw [told_skip hz, if_neg (by omega)]
    · rw [told_next hz, if_pos (by omega), List.length_append]; rfl
  · rw [show min (j + 1) E = E by omega, show min j E = E by omega, if_neg (fun h => h1 h.2)]
theorem all_next (cs : List Nat) (j : Nat) : (told cs (j + 1)).length = if 0 < ct cs j then (told cs j).length + 1 else (told cs j).length := by
  by_cases hz : ct cs j = 0
  · rw [told_skip hz, if_neg (by omega)]
  · rw [told_next hz, if_pos (by omega), List.length_append]; rfl
theorem told_le (cs : List Nat) : ∀ n, (told cs n).length ≤ n
  | 0 => Nat.le_refl _
  | n + 1 => by
    have := told_le cs n
    rw [all_next]
    split <;> omega
/-- the slice at a reads as the numbers ls. -/
def Us (w : World) (a : Option Addr) (ls : List Nat) : Prop := 0 < ls.length → ∃ b o, a = some ⟨b, o, none⟩ ∧ ∀ i (h : i < ls.length), w.cell? ⟨b, o + i, none⟩ = some (.int .u64 (ls[i] : Int))
/-- the law's boxes, the row and the list. -/
structure Ts (w : World) (N most : Nat) (rs xs : List Nat) (v : Value) (W : World) : Prop where
  b0 : W.heap[N]? = some (.cells #[.int .u64 (most : Int)] 23 (0, 0))
  b1 : W.heap[N + 1]? = some (.cells #[.bool false] 4 (0, 0))
  b5 : W.heap[N + 4 + 1]? = some (.cells #[v] 27 (0, 0))
  row : Nib W (N + 3) (N + 2) rs
  ref : Q e64 W v xs
  off : ∀ k, v.ownBlock = some k → N + 4 ≤ k ∧ k ≠ N + 4 + 1
  old : Below N w W
  n1 : rs.length = 40
  n2 : xs.length = 40
  low : ∀ i, ct xs i ≤ 15
namespace Ts
variable {w W B : World} {N most : Nat} {rs xs : List Nat} {v : Value}
theorem size (h : Ts w N most rs xs v W) : N + 4 + 1 < W.heap.size := heap_lt h.b5
theorem below (h : Ts w N most rs xs v W) (hb : Below W.heap.size W B) : Ts w N most rs xs v B := by
  have hs := h.size
  have at_ : ∀ {k : Nat} {o : Obj}, W.heap[k]? = some o → B.heap[k]? = some o := fun {k o} h => (hb.block k (heap_lt h)).trans h
  exact ⟨at_ h.b0, at_ h.b1, at_ h.b5, h.row.below hb, h.ref.below hb, h.off, h.old.trans (hb.mono (by omega)), h.n1, h.n2, h.low⟩
theorem drewN (h : Ts w N most rs xs v W) (q : Nat) : Ts w N most rs xs v (W.drewN q) := h.below ((Keep.drewN (fun _ => True) W q).below (fun _ _ => trivial) (Nat.le_refl _))
/-- all but the row's own blocks stand. -/
theorem keep {K : Nat → Prop} (h : Ts w N most rs xs v W) (hk : Keep K W B) (hK : ∀ k, k < W.heap.size → k ≠ N + 2 → K k) {rs' : List Nat} (hr : Nib B (N + 3) (N + 2) rs') (hl : rs'.length = 40) : Ts w N most rs' xs v B := by
  have hs := h.size
  exact ⟨hk.heap h.b0 (hK _ (by omega) (by omega)), hk.heap h.b1 (hK _ (by omega) (by omega)), hk.heap h.b5 (hK _ (by omega) (by omega)), hr, by
    rcases h.ref with hn | ⟨b, o, cap, rfl, hc, hi⟩
    · exact .inl hn
    · exact .inr ⟨b, o, cap, rfl, hc, fun i h' => (hk.cell (p := ⟨b, o + i, none⟩) (World.block_lt_of_cell? W ⟨b, o + i, none⟩ (hi i h')) (hK _ (World.block_lt_of_cell? W ⟨b, o + i, none⟩ (hi i h')) (by have := (h.off b rfl).1; simp; omega))).trans (hi i h')⟩, h.off, h.old.trans (hk.below (fun k hk' => hK k (by omega) (by omega)) (by omega)), hl, h.n2, h.low⟩
theorem c0 (h : Ts w N most rs xs v W) : W.cell? ⟨N, 0, none⟩ = some (.int .u64 (most : Int)) := by rw [cell_of h.b0]; rfl
theorem c1 (h : Ts w N most rs xs v W) : W.cell? ⟨N + 1, 0, none⟩ = some (.bool false) := by rw [cell_of h.b1]; rfl
theorem c5 (h : Ts w N most rs xs v W) : W.cell? ⟨N + 4 + 1, 0, none⟩ = some v := by rw [cell_of h.b5]; rfl
theorem f1 (h : Ts w N most rs xs v W) : W.frozen? ⟨N + 1, 0, none⟩ = false := frozen_of h.b1 0
theorem f5 (h : Ts w N most rs xs v W) : W.frozen? ⟨N + 4 + 1, 0, none⟩ = false := frozen_of h.b5 0
theorem slice (h : Ts w N most rs xs v W) : ∃ a c, v = .slice a 40 c ∧ 40 ≤ c := by
  obtain ⟨a, c, hv, hc⟩ := h.ref.slice
  rw [h.n2] at hv hc
  exact ⟨a, c, hv, hc⟩
theorem k14 (h : Ts w N most rs xs v W) (k : Int) : Calls Try.prog 14 #[.pointer (some ⟨N + 3, 0, none⟩), .int .i64 k] W fun e B => e = .returned (.bool (mayAdd rs k)) ∧ Ts w N most (addAt rs k) xs v B :=
  (add_any h.row k).mono fun _ _ ⟨he, h1, h2⟩ => ⟨he, h.keep h2 (fun _ _ hk => hk) h1 (by rw [addAt_len]; exact h.n1)⟩
/-- another list is put into the box. -/
theorem swap (h : Ts w N most rs xs v W) {xs' : List Nat} {v' : Value} (hb : Below W.heap.size W B) (hq : Q e64 B v' xs') (hl : xs'.length = 40) (ho : ∀ k, v'.ownBlock = some k → N + 4 ≤ k ∧ k ≠ N + 4 + 1) (hlow : ∀ i, ct xs' i ≤ 15) : Ts w N most rs xs' v' (B.setCell ⟨N + 4 + 1, 0, none⟩ v') := by
  have hB := h.below hb
  have hk : Keep (fun k => k ≠ N + 4 + 1) B (B.setCell ⟨N + 4 + 1, 0, none⟩ v') := Keep.setCell _ _ _ fun h => h rfl
  have hs := hB.size
  exact ⟨hk.heap hB.b0 (by omega), hk.heap hB.b1 (by omega), by rw [heap_set hB.b5]; rfl, hB.row.keep hk (by omega) (by omega), hq.keep hk (fun k hk => (ho k hk).2), ho, hB.old.trans (hk.below (fun k hk => by omega) (by omega)), hB.n1, hl, hlow⟩
theorem k13 (h : Ts w N most rs xs v W) (k : Int) : Calls Try.prog 13 #[v, .int .i64 k] W fun e B => ∃ a c b, e = .returned (.tuple #[.slice a 40 c, .bool b]) ∧ B.cell? ⟨N + 4 + 1, 0, none⟩ = some v ∧ B.frozen? ⟨N + 4 + 1, 0, none⟩ = false ∧ Hid (Ts w N most rs (addAt xs k) (.slice a 40 c) (B.setCell ⟨N + 4 + 1, 0, none⟩ (.slice a 40 c))) := by
  obtain ⟨a, c, rfl, _⟩ := h.slice
  have hn := h.n2
  have same : addAt xs k = xs → Ts w N most rs (addAt xs k) (.slice a 40 c) (W.setCell ⟨N + 4 + 1, 0, none⟩ (.slice a 40 c)) := fun e => by
    rw [e]
    exact h.swap (Below.refl _ _) h.ref hn h.off h.low
  by_cases hk : 0 ≤ k ∧ k < xs.length
  · have e : k = (k.toNat : Int) := by omega
    by_cases hm : ct xs k.toNat < 15
    · have hmay : mayAdd xs k = true := decide_eq_true ⟨hk.1, hk.2, hm⟩
      have := refadd_ok h.ref k.toNat (by omega) hm (by omega)
      rw [← e] at this
      refine this.mono fun e B ⟨v', he, h1, h2, h3⟩ => ?_
      have hB := h.below h2
      have hS := h.swap h2 h1 (by rw [List.length_set]; exact hn) (fun j hj => by have := h3 j hj; have := h.size; omega) (fun i => by
        rw [ct_set xs _ _ (by omega)]
        split
        · omega
        · exact h.low i)
      obtain ⟨a', c', rfl, _⟩ := hS.slice
      refine ⟨a', c', true, he, hB.c5, hB.f5, ?_⟩
      rw [addAt, if_pos hmay]
      exact hS
    · have hmay : mayAdd xs k = false := decide_eq_false fun h' => hm h'.2.2
      have := refadd_most h.ref k.toNat (by omega) (by omega)
      rw [← e] at this
      refine this.mono fun e B ⟨he, hB⟩ => ?_
      subst hB
      exact ⟨a, c, false, he, h.c5, h.f5, same (by rw [addAt, hmay, if_neg (by simp)])⟩
  · have hmay : mayAdd xs k = false := decide_eq_false fun h' => hk ⟨h'.1, h'.2.1⟩
    refine (refadd_out k (by omega)).mono fun e B ⟨he, hB⟩ => ?_
    subst hB
    exact ⟨a, c, false, he, h.c5, h.f5, same (by rw [addAt, hmay, if_neg (by simp)])⟩
/-- the element at a place. -/
theorem el (h : Ts w N most rs xs v W) (i : Nat) (hi : i < 40) : ∃ b o c, v = .slice (some ⟨b, o, none⟩) 40 c ∧ W.cell? ⟨b, o + i, none⟩ = some (.int .i64 (ct xs i : Int)) := by
  obtain ⟨b, o, c, hv, hc⟩ := h.ref.at_ i (by rw [h.n2]; exact hi)
  rw [h.n2] at hv
  exact ⟨b, o, c, hv, hc⟩
end Ts
end Go.Proofs.Ytnbgloooklgngaa
