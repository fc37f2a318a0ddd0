/-
  NibblePlays, its state: a row with the counters rs, the document's list v with xs, all that lay; what each call makes of it.
-/
import Derived.Test.YtnbgloooklgngaaStands
namespace Go.Proofs.Ytnbgloooklgngaa
open Go.RowKit
/-- the slice at a reads as the steps ks. -/
def Steps (w : World) (a : Option Addr) (ks : List (Nat × Int)) : Prop :=
  0 < ks.length → ∃ b o, a = some ⟨b, o, none⟩ ∧ ∀ i (h : i < ks.length), w.cell? ⟨b, o + i * 2, none⟩ = some (.int .u64 (ks[i].1 : Int)) ∧ w.cell? ⟨b, o + i * 2 + 1, none⟩ = some (.int .i64 ks[i].2)
/-- a row with rs, the list v with xs, m each. -/
structure St (w : World) (N m : Nat) (rs xs : List Nat) (v : Value) (W : World) : Prop where
  row : Nib W (N + 1) N rs
  ref : Q e64 W v xs
  off : ∀ k, v.ownBlock = some k → k ≠ N
  old : Below N w W
  size : N ≤ W.heap.size
  n1 : rs.length = m
  n2 : xs.length = m
  most : m ≤ 40
  low : ∀ i, ct xs i ≤ 15
namespace St
variable {w W B : World} {N m : Nat} {rs xs : List Nat} {v : Value}
theorem lt (h : St w N m rs xs v W) : N < W.heap.size := h.row.lt.2
theorem below (h : St w N m rs xs v W) (hb : Below W.heap.size W B) : St w N m rs xs v B := ⟨h.row.below hb, h.ref.below hb, h.off, h.old.trans (hb.mono h.size), Nat.le_trans h.size hb.size, h.n1, h.n2, h.most, h.low⟩
theorem drewN (h : St w N m rs xs v W) (q : Nat) : St w N m rs xs v (W.drewN q) := h.below ((Keep.drewN (fun _ => True) W q).below (fun _ _ => trivial) (Nat.le_refl _))
/-- what a call of the row makes of it. -/
theorem turn (h : St w N m rs xs v W) {rs' : List Nat} (hr : Nib B (N + 1) N rs') (hk : Keep (fun k => k ≠ N) W B) (hl : rs'.length = m) : St w N m rs' xs v B :=
  ⟨hr, h.ref.keep hk h.off, h.off, h.old.trans (hk.below (fun k hk => by omega) h.size), Nat.le_trans h.size hk.size, hl, h.n2, h.most, h.low⟩
/-- what a call of the document makes of it. -/
theorem swap (h : St w N m rs xs v W) {xs' : List Nat} {v' : Value} (hb : Below W.heap.size W B) (hq : Q e64 B v' xs') (hl : xs'.length = m) (ho : ∀ k, v'.ownBlock = some k → W.heap.size ≤ k) (hlow : ∀ i, ct xs' i ≤ 15) : St w N m rs xs' v' B :=
  ⟨h.row.below hb, hq, fun k hk => by have := ho k hk; have := h.lt; omega, h.old.trans (hb.mono h.size), Nat.le_trans h.size hb.size, h.n1, hl, h.most, hlow⟩
theorem slice (h : St w N m rs xs v W) : ∃ a c, v = .slice a m c := by
  obtain ⟨a, c, hv, _⟩ := h.ref.slice
  exact ⟨a, c, h.n2 ▸ hv⟩
theorem k8 (h : St w N m rs xs v W) : Calls Try.prog 8 #[.pointer (some ⟨N + 1, 0, none⟩)] W fun e B => e = .returned (.tuple #[]) ∧ St w N m (rs.map (· / 2)) xs v B :=
  (halve_some h.row).mono fun e B ⟨he, h1, h2⟩ => ⟨he, h.turn h1 h2 (by rw [List.length_map]; exact h.n1)⟩
theorem k9 (h : St w N m rs xs v W) : Calls Try.prog 9 #[v] W fun e B => ∃ a c, e = .returned (.slice a m c) ∧ St w N m rs (xs.map (· / 2)) (.slice a m c) B :=
  (refhalve_any h.ref (by have := h.n2; have := h.most; omega) h.low).mono fun e B ⟨v', he, h1, h2, h3⟩ => by
    have hS := h.swap h2 h1 (by rw [List.length_map]; exact h.n2) h3 (fun i => by rw [ct_half]; have := h.low i; omega)
    obtain ⟨a, c, rfl⟩ := hS.slice
    exact ⟨a, c, he, hS⟩
theorem k10 (h : St w N m rs xs v W) : Calls Try.prog 10 #[.pointer (some ⟨N + 1, 0, none⟩)] W fun e B => e = .returned (.tuple #[]) ∧ St w N m (List.replicate m 0) xs v B :=
  (clear_some h.row).mono fun e B ⟨he, h1, h2⟩ => ⟨he, by
    rw [h.n1] at h1
    exact h.turn h1 h2 (by simp)⟩
theorem made_ints (n : Nat) : madeCells #[Value.int .i64 0] n = ((List.replicate n 0).map e64).toArray := by
  refine Array.ext (by simp [madeCells]) fun i h1 h2 => ?_
  simp [madeCells, e64, Nat.mod_one]
theorem zeros_q (W : World) (m : Nat) : Q e64 (W.alloc (.cells (madeCells #[.int .i64 0] m) 3)) (.slice (some ⟨W.heap.size, 0, none⟩) m m) (List.replicate m 0) :=
  .inr ⟨W.heap.size, 0, m, by simp, by simp, fun i hi => by
    simp at hi
    rw [cell_of (heap_next rfl _), made_ints]
    simp [hi]⟩
/-- 'make([]int, len(x))'. -/
theorem zeros (h : St w N m rs xs v W) : St w N m rs (List.replicate m 0) (.slice (some ⟨W.heap.size, 0, none⟩) m m) (W.alloc (.cells (madeCells #[.int .i64 0] m) 3)) :=
  h.swap ((Below.refl _ _).alloc (Nat.le_refl _) _) (zeros_q W m) (by simp) (fun k hk => by simp [Value.ownBlock] at hk; omega) (fun i => by rw [ct_zeros]; omega)
theorem k11 (h : St w N m rs xs v W) (k : Int) (q : Nat) : Calls Try.prog 11 #[.pointer (some ⟨N + 1, 0, none⟩), .int .i64 k] (W.drewN q) fun e w' => e = .returned (.int .i64 (getAt rs k : Int)) ∧ ∃ m, w' = (W.drewN q).drewN m := get_any (h.row.drewN q) k
theorem k12 (h : St w N m rs xs v W) (k : Int) (q : Nat) : Calls Try.prog 12 #[v, .int .i64 k] (W.drewN q) fun e w' => e = .returned (.int .i64 (getAt xs k : Int)) ∧ w' = W.drewN q := by
  have hq := h.ref.drewN q
  by_cases hk : 0 ≤ k ∧ k < xs.length
  · have e : k = (k.toNat : Int) := by omega
    have := refget_in hq k.toNat (by omega)
    rw [← e] at this
    rwa [getAt, if_pos hk.1]
  · rw [getAt_out hk]
    obtain ⟨a, c, rfl, _⟩ := hq.slice
    exact refget_out k hk
theorem k13 (h : St w N m rs xs v W) (k : Int) : Calls Try.prog 13 #[v, .int .i64 k] W fun e B => ∃ a c, e = .returned (.tuple #[.slice a m c, .bool (mayAdd xs k)]) ∧ St w N m rs (addAt xs k) (.slice a m c) B := by
  obtain ⟨a, c, rfl⟩ := h.slice
  have hl : m ≤ 40 := h.most
  have hn := h.n2
  by_cases hk : 0 ≤ k ∧ k < xs.length
  · have e : k = (k.toNat : Int) := by omega
    by_cases hm : ct xs k.toNat < 15
    · have hmay : mayAdd xs k = true := decide_eq_true ⟨hk.1, hk.2, hm⟩
      have := refadd_ok h.ref k.toNat (by omega) hm (by omega)
      rw [← e] at this
      rw [addAt, if_pos hmay, hmay]
      refine this.mono fun e B ⟨v', he, h1, h2, h3⟩ => ?_
      have hS := h.swap h2 h1 (by rw [List.length_set]; exact hn) h3 (fun i => by
        rw [ct_set xs _ _ (by omega)]
        split
        · omega
        · exact h.low i)
      obtain ⟨a', c', rfl⟩ := hS.slice
      exact ⟨a', c', he, hS⟩
    · have hmay : mayAdd xs k = false := decide_eq_false fun h' => hm h'.2.2
      have := refadd_most h.ref k.toNat (by omega) (by omega)
      rw [← e] at this
      rw [addAt, hmay, if_neg (by simp)]
      exact this.mono fun e B ⟨he, hB⟩ => ⟨a, c, he, hB ▸ h⟩
  · have hmay : mayAdd xs k = false := decide_eq_false fun h' => hk ⟨h'.1, h'.2.1⟩
    rw [addAt, hmay, if_neg (by simp)]
    exact (refadd_out k (by omega)).mono fun e B ⟨he, hB⟩ => ⟨a, c, he, hB ▸ h⟩
theorem k14 (h : St w N m rs xs v W) (k : Int) : Calls Try.prog 14 #[.pointer (some ⟨N + 1, 0, none⟩), .int .i64 k] W fun e B => e = .returned (.bool (mayAdd rs k)) ∧ St w N m (addAt rs k) xs v B :=
  (add_any h.row k).mono fun e B ⟨he, h1, h2⟩ => ⟨he, h.turn h1 h2 (by rw [addAt_len]; exact h.n1)⟩
theorem sum_low : ∀ (l : List Nat), (∀ x ∈ l, x ≤ 15) → l.sum ≤ 15 * l.length
  | [], _ => by simp
  | x :: l, h => by
    have h1 := sum_low l fun y hy => h y (by simp [hy])
    have h2 := h x (by simp)
    simp; omega
theorem k15 (h : St w N m xs xs v W) : Calls Try.prog 15 #[.pointer (some ⟨N + 1, 0, none⟩), v] W fun e B => e = .returned (.bool true) ∧ St w N m xs xs v B :=
  (stands_some h.row h.ref (by
    have := sum_low xs fun x hx => by
      obtain ⟨i, hi, rfl⟩ := List.mem_iff_getElem.1 hx
      have := h.low i
      simpa [ct, hi] using this
    have := h.n2
    have := h.most
    omega)).mono fun e B ⟨he, hB⟩ => ⟨he, h.below hB⟩
theorem k6 (h : St w N m rs xs v W) : Calls Try.prog 6 #[] W fun e B => e = .returned (.bool true) ∧ Below N w B := (awake_any W).mono fun _ _ ⟨he, hB⟩ => ⟨he, h.old.trans (hB.out.mono h.size)⟩
/-- the row and the list at first. -/
theorem new (hN : w.heap.size = N) (hW : Nib W (N + 1) N (List.replicate m 0)) (hb : Below N w W) (hm : m ≤ 40) : St w N m (List.replicate m 0) (List.replicate m 0) (.slice (some ⟨W.heap.size, 0, none⟩) m m) (W.alloc (.cells (madeCells #[.int .i64 0] m) 3)) := by
  have hs : N ≤ W.heap.size := by have := hb.size; omega
  exact ⟨hW.below ((Below.refl _ _).alloc (Nat.le_refl _) _), zeros_q W m, fun k hk => by simp [Value.ownBlock] at hk; have := hW.lt.2; omega, hb.trans ((Below.refl _ _).alloc hs _), by simp; omega, by simp, by simp, hm, fun i => by rw [ct_zeros]; omega⟩
end St
end Go.Proofs.Ytnbgloooklgngaa
