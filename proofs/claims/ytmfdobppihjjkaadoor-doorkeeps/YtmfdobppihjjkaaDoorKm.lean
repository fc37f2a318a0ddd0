/-
  Of no function: what P12.3 says of a door behind keys ('runB'): what was put is there; what wasn't, and has a place of its own, isn't.
-/
import Derived.Test.YtmfdobppihjjkaaDoorTr
import Derived.Test.YtmfdobppihjjkaaDoorLo
namespace Go.Proofs.YtmfdobppihjjkaaDoor
open Go.RowKit
theorem foldB_one (t m : Nat) (hm : 0 < m) (q : Nat) : ∀ (l : List Nat) (bs : List Nat), bs.length = m → bt bs q = 1 → bt (l.foldl (fun bs x => putB (plN t (8 * m) x) bs) bs) q = 1
  | [], _, _, h => h
  | x :: l, bs, hl, h => by
    rw [List.foldl_cons]
    exact foldB_one t m hm q l _ (by rw [putB_len, hl]) (bt_put_mono _ bs (fun i => by rw [hl]; exact plN_lt _ _ _ _ (by omega)) q h)
/-- what was put is there. -/
theorem runB_has (t m : Nat) (hm : 0 < m) (l : List Nat) (x : Nat) (hx : x ∈ l) : hasB (plN t (8 * m) x) (runB t m l) = true := by
  obtain ⟨l1, l2, rfl⟩ := List.append_of_mem hx
  refine has_true fun i hi => ?_
  have h1 : runB t m (l1 ++ x :: l2) = l2.foldl (fun bs x => putB (plN t (8 * m) x) bs) (putB (plN t (8 * m) x) (runB t m l1)) := by simp [runB]
  rw [h1]
  have hl := runB_len t m l1
  exact foldB_one t m hm _ l2 _ (by rw [putB_len, hl]) (has_at (has_put _ _ fun i => by rw [hl]; exact plN_lt _ _ _ _ (by omega)) i hi)
theorem foldB_zero (t m : Nat) (hm : 0 < m) (q : Nat) : ∀ (l : List Nat) (bs : List Nat), bs.length = m → bt bs q = 0 → (∀ y ∈ l, ∀ i, i < 4 → q ≠ plN t (8 * m) y i) → bt (l.foldl (fun bs x => putB (plN t (8 * m) x) bs) bs) q = 0
  | [], _, _, h, _ => h
  | x :: l, bs, hl, h, ho => by
    rw [List.foldl_cons]
    exact foldB_zero t m hm q l _ (by rw [putB_len, hl]) (by rw [bt_put_other _ bs (fun i => by rw [hl]; exact plN_lt _ _ _ _ (by omega)) q (ho x List.mem_cons_self)]; exact h) fun y hy => ho y (List.mem_cons_of_mem _ hy)
theorem far_all {py : Nat → Nat} {q : Nat} (h : farTo py q 4 = true) (i : Nat) (hi : i < 4) : q ≠ py i := by
  unfold farTo at h
  have := List.all_eq_true.1 h i (List.mem_range.2 hi)
  intro e
  simp [e] at this
/-- .. what wasn't, and has a place of its own, isn't. -/
theorem runB_not (t m : Nat) (hm : 0 < m) (l : List Nat) (x : Nat) (hx : x ∉ l) (h : lonely t (8 * m) x l = true) : hasB (plN t (8 * m) x) (runB t m l) = false := by
  unfold lonely at h
  obtain ⟨i, hi, ha⟩ := List.any_eq_true.1 h
  have hi := List.mem_range.1 hi
  unfold aloneIn at ha
  refine has_false i hi (foldB_zero t m hm _ l _ (by simp) (bt_zeros m _) fun y hy k hk => ?_)
  have := List.all_eq_true.1 ha y hy
  have hne : (y == x) = false := by
    rw [beq_eq_false_iff_ne]
    intro e
    subst e
    exact hx hy
  rw [hne, Bool.false_or] at this
  exact far_all this k hk
end Go.Proofs.YtmfdobppihjjkaaDoor
