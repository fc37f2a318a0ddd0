/-
  What is known of a key: again, faded, estimate by their contracts; noKeys, New.
-/
import Derived.Test.YtnhpcjiieagjnaaDoorRkEz
import Derived.Test.YtnhpcjiieagjnaaDoorRkMake
import Derived.Lib.MinMax
namespace Go.Proofs.YtnhpcjiieagjnaaDoor.rk
open Go.RowKit
theorem Kb.other {w : World} {g g' : Nat} {v : Kn} (h : Kb w g v) (hne : g ≠ g') (i : Nat) (u : Value) : Kb (w.setCell ⟨g', i, none⟩ u) g v := heap_set_other h hne i u
/-- two boxes: the argument's, the result's. -/
theorem kn_two {w W1 : World} {v : Kn} (h : (w.alloc (.cells #[.int .i64 (v.n : Int), .bool v.c] 58)).alloc (.cells #[.int .i64 0, .bool false] 58) = W1) : Kb W1 w.heap.size v ∧ Kb W1 (w.heap.size + 1) kn0 ∧ Below w.heap.size w W1 := by
  rw [← h]
  refine ⟨heap_old (heap_next rfl _), ?_, ((Below.refl _ _).alloc (Nat.le_refl _) _).alloc (by simp) _⟩
  exact heap_next (by simp) (.cells #[.int .i64 0, .bool false] 58)
set_option maxHeartbeats 1000000 in
theorem again_any (v : Kn) (hv : v.n ≤ 15) (w : World) : Calls Tryd.prog 26 #[kn v] w fun e w' => e = .returned (kn (againK v)) ∧ Below w.heap.size w w' := by
  obtain ⟨n, c⟩ := v
  obtain ⟨W1, hW1⟩ : ∃ W1, (w.alloc (.cells #[.int .i64 (n : Int), .bool c] 58)).alloc (.cells #[.int .i64 0, .bool false] 58) = W1 := ⟨_, rfl⟩
  obtain ⟨k1, k2, hb⟩ := kn_two (v := ⟨n, c⟩) hW1
  obtain ⟨N, hN⟩ : ∃ N, w.heap.size = N := ⟨_, rfl⟩
  rw [hN] at k1 k2 hb ⊢
  have d0 : W1.cell? ⟨N, 0, none⟩ = some (.int .i64 (n : Int)) := k1.c0
  have d1 : W1.cell? ⟨N, 1, none⟩ = some (.bool c) := k1.c1
  have f0 := k1.fr 0
  have f1 := k1.fr 1
  cases c
  · obtain ⟨W2, hW2⟩ : ∃ W2, W1.setCell ⟨N, 1, none⟩ (.bool true) = W2 := ⟨_, rfl⟩
    have q1 : Kb W2 N ⟨n, true⟩ := by rw [← hW2]; exact k1.set1 true
    have q2 : Kb W2 (N + 1) kn0 := by rw [← hW2]; exact k2.other (by omega) _ _
    have hb2 : Below N w W2 := by rw [← hW2]; exact hb.setCell (Nat.le_refl _) _
    have e0 : W2.cell? ⟨N, 0, none⟩ = some (.int .i64 (n : Int)) := q1.c0
    have e1 : W2.cell? ⟨N, 1, none⟩ = some (.bool true) := q1.c1
    have g0 : W2.cell? ⟨N + 1, 0, none⟩ = some (.int .i64 0) := q2.c0
    have g1 : W2.cell? ⟨N + 1, 1, none⟩ = some (.bool false) := q2.c1
    have i0 := q2.fr 0
    have i1 := q2.fr 1
    have Q2 := Lib.hid q2
    have HB := Lib.hid hb2
    clear k1 k2 hb q1 q2 hb2
    go_enter Tryd.func26, Tryd.ntmps26
    go_wp2
    have q := Q2.out.set2 ⟨n, true⟩
    have z0 := q.c0
    have z1 := q.c1
    exact bodyPost_ret (v := kn ⟨n, true⟩) (by simp [results, Tryd.results26, go_sem, z0, z1]) rfl ⟨by simp [againK], below_set HB.out (by omega) _ _⟩
  · obtain ⟨m, hm, hm'⟩ : ∃ m : Nat, min ((n : Int) + 1) 15 = (m : Int) ∧ min (n + 1) 15 = m := ⟨min (n + 1) 15, by omega, rfl⟩
    have hw : IntKind.i64.wrap ((n : Int) + 1) = (n : Int) + 1 := by simp only [IntKind.wrap_i64]; simp only at hv; omega
    obtain ⟨W2, hW2⟩ : ∃ W2, W1.setCell ⟨N, 0, none⟩ (.int .i64 (m : Int)) = W2 := ⟨_, rfl⟩
    have q1 : Kb W2 N ⟨m, true⟩ := by rw [← hW2]; exact k1.set0 m
    have q2 : Kb W2 (N + 1) kn0 := by rw [← hW2]; exact k2.other (by omega) _ _
    have hb2 : Below N w W2 := by rw [← hW2]; exact hb.setCell (Nat.le_refl _) _
    obtain ⟨W3, hW3⟩ : ∃ W3, W2.setCell ⟨N, 1, none⟩ (.bool true) = W3 := ⟨_, rfl⟩
    have r1 : Kb W3 N ⟨m, true⟩ := by rw [← hW3]; exact q1.set1 true
    have r2 : Kb W3 (N + 1) kn0 := by rw [← hW3]; exact q2.other (by omega) _ _
    have hb3 : Below N w W3 := by rw [← hW3]; exact hb2.setCell (Nat.le_refl _) _
    have e0 : W2.cell? ⟨N, 1, none⟩ = some (.bool true) := q1.c1
    have e1 := q1.fr 1
    have g0 : W3.cell? ⟨N, 0, none⟩ = some (.int .i64 (m : Int)) := r1.c0
    have g1 : W3.cell? ⟨N, 1, none⟩ = some (.bool true) := r1.c1
    have g2 : W3.cell? ⟨N + 1, 0, none⟩ = some (.int .i64 0) := r2.c0
    have g3 : W3.cell? ⟨N + 1, 1, none⟩ = some (.bool false) := r2.c1
    have i0 := r2.fr 0
    have i1 := r2.fr 1
    have Q2 := Lib.hid r2
    have HB := Lib.hid hb3
    have HM := Lib.hid hm'
    clear k1 k2 hb q1 q2 hb2 r1 r2 hb3 hm'
    go_enter Tryd.func26, Tryd.ntmps26
    go_wp2
    have q := Q2.out.set2 ⟨m, true⟩
    have z0 := q.c0
    have z1 := q.c1
    exact bodyPost_ret (v := kn ⟨m, true⟩) (by simp [results, Tryd.results26, go_sem, z0, z1]) rfl ⟨by simp [againK, HM.out], below_set HB.out (by omega) _ _⟩
set_option maxHeartbeats 1000000 in
theorem faded_any (v : Kn) (hv : v.n ≤ 15) (w : World) : Calls Tryd.prog 51 #[kn v] w fun e w' => e = .returned (kn (fadedK v)) ∧ Below w.heap.size w w' := by
  obtain ⟨n, c⟩ := v
  obtain ⟨W1, hW1⟩ : ∃ W1, (w.alloc (.cells #[.int .i64 (n : Int), .bool c] 58)).alloc (.cells #[.int .i64 0, .bool false] 58) = W1 := ⟨_, rfl⟩
  obtain ⟨k1, k2, hb⟩ := kn_two (v := ⟨n, c⟩) hW1
  obtain ⟨N, hN⟩ : ∃ N, w.heap.size = N := ⟨_, rfl⟩
  rw [hN] at k1 k2 hb ⊢
  have d0 : W1.cell? ⟨N, 0, none⟩ = some (.int .i64 (n : Int)) := k1.c0
  have g0 : W1.cell? ⟨N + 1, 0, none⟩ = some (.int .i64 0) := k2.c0
  have g1 : W1.cell? ⟨N + 1, 1, none⟩ = some (.bool false) := k2.c1
  have i0 := k2.fr 0
  have i1 := k2.fr 1
  obtain ⟨m, hm, hm'⟩ : ∃ m : Nat, (n : Int).tdiv 2 = (m : Int) ∧ n / 2 = m := ⟨n / 2, by rw [Int.tdiv_eq_ediv_of_nonneg (by omega)]; omega, rfl⟩
  have hw : IntKind.i64.wrap (m : Int) = (m : Int) := by simp only [IntKind.wrap_i64]; simp only at hv; omega
  have Q2 := Lib.hid k2
  have HB := Lib.hid hb
  have HM := Lib.hid hm'
  clear k1 k2 hb hm'
  go_enter Tryd.func51, Tryd.ntmps51
  go_wp2
  have q := Q2.out.set2 ⟨m, false⟩
  have z0 := q.c0
  have z1 := q.c1
  exact bodyPost_ret (v := kn ⟨m, false⟩) (by simp [results, Tryd.results51, go_sem, z0, z1]) rfl ⟨by simp [fadedK, HM.out], below_set HB.out (by omega) _ _⟩
theorem estimate_any (v : Kn) (hv : v.n ≤ 15) (w : World) : Calls Tryd.prog 29 #[kn v] w fun e w' => e = .returned (.int .i64 (estK v : Int)) ∧ Below w.heap.size w w' := by
  obtain ⟨n, c⟩ := v
  obtain ⟨W1, hW1⟩ : ∃ W1, w.alloc (.cells #[.int .i64 (n : Int), .bool c] 58) = W1 := ⟨_, rfl⟩
  obtain ⟨x0, x1, hb⟩ := kn_box (v := ⟨n, c⟩) hW1
  obtain ⟨N, hN⟩ : ∃ N, w.heap.size = N := ⟨_, rfl⟩
  rw [hN] at x0 x1 hb ⊢
  have d0 : W1.cell? ⟨N, 0, none⟩ = some (.int .i64 (n : Int)) := x0
  have d1 : W1.cell? ⟨N, 1, none⟩ = some (.bool c) := x1
  have hw : IntKind.i64.wrap ((n : Int) + 1) = (n : Int) + 1 := by simp only [IntKind.wrap_i64]; simp only at hv; omega
  have HB := Lib.hid hb
  clear x0 x1 hb
  cases c
  · go_enter Tryd.func29, Tryd.ntmps29
    go_wp2
    go_ret
    exact ⟨by simp [estK], HB.out⟩
  · go_enter Tryd.func29, Tryd.ntmps29
    go_wp2
    go_ret
    exact ⟨by simp [estK], HB.out⟩
theorem noKeys_any (w : World) : Calls Tryd.prog 21 #[] w fun e w' => ∃ g, e = .returned (.pointer (some ⟨g, 0, none⟩)) ∧ Hid (At w' g .nil ∧ Below w.heap.size w w') := by
  have T := Lib.hid (new_at w)
  go_enter Tryd.func21, Tryd.ntmps21
  go_wp2_with fail
  refine T.out.mono ?_
  rintro e w1 ⟨g, rfl, ho⟩
  go_wp2
  go_ret
  exact ⟨g, rfl, ho⟩
end Go.Proofs.YtnhpcjiieagjnaaDoor.rk
