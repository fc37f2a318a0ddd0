/-
  Nearest and Config of package script, and the document's Nearest, by their contracts, for every config.
-/
import Derived.Test.YtfhcgildokdppaaNe
namespace Go.Proofs.Ytfhcgildokdppaa
open Go.RowKit Go.Shelf tp
theorem cellsD {W : World} {b : Nat} {c : Cfg} (h : W.heap[b]? = some (.cells (ccs c) 23 (0, 0))) : Cc b c W.drew := cellsC (W := W.drew) h
set_option maxRecDepth 100000 in
set_option maxHeartbeats 4000000 in
theorem nearest9 (c : Cfg) (w : World) : Calls Try.prog 9 #[cv c] w fun e B => e = .returned (cv (near c)) ∧ Hid (Below w.heap.size w B) := by
  obtain ⟨N, hN⟩ : ∃ N, w.heap.size = N := ⟨_, rfl⟩
  rw [hN]
  obtain ⟨W1, hW1⟩ : ∃ W1, (w.alloc (.cells (ccs c) 23)).alloc (.cells (ccs ⟨0, 0, 0, 0, 0⟩) 23) = W1 := ⟨_, rfl⟩
  obtain ⟨hO, hR, hb, hs⟩ := twoC hN hW1
  have K0 : Hid (Cc N c W1.drew) := cellsD hO
  have K1 : Hid (∀ a b d e f, Cc N c (((((W1.setCell ⟨N + 1, 0, none⟩ (.int .i64 a)).setCell ⟨N + 1, 1, none⟩ (.int .i64 b)).setCell ⟨N + 1, 2, none⟩ (.int .i64 d)).setCell ⟨N + 1, 3, none⟩ (.int .i64 e)).setCell ⟨N + 1, 4, none⟩ (.int .i64 f)).drew) := fun a b d e f => (fun r => cellsD ((keepC W1 (N + 1) r).heap hO (by show N ≠ N + 1; omega)) : ∀ r, Cc N c (setC W1 (N + 1) r).drew) ⟨a, b, d, e, f⟩
  have f0 := frozen_of hR 0
  have f1 := frozen_of hR 1
  have f2 := frozen_of hR 2
  have f3 := frozen_of hR 3
  have f4 := frozen_of hR 4
  obtain ⟨l0, l1, l2, l3, l4⟩ := cellsC hR
  have E : Hid (∀ r D, (setC W1 (N + 1) r).drew = D → D.cell? ⟨N + 1, 0, none⟩ = some (.int .i64 r.mx) ∧ D.cell? ⟨N + 1, 1, none⟩ = some (.int .i64 r.bu) ∧ D.cell? ⟨N + 1, 2, none⟩ = some (.int .i64 r.co) ∧ D.cell? ⟨N + 1, 3, none⟩ = some (.int .i64 r.ba) ∧ D.cell? ⟨N + 1, 4, none⟩ = some (.int .i64 r.bi) ∧ Hid (Below N w D)) := fun r D hD => by
    subst hD
    obtain ⟨z0, z1, z2, z3, z4⟩ := cellsD (putC hR (c := r))
    have k := keepC W1 (N + 1) r
    have hb2 : Below N w (setC W1 (N + 1) r) := hb.trans (k.below (fun k hk => by show k ≠ N + 1; omega) (by omega))
    exact ⟨z0, z1, z2, z3, z4, hb2.trans ((below_drewN _ 1).mono (by have := hb2.size; have h0 := hN; omega))⟩
  have hB := bC
  have T21 := Lib.hid cut21
  have T22 := Lib.hid nearer22
  obtain ⟨mx, bu, co, ba, bi⟩ := c
  clear hO hR hb
  show Calls _ _ _ _ fun e B => e = .returned (cv ⟨nr mx 0 4611686018427387904, nr bu 1 64, nr co 1 4096, nr ba 1 16, nr bi 0 64⟩) ∧ Hid (Below N w B)
  go_enter Try.func9, Try.ntmps9
  go_wp2_with fail
  go_region_held3 (Cc N ⟨mx, bu, co, ba, bi⟩) (first | with_reducible exact K0.out | with_reducible exact K1.out _ _ _ _ _) (first
    | (go_at_call 21; refine (T21.out _ _).mono ?_; rintro e w1 ⟨rfl, rfl⟩)
    | (go_at_call 22; refine (T22.out _ _ _ _).mono ?_; rintro e w1 ⟨rfl, rfl⟩))
  go_wp2
  obtain ⟨D, hD⟩ : ∃ D, (setC W1 (N + 1) ⟨nr mx 0 4611686018427387904, nr bu 1 64, nr co 1 4096, nr ba 1 16, nr bi 0 64⟩).drew = D := ⟨_, rfl⟩
  obtain ⟨z0, z1, z2, z3, z4, F⟩ := E.out _ D hD
  unfold setC at hD
  rw [hD]
  exact bodyPost_ret (v := cv ⟨nr mx 0 4611686018427387904, nr bu 1 64, nr co 1 4096, nr ba 1 16, nr bi 0 64⟩) (by simp [results, Try.results9, go_sem, z0, z1, z2, z3, z4]) rfl ⟨rfl, F⟩
set_option maxRecDepth 100000 in
set_option maxHeartbeats 4000000 in
theorem refnearest12 (c : Cfg) (w : World) : Calls Try.prog 12 #[cv c] w fun e B => e = .returned (cv (near c)) ∧ Hid (Below w.heap.size w B) := by
  obtain ⟨N, hN⟩ : ∃ N, w.heap.size = N := ⟨_, rfl⟩
  rw [hN]
  obtain ⟨W1, hW1⟩ : ∃ W1, (w.alloc (.cells (ccs c) 23)).alloc (.cells (ccs ⟨0, 0, 0, 0, 0⟩) 23) = W1 := ⟨_, rfl⟩
  obtain ⟨hO, hR, hb, hs⟩ := twoC hN hW1
  have K0 : Hid (Cc N c W1.drew) := cellsD hO
  have K1 : Hid (∀ a b d e f, Cc N c (((((W1.setCell ⟨N + 1, 0, none⟩ (.int .i64 a)).setCell ⟨N + 1, 1, none⟩ (.int .i64 b)).setCell ⟨N + 1, 2, none⟩ (.int .i64 d)).setCell ⟨N + 1, 3, none⟩ (.int .i64 e)).setCell ⟨N + 1, 4, none⟩ (.int .i64 f)).drew) := fun a b d e f => (fun r => cellsD ((keepC W1 (N + 1) r).heap hO (by show N ≠ N + 1; omega)) : ∀ r, Cc N c (setC W1 (N + 1) r).drew) ⟨a, b, d, e, f⟩
  have f0 := frozen_of hR 0
  have f1 := frozen_of hR 1
  have f2 := frozen_of hR 2
  have f3 := frozen_of hR 3
  have f4 := frozen_of hR 4
  obtain ⟨l0, l1, l2, l3, l4⟩ := cellsC hR
  have E : Hid (∀ r D, (setC W1 (N + 1) r).drew = D → D.cell? ⟨N + 1, 0, none⟩ = some (.int .i64 r.mx) ∧ D.cell? ⟨N + 1, 1, none⟩ = some (.int .i64 r.bu) ∧ D.cell? ⟨N + 1, 2, none⟩ = some (.int .i64 r.co) ∧ D.cell? ⟨N + 1, 3, none⟩ = some (.int .i64 r.ba) ∧ D.cell? ⟨N + 1, 4, none⟩ = some (.int .i64 r.bi) ∧ Hid (Below N w D)) := fun r D hD => by
    subst hD
    obtain ⟨z0, z1, z2, z3, z4⟩ := cellsD (putC hR (c := r))
    have k := keepC W1 (N + 1) r
    have hb2 : Below N w (setC W1 (N + 1) r) := hb.trans (k.below (fun k hk => by show k ≠ N + 1; omega) (by omega))
    exact ⟨z0, z1, z2, z3, z4, hb2.trans ((below_drewN _ 1).mono (by have := hb2.size; have h0 := hN; omega))⟩
  have hB := bC
  have T28 : Hid (∀ x lo hi V, lo ≤ hi → Calls Try.prog 28 #[.int .i64 x, .int .i64 lo, .int .i64 hi] V fun e B => e = .returned (.int .i64 (nr x lo hi)) ∧ B = V) := fun x lo hi V h => by
    rw [← nr_ref x lo hi h]
    exact refcut28 x lo hi V
  obtain ⟨mx, bu, co, ba, bi⟩ := c
  clear hO hR hb
  show Calls _ _ _ _ fun e B => e = .returned (cv ⟨nr mx 0 4611686018427387904, nr bu 1 64, nr co 1 4096, nr ba 1 16, nr bi 0 64⟩) ∧ Hid (Below N w B)
  go_enter Try.func12, Try.ntmps12
  go_wp2_with fail
  go_region_held3 (Cc N ⟨mx, bu, co, ba, bi⟩) (first | with_reducible exact K0.out | with_reducible exact K1.out _ _ _ _ _) (first | (go_at_call 28; refine (T28.out _ _ _ _ (by decide)).mono ?_; rintro e w1 ⟨rfl, rfl⟩))
  go_wp2
  obtain ⟨D, hD⟩ : ∃ D, (setC W1 (N + 1) ⟨nr mx 0 4611686018427387904, nr bu 1 64, nr co 1 4096, nr ba 1 16, nr bi 0 64⟩).drew = D := ⟨_, rfl⟩
  obtain ⟨z0, z1, z2, z3, z4, F⟩ := E.out _ D hD
  unfold setC at hD
  rw [hD]
  exact bodyPost_ret (v := cv ⟨nr mx 0 4611686018427387904, nr bu 1 64, nr co 1 4096, nr ba 1 16, nr bi 0 64⟩) (by simp [results, Try.results12, go_sem, z0, z1, z2, z3, z4]) rfl ⟨rfl, F⟩
set_option maxRecDepth 100000 in
set_option maxHeartbeats 2000000 in
theorem config13 (c : Cfg) (w : World) : Calls Try.prog 13 #[cv c] w fun e B => e = .returned (.bool (decide (near c = c))) ∧ Hid (Below w.heap.size w B) := by
  obtain ⟨N, hN⟩ : ∃ N, w.heap.size = N := ⟨_, rfl⟩
  have hb1 : Below N w (w.alloc (.cells (ccs c) 23)).drew := by rw [← hN]; exact ((Below.refl _ _).alloc (Nat.le_refl _) _).trans ((below_drewN _ 1).mono (by simp))
  have hO : (w.alloc (.cells (ccs c) 23)).drew.heap[N]? = some (.cells (ccs c) 23 (0, 0)) := by rw [← hN]; exact heap_next rfl _
  have K0 : Hid (Cc N c (w.alloc (.cells (ccs c) 23)).drew) := cellsC hO
  have T : Hid (Calls Try.prog 9 #[cv c] (w.alloc (.cells (ccs c) 23)).drew fun e B => e = .returned (cv (near c)) ∧ Cc N c B ∧ Hid (Below N w B)) := (nearest9 c _).mono fun e B ⟨he, hB⟩ =>
    ⟨he, cellsC ((hB.out.block N (heap_lt hO)).trans hO), hb1.trans (hB.out.mono (by have := hb1.size; omega))⟩
  have e1 := eqC c (near c)
  have e2 : decide (c = near c) = decide (near c = c) := by
    by_cases h : near c = c
    · rw [decide_eq_true h, decide_eq_true (Eq.symm h)]
    · rw [decide_eq_false h, decide_eq_false (fun e => h (Eq.symm e))]
  rw [e2] at e1
  clear e2 hb1 hO
  obtain ⟨q, hq⟩ : ∃ q, decide (near c = c) = q := ⟨_, rfl⟩
  rw [hq] at e1 ⊢
  clear hq
  generalize near c = r at *
  obtain ⟨k, a, b, c, d⟩ := c
  obtain ⟨k', a', b', c', d'⟩ := r
  go_enter Try.func13, Try.ntmps13
  go_wp2_with fail
  go_region_held3 (Cc N ⟨k, a, b, c, d⟩) (first | exact K0.out | assumption) (first | (go_at_call 9; refine T.out.mono ?_; rintro e w1 ⟨rfl, hc, hb⟩))
  go_wp2
  go_ret
  exact ⟨rfl, by rw [hN]; exact hb⟩
end Go.Proofs.Ytfhcgildokdppaa
