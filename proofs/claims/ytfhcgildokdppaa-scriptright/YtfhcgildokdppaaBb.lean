/-
  Writes and Name of package prog by their contracts; the document's Bare and Right, for every call.
-/
import Derived.Test.YtfhcgildokdppaaBa
namespace Go.Proofs.Ytfhcgildokdppaa
open Go.RowKit Go.Shelf tp
def writes (k : Int) : Bool := decide (k = 2 ∨ k = 3 ∨ k = 5 ∨ k = 6)
/-- the names, as they were laid. -/
def nam : List ByteArray := [⟨#[110, 111, 110, 101]⟩, ⟨#[103, 101, 116]⟩, ⟨#[115, 101, 116]⟩, ⟨#[100, 101, 108]⟩, ⟨#[119, 97, 105, 116]⟩, ⟨#[99, 108, 101, 97, 114]⟩, ⟨#[99, 108, 111, 115, 101]⟩, ⟨#[108, 105, 109, 105, 116]⟩]
def Names (W : World) : Prop := 0 < W.heap.size ∧ ∀ i, i < 8 → W.cell? ⟨0, i, none⟩ = some (.string (nam.getD i ⟨#[]⟩))
theorem Names.keep {W B : World} {K : Nat → Prop} (h : Names W) (hk : Keep K W B) (h0 : K 0) : Names B :=
  ⟨Nat.lt_of_lt_of_le h.1 hk.size, fun i hi => (hk.cell (p := ⟨0, i, none⟩) h.1 h0).trans (h.2 i hi)⟩
theorem Names.below {W B : World} (h : Names W) {N : Nat} (hN : 0 < N) (hb : Below N W B) : Names B := ⟨Nat.lt_of_lt_of_le h.1 hb.size, fun i hi => (hb.cell (p := ⟨0, i, none⟩) hN).trans (h.2 i hi)⟩
/-- a Kind's name. -/
def name (k : Int) : ByteArray := if 0 ≤ k ∧ k < 8 then nam.getD k.toNat ⟨#[]⟩ else ⟨#[]⟩
theorem b01 (x y : Int) (W : World) : (Instr.build 53 #[(0, .int .i64 x), (1, .int .i64 y)]).run Try.prog W = .ok (.agg #[.int .i64 x, .int .i64 y, .int .i64 0, .int .i64 0, .int .i64 0]) W := by kernel_rfl
theorem b0 (x : Int) (W : World) : (Instr.build 53 #[(0, .int .i64 x)]).run Try.prog W = .ok (.agg #[.int .i64 x, .int .i64 0, .int .i64 0, .int .i64 0, .int .i64 0]) W := by kernel_rfl
theorem b03 (x y : Int) (W : World) : (Instr.build 53 #[(0, .int .i64 x), (3, .int .i64 y)]).run Try.prog W = .ok (.agg #[.int .i64 x, .int .i64 0, .int .i64 0, .int .i64 y, .int .i64 0]) W := by kernel_rfl
theorem b_ (W : World) : (Instr.build 53 #[]).run Try.prog W = .ok (.agg #[.int .i64 0, .int .i64 0, .int .i64 0, .int .i64 0, .int .i64 0]) W := by kernel_rfl
/-- a call's box, and the result's behind it. -/
theorem two5 {w W1 : World} {N : Nat} {o : Opn} (hN : w.heap.size = N) (h : (w.alloc (.cells (ocs o) 53)).alloc (.cells (ocs ⟨0, 0, 0, 0, 0⟩) 53) = W1) : W1.heap[N]? = some (.cells (ocs o) 53 (0, 0)) ∧ W1.heap[N + 1]? = some (.cells (ocs ⟨0, 0, 0, 0, 0⟩) 53 (0, 0)) ∧ Below N w W1 ∧ W1.heap.size = N + 2 := by
  subst hN
  rw [← h]
  exact ⟨heap_old (heap_next rfl _), heap_next (by simp) _, ((Below.refl _ _).alloc (Nat.le_refl _) _).alloc (by simp) _, by simp⟩
set_option maxRecDepth 100000 in
set_option maxHeartbeats 2000000 in
theorem refbare10 (o : Opn) (w : World) : Calls Try.prog 65 #[opv o] w fun e B => e = .returned (opv (bare o)) ∧ Hid (Below w.heap.size w B) := by
  obtain ⟨N, hN⟩ : ∃ N, w.heap.size = N := ⟨_, rfl⟩
  rw [hN]
  obtain ⟨W1, hW1⟩ : ∃ W1, (w.alloc (.cells (ocs o) 53)).alloc (.cells (ocs ⟨0, 0, 0, 0, 0⟩) 53) = W1 := ⟨_, rfl⟩
  obtain ⟨hO, hR, hb, hs⟩ := two5 hN hW1
  obtain ⟨d0, d1, d2, d3, d4⟩ := cells5 hO
  obtain ⟨e0, e1, e2, e3, e4⟩ := cells5 hR
  have g0 := frozen_of hR 0
  have g1 := frozen_of hR 1
  have g2 := frozen_of hR 2
  have g3 := frozen_of hR 3
  have g4 := frozen_of hR 4
  have E : Hid (∀ r D, set5 W1 (N + 1) r = D → D.cell? ⟨N + 1, 0, none⟩ = some (.int .i64 r.k) ∧ D.cell? ⟨N + 1, 1, none⟩ = some (.int .i64 r.key) ∧ D.cell? ⟨N + 1, 2, none⟩ = some (.int .i64 r.val) ∧ D.cell? ⟨N + 1, 3, none⟩ = some (.int .i64 r.cost) ∧ D.cell? ⟨N + 1, 4, none⟩ = some (.int .i64 r.ttl) ∧ Hid (Below N w D)) := fun r D hD => by
    subst hD
    obtain ⟨z0, z1, z2, z3, z4⟩ := cells5 (put5 hR (o := r))
    exact ⟨z0, z1, z2, z3, z4, hb.trans ((keep5 W1 (N + 1) r).below (fun k hk => by show k ≠ N + 1; omega) (by omega))⟩
  have m1 := b01
  have m2 := b0
  have m3 := b03
  have m4 := b_
  have HH := kinds o.k
  obtain ⟨k, a, b, c, d⟩ := o
  simp only at HH
  clear hO hR hb
  go_enter Try.func65, Try.ntmps65
  rcases HH with (rfl | rfl) | rfl | rfl | (rfl | rfl | rfl) | hr
  · go_wp2
    obtain ⟨D, hD⟩ : ∃ D, set5 W1 (N + 1) ⟨1, a, 0, 0, 0⟩ = D := ⟨_, rfl⟩
    obtain ⟨z0, z1, z2, z3, z4, F⟩ := E.out _ D hD
    unfold set5 at hD
    rw [hD]
    exact bodyPost_ret (v := opv ⟨1, a, 0, 0, 0⟩) (by simp [results, Try.results65, go_sem, z0, z1, z2, z3, z4]) rfl ⟨rfl, F⟩
  · go_wp2
    obtain ⟨D, hD⟩ : ∃ D, set5 W1 (N + 1) ⟨3, a, 0, 0, 0⟩ = D := ⟨_, rfl⟩
    obtain ⟨z0, z1, z2, z3, z4, F⟩ := E.out _ D hD
    unfold set5 at hD
    rw [hD]
    exact bodyPost_ret (v := opv ⟨3, a, 0, 0, 0⟩) (by simp [results, Try.results65, go_sem, z0, z1, z2, z3, z4]) rfl ⟨rfl, F⟩
  · go_wp2
    obtain ⟨D, hD⟩ : ∃ D, set5 W1 (N + 1) ⟨2, a, b, c, d⟩ = D := ⟨_, rfl⟩
    obtain ⟨z0, z1, z2, z3, z4, F⟩ := E.out _ D hD
    unfold set5 at hD
    rw [hD]
    exact bodyPost_ret (v := opv ⟨2, a, b, c, d⟩) (by simp [results, Try.results65, go_sem, z0, z1, z2, z3, z4]) rfl ⟨rfl, F⟩
  · go_wp2
    obtain ⟨D, hD⟩ : ∃ D, set5 W1 (N + 1) ⟨7, 0, 0, c, 0⟩ = D := ⟨_, rfl⟩
    obtain ⟨z0, z1, z2, z3, z4, F⟩ := E.out _ D hD
    unfold set5 at hD
    rw [hD]
    exact bodyPost_ret (v := opv ⟨7, 0, 0, c, 0⟩) (by simp [results, Try.results65, go_sem, z0, z1, z2, z3, z4]) rfl ⟨rfl, F⟩
  · go_wp2
    obtain ⟨D, hD⟩ : ∃ D, set5 W1 (N + 1) ⟨4, 0, 0, 0, 0⟩ = D := ⟨_, rfl⟩
    obtain ⟨z0, z1, z2, z3, z4, F⟩ := E.out _ D hD
    unfold set5 at hD
    rw [hD]
    exact bodyPost_ret (v := opv ⟨4, 0, 0, 0, 0⟩) (by simp [results, Try.results65, go_sem, z0, z1, z2, z3, z4]) rfl ⟨rfl, F⟩
  · go_wp2
    obtain ⟨D, hD⟩ : ∃ D, set5 W1 (N + 1) ⟨5, 0, 0, 0, 0⟩ = D := ⟨_, rfl⟩
    obtain ⟨z0, z1, z2, z3, z4, F⟩ := E.out _ D hD
    unfold set5 at hD
    rw [hD]
    exact bodyPost_ret (v := opv ⟨5, 0, 0, 0, 0⟩) (by simp [results, Try.results65, go_sem, z0, z1, z2, z3, z4]) rfl ⟨rfl, F⟩
  · go_wp2
    obtain ⟨D, hD⟩ : ∃ D, set5 W1 (N + 1) ⟨6, 0, 0, 0, 0⟩ = D := ⟨_, rfl⟩
    obtain ⟨z0, z1, z2, z3, z4, F⟩ := E.out _ D hD
    unfold set5 at hD
    rw [hD]
    exact bodyPost_ret (v := opv ⟨6, 0, 0, 0, 0⟩) (by simp [results, Try.results65, go_sem, z0, z1, z2, z3, z4]) rfl ⟨rfl, F⟩
  · have h1 : ¬ k = 1 := by omega
    have h2 : ¬ k = 2 := by omega
    have h3 : ¬ k = 3 := by omega
    have h4 : ¬ k = 4 := by omega
    have h5 : ¬ k = 5 := by omega
    have h6 : ¬ k = 6 := by omega
    have h7 : ¬ k = 7 := by omega
    have v1 : (k == 1) = false := by simpa using h1
    have v2 : (k == 2) = false := by simpa using h2
    have v3 : (k == 3) = false := by simpa using h3
    have v4 : (k == 4) = false := by simpa using h4
    have v5 : (k == 5) = false := by simpa using h5
    have v6 : (k == 6) = false := by simpa using h6
    have v7 : (k == 7) = false := by simpa using h7
    have X : Hid (bare ⟨k, a, b, c, d⟩ = ⟨0, 0, 0, 0, 0⟩) := by
      show bare _ = _
      unfold bare
      simp only
      rw [if_neg (by omega), if_neg h2, if_neg (by omega), if_neg h7]
    clear hr
    go_wp2
    obtain ⟨D, hD⟩ : ∃ D, set5 W1 (N + 1) ⟨0, 0, 0, 0, 0⟩ = D := ⟨_, rfl⟩
    obtain ⟨z0, z1, z2, z3, z4, F⟩ := E.out _ D hD
    unfold set5 at hD
    rw [hD]
    exact bodyPost_ret (v := opv ⟨0, 0, 0, 0, 0⟩) (by simp [results, Try.results65, go_sem, z0, z1, z2, z3, z4]) rfl ⟨by rw [X.out], F⟩
set_option maxRecDepth 100000 in
set_option maxHeartbeats 2000000 in
theorem refright8 (o : Opn) (w : World) : Calls Try.prog 55 #[opv o] w fun e B => e = .returned (.bool (decide (right o))) ∧ Hid (Below w.heap.size w B) := by
  obtain ⟨N, hN⟩ : ∃ N, w.heap.size = N := ⟨_, rfl⟩
  rw [hN]
  have hb0 : Below N w (w.alloc (.cells (ocs o) 53)) := by rw [← hN]; exact (Below.refl _ _).alloc (Nat.le_refl _) _
  have hb1 : ∀ n, Below N w ((w.alloc (.cells (ocs o) 53)).drewN n) := fun n => hb0.trans ((below_drewN _ n).mono (by have := hb0.size; omega))
  have hO0 : (w.alloc (.cells (ocs o) 53)).heap[N]? = some (.cells (ocs o) 53 (0, 0)) := by rw [← hN]; exact heap_next rfl _
  have hO : (w.alloc (.cells (ocs o) 53)).drew.heap[N]? = some (.cells (ocs o) 53 (0, 0)) := hO0
  by_cases h0 : 0 ≤ o.k ∧ o.k ≤ 7
  · have K0 : Hid (C5 N o (w.alloc (.cells (ocs o) 53)).drew) := cells5 hO
    have T : Hid (Calls Try.prog 65 #[opv o] (w.alloc (.cells (ocs o) 53)).drew fun e B => e = .returned (opv (bare o)) ∧ C5 N o B ∧ Hid (Below N w B)) := (refbare10 o _).mono fun e B ⟨he, hB⟩ =>
      ⟨he, cells5 ((hB.out.block N (heap_lt hO)).trans hO), (hb1 1).trans (hB.out.mono (by have := (hb1 1).size; exact hN ▸ this))⟩
    have e1 := eq5 (bare o) o
    have e2 : decide (bare o = o) = decide (right o) := rfl
    rw [e2] at e1
    have z0 : decide (0 ≤ o.k) = true := by simpa using h0.1
    have z1 : decide (o.k ≤ 7) = true := by simpa using h0.2
    clear e2 hb1 hO hb0 hO0 h0
    obtain ⟨q, hq⟩ : ∃ q, decide (right o) = q := ⟨_, rfl⟩
    rw [hq] at e1 ⊢
    clear hq
    generalize bare o = r at *
    obtain ⟨k, a, b, c, d⟩ := o
    obtain ⟨k', a', b', c', d'⟩ := r
    simp only at z0 z1
    go_enter Try.func55, Try.ntmps55
    go_wp2_with fail
    go_region_held3 (C5 N ⟨k, a, b, c, d⟩) (first | exact K0.out | assumption) (first | (go_at_call 65; refine T.out.mono ?_; rintro e w1 ⟨rfl, hc, hb⟩))
    go_wp2
    go_ret
    exact ⟨rfl, hb⟩
  · have e2 : decide (right o) = false := decide_eq_false fun h => by have := right_kind h; omega
    rw [e2]
    obtain ⟨d0, d1, d2, d3, d4⟩ := cells5 hO0
    have F := Lib.hid hb1
    clear hb1 hO hb0 hO0 e2
    obtain ⟨k, a, b, c, d⟩ := o
    simp only at d0 d1 d2 d3 d4 h0
    by_cases hk : 0 ≤ k
    · have z0 : decide (0 ≤ k) = true := by simpa using hk
      have z1 : decide (k ≤ 7) = false := by simp; omega
      clear h0
      go_enter Try.func55, Try.ntmps55
      go_wp2_with fail
      go_quiet (fail)
      go_wp2
      go_ret
      exact ⟨rfl, F.out _⟩
    · have z0 : decide (0 ≤ k) = false := by simpa using hk
      clear h0
      go_enter Try.func55, Try.ntmps55
      go_wp2_with fail
      go_quiet (fail)
      go_wp2
      go_ret
      exact ⟨rfl, F.out _⟩
end Go.Proofs.Ytfhcgildokdppaa
