/-
  Bare of package prog (and the function that it hands to filled) by its contract, for every call; Right, Writes, Name; the document's Bare and Right.
-/
import Derived.Test.YtfhcgildokdppaaFi
namespace Go.Proofs.Ytfhcgildokdppaa
open Go.RowKit Go.Shelf tp
theorem elem48 : Try.prog.underlying 25 = some (.slice (Try.prog.elem 25)) := by kernel_rfl
theorem size48 (w : World) : (sizeOf (Try.prog.elem 25)).run Try.prog w = .ok 1 w := by kernel_rfl
/-- 'x[1:]' of ints: where what is behind lies. -/
theorem cut_one (b o n cap : Nat) (hk : 1 ≤ n) (hc : n ≤ cap) : ∃ p, (∀ W', (Instr.slice 25 (.slice (some ⟨b, o, none⟩) n cap) (some (.int .i64 1)) none none).run Try.prog W' = .ok (.slice p (n - 1) (cap - 1)) W') ∧ (1 < n → p = some ⟨b, o + 1, none⟩) := by
  refine ⟨some (if cap = 1 then ⟨b, o, none⟩ else (⟨b, o, none⟩ : Addr).add 1), fun W' => ?_, fun hlt => ?_⟩
  · rw [run_slice_l W' 25 (some ⟨b, o, none⟩) n cap elem48 .i64 1 (by omega) (by omega), size48]
    by_cases h : cap = 1 <;> simp [sliced, h]
  · rw [if_neg (by omega)]
    simp [Addr.add]
/-- the numbers that are left lie in L's box; where they lie, R. -/
structure Sb (L : Nat) (R : Nat → Prop) (xs : List Int) (i : Nat) (W : World) : Prop where
  ex : ∃ p c, W.heap[L]? = some (.cells #[.slice p (xs.length - i) c] 25 (0, 0)) ∧ xs.length - i ≤ c ∧ La eI W p (xs.drop i) ∧ ∀ b o, p = some ⟨b, o, none⟩ → i < xs.length → R b
  ne : ¬ R L
theorem Sb.keep {L : Nat} {R : Nat → Prop} {xs : List Int} {i : Nat} {W B : World} (h : Sb L R xs i W) (hk : Keep (fun j => j = L ∨ R j) W B) : Sb L R xs i B := by
  obtain ⟨⟨p, c, h1, h2, h3, h4⟩, h5⟩ := h
  exact ⟨⟨p, c, hk.heap h1 (.inl rfl), h2, h3.keep hk fun b o hp h0 => .inr (h4 b o hp (by rw [List.length_drop] at h0; omega)), h4⟩, h5⟩
set_option maxHeartbeats 1000000 in
theorem next25 {L : Nat} {R : Nat → Prop} {xs : List Int} {i : Nat} {W : World} (h : Sb L R xs i W) (hi : i < xs.length) :
    Calls Try.prog 68 #[.pointer (some ⟨L, 0, none⟩)] W fun e B => e = .returned (.int .i64 xs[i]) ∧ Hid (Sb L R xs (i + 1) B ∧ Keep (fun j => j ≠ L) W B) := by
  obtain ⟨⟨p, c, h1, h2, h3, h4⟩, h5⟩ := h
  obtain ⟨b, o, rfl, hc⟩ := h3 (by rw [List.length_drop]; omega)
  have hR := h4 b o rfl hi
  have hbL : ¬ b = L := fun e => h5 (e ▸ hR)
  obtain ⟨q, hq, hq1⟩ := cut_one b o (xs.length - i) c (by omega) h2
  have d0 : W.cell? ⟨L, 0, none⟩ = some (.slice (some ⟨b, o, none⟩) (xs.length - i) c) := cell_of h1 0
  have f0 := frozen_of h1 0
  have d1 : W.cell? ⟨b, o, none⟩ = some (.int .i64 xs[i]) := by
    have := hc 0 (by rw [List.length_drop]; omega)
    simpa using this
  have E : Hid (Sb L R xs (i + 1) (W.setCell ⟨L, 0, none⟩ (.slice q (xs.length - i - 1) (c - 1))) ∧ Keep (fun j => j ≠ L) W (W.setCell ⟨L, 0, none⟩ (.slice q (xs.length - i - 1) (c - 1)))) := by
    have k1 : Keep (fun j => j ≠ L) W (W.setCell ⟨L, 0, none⟩ (.slice q (xs.length - i - 1) (c - 1))) := Keep.setCell _ _ _ (by simp)
    refine ⟨⟨⟨q, c - 1, ?_, by omega, fun h0 => ?_, fun b' o' hq' hlt => ?_⟩, h5⟩, k1⟩
    · rw [heap_set h1, show xs.length - (i + 1) = xs.length - i - 1 by omega]
      rfl
    · rw [List.length_drop] at h0
      refine ⟨b, o + 1, hq1 (by omega), fun j hj => ?_⟩
      rw [List.length_drop] at hj
      have h6 := hc (j + 1) (by rw [List.length_drop]; omega)
      have h7 := (k1.cell (p := ⟨b, o + (j + 1), none⟩) (World.block_lt_of_cell? W ⟨b, o + (j + 1), none⟩ h6) hbL).trans h6
      rw [List.getElem_drop] at h7 ⊢
      rw [show o + 1 + j = o + (j + 1) by omega, h7]
      simp only [show i + (j + 1) = i + 1 + j by omega]
    · rw [hq1 (by omega)] at hq'
      simp at hq'
      obtain ⟨rfl, _⟩ := hq'
      exact hR
  have z1 : (0 : Int) < ((xs.length - i : Nat) : Int) := by omega
  clear h1 h3 h4 hc hR h5 hq1 h2
  generalize xs.length - i = n at *
  generalize xs[i] = x at *
  have z2 : 0 < n := by omega
  go_enter Try.func68, Try.ntmps68
  go_wp2
  go_ret
  exact ⟨rfl, E.out⟩
/-- a row of one's own, put into a box behind all: the state that next25 goes on from. -/
theorem Sb.start {base : Nat} {w B : World} {q : Option Addr} {n c : Nat} {xs : List Int} (h : Mi base w (.slice q n c) xs B) (hn : n = xs.length) : Sb B.heap.size (fun j => (Value.slice q n c).ownBlock = some j) xs 0 (B.alloc (.cells #[.slice q n c] 25)) := by
  subst hn
  obtain ⟨p, c', e, h2, h3, h4, h5⟩ := own_la h.1
  injection e with e1 _ e2
  subst e1 e2
  refine ⟨⟨q, c, heap_next rfl _, h2, ?_, fun b o hp _ => by rw [hp]; rfl⟩, fun hj => ?_⟩
  · rw [List.drop_zero]
    exact h3.below ((Below.refl _ _).alloc (Nat.le_refl _) _)
  · have := (World.ownsRow.lt h.1 _ hj).2
    omega
theorem bare_fill (o : Opn) : fill o.k (fun i => (nums o).getD i 0) = bare o := fill_bare o
set_option maxRecDepth 100000 in
set_option maxHeartbeats 2000000 in
theorem bare9 (o : Opn) (w : World) : Calls Try.prog 63 #[opv o] w fun e B => e = .returned (opv (bare o)) ∧ Hid (Below w.heap.size w B) := by
  obtain ⟨N, hN⟩ : ∃ N, w.heap.size = N := ⟨_, rfl⟩
  obtain ⟨W1, hW1⟩ : ∃ W1, (w.alloc (.cells (ocs o) 53)).alloc (.cells (ocs ⟨0, 0, 0, 0, 0⟩) 53) = W1 := ⟨_, rfl⟩
  have hb1 : Below N w W1 := by rw [← hW1, ← hN]; exact ((Below.refl _ _).alloc (Nat.le_refl _) _).alloc (by simp) _
  have hs1 : W1.heap.size = N + 2 := by rw [← hW1, ← hN]; simp
  have hO : W1.heap[N]? = some (.cells (ocs o) 53 (0, 0)) := by rw [← hW1, ← hN]; exact heap_old (heap_next rfl _)
  have hR : W1.heap[N + 1]? = some (.cells (ocs ⟨0, 0, 0, 0, 0⟩) 53 (0, 0)) := by rw [← hW1, ← hN]; exact heap_next (by simp) _
  have T1 := Lib.hid (numbers23 o W1)
  have G : Hid (∀ q c B, Hid (Mi W1.heap.size W1 (.slice q (nums o).length c) (nums o) B) → (B.alloc (.cells #[.slice q (nums o).length c] 25)).cell? ⟨N, 0, none⟩ = some (.int .i64 o.k) ∧ Hid (Calls Try.prog 57 #[.int .i64 o.k, .func (.func 68) #[] #[.pointer (some ⟨B.heap.size, 0, none⟩)]] (B.alloc (.cells #[.slice q (nums o).length c] 25)) fun e C => e = .returned (opv (bare o)) ∧ Hid (C.heap[N + 1]? = some (.cells (ocs ⟨0, 0, 0, 0, 0⟩) 53 (0, 0)) ∧ Below N w C))) := fun q c B h => by
    have hlt := World.ownsRow.lt h.out.1
    have hB : Keep (fun k => k < W1.heap.size) W1 (B.alloc (.cells #[.slice q (nums o).length c] 25)) := h.out.2.1.trans (Keep.alloc _ _ _)
    refine ⟨cell_of (hB.heap hO (by omega)) 0, ?_⟩
    have hz : B.heap.size < (B.alloc (.cells #[.slice q (nums o).length c] 25)).heap.size := by simp
    have hsz := h.out.size
    refine (filledA o.k B.heap.size (Sb B.heap.size (fun j => (Value.slice q (nums o).length c).ownBlock = some j) (nums o)) (fun j => j = B.heap.size ∨ (Value.slice q (nums o).length c).ownBlock = some j) (fun i => (nums o).getD i 0) _ (fun i A C hs hk => hs.keep hk) (fun j hj => by
      rcases hj with rfl | hj
      · exact hz
      · have := (hlt j hj).2
        omega) (fun i A hi hs => ?_) (Sb.start h.out rfl)).mono ?_
    · rw [← nums_len] at hi
      refine (next25 hs hi).mono ?_
      rintro e C ⟨he, hC⟩
      refine ⟨?_, hC.out.1, hC.out.2.mono fun j _ hj => by omega⟩
      rw [he]
      simp [hi]
    · rintro e C ⟨he, hC⟩
      rw [bare_fill] at he
      have k2 : Keep (fun j => j < W1.heap.size) (B.alloc (.cells #[.slice q (nums o).length c] 25)) C := hC.out.2.mono fun j _ hj hm => by
        rcases hm with rfl | hm
        · omega
        · have := (hlt j hm).1
          omega
      have k3 := hB.trans k2
      exact ⟨he, k3.heap hR (by omega), hb1.trans (k3.below (fun j hj => by omega) (by omega))⟩
  have d0 : W1.cell? ⟨N, 0, none⟩ = some (.int .i64 o.k) := cell_of hO 0
  have d1 : W1.cell? ⟨N, 1, none⟩ = some (.int .i64 o.key) := cell_of hO 1
  have d2 : W1.cell? ⟨N, 2, none⟩ = some (.int .i64 o.val) := cell_of hO 2
  have d3 : W1.cell? ⟨N, 3, none⟩ = some (.int .i64 o.cost) := cell_of hO 3
  have d4 : W1.cell? ⟨N, 4, none⟩ = some (.int .i64 o.ttl) := cell_of hO 4
  have hm := fun b => mk25 #[] #[.pointer (some ⟨b, 0, none⟩)]
  clear hO hR hb1
  generalize bare o = r at *
  generalize (nums o).length = n at *
  go_enter Try.func63, Try.ntmps63
  go_wp2_with fail
  refine T1.out.mono ?_
  rintro e B ⟨q, c, rfl, hM⟩
  obtain ⟨c0, T2⟩ := G.out q c B hM
  clear T1 G hM d0 d1 d2 d3 d4 hW1
  go_wp2_with fail
  refine T2.out.mono ?_
  rintro e C ⟨rfl, hC⟩
  have hRC := hC.out.1
  have HB := Lib.hid hC.out.2
  obtain ⟨e0, e1, e2, e3, e4⟩ := cells5 hRC
  have g0 := frozen_of hRC 0
  have g1 := frozen_of hRC 1
  have g2 := frozen_of hRC 2
  have g3 := frozen_of hRC 3
  have g4 := frozen_of hRC 4
  have E : Hid (∀ D, set5 C (N + 1) r = D → D.cell? ⟨N + 1, 0, none⟩ = some (.int .i64 r.k) ∧ D.cell? ⟨N + 1, 1, none⟩ = some (.int .i64 r.key) ∧ D.cell? ⟨N + 1, 2, none⟩ = some (.int .i64 r.val) ∧ D.cell? ⟨N + 1, 3, none⟩ = some (.int .i64 r.cost) ∧ D.cell? ⟨N + 1, 4, none⟩ = some (.int .i64 r.ttl) ∧ Hid (Below w.heap.size w D)) := fun D hD => by
    subst hD
    obtain ⟨z0, z1, z2, z3, z4⟩ := cells5 (put5 hRC (o := r))
    rw [hN]
    exact ⟨z0, z1, z2, z3, z4, HB.out.trans ((keep5 C (N + 1) r).below (fun k hk => by show k ≠ N + 1; omega) (by have := HB.out.size; omega))⟩
  clear hC hRC HB c0 T2
  go_wp2
  obtain ⟨D, hD⟩ : ∃ D, set5 C (N + 1) r = D := ⟨_, rfl⟩
  obtain ⟨z0, z1, z2, z3, z4, F⟩ := E.out D hD
  unfold set5 at hD
  rw [hD]
  exact bodyPost_ret (v := opv r) (by simp [results, Try.results63, go_sem, z0, z1, z2, z3, z4]) rfl ⟨rfl, F⟩
/-- '==' of calls. -/
theorem eq5 (a b : Opn) (W : World) : (binOp .eql 53 (opv a) (opv b)).run Try.prog W = .ok (.bool (decide (a = b))) W := by
  obtain ⟨a0, a1, a2, a3, a4⟩ := a
  obtain ⟨b0, b1, b2, b3, b4⟩ := b
  have h : (binOp .eql 53 (opv ⟨a0, a1, a2, a3, a4⟩) (opv ⟨b0, b1, b2, b3, b4⟩)).run Try.prog W = .ok (.bool (a0 == b0 && (a1 == b1 && (a2 == b2 && (a3 == b3 && a4 == b4))))) W := by
    simp [go_sem]
    repeat' split
    all_goals simp_all
  rw [h]
  simp only [Opn.mk.injEq, Bool.decide_and]
  rfl
theorem ne5 (a b : Opn) (W : World) : (binOp .neq 53 (opv a) (opv b)).run Try.prog W = .ok (.bool (!decide (a = b))) W := by
  obtain ⟨a0, a1, a2, a3, a4⟩ := a
  obtain ⟨b0, b1, b2, b3, b4⟩ := b
  have h : (binOp .neq 53 (opv ⟨a0, a1, a2, a3, a4⟩) (opv ⟨b0, b1, b2, b3, b4⟩)).run Try.prog W = .ok (.bool (!(a0 == b0 && (a1 == b1 && (a2 == b2 && (a3 == b3 && a4 == b4)))))) W := by
    simp [go_sem]
    repeat' split
    all_goals simp_all
  rw [h]
  simp only [Opn.mk.injEq, Bool.decide_and]
  rfl
/-- the five cells of a call at b. -/
abbrev C5 (b : Nat) (o : Opn) (V : World) : Prop := V.cell? ⟨b, 0, none⟩ = some (.int .i64 o.k) ∧ V.cell? ⟨b, 1, none⟩ = some (.int .i64 o.key) ∧ V.cell? ⟨b, 2, none⟩ = some (.int .i64 o.val) ∧ V.cell? ⟨b, 3, none⟩ = some (.int .i64 o.cost) ∧ V.cell? ⟨b, 4, none⟩ = some (.int .i64 o.ttl)
set_option maxRecDepth 100000 in
set_option maxHeartbeats 2000000 in
theorem right7 (o : Opn) (w : World) : Calls Try.prog 52 #[opv o] w fun e B => e = .returned (.bool (decide (right o))) ∧ Hid (Below w.heap.size w B) := by
  obtain ⟨N, hN⟩ : ∃ N, w.heap.size = N := ⟨_, rfl⟩
  have hb1 : Below N w (w.alloc (.cells (ocs o) 53)).drew := by rw [← hN]; exact ((Below.refl _ _).alloc (Nat.le_refl _) _).trans ((below_drewN _ 1).mono (by simp))
  have hO : (w.alloc (.cells (ocs o) 53)).drew.heap[N]? = some (.cells (ocs o) 53 (0, 0)) := by rw [← hN]; exact heap_next rfl _
  have K0 : Hid (C5 N o (w.alloc (.cells (ocs o) 53)).drew) := cells5 hO
  have T : Hid (Calls Try.prog 63 #[opv o] (w.alloc (.cells (ocs o) 53)).drew fun e B => e = .returned (opv (bare o)) ∧ C5 N o B ∧ Hid (Below N w B)) := (bare9 o _).mono fun e B ⟨he, hB⟩ =>
    ⟨he, cells5 ((hB.out.block N (heap_lt hO)).trans hO), hb1.trans (hB.out.mono (by have := hb1.size; omega))⟩
  have e1 := eq5 o (bare o)
  have e2 : decide (o = bare o) = decide (right o) := by
    by_cases h : right o
    · rw [decide_eq_true h, decide_eq_true (Eq.symm h)]
    · rw [decide_eq_false h, decide_eq_false (fun e => h (Eq.symm e))]
  rw [e2] at e1
  clear e2 hb1 hO
  obtain ⟨q, hq⟩ : ∃ q, decide (right o) = q := ⟨_, rfl⟩
  rw [hq] at e1 ⊢
  clear hq
  generalize bare o = r at *
  obtain ⟨k, a, b, c, d⟩ := o
  obtain ⟨k', a', b', c', d'⟩ := r
  go_enter Try.func52, Try.ntmps52
  go_wp2_with fail
  go_region_held3 (C5 N ⟨k, a, b, c, d⟩) (first | exact K0.out | assumption) (first | (go_at_call 63; refine T.out.mono ?_; rintro e w1 ⟨rfl, hc, hb⟩))
  go_wp2
  go_ret
  exact ⟨rfl, by rw [hN]; exact hb⟩
end Go.Proofs.Ytfhcgildokdppaa
