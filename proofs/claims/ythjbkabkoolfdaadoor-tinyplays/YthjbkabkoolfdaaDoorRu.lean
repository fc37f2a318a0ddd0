/-
  The document's Add and New by their contracts.
-/
import Derived.Test.YthjbkabkoolfdaaDoorRt
namespace Go.Proofs.YthjbkabkoolfdaaDoor
open Go.RowKit
open nb (Keep ct cell_of frozen_of heap_set heap_set_other heap_old heap_next heap_lt addAt mayAdd)
/-- what lies behind it lies already. -/
theorem Rv.strong {K : Nat → Prop} {W : World} {c : Cs} {f : Nat → List Nat} {bs : List Nat} {v u : Value} (h : Rv K W c f bs v u) : Rv (fun b => K b ∧ b < W.heap.size) W c f bs v u := by
  refine ⟨?_, h.bits, fun b hb => ⟨h.own b hb, ?_⟩, h.len, h.low, h.bl, h.n0, h.n1, h.m0, h.m1, h.sd, h.hm⟩
  · obtain ⟨b, o, cap, vs, hv, hc, hb, hi⟩ := h.rows
    refine ⟨b, o, cap, vs, hv, hc, ⟨hb, World.block_lt_of_cell? W ⟨b, o + 0, none⟩ (hi 0 (by decide)).1⟩, fun i hik => ?_⟩
    obtain ⟨h1, h2, h3⟩ := hi i hik
    exact ⟨h1, h2, fun b' hb' => ⟨h3 b' hb', sk.q_lt h2 (by rw [h.len i hik]; exact h.n0) b' hb'⟩⟩
  · rcases h.bits with ⟨_, h0⟩ | ⟨b2, o2, c2, hv, hc, hi⟩
    · have := congrArg List.length h0
      rw [dr.ub_len, h.bl] at this
      have := h.m0
      simp at *
      omega
    · rw [hv] at hb
      simp [Value.ownBlock] at hb
      subst hb
      exact World.block_lt_of_cell? W ⟨b2, o2 + 0, none⟩ (hi 0 (by rw [dr.ub_len, h.bl]; have := h.m0; omega))
theorem Rv.vs {K : Nat → Prop} {W : World} {c : Cs} {f : Nat → List Nat} {bs : List Nat} {v u : Value} (h : Rv K W c f bs v u) : ∃ a k, v = .slice a 4 k := h.rows.slice
theorem Rv.us {K : Nat → Prop} {W : World} {c : Cs} {f : Nat → List Nat} {bs : List Nat} {v u : Value} (h : Rv K W c f bs v u) : ∃ a k, u = .slice a (8 * c.m) k := by
  obtain ⟨a, k, hv, _⟩ := h.bits.slice
  rw [dr.ub_len, h.bl] at hv
  exact ⟨a, k, hv⟩
/-- ten cells are laid into a box. -/
def set10 (W : World) (b : Nat) (x0 x1 x2 x3 x4 x5 x6 x7 x8 x9 : Value) : World :=
  (((((((((W.setCell ⟨b, 0, none⟩ x0).setCell ⟨b, 1, none⟩ x1).setCell ⟨b, 2, none⟩ x2).setCell ⟨b, 3, none⟩ x3).setCell ⟨b, 4, none⟩ x4).setCell ⟨b, 5, none⟩ x5).setCell ⟨b, 6, none⟩ x6).setCell ⟨b, 7, none⟩ x7).setCell ⟨b, 8, none⟩ x8).setCell ⟨b, 9, none⟩ x9
theorem put10 {W : World} {b : Nat} {y0 y1 y2 y3 y4 y5 y6 y7 y8 y9 : Value} {t : TypeId} (x0 x1 x2 x3 x4 x5 x6 x7 x8 x9 : Value) (h : W.heap[b]? = some (.cells #[y0, y1, y2, y3, y4, y5, y6, y7, y8, y9] t (0, 0))) : (set10 W b x0 x1 x2 x3 x4 x5 x6 x7 x8 x9).heap[b]? = some (.cells #[x0, x1, x2, x3, x4, x5, x6, x7, x8, x9] t (0, 0)) := by
  unfold set10
  have h0 : (W.setCell ⟨b, 0, none⟩ x0).heap[b]? = some (.cells #[x0, y1, y2, y3, y4, y5, y6, y7, y8, y9] t (0, 0)) := (heap_set h 0 x0).trans rfl
  have h1 : ((W.setCell ⟨b, 0, none⟩ x0).setCell ⟨b, 1, none⟩ x1).heap[b]? = some (.cells #[x0, x1, y2, y3, y4, y5, y6, y7, y8, y9] t (0, 0)) := (heap_set h0 1 x1).trans rfl
  have h2 : (((W.setCell ⟨b, 0, none⟩ x0).setCell ⟨b, 1, none⟩ x1).setCell ⟨b, 2, none⟩ x2).heap[b]? = some (.cells #[x0, x1, x2, y3, y4, y5, y6, y7, y8, y9] t (0, 0)) := (heap_set h1 2 x2).trans rfl
  have h3 : ((((W.setCell ⟨b, 0, none⟩ x0).setCell ⟨b, 1, none⟩ x1).setCell ⟨b, 2, none⟩ x2).setCell ⟨b, 3, none⟩ x3).heap[b]? = some (.cells #[x0, x1, x2, x3, y4, y5, y6, y7, y8, y9] t (0, 0)) := (heap_set h2 3 x3).trans rfl
  have h4 : (((((W.setCell ⟨b, 0, none⟩ x0).setCell ⟨b, 1, none⟩ x1).setCell ⟨b, 2, none⟩ x2).setCell ⟨b, 3, none⟩ x3).setCell ⟨b, 4, none⟩ x4).heap[b]? = some (.cells #[x0, x1, x2, x3, x4, y5, y6, y7, y8, y9] t (0, 0)) := (heap_set h3 4 x4).trans rfl
  have h5 : ((((((W.setCell ⟨b, 0, none⟩ x0).setCell ⟨b, 1, none⟩ x1).setCell ⟨b, 2, none⟩ x2).setCell ⟨b, 3, none⟩ x3).setCell ⟨b, 4, none⟩ x4).setCell ⟨b, 5, none⟩ x5).heap[b]? = some (.cells #[x0, x1, x2, x3, x4, x5, y6, y7, y8, y9] t (0, 0)) := (heap_set h4 5 x5).trans rfl
  have h6 : (((((((W.setCell ⟨b, 0, none⟩ x0).setCell ⟨b, 1, none⟩ x1).setCell ⟨b, 2, none⟩ x2).setCell ⟨b, 3, none⟩ x3).setCell ⟨b, 4, none⟩ x4).setCell ⟨b, 5, none⟩ x5).setCell ⟨b, 6, none⟩ x6).heap[b]? = some (.cells #[x0, x1, x2, x3, x4, x5, x6, y7, y8, y9] t (0, 0)) := (heap_set h5 6 x6).trans rfl
  have h7 : ((((((((W.setCell ⟨b, 0, none⟩ x0).setCell ⟨b, 1, none⟩ x1).setCell ⟨b, 2, none⟩ x2).setCell ⟨b, 3, none⟩ x3).setCell ⟨b, 4, none⟩ x4).setCell ⟨b, 5, none⟩ x5).setCell ⟨b, 6, none⟩ x6).setCell ⟨b, 7, none⟩ x7).heap[b]? = some (.cells #[x0, x1, x2, x3, x4, x5, x6, x7, y8, y9] t (0, 0)) := (heap_set h6 7 x7).trans rfl
  have h8 : (((((((((W.setCell ⟨b, 0, none⟩ x0).setCell ⟨b, 1, none⟩ x1).setCell ⟨b, 2, none⟩ x2).setCell ⟨b, 3, none⟩ x3).setCell ⟨b, 4, none⟩ x4).setCell ⟨b, 5, none⟩ x5).setCell ⟨b, 6, none⟩ x6).setCell ⟨b, 7, none⟩ x7).setCell ⟨b, 8, none⟩ x8).heap[b]? = some (.cells #[x0, x1, x2, x3, x4, x5, x6, x7, x8, y9] t (0, 0)) := (heap_set h7 8 x8).trans rfl
  have h9 : ((((((((((W.setCell ⟨b, 0, none⟩ x0).setCell ⟨b, 1, none⟩ x1).setCell ⟨b, 2, none⟩ x2).setCell ⟨b, 3, none⟩ x3).setCell ⟨b, 4, none⟩ x4).setCell ⟨b, 5, none⟩ x5).setCell ⟨b, 6, none⟩ x6).setCell ⟨b, 7, none⟩ x7).setCell ⟨b, 8, none⟩ x8).setCell ⟨b, 9, none⟩ x9).heap[b]? = some (.cells #[x0, x1, x2, x3, x4, x5, x6, x7, x8, x9] t (0, 0)) := (heap_set h8 9 x9).trans rfl
  exact h9
theorem keep10 (W : World) (b : Nat) (x0 x1 x2 x3 x4 x5 x6 x7 x8 x9 : Value) : Keep (fun k => k ≠ b) W (set10 W b x0 x1 x2 x3 x4 x5 x6 x7 x8 x9) :=
  (((((((((Keep.setCell _ _ _ fun h => h rfl).trans (Keep.setCell _ _ _ fun h => h rfl)).trans (Keep.setCell _ _ _ fun h => h rfl)).trans (Keep.setCell _ _ _ fun h => h rfl)).trans (Keep.setCell _ _ _ fun h => h rfl)).trans (Keep.setCell _ _ _ fun h => h rfl)).trans (Keep.setCell _ _ _ fun h => h rfl)).trans (Keep.setCell _ _ _ fun h => h rfl)).trans (Keep.setCell _ _ _ fun h => h rfl)).trans (Keep.setCell _ _ _ fun h => h rfl)
/-- a document's tiny in block N, the result's box behind it. -/
structure Rb (w : World) (K : Nat → Prop) (N : Nat) (c : Cs) (f : Nat → List Nat) (bs : List Nat) (cnt aged : Nat) (v u : Value) (W : World) : Prop where
  box : W.heap[N]? = some (.cells (tc c (cnt : Int) (aged : Int) v u) 34 (0, 0))
  res : W.heap[N + 1]? = some (.cells t0 34 (0, 0))
  rv : Rv (fun b => K b ∧ b ≠ N ∧ b ≠ N + 1) W c f bs v u
  old : Below N w W
namespace Rb
variable {w : World} {K : Nat → Prop} {N : Nat} {c : Cs} {f f' : Nat → List Nat} {bs bs' : List Nat} {cnt aged : Nat} {v u v' u' : Value} {W B : World}
theorem lt (h : Rb w K N c f bs cnt aged v u W) : N + 1 < W.heap.size := heap_lt h.res
theorem past (h : Rb w K N c f bs cnt aged v u W) (hK : ∀ b, N ≤ b → K b) : ∀ b, W.heap.size ≤ b → (K b ∧ b ≠ N ∧ b ≠ N + 1) := fun b hb => by
  have := h.lt
  exact ⟨hK b (by omega), by omega, by omega⟩
theorem below (h : Rb w K N c f bs cnt aged v u W) (hb : Below W.heap.size W B) : Rb w K N c f bs cnt aged v u B := by
  have hl := h.lt
  exact ⟨(hb.block N (by omega)).trans h.box, (hb.block (N + 1) (by omega)).trans h.res, h.rv.below hb, h.old.trans (hb.mono (by omega))⟩
theorem drewN (h : Rb w K N c f bs cnt aged v u W) (q : Nat) : Rb w K N c f bs cnt aged v u (W.drewN q) := h.below ⟨rfl, rfl, rfl, Nat.le_refl _, fun _ _ => rfl⟩
theorem drew (h : Rb w K N c f bs cnt aged v u W) : Rb w K N c f bs cnt aged v u W.drew := h.below ⟨rfl, rfl, rfl, Nat.le_refl _, fun _ _ => rfl⟩
/-- what is stored into the box alone. -/
theorem store (h : Rb w K N c f bs cnt aged v u W) (hk : Keep (fun k => k ≠ N) W B) (cnt' aged' : Nat) (hb : B.heap[N]? = some (.cells (tc c (cnt' : Int) (aged' : Int) v' u') 34 (0, 0))) (hr : Rv (fun b => K b ∧ b ≠ N ∧ b ≠ N + 1) W c f' bs' v' u') : Rb w K N c f' bs' cnt' aged' v' u' B := by
  have hl := h.lt
  exact ⟨hb, hk.heap h.res (by show N + 1 ≠ N; omega), hr.keep (hk.mono fun _ _ h => h.2.1), h.old.trans (hk.below (fun k hk => by show k ≠ N; omega) (by omega))⟩
theorem cells (h : Rb w K N c f bs cnt aged v u W) : W.cell? ⟨N, 0, none⟩ = some v ∧ W.cell? ⟨N, 1, none⟩ = some (.int .i64 (c.n : Int)) ∧ W.cell? ⟨N, 2, none⟩ = some (.int .u64 (c.seed : Int)) ∧ W.cell? ⟨N, 3, none⟩ = some u ∧ W.cell? ⟨N, 4, none⟩ = some (.int .u64 (c.seed : Int)) ∧ W.cell? ⟨N, 5, none⟩ = some (.int .i64 (cnt : Int)) ∧ W.cell? ⟨N, 6, none⟩ = some (.int .i64 (c.lim : Int)) ∧ W.cell? ⟨N, 7, none⟩ = some (.int .i64 (aged : Int)) ∧ W.cell? ⟨N, 8, none⟩ = some (.int .i64 0) ∧ W.cell? ⟨N, 9, none⟩ = some (.int .u64 (c.seed : Int)) := by
  have hb := h.box
  exact ⟨by rw [cell_of hb]; rfl, by rw [cell_of hb]; rfl, by rw [cell_of hb]; rfl, by rw [cell_of hb]; rfl, by rw [cell_of hb]; rfl, by rw [cell_of hb]; rfl, by rw [cell_of hb]; rfl, by rw [cell_of hb]; rfl, by rw [cell_of hb]; rfl, by rw [cell_of hb]; rfl⟩
theorem fr (h : Rb w K N c f bs cnt aged v u W) (i : Nat) : W.frozen? ⟨N, i, none⟩ = false := frozen_of h.box i
/-- the sketch is laid anew. -/
theorem setS (h : Rb w K N c f bs cnt aged v u W) (hr : Rv (fun b => K b ∧ b ≠ N ∧ b ≠ N + 1) W c f' bs v' u) : Rb w K N c f' bs cnt aged v' u (((W.setCell ⟨N, 0, none⟩ v').setCell ⟨N, 1, none⟩ (.int .i64 (c.n : Int))).setCell ⟨N, 2, none⟩ (.int .u64 (c.seed : Int))) :=
  h.store (((Keep.setCell _ _ _ fun h => h rfl).trans (Keep.setCell _ _ _ fun h => h rfl)).trans (Keep.setCell _ _ _ fun h => h rfl)) cnt aged (by rw [heap_set (heap_set (heap_set h.box 0 v') 1 _) 2 _]; rfl) hr
/-- the door is laid anew. -/
theorem setD (h : Rb w K N c f bs cnt aged v u W) (hr : Rv (fun b => K b ∧ b ≠ N ∧ b ≠ N + 1) W c f bs' v u') : Rb w K N c f bs' cnt aged v u' ((W.setCell ⟨N, 3, none⟩ u').setCell ⟨N, 4, none⟩ (.int .u64 (c.seed : Int))) :=
  h.store ((Keep.setCell _ _ _ fun h => h rfl).trans (Keep.setCell _ _ _ fun h => h rfl)) cnt aged (by rw [heap_set (heap_set h.box 3 u') 4 _]; rfl) hr
theorem setC (h : Rb w K N c f bs cnt aged v u W) (k : Nat) : Rb w K N c f bs k aged v u (W.setCell ⟨N, 5, none⟩ (.int .i64 (k : Int))) :=
  h.store (Keep.setCell _ _ _ fun h => h rfl) k aged (by rw [heap_set h.box]; rfl) h.rv
theorem setA (h : Rb w K N c f bs cnt aged v u W) (k : Nat) : Rb w K N c f bs cnt k v u (W.setCell ⟨N, 7, none⟩ (.int .i64 (k : Int))) :=
  h.store (Keep.setCell _ _ _ fun h => h rfl) cnt k (by rw [heap_set h.box]; rfl) h.rv
/-- .. and all of it. -/
theorem set (h : Rb w K N c f bs cnt aged v u W) {cnt' aged' : Nat} (hr : Rv (fun b => K b ∧ b ≠ N ∧ b ≠ N + 1) W c f' bs' v' u') : Rb w K N c f' bs' cnt' aged' v' u' (set10 W N v' (.int .i64 (c.n : Int)) (.int .u64 (c.seed : Int)) u' (.int .u64 (c.seed : Int)) (.int .i64 (cnt' : Int)) (.int .i64 (c.lim : Int)) (.int .i64 (aged' : Int)) (.int .i64 0) (.int .u64 (c.seed : Int))) :=
  h.store (keep10 _ _ _ _ _ _ _ _ _ _ _ _) cnt' aged' (put10 _ _ _ _ _ _ _ _ _ _ h.box) hr
/-- what is read and written of the box. -/
abbrev Cl (N : Nat) (c : Cs) (cnt aged : Nat) (v u : Value) (W : World) : Prop :=
  W.cell? ⟨N, 0, none⟩ = some v ∧ W.cell? ⟨N, 1, none⟩ = some (.int .i64 (c.n : Int)) ∧ W.cell? ⟨N, 2, none⟩ = some (.int .u64 (c.seed : Int)) ∧ W.cell? ⟨N, 3, none⟩ = some u ∧ W.cell? ⟨N, 4, none⟩ = some (.int .u64 (c.seed : Int)) ∧ W.cell? ⟨N, 5, none⟩ = some (.int .i64 (cnt : Int)) ∧ W.cell? ⟨N, 6, none⟩ = some (.int .i64 (c.lim : Int)) ∧ W.cell? ⟨N, 7, none⟩ = some (.int .i64 (aged : Int)) ∧ W.cell? ⟨N, 8, none⟩ = some (.int .i64 0) ∧ W.cell? ⟨N, 9, none⟩ = some (.int .u64 (c.seed : Int))
theorem k34 (h : Rb w K N c f bs cnt aged v u W) (hK : ∀ b, N ≤ b → K b) (x : Nat) (hx : x < 18446744073709551616) : Calls Tryd.prog 34 #[dr.dv u c.seed, .int .u64 (x : Int)] W fun e B => ∃ u', e = .returned (.tuple #[dr.dv u' c.seed, .bool (!hasZ c x bs)]) ∧ ((B.alloc (.cells #[u', .int .u64 (c.seed : Int)] 32)).cell? ⟨N, 3, none⟩ = some u ∧ (B.alloc (.cells #[u', .int .u64 (c.seed : Int)] 32)).cell? ⟨N, 4, none⟩ = some (.int .u64 (c.seed : Int)) ∧ ∀ i, (B.alloc (.cells #[u', .int .u64 (c.seed : Int)] 32)).frozen? ⟨N, i, none⟩ = false) ∧
    Hid (Rb w K N c f (putZ c x bs) cnt aged v u' (((B.alloc (.cells #[u', .int .u64 (c.seed : Int)] 32)).setCell ⟨N, 3, none⟩ u').setCell ⟨N, 4, none⟩ (.int .u64 (c.seed : Int)))) :=
  (h.rv.k34 (h.past hK) x hx).mono fun e B ⟨u', he, hr, hb⟩ => by
    have hba : Below B.heap.size B (B.alloc (.cells #[u', .int .u64 (c.seed : Int)] 32)) := (Below.refl _ _).alloc (Nat.le_refl _) _
    have h2 := (h.below hb).below hba
    have hc := h2.cells
    exact ⟨u', he, ⟨hc.2.2.2.1, hc.2.2.2.2.1, h2.fr⟩, h2.setD (hr.below hba)⟩
theorem k35 (h : Rb w K N c f bs cnt aged v u W) (hK : ∀ b, N ≤ b → K b) (x : Nat) (hx : x < 18446744073709551616) : Calls Tryd.prog 35 #[sk.sv v c.n c.seed, .int .u64 (x : Int)] W fun e B => ∃ v', e = .returned (sk.sv v' c.n c.seed) ∧ (B.cell? ⟨N, 0, none⟩ = some v ∧ B.cell? ⟨N, 1, none⟩ = some (.int .i64 (c.n : Int)) ∧ B.cell? ⟨N, 2, none⟩ = some (.int .u64 (c.seed : Int)) ∧ ∀ i, B.frozen? ⟨N, i, none⟩ = false) ∧
    Hid (Rb w K N c (addsZ c x f) bs cnt aged v' u (((B.setCell ⟨N, 0, none⟩ v').setCell ⟨N, 1, none⟩ (.int .i64 (c.n : Int))).setCell ⟨N, 2, none⟩ (.int .u64 (c.seed : Int)))) :=
  (h.rv.k35 (h.past hK) x hx).mono fun e B ⟨v', he, hr, hb⟩ => by
    have h2 := h.below hb
    have hc := h2.cells
    exact ⟨v', he, ⟨hc.1, hc.2.1, hc.2.2.1, h2.fr⟩, h2.setS hr⟩
theorem k36 (h : Rb w K N c f bs cnt aged v u W) (hK : ∀ b, N ≤ b → K b) : Calls Tryd.prog 36 #[sk.sv v c.n c.seed] W fun e B => ∃ v', e = .returned (sk.sv v' c.n c.seed) ∧ (B.cell? ⟨N, 0, none⟩ = some v ∧ B.cell? ⟨N, 1, none⟩ = some (.int .i64 (c.n : Int)) ∧ B.cell? ⟨N, 2, none⟩ = some (.int .u64 (c.seed : Int)) ∧ ∀ i, B.frozen? ⟨N, i, none⟩ = false) ∧
    Hid (Rb w K N c (halvesZ f) bs cnt aged v' u (((B.setCell ⟨N, 0, none⟩ v').setCell ⟨N, 1, none⟩ (.int .i64 (c.n : Int))).setCell ⟨N, 2, none⟩ (.int .u64 (c.seed : Int)))) :=
  (h.rv.k36 (h.past hK)).mono fun e B ⟨v', he, hr, hb⟩ => by
    have h2 := h.below hb
    have hc := h2.cells
    exact ⟨v', he, ⟨hc.1, hc.2.1, hc.2.2.1, h2.fr⟩, h2.setS hr⟩
theorem k22 (h : Rb w K N c f bs cnt aged v u W) (hK : ∀ b, N ≤ b → K b) : Calls Tryd.prog 22 #[.int .i64 (c.lim : Int), .int .u64 (c.seed : Int)] W fun e B => ∃ u', e = .returned (dr.dv u' c.seed) ∧ (B.cell? ⟨N, 3, none⟩ = some u ∧ B.cell? ⟨N, 4, none⟩ = some (.int .u64 (c.seed : Int)) ∧ ∀ i, B.frozen? ⟨N, i, none⟩ = false) ∧
    Hid (Rb w K N c f (zerosD c) cnt aged v u' ((B.setCell ⟨N, 3, none⟩ u').setCell ⟨N, 4, none⟩ (.int .u64 (c.seed : Int)))) :=
  (h.rv.k22 (h.past hK)).mono fun e B ⟨u', he, hr, hb⟩ => by
    have h2 := h.below hb
    have hc := h2.cells
    exact ⟨u', he, ⟨hc.2.2.2.1, hc.2.2.2.2.1, h2.fr⟩, h2.setD hr⟩
/-- at the return. -/
theorem end_ (h : Rb w K N c f bs cnt aged v u W) {B : World} (e : set10 W (N + 1) v (.int .i64 (c.n : Int)) (.int .u64 (c.seed : Int)) u (.int .u64 (c.seed : Int)) (.int .i64 (cnt : Int)) (.int .i64 (c.lim : Int)) (.int .i64 (aged : Int)) (.int .i64 0) (.int .u64 (c.seed : Int)) = B) :
    Cl (N + 1) c cnt aged v u B ∧ Hid (Rv K B c f bs v u ∧ Below N w B) := by
  have hk := keep10 W (N + 1) v (.int .i64 (c.n : Int)) (.int .u64 (c.seed : Int)) u (.int .u64 (c.seed : Int)) (.int .i64 (cnt : Int)) (.int .i64 (c.lim : Int)) (.int .i64 (aged : Int)) (.int .i64 0) (.int .u64 (c.seed : Int))
  have hp := put10 v (.int .i64 (c.n : Int)) (.int .u64 (c.seed : Int)) u (.int .u64 (c.seed : Int)) (.int .i64 (cnt : Int)) (.int .i64 (c.lim : Int)) (.int .i64 (aged : Int)) (.int .i64 0) (.int .u64 (c.seed : Int)) h.res
  have hl := h.lt
  rw [e] at hk hp
  refine ⟨⟨by rw [cell_of hp]; rfl, by rw [cell_of hp]; rfl, by rw [cell_of hp]; rfl, by rw [cell_of hp]; rfl, by rw [cell_of hp]; rfl, by rw [cell_of hp]; rfl, by rw [cell_of hp]; rfl, by rw [cell_of hp]; rfl, by rw [cell_of hp]; rfl, by rw [cell_of hp]; rfl⟩, ?_, ?_⟩
  · exact (h.rv.keep (hk.mono fun _ _ h => h.2.2)).mono fun _ h => h.1
  · exact h.old.trans (hk.below (fun k hk => by show k ≠ N + 1; omega) (by omega))
/-- the result's own cells, ahead of the return. -/
theorem rescells (h : Rb w K N c f bs cnt aged v u W) : (W.cell? ⟨N + 1, 0, none⟩ = some (.slice none 0 0) ∧ W.cell? ⟨N + 1, 1, none⟩ = some (.int .i64 0) ∧ W.cell? ⟨N + 1, 2, none⟩ = some (.int .u64 0) ∧ W.cell? ⟨N + 1, 3, none⟩ = some (.slice none 0 0) ∧ W.cell? ⟨N + 1, 4, none⟩ = some (.int .u64 0) ∧ W.cell? ⟨N + 1, 5, none⟩ = some (.int .i64 0) ∧ W.cell? ⟨N + 1, 6, none⟩ = some (.int .i64 0) ∧ W.cell? ⟨N + 1, 7, none⟩ = some (.int .i64 0) ∧ W.cell? ⟨N + 1, 8, none⟩ = some (.int .i64 0) ∧ W.cell? ⟨N + 1, 9, none⟩ = some (.int .u64 0)) ∧ ∀ i, W.frozen? ⟨N + 1, i, none⟩ = false := by
  have hb := h.res
  exact ⟨⟨by rw [cell_of hb]; rfl, by rw [cell_of hb]; rfl, by rw [cell_of hb]; rfl, by rw [cell_of hb]; rfl, by rw [cell_of hb]; rfl, by rw [cell_of hb]; rfl, by rw [cell_of hb]; rfl, by rw [cell_of hb]; rfl, by rw [cell_of hb]; rfl, by rw [cell_of hb]; rfl⟩, frozen_of hb⟩
/-- behind the entry. -/
theorem start {z : Zs} (hr : Rv K w c z.f z.bs v u) (hN : w.heap.size = N) (cnt aged : Nat) : Rb w K N c z.f z.bs cnt aged v u ((w.alloc (.cells (tc c (cnt : Int) (aged : Int) v u) 34)).alloc (.cells t0 34)) := by
  have hba : Below w.heap.size w ((w.alloc (.cells (tc c (cnt : Int) (aged : Int) v u) 34)).alloc (.cells t0 34)) := ((Below.refl _ _).alloc (Nat.le_refl _) _).alloc (by simp) _
  exact ⟨heap_old (heap_next hN.symm _), heap_next (by simp [hN]) _, (hr.strong.below hba).mono fun b hb => ⟨hb.1, by have := hb.2; omega, by have := hb.2; omega⟩, hN ▸ hba⟩
end Rb
end Go.Proofs.YthjbkabkoolfdaaDoor
