/-
  RingPlays, its state: the queue's box in block G, the ring in block N, each apart; and what each step does to it.
-/
import Derived.Test.YtgkiekidmadabaaRefTake
namespace Go.Proofs.Ytgkiekidmadabaa
open Go.RowKit Go.Shelf
/-- the queue's box holds (v, rm), v reads as l; the ring has xs; what lay in w lies. -/
structure St (w : World) (N G rm : Nat) (v : Value) (l xs : List Int) (W : World) : Prop where
  box : W.heap[G]? = some (.cells #[v, .int .i64 (rm : Int)] 28 (0, 0))
  q : Q W v l
  own : ∀ k, v.ownBlock = some k → k < W.heap.size ∧ k ≠ G
  has : Has (fun k => k < N ∨ k = G ∨ v.ownBlock = some k) W N xs rm
  old : Below N w W
  ge : N < G
/-- a second box, of a queue that comes next. -/
structure Nx (W0 : World) (v v' : Value) (rm g : Nat) (l' : List Int) (W : World) : Prop where
  box : W.heap[g]? = some (.cells #[v', .int .i64 (rm : Int)] 28 (0, 0))
  q : Q W v' l'
  own : ∀ k, v'.ownBlock = some k → k < W.heap.size ∧ (v.ownBlock = some k ∨ W0.heap.size ≤ k)
  new : W0.heap.size ≤ g
namespace St
variable {w W W' : World} {N G rm : Nat} {v v' : Value} {l l' xs xs' : List Int}
theorem lt (h : St w N G rm v l xs W) : ∀ k, (k < N ∨ k = G ∨ v.ownBlock = some k) → k < W.heap.size := fun k hk => by
  have := heap_lt h.box
  have := h.ge
  rcases hk with hk | rfl | hk
  · omega
  · omega
  · exact (h.own k hk).1
theorem below (h : St w N G rm v l xs W) (hb : Below W.heap.size W W') : St w N G rm v l xs W' :=
  ⟨(hb.block G (heap_lt h.box)).trans h.box, h.q.below hb, fun k hk => ⟨Nat.lt_of_lt_of_le (h.own k hk).1 hb.size, (h.own k hk).2⟩, h.has.below hb, h.old.trans (hb.mono (by have := heap_lt h.box; have := h.ge; omega)), h.ge⟩
theorem drewN (h : St w N G rm v l xs W) (m : Nat) : St w N G rm v l xs (W.drewN m) := h.below ((Keep.drewN (fun _ => True) W m).below (fun _ _ => trivial) (Nat.le_refl _))
/-- the ring alone has turned. -/
theorem ring (h : St w N G rm v l xs W) (hk : Keep (fun k => k < N ∨ k = G ∨ v.ownBlock = some k) W W') (hr : Has (fun k => k < N ∨ k = G ∨ v.ownBlock = some k) W' N xs' rm) : St w N G rm v l xs' W' :=
  ⟨hk.heap h.box (.inr (.inl rfl)), h.q.keep hk (fun k hk => .inr (.inr hk)), fun k hk' => ⟨Nat.lt_of_lt_of_le (h.own k hk').1 hk.size, (h.own k hk').2⟩, hr, h.old.trans (hk.below (fun k hk => .inl hk) (by have := heap_lt h.box; have := h.ge; omega)), h.ge⟩
theorem g0 (h : St w N G rm v l xs W) : W.cell? ⟨G, 0, none⟩ = some v := by rw [cell_of h.box]; rfl
theorem g1 (h : St w N G rm v l xs W) : W.cell? ⟨G, 1, none⟩ = some (.int .i64 (rm : Int)) := by rw [cell_of h.box]; rfl
theorem fr (h : St w N G rm v l xs W) (i : Nat) : W.frozen? ⟨G, i, none⟩ = false := frozen_of h.box i
/-- the queue's slice is another one now. -/
theorem turn (h : St w N G rm v l xs W) (hq : Q W v' l') (ho : ∀ k, v'.ownBlock = some k → k < W.heap.size ∧ k ≠ G) (hs : ∀ k, v'.ownBlock = some k → ¬ ∃ s n f a, RingI W N s n f a xs rm ∧ foot N s n k) (hW : W' = (W.setCell ⟨G, 0, none⟩ v').setCell ⟨G, 1, none⟩ (.int .i64 (rm : Int))) : St w N G rm v' l' xs W' := by
  subst hW
  have hk : Keep (fun k => k ≠ G) W ((W.setCell ⟨G, 0, none⟩ v').setCell ⟨G, 1, none⟩ (.int .i64 (rm : Int))) := (Keep.setCell _ _ _ (fun h => h rfl)).trans (Keep.setCell _ _ _ (fun h => h rfl))
  refine ⟨qset W G h.box _ _, hq.keep hk (fun k hk => (ho k hk).2), fun k hk' => ⟨Nat.lt_of_lt_of_le (ho k hk').1 hk.size, (ho k hk').2⟩, ?_, h.old.trans ((hk.mono (K' := (· < N)) fun k _ hk => by have := h.ge; omega).below (fun _ h => h) (by have := heap_lt h.box; have := h.ge; omega)), h.ge⟩
  obtain ⟨s, n, f, a, hr, hf⟩ := h.has
  refine ⟨s, n, f, a, hr.keep hk (fun k hk e => hf k hk (.inr (.inl e))), fun k hk hK => ?_⟩
  rcases hK with hK | hK | hK
  · exact hf k hk (.inl hK)
  · exact hf k hk (.inr (.inl hK))
  · exact hs k hK ⟨s, n, f, a, hr, hk⟩
end St
namespace Nx
variable {w W0 W W' : World} {N G rm g : Nat} {v v' : Value} {l l' xs xs' : List Int}
theorem c0 (h : Nx W0 v v' rm g l' W) : W.cell? ⟨g, 0, none⟩ = some v' := by rw [cell_of h.box]; rfl
theorem c1 (h : Nx W0 v v' rm g l' W) : W.cell? ⟨g, 1, none⟩ = some (.int .i64 (rm : Int)) := by rw [cell_of h.box]; rfl
/-- out of what a call of the document's queue made: the box ahead of the call, or behind it. -/
theorem late {B : World} (h0 : W0.heap.size ≤ B.heap.size) (hq : Q B v' l') (ho : ∀ k, v'.ownBlock = some k → k < B.heap.size ∧ (v.ownBlock = some k ∨ W0.heap.size ≤ k)) : Nx W0 v v' rm B.heap.size l' (B.alloc (.cells #[v', .int .i64 (rm : Int)] 28)) :=
  ⟨World.alloc_heap_new _ _, hq.below ((Below.refl _ B).alloc (Nat.le_refl _) _), fun k hk => ⟨by have := (ho k hk).1; simp; omega, (ho k hk).2⟩, h0⟩
theorem early {B : World} {y z : Value} (hg : B.heap[g]? = some (.cells #[y, z] 28 (0, 0))) (h0 : W0.heap.size ≤ g) (hq : Q B v' l') (ho : ∀ k, v'.ownBlock = some k → k < B.heap.size ∧ (v.ownBlock = some k ∨ W0.heap.size ≤ k)) (hn : ∀ k, v'.ownBlock = some k → k ≠ g) : Nx W0 v v' rm g l' ((B.setCell ⟨g, 0, none⟩ v').setCell ⟨g, 1, none⟩ (.int .i64 (rm : Int))) :=
  ⟨qset B g hg _ _, hq.keep (K := fun k => k ≠ g) ((Keep.setCell _ _ _ (fun h => h rfl)).trans (Keep.setCell _ _ _ (fun h => h rfl))) hn, fun k hk => by rw [World.size_setCell, World.size_setCell]; exact ho k hk, h0⟩
/-- the ring turns beside it. -/
theorem ring (h : Nx W0 v v' rm g l' W) (hs : St w N G rm v l xs W0) (hb : Below W0.heap.size W0 W) : Has (fun k => (k < N ∨ k = G ∨ v.ownBlock = some k) ∨ k = g ∨ v'.ownBlock = some k) W N xs rm ∧ ∀ k, ((k < N ∨ k = G ∨ v.ownBlock = some k) ∨ k = g ∨ v'.ownBlock = some k) → k < W.heap.size :=
  ⟨(hs.has.more fun k hk => by
      rcases hk with hk | rfl | hk
      · exact .inl hk
      · exact .inr h.new
      · rcases (h.own k hk).2 with h' | h'
        · exact .inl (.inr (.inr h'))
        · exact .inr h').below hb, fun k hk => by
    rcases hk with hk | rfl | hk
    · exact Nat.lt_of_lt_of_le (hs.lt k hk) hb.size
    · exact heap_lt h.box
    · exact (h.own k hk).1⟩
/-- behind that: the state with the old queue, the next one's box, and that the next one may come in. -/
theorem next (h : Nx W0 v v' rm g l' W) (hs : St w N G rm v l xs W0) (hb : Below W0.heap.size W0 W) (hk : Keep (fun k => (k < N ∨ k = G ∨ v.ownBlock = some k) ∨ k = g ∨ v'.ownBlock = some k) W W') (hr : Has (fun k => (k < N ∨ k = G ∨ v.ownBlock = some k) ∨ k = g ∨ v'.ownBlock = some k) W' N xs' rm) :
    W'.cell? ⟨g, 0, none⟩ = some v' ∧ W'.cell? ⟨g, 1, none⟩ = some (.int .i64 (rm : Int)) ∧ St w N G rm v l xs' W' ∧ St w N G rm v' l' xs' ((W'.setCell ⟨G, 0, none⟩ v').setCell ⟨G, 1, none⟩ (.int .i64 (rm : Int))) := by
  have hg := hk.heap h.box (.inr (.inl rfl))
  have hS : St w N G rm v l xs' W' := (hs.below hb).ring (hk.mono fun k _ h => .inl h) (by
    obtain ⟨s, n, f, a, h1, h2⟩ := hr
    exact ⟨s, n, f, a, h1, fun k hk h => h2 k hk (.inl h)⟩)
  have hG := heap_lt hs.box
  refine ⟨by rw [cell_of hg]; rfl, by rw [cell_of hg]; rfl, hS, ?_⟩
  have hG' := heap_lt hS.box
  have hk2 : Keep (fun k => k ≠ G) W' ((W'.setCell ⟨G, 0, none⟩ v').setCell ⟨G, 1, none⟩ (.int .i64 (rm : Int))) := (Keep.setCell _ _ _ (fun h => h rfl)).trans (Keep.setCell _ _ _ (fun h => h rfl))
  have ho : ∀ k, v'.ownBlock = some k → k < W'.heap.size ∧ k ≠ G := fun k hk' => ⟨Nat.lt_of_lt_of_le (h.own k hk').1 hk.size, by
    rcases (h.own k hk').2 with h' | h'
    · exact (hs.own k h').2
    · omega⟩
  refine ⟨qset W' G hS.box _ _, (h.q.keep hk (fun k hk => .inr (.inr hk))).keep hk2 (fun k hk => (ho k hk).2), fun k hk' => ⟨Nat.lt_of_lt_of_le (ho k hk').1 hk2.size, (ho k hk').2⟩, ?_, hS.old.trans ((hk2.mono (K' := (· < N)) fun k _ hk => by have := hS.ge; omega).below (fun _ h => h) (by have := hS.ge; omega)), hS.ge⟩
  obtain ⟨s, n, f, a, h1, h2⟩ := hr
  refine ⟨s, n, f, a, h1.keep hk2 (fun k hk e => h2 k hk (.inl (.inr (.inl e)))), fun k hk hK => ?_⟩
  rcases hK with hK | hK | hK
  · exact h2 k hk (.inl (.inl hK))
  · exact h2 k hk (.inl (.inr (.inl hK)))
  · exact h2 k hk (.inr (.inr hK))
end Nx
end Go.Proofs.Ytgkiekidmadabaa
