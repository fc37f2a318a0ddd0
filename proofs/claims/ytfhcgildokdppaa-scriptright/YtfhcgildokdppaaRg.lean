/-
  Of no function: a range over a function that tells all it has, to a loop that is never left: what the iterator tells, what a round owes, what the loop's function may lean on.
-/
import Derived.Test.YtfhcgildokdppaaOp
import Derived.RangeFuncBound
import Derived.RangeFuncLeaves
import Derived.Shelf.Abstract
import Derived.Shelf.RegionOpen
import Derived.OwnWalkIn
import Derived.TacticsInMore
import Derived.LoopNIn
import Derived.LoopIn
namespace Go.Proofs.Ytfhcgildokdppaa
open Go.RowKit tp
theorem wide_fn (k : Nat) : Fence.wide.fn k = True := rfl
theorem wide_depth : Fence.wide.depth = none := rfl
theorem tp.Keep.putObj {K : Nat → Prop} (A : World) (k : Nat) (o : Obj) (h : ¬ K k) : tp.Keep K A (A.putObj k o) := ⟨rfl, rfl, rfl, by simp, fun i _ hK => World.putObj_heap_other (fun e => h (e ▸ hK))⟩
section
variable {α : Type} {P : Program}
/-- a call of yield, whatever was drawn since. -/
def YieldsAt (P : Program) (l : Nat) (args : Array Value) (A : World) (R : Ending → World → Prop) : Prop :=
  ∃ fn tmps assign body, ∀ q, (Instr.yield l args).run P (A.drewN q) = .ok (.round l fn tmps assign body) (A.drewN q) ∧ RoundIn Fence.wide 0 P l fn tmps assign body (A.drewN q) R
theorem YieldsAt.mono {P : Program} {l : Nat} {args : Array Value} {A : World} {R R' : Ending → World → Prop} (h : YieldsAt P l args A R) (hr : ∀ e B, R e B → R' e B) : YieldsAt P l args A R' := by
  obtain ⟨fn, tmps, assign, body, hy⟩ := h
  exact ⟨fn, tmps, assign, body, fun q => ⟨(hy q).1, (hy q).2.mono hr⟩⟩
/-- the iterator gf tells xs, one by one, where what lies in N stays. -/
def TellsAll (P : Program) (gf : Nat) (lb : Array Value) (encs : α → Array Value) (xs : List α) (N : Nat → Prop) (W : World) : Prop :=
  ∀ (l : Nat) (J : Nat → World → Prop), (∀ i A q, J i A → J i (A.drewN q)) → (∀ i A, J i A → Keep N W A) →
    (∀ i A x, xs[i]? = some x → J i A → YieldsAt P l (encs x) A fun e B => e = .returned (.bool true) ∧ Hid (J (i + 1) B)) → J 0 W →
    CallsIn Fence.wide 0 P gf (#[.func (.yield l) #[] #[]] ++ lb) W fun e B => (∃ v, e = .returned v) ∧ J xs.length B
/-- how a round's body is left: the loop's own two blocks stand. -/
def roundOut3 (D : Nat) (I : Nat → World → Prop) (i : Nat) (A : World) : Exit → Act → World → Prop
  | .normal, _, B => Keep (fun k => k = D ∨ k = D + 1) A B ∧ I i B
  | .ret, _, _ => False
  | .exit _, _, _ => False
  | .goto _, _, _ => False
  | .panic _, _, _ => False
  | .outgrown, _, _ => False
theorem range3_law {g : Operand} {ps : Array Tmp} {assign body : Code} {Q : Exit → Act → World → Prop} {a : Act} {w : World}
    {gf : Nat} {lb : Array Value} (hg : a.eval g = .func (.func gf) #[] lb) (eg : ∀ args w, (callFunc gf args).run P w = .ok (.enter gf args) w)
    {encs : α → Array Value} {xs : List α} {N : Nat → Prop} (hseq : ∀ W, Keep (fun _ => True) w W → TellsAll P gf lb encs xs N W) (hN : ∀ k, N k → k < w.heap.size) (hps : ∀ x, (encs x).size = ps.size)
    (I : Nat → World → Prop) (hq : ∀ i A q, I i A → I i (A.drewN q))
    (hl : ∀ i A l o o', w.heap.size ≤ l → A.heap[l]? = some (.loop o) → I i A → I i (A.putObj l (.loop o')))
    (hk : ∀ i A, I i A → Keep N w A) (h0 : ∀ W, Keep (fun _ => True) w W → I 0 W)
    (a₁ : Nat → α → Act)
    (hassign : ∀ (l i : Nat) (x : α) (A : World) (K : Act → World → Prop), xs[i]? = some x → K (a₁ i x) A →
      assign.wpIn (Fence.wide.inRound l) 0 P (Exit.then K (fun _ _ _ => False)) { tmps := (ps.zip (encs x)).foldl (fun t (p, v) => t.setIfInBounds p v) a.tmps, defers := [] } A)
    (hbody : ∀ (l i : Nat) (x : α) (A : World), xs[i]? = some x → I i A → w.heap.size + 2 ≤ A.heap.size → body.wpIn (Fence.wide.inRound l) 0 P (roundOut3 w.heap.size I (i + 1) A) (a₁ i x) A)
    (hdone : ∀ (A : World), I xs.length A → A.heap[w.heap.size]? = some (.deferred (some [])) → Q .normal { a with defers := { target := .collected w.heap.size, args := #[] } :: a.defers } A) :
    (Code.rangeFunc g ps assign body).wpIn Fence.wide 0 P Q a w := by
  refine wpIn_rangeFunc ?_
  intro fn hfn
  obtain ⟨rec, hrec⟩ : ∃ rec : LoopState → Option Code → Loop, rec = fun st pe => { state := st, pending := pe, fn, tmps := a.tmps, params := ps, assign, body, defers := w.heap.size } := ⟨_, rfl⟩
  obtain ⟨W1, hW1⟩ : ∃ W1, (w.alloc (.deferred (some []))).alloc (.loop (rec .ready none)) = W1 := ⟨_, rfl⟩
  have hL1 : W1.heap[w.heap.size + 1]? = some (.loop (rec .ready none)) := by
    rw [← hW1]; have := World.alloc_heap_new (w.alloc (.deferred (some []))) (.loop (rec .ready none)); rwa [World.size_alloc] at this
  have hK1 : W1.heap[w.heap.size]? = some (.deferred (some [])) := by
    rw [← hW1]; exact (Below.heap_alloc _ _ _ (by simp)).trans (World.alloc_heap_new w _)
  have hk1 : ∀ K, Keep K w W1 := fun K => by rw [← hW1]; exact (Keep.alloc _ _ _).trans (Keep.alloc _ _ _)
  have hs1 : W1.heap.size = w.heap.size + 2 := by rw [← hW1]; simp
  have kN : ∀ A, Keep N w A → w.heap.size + 2 ≤ A.heap.size → Keep N W1 A := fun A h hz =>
    ⟨h.os.trans (hk1 N).os.symm, h.tape.trans (hk1 N).tape.symm, h.output.trans (hk1 N).output.symm, by omega, fun k _ hK => (h.block k (hN k hK) hK).trans ((hk1 N).block k (hN k hK) hK).symm⟩
  refine ⟨w.heap.size + 1, [{ target := .collected w.heap.size, args := #[] }], W1, { target := .fn (.func gf) lb, args := #[.func (.yield (w.heap.size + 1)) #[] #[]] }, W1, gf,
    #[.func (.yield (w.heap.size + 1)) #[] #[]] ++ lb, W1, ?_, ?_, ?_, ?_, fun h => by simp [Fence.wide] at h, ?_⟩
  · rw [← hW1, hrec]; exact run_enterLoop_outer _ _ _ _ _
  · simp only [resolve, hg]
    simp [go_sem]
  · intro f' _; exact trivial
  · simp [invoke, go_sem, eg]
  · refine (hseq W1 (hk1 _) (w.heap.size + 1)
      (fun i A => I i A ∧ A.heap[w.heap.size + 1]? = some (.loop (rec .ready none)) ∧ A.heap[w.heap.size]? = some (.deferred (some [])))
      ?_ ?_ ?_ ⟨h0 W1 (hk1 _), hL1, hK1⟩).mono ?_
    · rintro i A q ⟨h1, h2, h3⟩
      exact ⟨hq i A q h1, h2, h3⟩
    · rintro i A ⟨h1, h2, _⟩
      exact kN A (hk i A h1) (by have := heap_lt h2; omega)
    · rintro i A0 x hx ⟨hi, hL, hD⟩
      refine ⟨fn, (ps.zip (encs x)).foldl (fun t (p, v) => t.setIfInBounds p v) a.tmps, assign, body, fun q => ?_⟩
      obtain ⟨A, hA⟩ : ∃ A, A0.drewN q = A := ⟨_, rfl⟩
      rw [hA]
      replace hi : I i A := by rw [← hA]; exact hq _ _ _ hi
      replace hL : A.heap[w.heap.size + 1]? = some (.loop (rec .ready none)) := by rw [← hA]; exact hL
      replace hD : A.heap[w.heap.size]? = some (.deferred (some [])) := by rw [← hA]; exact hD
      have hlt : w.heap.size + 1 < A.heap.size := heap_lt hL
      have hy := run_yield (P := P) (args := encs x) hL (by rw [hrec]; exact hps x)
      rw [hrec] at hy
      refine ⟨hy, roundIn_of_wpIn hfn (hassign _ i x A _ hx ?_)⟩
      refine ⟨_, run_beginRound hL (by rw [hrec]), ?_⟩
      have hl2 : (A.putObj (w.heap.size + 1) (.loop { rec .ready none with state := .busy })).heap[w.heap.size + 1]? = some (.loop { rec .ready none with state := .busy }) := World.putObj_heap_same hlt
      have hk2 : (A.putObj (w.heap.size + 1) (.loop { rec .ready none with state := .busy })).heap[w.heap.size]? = some (.deferred (some [])) := (World.putObj_heap_other (by omega)).trans hD
      refine wpIn_mono (hbody _ i x _ hx (hl _ _ _ _ _ (by omega) hL hi) (by simp; omega)) ?_
      rintro e a3 B hp
      cases e with
      | normal =>
        obtain ⟨hk3, hi3⟩ := hp
        have hl3 := hk3.heap hl2 (.inr rfl)
        have hr := run_endRound (P := P) none hl3
        rw [hrec] at hr hl3
        have hd4 : (B.putObj (w.heap.size + 1) (.loop (rec .ready none))).heap[w.heap.size]? = some (.deferred (some [])) := (World.putObj_heap_other (by omega)).trans (hk3.heap hk2 (.inl rfl))
        have hl4 : (B.putObj (w.heap.size + 1) (.loop (rec .ready none))).heap[w.heap.size + 1]? = some (.loop (rec .ready none)) := World.putObj_heap_same (heap_lt hl3)
        have hi4 := hl _ _ _ _ (rec .ready none) (by omega) hl3 hi3
        rw [hrec] at hd4 hl4 hi4
        refine ⟨_, _, hr, rfl, ?_⟩
        rw [hrec]
        exact ⟨hi4, hl4, hd4⟩
      | ret => exact hp.elim
      | exit id => exact hp.elim
      | goto t => exact hp.elim
      | panic ch => exact hp.elim
      | outgrown => exact hp.elim
    · rintro e W2 ⟨⟨v, rfl⟩, hi, hL, hD⟩
      exact ⟨none, _, by have := run_endLoop (P := P) hL (by rw [hrec]; simp); rw [hrec] at this; exact this, hdone _ (hl _ _ _ _ _ (by omega) hL hi) ((World.putObj_heap_other (by omega)).trans hD)⟩
end
end Go.Proofs.Ytfhcgildokdppaa
