/-
  Of no function: a range over a function, for iterators that write memory of their own: what the iterator tells, what a round owes, what the loop's function may lean on.
-/
import Derived.Test.YtnhpcjiieagjnaaDoorRkKeep
import Derived.RangeFuncBound
import Derived.RangeFuncLeaves
namespace Go.Proofs.YtnhpcjiieagjnaaDoor.rk
open Go.RowKit
section
variable {α : Type} {P : Program}
/-- a call of yield, whatever was drawn since. -/
def YieldsAt (P : Program) (l : Nat) (args : Array Value) (A : World) (R : Ending → World → Prop) : Prop :=
  ∃ fn tmps assign body, ∀ q, (Instr.yield l args).run P (A.drewN q) = .ok (.round l fn tmps assign body) (A.drewN q) ∧ RoundIn Fence.wide 0 P l fn tmps assign body (A.drewN q) R
theorem YieldsAt.one {P : Program} {l : Nat} {args : Array Value} {A : World} {X Y : World → Prop} (h : YieldsAt P l args A fun e B => (e = .returned (.bool true) ∧ X B) ∨ (e = .returned (.bool false) ∧ Y B)) :
    YieldsAt P l args A fun e B => ∃ b : Bool, e = .returned (.bool b) ∧ Hid ((b = true ∧ X B) ∨ (b = false ∧ Y B)) := by
  obtain ⟨fn, tmps, assign, body, hy⟩ := h
  refine ⟨fn, tmps, assign, body, fun q => ⟨(hy q).1, (hy q).2.mono ?_⟩⟩
  rintro e B (⟨rfl, h⟩ | ⟨rfl, h⟩)
  · exact ⟨true, rfl, .inl ⟨rfl, h⟩⟩
  · exact ⟨false, rfl, .inr ⟨rfl, h⟩⟩
theorem YieldsAt.mono {P : Program} {l : Nat} {args : Array Value} {A : World} {R R' : Ending → World → Prop} (h : YieldsAt P l args A R) (hr : ∀ e B, R e B → R' e B) : YieldsAt P l args A R' := by
  obtain ⟨fn, tmps, assign, body, hy⟩ := h
  exact ⟨fn, tmps, assign, body, fun q => ⟨(hy q).1, (hy q).2.mono hr⟩⟩
/-- what a round owes: M is what the caller holds: nothing else has turned; what it holds now it held, or it is new. -/
def Rounds (P : Program) (l : Nat) (encs : Nat → α → Array Value) (xs : List α) (J Jx : Nat → (Nat → Prop) → World → Prop) : Prop :=
  ∀ i M A x, xs[i]? = some x → J i M A → YieldsAt P l (encs i x) A fun e B =>
    ∃ M' : Nat → Prop, (∀ k, M' k → M k ∨ A.heap.size ≤ k) ∧ Keep (fun k => ¬ M k) A B ∧ ((e = .returned (.bool true) ∧ J (i + 1) M' B) ∨ (e = .returned (.bool false) ∧ Jx (i + 1) M' B))
theorem Rounds.at_ {P : Program} {l : Nat} {encs : Nat → α → Array Value} {xs : List α} {J Jx : Nat → (Nat → Prop) → World → Prop} (h : Rounds P l encs xs J Jx) {i : Nat} {M : Nat → Prop} {A : World} {x : α} (hx : xs[i]? = some x) (hj : J i M A) :
    YieldsAt P l (encs i x) A fun e B => ∃ b : Bool, e = .returned (.bool b) ∧ Hid ((b = true ∧ ∃ M' : Nat → Prop, (∀ k, M' k → M k ∨ A.heap.size ≤ k) ∧ Keep (fun k => ¬ M k) A B ∧ J (i + 1) M' B) ∨ (b = false ∧ ∃ M' : Nat → Prop, (∀ k, M' k → M k ∨ A.heap.size ≤ k) ∧ Keep (fun k => ¬ M k) A B ∧ Jx (i + 1) M' B)) := by
  refine YieldsAt.one ((h i M A x hx hj).mono ?_)
  rintro e B ⟨M', h1, h2, (⟨rfl, h3⟩ | ⟨rfl, h3⟩)⟩
  · exact .inl ⟨rfl, M', h1, h2, h3⟩
  · exact .inr ⟨rfl, M', h1, h2, h3⟩
/-- the iterator gf tells xs, one by one, as long as one asks; N: what it writes of what lay; T: what holds of that when so many were told. -/
def Tells (P : Program) (gf : Nat) (lb : Array Value) (encs : Nat → α → Array Value) (xs : List α) (N : Nat → Prop) (T : Nat → World → Prop) (W : World) : Prop :=
  ∀ (l : Nat) (J Jx : Nat → (Nat → Prop) → World → Prop) (M0 : Nat → Prop), (∀ k, M0 k → k < W.heap.size ∧ ¬ N k) → (∀ i M A B, J i M A → Keep M A B → J i M B) → Rounds P l encs xs J Jx → J 0 M0 W →
    CallsIn Fence.wide 0 P gf (#[.func (.yield l) #[] #[]] ++ lb) W fun e B => (∃ v, e = .returned v) ∧
      ((∃ M, J xs.length M B ∧ T xs.length B) ∨ ∃ i M, 0 < i ∧ i ≤ xs.length ∧ Jx i M B ∧ T i B)
/-- how a round's body may be left. -/
def roundOut (I : Nat → (Nat → Prop) → World → Prop) (Ix : Code → Nat → (Nat → Prop) → World → Prop) (i : Nat) (M : Nat → Prop) (A : World) : Exit → Act → World → Prop
  | .normal, _, B => ∃ M' : Nat → Prop, (∀ k, M' k → M k ∨ A.heap.size ≤ k) ∧ Keep (fun k => ¬ M k) A B ∧ I i M' B
  | .ret, _, B => ∃ M' : Nat → Prop, (∀ k, M' k → M k ∨ A.heap.size ≤ k) ∧ Keep (fun k => ¬ M k) A B ∧ Ix .ret i M' B
  | .exit id, _, B => ∃ M' : Nat → Prop, (∀ k, M' k → M k ∨ A.heap.size ≤ k) ∧ Keep (fun k => ¬ M k) A B ∧ Ix (.exit id) i M' B
  | .goto t, _, B => ∃ M' : Nat → Prop, (∀ k, M' k → M k ∨ A.heap.size ≤ k) ∧ Keep (fun k => ¬ M k) A B ∧ Ix (.goto t) i M' B
  | .panic _, _, _ => False
  | .outgrown, _, _ => False
theorem range_law {g : Operand} {ps : Array Tmp} {assign body : Code} {Q : Exit → Act → World → Prop} {a : Act} {w : World}
    {gf : Nat} {lb : Array Value} (hg : a.eval g = .func (.func gf) #[] lb) (eg : ∀ args w, (callFunc gf args).run P w = .ok (.enter gf args) w)
    {encs : Nat → α → Array Value} {xs : List α} {N : Nat → Prop} {T : Nat → World → Prop} (hseq : ∀ W, Keep (fun _ => True) w W → Tells P gf lb encs xs N T W) (hN : ∀ k, N k → k < w.heap.size)
    (hT : ∀ i A l o o', w.heap.size ≤ l → A.heap[l]? = some (.loop o) → T i A → T i (A.putObj l (.loop o'))) (hps : ∀ i x, (encs i x).size = ps.size)
    (I : Nat → (Nat → Prop) → World → Prop) (Ix : Code → Nat → (Nat → Prop) → World → Prop) (hI : ∀ i M A B, I i M A → Keep M A B → I i M B) (hIx : ∀ c i M A B, Ix c i M A → Keep M A B → Ix c i M B)
    (M0 : Nat → Prop) (hM0 : ∀ k, M0 k → k < w.heap.size ∧ ¬ N k) (h0 : I 0 M0 w) (a₁ : Nat → α → Act)
    (hassign : ∀ (l i : Nat) (x : α) (W : World) (K : Act → World → Prop), K (a₁ i x) W →
      assign.wpIn (Fence.wide.inRound l) 0 P (Exit.then K (fun _ _ _ => False)) { tmps := (ps.zip (encs i x)).foldl (fun t (p, v) => t.setIfInBounds p v) a.tmps, defers := [] } W)
    (hbody : ∀ (l i : Nat) (x : α) (M : Nat → Prop) (A : World), xs[i]? = some x → I i M A → w.heap.size ≤ A.heap.size → body.wpIn (Fence.wide.inRound l) 0 P (roundOut I Ix (i + 1) M A) (a₁ i x) A)
    (hdone : ∀ (D : Nat) (M : Nat → Prop) (A : World), w.heap.size ≤ D → ¬ M D → I xs.length M A → T xs.length A → A.heap[D]? = some (.deferred (some [])) → Q .normal { a with defers := { target := .collected D, args := #[] } :: a.defers } A)
    (hstop : ∀ (D : Nat) (c : Code) (i : Nat) (M : Nat → Prop) (A : World), w.heap.size ≤ D → ¬ M D → 0 < i → i ≤ xs.length → Ix c i M A → T i A → A.heap[D]? = some (.deferred (some [])) → c.wpIn Fence.wide 0 P Q { a with defers := { target := .collected D, args := #[] } :: a.defers } A) :
    (Code.rangeFunc g ps assign body).wpIn Fence.wide 0 P Q a w := by
  refine wpIn_rangeFunc ?_
  intro fn hfn
  obtain ⟨rec, hrec⟩ : ∃ rec : LoopState → Option Code → Loop, rec = fun st pe => { state := st, pending := pe, fn, tmps := a.tmps, params := ps, assign, body, defers := w.heap.size } := ⟨_, rfl⟩
  obtain ⟨W1, hW1⟩ : ∃ W1, (w.alloc (.deferred (some []))).alloc (.loop (rec .ready none)) = W1 := ⟨_, rfl⟩
  have hL1 : W1.heap[w.heap.size + 1]? = some (.loop (rec .ready none)) := by
    rw [← hW1]; have := World.alloc_heap_new (w.alloc (.deferred (some []))) (.loop (rec .ready none)); rwa [World.size_alloc] at this
  have hK1 : W1.heap[w.heap.size]? = some (.deferred (some [])) := by
    rw [← hW1]; exact (Below.heap_alloc _ _ _ (by simp)).trans (World.alloc_heap_new w _)
  have hk1 : ∀ K, Keep K w W1 := fun K => by rw [← hW1]; exact (Keep.alloc _ _ _).trans (Keep.alloc _ _ _)
  have hI1 : I 0 M0 W1 := hI _ _ _ _ h0 (hk1 _)
  have hs1 : w.heap.size + 1 < W1.heap.size := heap_lt hL1
  refine ⟨w.heap.size + 1, [{ target := .collected w.heap.size, args := #[] }], W1, { target := .fn (.func gf) lb, args := #[.func (.yield (w.heap.size + 1)) #[] #[]] }, W1, gf,
    #[.func (.yield (w.heap.size + 1)) #[] #[]] ++ lb, W1, ?_, ?_, ?_, ?_, fun h => by simp [Fence.wide] at h, ?_⟩
  · rw [← hW1, hrec]; exact run_enterLoop_outer _ _ _ _ _
  · simp only [resolve, hg]
    simp [go_sem]
  · intro f' _; exact trivial
  · simp [invoke, go_sem, eg]
  · refine (hseq W1 (hk1 _) (w.heap.size + 1)
      (fun i Mp A => ∃ M : Nat → Prop, (∀ k, Mp k ↔ M k ∨ k = w.heap.size ∨ k = w.heap.size + 1) ∧ ¬ M w.heap.size ∧ ¬ M (w.heap.size + 1) ∧ I i M A ∧ w.heap.size ≤ A.heap.size ∧ A.heap[w.heap.size + 1]? = some (.loop (rec .ready none)) ∧ A.heap[w.heap.size]? = some (.deferred (some [])))
      (fun i Mp A => ∃ (M : Nat → Prop) (c : Code), (∀ k, Mp k ↔ M k ∨ k = w.heap.size ∨ k = w.heap.size + 1) ∧ ¬ M w.heap.size ∧ ¬ M (w.heap.size + 1) ∧ Ix c i M A ∧ A.heap[w.heap.size + 1]? = some (.loop (rec .done (some c))) ∧ A.heap[w.heap.size]? = some (.deferred (some [])))
      (fun k => M0 k ∨ k = w.heap.size ∨ k = w.heap.size + 1)
      (fun k hk => ?_) ?_ ?_ ⟨M0, fun _ => Iff.rfl, fun h => absurd (hM0 _ h).1 (by omega), fun h => absurd (hM0 _ h).1 (by omega), hI1, by omega, hL1, hK1⟩).mono ?_
    · rcases hk with hk | rfl | rfl
      · exact ⟨by have := (hM0 k hk).1; omega, (hM0 k hk).2⟩
      · exact ⟨by omega, fun h => absurd (hN _ h) (by omega)⟩
      · exact ⟨by omega, fun h => absurd (hN _ h) (by omega)⟩
    · rintro i Mp A B ⟨M, hm, hd, hl, hi, hsz, hL, hD⟩ hk
      exact ⟨M, hm, hd, hl, hI _ _ _ _ hi (hk.mono fun k _ h => (hm k).2 (.inl h)), Nat.le_trans hsz hk.size, hk.heap hL ((hm _).2 (.inr (.inr rfl))), hk.heap hD ((hm _).2 (.inr (.inl rfl)))⟩
    · rintro i Mp A0 x hx ⟨M, hm, hd, hl, hi, hsz, hL, hD⟩
      refine ⟨fn, (ps.zip (encs i x)).foldl (fun t (p, v) => t.setIfInBounds p v) a.tmps, assign, body, fun q => ?_⟩
      obtain ⟨A, hA⟩ : ∃ A, A0.drewN q = A := ⟨_, rfl⟩
      rw [hA]
      have hA0 : Keep (fun k => ¬ Mp k) A0 A := by rw [← hA]; exact Keep.drewN _ _ _
      have hsA : A0.heap.size = A.heap.size := by rw [← hA]; rfl
      replace hi : I i M A := by rw [← hA]; exact hI _ _ _ _ hi (Keep.drewN _ _ _)
      replace hL : A.heap[w.heap.size + 1]? = some (.loop (rec .ready none)) := by rw [← hA]; exact hL
      replace hD : A.heap[w.heap.size]? = some (.deferred (some [])) := by rw [← hA]; exact hD
      replace hsz : w.heap.size ≤ A.heap.size := by omega
      have hlt : w.heap.size + 1 < A.heap.size := heap_lt hL
      have hy := run_yield (P := P) (args := encs i x) hL (by rw [hrec]; exact hps i x)
      rw [hrec] at hy
      refine ⟨hy, roundIn_of_wpIn hfn (hassign _ i x A _ ?_)⟩
      refine ⟨_, run_beginRound hL (by rw [hrec]), ?_⟩
      have hl2 : (A.putObj (w.heap.size + 1) (.loop { rec .ready none with state := .busy })).heap[w.heap.size + 1]? = some (.loop { rec .ready none with state := .busy }) := World.putObj_heap_same hlt
      have hk2 : (A.putObj (w.heap.size + 1) (.loop { rec .ready none with state := .busy })).heap[w.heap.size]? = some (.deferred (some [])) := (World.putObj_heap_other (by omega)).trans hD
      have hsz2 : (A.putObj (w.heap.size + 1) (.loop { rec .ready none with state := .busy })).heap.size = A.heap.size := by simp
      refine wpIn_mono (hbody _ i x M _ hx (hI _ _ _ _ hi (Keep.putObj _ _ _ hl)) (by simp; omega)) ?_
      have fin : ∀ (jump : Option Code) (B : World), Keep (fun k => ¬ M k) (A.putObj (w.heap.size + 1) (.loop { rec .ready none with state := .busy })) B →
          (Instr.endRound (w.heap.size + 1) jump).run P B = .ok (.bool jump.isNone) (B.putObj (w.heap.size + 1) (.loop (rec (if jump.isNone then .ready else .done) jump))) ∧
          (B.putObj (w.heap.size + 1) (.loop (rec (if jump.isNone then .ready else .done) jump))).heap[w.heap.size + 1]? = some (.loop (rec (if jump.isNone then .ready else .done) jump)) ∧
          (B.putObj (w.heap.size + 1) (.loop (rec (if jump.isNone then .ready else .done) jump))).heap[w.heap.size]? = some (.deferred (some [])) ∧
          Keep (fun k => ¬ Mp k) A0 (B.putObj (w.heap.size + 1) (.loop (rec (if jump.isNone then .ready else .done) jump))) := fun jump B hk3 => by
        have hl3 := hk3.heap hl2 hl
        have := run_endRound (P := P) jump hl3
        rw [hrec] at this ⊢
        exact ⟨this, World.putObj_heap_same (heap_lt hl3), (World.putObj_heap_other (by omega)).trans (hk3.heap hk2 hd),
          ((hA0.trans (Keep.putObj A _ _ (fun h => h ((hm _).2 (.inr (.inr rfl)))))).trans (hk3.mono fun k _ h h' => h ((hm k).2 (.inl h')))).trans (Keep.putObj _ _ _ (fun h => h ((hm _).2 (.inr (.inr rfl)))))⟩
      have sub : ∀ M' : Nat → Prop, (∀ k, M' k → M k ∨ (A.putObj (w.heap.size + 1) (.loop { rec .ready none with state := .busy })).heap.size ≤ k) → ¬ M' w.heap.size ∧ ¬ M' (w.heap.size + 1) ∧ (∀ k, (M' k ∨ k = w.heap.size ∨ k = w.heap.size + 1) → Mp k ∨ A0.heap.size ≤ k) := fun M' h =>
        ⟨fun h' => by rcases h _ h' with h' | h'; exact hd h'; omega, fun h' => by rcases h _ h' with h' | h'; exact hl h'; omega, fun k hk => by
          rcases hk with hk | hk
          · rcases h k hk with h' | h'
            · exact .inl ((hm k).2 (.inl h'))
            · exact .inr (by omega)
          · exact .inl ((hm k).2 (.inr hk))⟩
      have grow : ∀ {B : World} {o : Obj}, Keep (fun k => ¬ M k) (A.putObj (w.heap.size + 1) (.loop { rec .ready none with state := .busy })) B → w.heap.size ≤ (B.putObj (w.heap.size + 1) o).heap.size := fun h => by have := h.size; simp at this ⊢; omega
      rintro e a3 B hp
      cases e with
      | normal =>
        obtain ⟨M', hs, hk3, hi3⟩ := hp
        obtain ⟨hr, hl4, hk4, hk5⟩ := fin none B hk3
        obtain ⟨s1, s2, s3⟩ := sub M' hs
        exact ⟨_, _, hr, _, s3, hk5, .inl ⟨rfl, M', fun _ => Iff.rfl, s1, s2, hI _ _ _ _ hi3 (Keep.putObj _ _ _ s2), grow hk3, hl4, hk4⟩⟩
      | ret =>
        obtain ⟨M', hs, hk3, hi3⟩ := hp
        obtain ⟨hr, hl4, hk4, hk5⟩ := fin (some .ret) B hk3
        obtain ⟨s1, s2, s3⟩ := sub M' hs
        exact ⟨_, _, hr, _, s3, hk5, .inr ⟨rfl, M', .ret, fun _ => Iff.rfl, s1, s2, hIx _ _ _ _ _ hi3 (Keep.putObj _ _ _ s2), hl4, hk4⟩⟩
      | exit id =>
        obtain ⟨M', hs, hk3, hi3⟩ := hp
        obtain ⟨hr, hl4, hk4, hk5⟩ := fin (some (.exit id)) B hk3
        obtain ⟨s1, s2, s3⟩ := sub M' hs
        exact ⟨_, _, hr, _, s3, hk5, .inr ⟨rfl, M', .exit id, fun _ => Iff.rfl, s1, s2, hIx _ _ _ _ _ hi3 (Keep.putObj _ _ _ s2), hl4, hk4⟩⟩
      | goto t =>
        obtain ⟨M', hs, hk3, hi3⟩ := hp
        obtain ⟨hr, hl4, hk4, hk5⟩ := fin (some (.goto t)) B hk3
        obtain ⟨s1, s2, s3⟩ := sub M' hs
        exact ⟨_, _, hr, _, s3, hk5, .inr ⟨rfl, M', .goto t, fun _ => Iff.rfl, s1, s2, hIx _ _ _ _ _ hi3 (Keep.putObj _ _ _ s2), hl4, hk4⟩⟩
      | panic ch => exact hp.elim
      | outgrown => exact hp.elim
    · rintro e W2 ⟨⟨v, rfl⟩, (⟨Mp, ⟨M, hm, hd, hl, hi, hsz, hL, hD⟩, ht⟩ | ⟨i, Mp, h1, h2, ⟨M, c, hm, hd, hl, hi, hL, hD⟩, ht⟩)⟩
      · exact ⟨none, _, by have := run_endLoop (P := P) hL (by rw [hrec]; simp); rw [hrec] at this; exact this, hdone _ M _ (Nat.le_refl _) hd (hI _ _ _ _ hi (Keep.putObj _ _ _ hl)) (hT _ _ _ _ _ (by omega) hL ht) ((World.putObj_heap_other (by omega)).trans hD)⟩
      · exact ⟨some c, _, by have := run_endLoop (P := P) hL (by rw [hrec]; simp); rw [hrec] at this; exact this, hstop _ c i M _ (Nat.le_refl _) hd h1 h2 (hIx _ _ _ _ _ hi (Keep.putObj _ _ _ hl)) (hT _ _ _ _ _ (by omega) hL ht) ((World.putObj_heap_other (by omega)).trans hD)⟩
end
end Go.Proofs.YtnhpcjiieagjnaaDoor.rk
