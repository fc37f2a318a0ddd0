/-
  A range over a function that writes nothing of what lay (a tree's All): what a round leaves may lie anywhere ('range2_law'); the assignment to the loop's variables may make memory.
-/
import Derived.Test.YtnhpcjiieagjnaaDoorRkBehind
namespace Go.Proofs.YtnhpcjiieagjnaaDoor.rk
open Go.RowKit
section
variable {α : Type} {P : Program}
/-- the iterator gf tells xs, one by one, as long as one asks, where what lies in N stays. -/
def Tells2 (P : Program) (gf : Nat) (lb : Array Value) (encs : α → Array Value) (xs : List α) (N : Nat → Prop) (W : World) : Prop :=
  ∀ (l : Nat) (J Jx : Nat → World → Prop), (∀ i A q, J i A → J i (A.drewN q)) → (∀ i A, J i A ∨ Jx i A → Keep N W A) →
    (∀ i A x, xs[i]? = some x → J i A → YieldsAt P l (encs x) A fun e B => ∃ b : Bool, e = .returned (.bool b) ∧ Hid ((b = true ∧ J (i + 1) B) ∨ (b = false ∧ Jx (i + 1) B))) → J 0 W →
    CallsIn Fence.wide 0 P gf (#[.func (.yield l) #[] #[]] ++ lb) W fun e B => (∃ v, e = .returned v) ∧ (J xs.length B ∨ ∃ i, 0 < i ∧ i ≤ xs.length ∧ Jx i B)
/-- how a round's body may be left: the loop's own two blocks stand. -/
def roundOut2 (D : Nat) (I : Nat → World → Prop) (Ix : Code → Nat → World → Prop) (i : Nat) (A : World) : Exit → Act → World → Prop
  | .normal, _, B => Keep (fun k => k = D ∨ k = D + 1) A B ∧ I i B
  | .ret, _, B => Keep (fun k => k = D ∨ k = D + 1) A B ∧ Ix .ret i B
  | .exit id, _, B => Keep (fun k => k = D ∨ k = D + 1) A B ∧ Ix (.exit id) i B
  | .goto t, _, B => Keep (fun k => k = D ∨ k = D + 1) A B ∧ Ix (.goto t) i B
  | .panic _, _, _ => False
  | .outgrown, _, _ => False
theorem range2_law {g : Operand} {ps : Array Tmp} {assign body : Code} {Q : Exit → Act → World → Prop} {a : Act} {w : World}
    {gf : Nat} {lb : Array Value} (hg : a.eval g = .func (.func gf) #[] lb) (eg : ∀ args w, (callFunc gf args).run P w = .ok (.enter gf args) w)
    {encs : α → Array Value} {xs : List α} {N : Nat → Prop} (hseq : ∀ W, Keep (fun _ => True) w W → Tells2 P gf lb encs xs N W) (hN : ∀ k, N k → k < w.heap.size) (hps : ∀ x, (encs x).size = ps.size)
    (I : Nat → World → Prop) (Ix : Code → Nat → World → Prop) (hq : ∀ i A q, I i A → I i (A.drewN q))
    (hl : ∀ i A l o o', w.heap.size ≤ l → A.heap[l]? = some (.loop o) → I i A → I i (A.putObj l (.loop o'))) (hlx : ∀ c i A l o o', w.heap.size ≤ l → A.heap[l]? = some (.loop o) → Ix c i A → Ix c i (A.putObj l (.loop o')))
    (hk : ∀ i A, I i A → Keep N w A) (hkx : ∀ c i A, Ix c i A → Keep N w A) (h0 : ∀ W, Keep (fun _ => True) w W → I 0 W)
    (Md : Nat → α → Nat → World → Prop) (a₁ : Nat → α → Nat → Act) (hm : ∀ i x b A l o o', w.heap.size ≤ l → A.heap[l]? = some (.loop o) → Md i x b A → Md i x b (A.putObj l (.loop o')))
    (hassign : ∀ (l i : Nat) (x : α) (A : World) (K : Act → World → Prop), xs[i]? = some x → I i A → w.heap.size + 2 ≤ A.heap.size → (∀ b B, Md i x b B → Keep (fun _ => True) A B → K (a₁ i x b) B) →
      assign.wpIn (Fence.wide.inRound l) 0 P (Exit.then K (fun _ _ _ => False)) { tmps := (ps.zip (encs x)).foldl (fun t (p, v) => t.setIfInBounds p v) a.tmps, defers := [] } A)
    (hbody : ∀ (l i : Nat) (x : α) (b : Nat) (A : World), xs[i]? = some x → Md i x b A → w.heap.size + 2 ≤ A.heap.size → body.wpIn (Fence.wide.inRound l) 0 P (roundOut2 w.heap.size I Ix (i + 1) A) (a₁ i x b) A)
    (hdone : ∀ (A : World), I xs.length A → A.heap[w.heap.size]? = some (.deferred (some [])) → Q .normal { a with defers := { target := .collected w.heap.size, args := #[] } :: a.defers } A)
    (hstop : ∀ (c : Code) (i : Nat) (A : World), 0 < i → i ≤ xs.length → Ix c i A → A.heap[w.heap.size]? = some (.deferred (some [])) → c.wpIn Fence.wide 0 P Q { a with defers := { target := .collected w.heap.size, args := #[] } :: a.defers } A) :
    (Code.rangeFunc g ps assign body).wpIn Fence.wide 0 P Q a w := by
  refine wpIn_rangeFunc ?_
  intro fn hfn
  obtain ⟨rec, hrec⟩ : ∃ rec : LoopState → Option Code → Loop, rec = fun st pe => { state := st, pending := pe, fn, tmps := a.tmps, params := ps, assign, body, defers := w.heap.size } := ⟨_, rfl⟩
  obtain ⟨W1, hW1⟩ : ∃ W1, (w.alloc (.deferred (some []))).alloc (.loop (rec .ready none)) = W1 := ⟨_, rfl⟩
  have hL1 : W1.heap[w.heap.size + 1]? = some (.loop (rec .ready none)) := by
    rw [← hW1]; have := World.alloc_heap_new (w.alloc (.deferred (some []))) (.loop (rec .ready none)); rwa [World.size_alloc] at this
  have hK1 : W1.heap[w.heap.size]? = some (.deferred (some [])) := by
    rw [← hW1]; exact (Below.heap_alloc _ _ _ (by simp)).trans (World.alloc_heap_new w _)
  have hk1 : ∀ K, Keep K w W1 := fun K => by rw [← hW1]; exact (Keep.alloc _ _ _).trans (Keep.alloc _ _ _)
  have hs1 : W1.heap.size = w.heap.size + 2 := by rw [← hW1]; simp
  have kN : ∀ A, Keep N w A → w.heap.size + 2 ≤ A.heap.size → Keep N W1 A := fun A h hz =>
    ⟨h.os.trans (hk1 N).os.symm, h.tape.trans (hk1 N).tape.symm, h.output.trans (hk1 N).output.symm, by omega, fun k _ hK => (h.block k (hN k hK) hK).trans ((hk1 N).block k (hN k hK) hK).symm⟩
  refine ⟨w.heap.size + 1, [{ target := .collected w.heap.size, args := #[] }], W1, { target := .fn (.func gf) lb, args := #[.func (.yield (w.heap.size + 1)) #[] #[]] }, W1, gf,
    #[.func (.yield (w.heap.size + 1)) #[] #[]] ++ lb, W1, ?_, ?_, ?_, ?_, fun h => by simp [Fence.wide] at h, ?_⟩
  · rw [← hW1, hrec]; exact run_enterLoop_outer _ _ _ _ _
  · simp only [resolve, hg]
    simp [go_sem]
  · intro f' _; exact trivial
  · simp [invoke, go_sem, eg]
  · refine (hseq W1 (hk1 _) (w.heap.size + 1)
      (fun i A => I i A ∧ A.heap[w.heap.size + 1]? = some (.loop (rec .ready none)) ∧ A.heap[w.heap.size]? = some (.deferred (some [])))
      (fun i A => ∃ c : Code, Ix c i A ∧ A.heap[w.heap.size + 1]? = some (.loop (rec .done (some c))) ∧ A.heap[w.heap.size]? = some (.deferred (some [])))
      ?_ ?_ ?_ ⟨h0 W1 (hk1 _), hL1, hK1⟩).mono ?_
    · rintro i A q ⟨h1, h2, h3⟩
      exact ⟨hq i A q h1, h2, h3⟩
    · rintro i A (⟨h1, h2, _⟩ | ⟨c, h1, h2, _⟩)
      · exact kN A (hk i A h1) (by have := heap_lt h2; omega)
      · exact kN A (hkx c i A h1) (by have := heap_lt h2; omega)
    · rintro i A0 x hx ⟨hi, hL, hD⟩
      refine ⟨fn, (ps.zip (encs x)).foldl (fun t (p, v) => t.setIfInBounds p v) a.tmps, assign, body, fun q => ?_⟩
      obtain ⟨A, hA⟩ : ∃ A, A0.drewN q = A := ⟨_, rfl⟩
      rw [hA]
      replace hi : I i A := by rw [← hA]; exact hq _ _ _ hi
      replace hL : A.heap[w.heap.size + 1]? = some (.loop (rec .ready none)) := by rw [← hA]; exact hL
      replace hD : A.heap[w.heap.size]? = some (.deferred (some [])) := by rw [← hA]; exact hD
      have hlt : w.heap.size + 1 < A.heap.size := heap_lt hL
      have hy := run_yield (P := P) (args := encs x) hL (by rw [hrec]; exact hps x)
      rw [hrec] at hy
      refine ⟨hy, roundIn_of_wpIn hfn (hassign _ i x A _ hx hi (by omega) fun b A1 hM hkA => ?_)⟩
      replace hL := hkA.heap hL trivial
      replace hD := hkA.heap hD trivial
      replace hlt : w.heap.size + 1 < A1.heap.size := heap_lt hL
      refine ⟨_, run_beginRound hL (by rw [hrec]), ?_⟩
      have hl2 : (A1.putObj (w.heap.size + 1) (.loop { rec .ready none with state := .busy })).heap[w.heap.size + 1]? = some (.loop { rec .ready none with state := .busy }) := World.putObj_heap_same hlt
      have hk2 : (A1.putObj (w.heap.size + 1) (.loop { rec .ready none with state := .busy })).heap[w.heap.size]? = some (.deferred (some [])) := (World.putObj_heap_other (by omega)).trans hD
      refine wpIn_mono (hbody _ i x b _ hx (hm _ _ _ _ _ _ _ (by omega) hL hM) (by simp; omega)) ?_
      have fin : ∀ (jump : Option Code) (B : World), Keep (fun k => k = w.heap.size ∨ k = w.heap.size + 1) (A1.putObj (w.heap.size + 1) (.loop { rec .ready none with state := .busy })) B →
          (Instr.endRound (w.heap.size + 1) jump).run P B = .ok (.bool jump.isNone) (B.putObj (w.heap.size + 1) (.loop (rec (if jump.isNone then .ready else .done) jump))) ∧
          (B.putObj (w.heap.size + 1) (.loop (rec (if jump.isNone then .ready else .done) jump))).heap[w.heap.size + 1]? = some (.loop (rec (if jump.isNone then .ready else .done) jump)) ∧
          (B.putObj (w.heap.size + 1) (.loop (rec (if jump.isNone then .ready else .done) jump))).heap[w.heap.size]? = some (.deferred (some [])) ∧
          B.heap[w.heap.size + 1]? = some (.loop { rec .ready none with state := .busy }) := fun jump B hk3 => by
        have hl3 := hk3.heap hl2 (.inr rfl)
        have := run_endRound (P := P) jump hl3
        rw [hrec] at this ⊢
        refine ⟨this, World.putObj_heap_same (heap_lt hl3), (World.putObj_heap_other (by omega)).trans (hk3.heap hk2 (.inl rfl)), ?_⟩
        rw [hrec] at hl3
        exact hl3
      rintro e a3 B hp
      cases e with
      | normal =>
        obtain ⟨hk3, hi3⟩ := hp
        obtain ⟨hr, hl4, hk4, hl5⟩ := fin none B hk3
        exact ⟨_, _, hr, _, rfl, .inl ⟨rfl, hl _ _ _ _ _ (by omega) hl5 hi3, hl4, hk4⟩⟩
      | ret =>
        obtain ⟨hk3, hi3⟩ := hp
        obtain ⟨hr, hl4, hk4, hl5⟩ := fin (some .ret) B hk3
        exact ⟨_, _, hr, _, rfl, .inr ⟨rfl, .ret, hlx _ _ _ _ _ _ (by omega) hl5 hi3, hl4, hk4⟩⟩
      | exit id =>
        obtain ⟨hk3, hi3⟩ := hp
        obtain ⟨hr, hl4, hk4, hl5⟩ := fin (some (.exit id)) B hk3
        exact ⟨_, _, hr, _, rfl, .inr ⟨rfl, .exit id, hlx _ _ _ _ _ _ (by omega) hl5 hi3, hl4, hk4⟩⟩
      | goto t =>
        obtain ⟨hk3, hi3⟩ := hp
        obtain ⟨hr, hl4, hk4, hl5⟩ := fin (some (.goto t)) B hk3
        exact ⟨_, _, hr, _, rfl, .inr ⟨rfl, .goto t, hlx _ _ _ _ _ _ (by omega) hl5 hi3, hl4, hk4⟩⟩
      | panic ch => exact hp.elim
      | outgrown => exact hp.elim
    · rintro e W2 ⟨⟨v, rfl⟩, (⟨hi, hL, hD⟩ | ⟨i, h1, h2, c, hi, hL, hD⟩)⟩
      · exact ⟨none, _, by have := run_endLoop (P := P) hL (by rw [hrec]; simp); rw [hrec] at this; exact this, hdone _ (hl _ _ _ _ _ (by omega) hL hi) ((World.putObj_heap_other (by omega)).trans hD)⟩
      · exact ⟨some c, _, by have := run_endLoop (P := P) hL (by rw [hrec]; simp); rw [hrec] at this; exact this, hstop c i _ h1 h2 (hlx _ _ _ _ _ _ (by omega) hL hi) ((World.putObj_heap_other (by omega)).trans hD)⟩
end
/-- the function that All returns, as one that tells. -/
theorem all_tells {W : World} {p : Option Addr} {t : Tr} {X Y : Nat} (hw : Wh W p t) (hX : W.cell? ⟨X, 0, none⟩ = some (.pointer p)) (hY : W.cell? ⟨Y, 0, none⟩ = some (.int .i64 (0 : Int)))
    (N : Nat → Prop) (hN : ∀ k, foot p t k ∨ k = X ∨ k = Y → N k) :
    Tells2 Tryd.prog 93 #[.pointer (some ⟨X, 0, none⟩), .pointer (some ⟨Y, 0, none⟩)] (fun e => #[.int .u64 e.1, kn e.2]) t.list N W := by
  intro l J Jx hJ hk hR h0
  have h := behind1_any (l := l) (X := X) (Y := Y) (first := 0) (J := J) (Jx := Jx) hw (by decide) hJ (fun i A h => (hw.keep (hk i A (.inl h)) fun k hk' => hN k (.inl hk')).lies)
    (fun i A h => by
      have hk' := hk i A h
      exact ⟨(hk'.cell (p := ⟨X, 0, none⟩) (World.block_lt_of_cell? W ⟨X, 0, none⟩ hX) (hN X (.inr (.inl rfl)))).trans hX, (hk'.cell (p := ⟨Y, 0, none⟩) (World.block_lt_of_cell? W ⟨Y, 0, none⟩ hY) (hN Y (.inr (.inr rfl)))).trans hY⟩)
    (fun i A x hx hj => hR i A x (by simpa using hx) hj) h0
  exact callsIn_wide.2 (by simpa using h)
end Go.Proofs.YtnhpcjiieagjnaaDoor.rk
