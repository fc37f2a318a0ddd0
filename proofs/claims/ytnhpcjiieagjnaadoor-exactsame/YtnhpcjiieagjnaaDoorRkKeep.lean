/-
  Of no function: worlds that are alike but for some blocks ('Keep').
-/
import Derived.Below
import Derived.Deep.Draws
import Derived.RangeFuncNested
import Derived.Lib.Hide
namespace Go.Proofs.YtnhpcjiieagjnaaDoor.rk
open Go.RowKit
/-- of what lay in A the blocks of K lie in B as they lay; nothing has gone. -/
structure Keep (K : Nat → Prop) (A B : World) : Prop where
  os : B.os = A.os
  tape : B.tape = A.tape
  output : B.output = A.output
  size : A.heap.size ≤ B.heap.size
  block : ∀ k, k < A.heap.size → K k → B.heap[k]? = A.heap[k]?
namespace Keep
variable {K K' : Nat → Prop} {A B C : World}
theorem refl (K : Nat → Prop) (A : World) : Keep K A A := ⟨rfl, rfl, rfl, Nat.le_refl _, fun _ _ _ => rfl⟩
theorem trans (h : Keep K A B) (k : Keep K B C) : Keep K A C :=
  ⟨k.os.trans h.os, k.tape.trans h.tape, k.output.trans h.output, Nat.le_trans h.size k.size, fun i hi hK => (k.block i (Nat.lt_of_lt_of_le hi h.size) hK).trans (h.block i hi hK)⟩
theorem mono (h : Keep K A B) (hk : ∀ i, i < A.heap.size → K' i → K i) : Keep K' A B := ⟨h.os, h.tape, h.output, h.size, fun i hi hK => h.block i hi (hk i hi hK)⟩
theorem drewN (K : Nat → Prop) (A : World) (n : Nat) : Keep K A (A.drewN n) := ⟨rfl, rfl, rfl, Nat.le_refl _, fun _ _ _ => rfl⟩
theorem drew (K : Nat → Prop) (A : World) : Keep K A A.drew := ⟨rfl, rfl, rfl, Nat.le_refl _, fun _ _ _ => rfl⟩
theorem alloc (K : Nat → Prop) (A : World) (o : Obj) : Keep K A (A.alloc o) := ⟨rfl, rfl, rfl, by simp, fun k hk _ => Below.heap_alloc _ _ _ hk⟩
theorem setCell (A : World) (p : Addr) (v : Value) (h : ¬ K p.block) : Keep K A (A.setCell p v) := ⟨rfl, rfl, rfl, by simp [World.setCell], fun k _ hK => Below.heap_setCell _ _ _ _ (fun e => h (e ▸ hK))⟩
theorem putObj (A : World) (l : Nat) (o : Obj) (h : ¬ K l) : Keep K A (A.putObj l o) := ⟨rfl, rfl, rfl, by simp, fun k _ hK => World.putObj_heap_other (fun e => h (e ▸ hK))⟩
theorem grown {row : Option Nat} (hg : A.grownBy B row) (h : ∀ k, row = some k → ¬ K k) : Keep K A B := ⟨hg.os, hg.tape, hg.output, hg.size, fun k hk hK => hg.block k hk (fun e => h k e.symm hK)⟩
theorem of_below {N : Nat} (h : Below N A B) (hK : ∀ k, K k → k < N) : Keep K A B := ⟨h.os, h.tape, h.output, h.size, fun k _ hk => h.block k (hK k hk)⟩
theorem below {N : Nat} (h : Keep K A B) (hK : ∀ k, k < N → K k) (hN : N ≤ A.heap.size) : Below N A B := ⟨h.os, h.tape, h.output, h.size, fun k hk => h.block k (Nat.lt_of_lt_of_le hk hN) (hK k hk)⟩
theorem heap (h : Keep K A B) {k : Nat} {o : Obj} (hk : A.heap[k]? = some o) (hK : K k) : B.heap[k]? = some o := (h.block k (Array.getElem?_eq_some_iff.1 hk).1 hK).trans hk
theorem cell (h : Keep K A B) {p : Addr} (hp : p.block < A.heap.size) (hK : K p.block) : B.cell? p = A.cell? p := World.cell?_of_block (w := A) (h.block p.block hp hK)
theorem frozen (h : Keep K A B) {p : Addr} (hp : p.block < A.heap.size) (hK : K p.block) : B.frozen? p = A.frozen? p := World.frozen?_of_block (w := A) (h.block p.block hp hK)
end Keep
theorem heap_lt {w : World} {k : Nat} {o : Obj} (h : w.heap[k]? = some o) : k < w.heap.size := (Array.getElem?_eq_some_iff.1 h).1
theorem cell_of {w : World} {b : Nat} {arr : Array Value} {t : TypeId} (h : w.heap[b]? = some (.cells arr t (0, 0))) (i : Nat) : w.cell? ⟨b, i, none⟩ = arr[i]? := by simp [World.cell?, h]
theorem frozen_of {w : World} {b : Nat} {arr : Array Value} {t : TypeId} (h : w.heap[b]? = some (.cells arr t (0, 0))) (i : Nat) : w.frozen? ⟨b, i, none⟩ = false := by simp [World.frozen?, h]
theorem heap_set {w : World} {b : Nat} {arr : Array Value} {t : TypeId} (h : w.heap[b]? = some (.cells arr t (0, 0))) (i : Nat) (v : Value) : (w.setCell ⟨b, i, none⟩ v).heap[b]? = some (.cells (arr.setIfInBounds i v) t (0, 0)) := by
  obtain ⟨hlt, hk⟩ := Array.getElem?_eq_some_iff.1 h
  show (w.heap.modify b _)[b]? = _
  rw [Array.getElem?_eq_getElem (by rw [Array.size_modify]; exact hlt), Array.getElem_modify_self, hk]
  rfl
theorem heap_set_other {w : World} {b b' : Nat} {o : Obj} (h : w.heap[b]? = some o) (hne : b ≠ b') (i : Nat) (v : Value) : (w.setCell ⟨b', i, none⟩ v).heap[b]? = some o := (Below.heap_setCell w ⟨b', i, none⟩ v b hne).trans h
theorem heap_old {w : World} {o o' : Obj} {k : Nat} (h : w.heap[k]? = some o) : (w.alloc o').heap[k]? = some o := (Below.heap_alloc _ _ _ (heap_lt h)).trans h
theorem heap_next {w : World} {k : Nat} (h : k = w.heap.size) (o : Obj) : (w.alloc o).heap[k]? = some o := by rw [h]; exact World.alloc_heap_new _ _
theorem cell_past {w : World} {o : Obj} {p : Addr} {v : Value} (h : w.cell? p = some v) : (w.alloc o).cell? p = some v := by
  refine (World.cell?_of_block (w := w) (Below.heap_alloc _ _ _ ?_)).trans h
  by_cases hp : p.block < w.heap.size
  · exact hp
  · simp [World.cell?, Array.getElem?_eq_none (Nat.le_of_not_lt hp)] at h
end Go.Proofs.YtnhpcjiieagjnaaDoor.rk
