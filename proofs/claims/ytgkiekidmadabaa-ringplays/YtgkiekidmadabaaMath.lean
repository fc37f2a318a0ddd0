/-
  Of no function: worlds that are alike but for some blocks ('Keep'), and a ring as it lies in memory ('Ring').
-/
import Derived.Below
import Derived.Deep.Draws
import Derived.RangeFuncNested
import Derived.Lib.Hide
namespace Go.Proofs.Ytgkiekidmadabaa
open Go.RowKit
/-- of what lay in A the blocks of K lie in B as they lay; nothing has gone. -/
structure Keep (K : Nat → Prop) (A B : World) : Prop where
  os : B.os = A.os
  tape : B.tape = A.tape
  output : B.output = A.output
  size : A.heap.size ≤ B.heap.size
  block : ∀ k, k < A.heap.size → K k → B.heap[k]? = A.heap[k]?
namespace Keep
variable {K K' : Nat → Prop} {A B C : World}
theorem refl (K : Nat → Prop) (A : World) : Keep K A A := ⟨rfl, rfl, rfl, Nat.le_refl _, fun _ _ _ => rfl⟩
theorem trans (h : Keep K A B) (k : Keep K B C) : Keep K A C :=
  ⟨k.os.trans h.os, k.tape.trans h.tape, k.output.trans h.output, Nat.le_trans h.size k.size, fun i hi hK => (k.block i (Nat.lt_of_lt_of_le hi h.size) hK).trans (h.block i hi hK)⟩
theorem mono (h : Keep K A B) (hk : ∀ i, i < A.heap.size → K' i → K i) : Keep K' A B := ⟨h.os, h.tape, h.output, h.size, fun i hi hK => h.block i hi (hk i hi hK)⟩
theorem drewN (K : Nat → Prop) (A : World) (n : Nat) : Keep K A (A.drewN n) := ⟨rfl, rfl, rfl, Nat.le_refl _, fun _ _ _ => rfl⟩
theorem drew (K : Nat → Prop) (A : World) : Keep K A A.drew := ⟨rfl, rfl, rfl, Nat.le_refl _, fun _ _ _ => rfl⟩
theorem alloc (K : Nat → Prop) (A : World) (o : Obj) : Keep K A (A.alloc o) := ⟨rfl, rfl, rfl, by simp, fun k hk _ => Below.heap_alloc _ _ _ hk⟩
theorem setCell (A : World) (p : Addr) (v : Value) (h : ¬ K p.block) : Keep K A (A.setCell p v) := ⟨rfl, rfl, rfl, by simp [World.setCell], fun k _ hK => Below.heap_setCell _ _ _ _ (fun e => h (e ▸ hK))⟩
theorem putObj (A : World) (l : Nat) (o : Obj) (h : ¬ K l) : Keep K A (A.putObj l o) := ⟨rfl, rfl, rfl, by simp, fun k _ hK => World.putObj_heap_other (fun e => h (e ▸ hK))⟩
theorem grown {row : Option Nat} (hg : A.grownBy B row) (h : ∀ k, row = some k → ¬ K k) : Keep K A B := ⟨hg.os, hg.tape, hg.output, hg.size, fun k hk hK => hg.block k hk (fun e => h k e.symm hK)⟩
theorem of_below {N : Nat} (h : Below N A B) (hK : ∀ k, K k → k < N) : Keep K A B := ⟨h.os, h.tape, h.output, h.size, fun k _ hk => h.block k (hK k hk)⟩
theorem below {N : Nat} (h : Keep K A B) (hK : ∀ k, k < N → K k) (hN : N ≤ A.heap.size) : Below N A B := ⟨h.os, h.tape, h.output, h.size, fun k hk => h.block k (Nat.lt_of_lt_of_le hk hN) (hK k hk)⟩
theorem heap (h : Keep K A B) {k : Nat} {o : Obj} (hk : A.heap[k]? = some o) (hK : K k) : B.heap[k]? = some o := (h.block k (Array.getElem?_eq_some_iff.1 hk).1 hK).trans hk
theorem cell (h : Keep K A B) {p : Addr} (hp : p.block < A.heap.size) (hK : K p.block) : B.cell? p = A.cell? p := World.cell?_of_block (w := A) (h.block p.block hp hK)
theorem frozen (h : Keep K A B) {p : Addr} (hp : p.block < A.heap.size) (hK : K p.block) : B.frozen? p = A.frozen? p := World.frozen?_of_block (w := A) (h.block p.block hp hK)
end Keep
theorem heap_lt {w : World} {k : Nat} {o : Obj} (h : w.heap[k]? = some o) : k < w.heap.size := (Array.getElem?_eq_some_iff.1 h).1
theorem cell_of {w : World} {b : Nat} {arr : Array Value} {t : TypeId} (h : w.heap[b]? = some (.cells arr t (0, 0))) (i : Nat) : w.cell? ⟨b, i, none⟩ = arr[i]? := by simp [World.cell?, h]
theorem frozen_of {w : World} {b : Nat} {arr : Array Value} {t : TypeId} (h : w.heap[b]? = some (.cells arr t (0, 0))) (i : Nat) : w.frozen? ⟨b, i, none⟩ = false := by simp [World.frozen?, h]
theorem heap_set {w : World} {b : Nat} {arr : Array Value} {t : TypeId} (h : w.heap[b]? = some (.cells arr t (0, 0))) (i : Nat) (v : Value) : (w.setCell ⟨b, i, none⟩ v).heap[b]? = some (.cells (arr.setIfInBounds i v) t (0, 0)) := by
  obtain ⟨hlt, hk⟩ := Array.getElem?_eq_some_iff.1 h
  show (w.heap.modify b _)[b]? = _
  rw [Array.getElem?_eq_getElem (by rw [Array.size_modify]; exact hlt), Array.getElem_modify_self, hk]
  rfl
theorem heap_set_other {w : World} {b b' : Nat} {o : Obj} (h : w.heap[b]? = some o) (hne : b ≠ b') (i : Nat) (v : Value) : (w.setCell ⟨b', i, none⟩ v).heap[b]? = some o := (Below.heap_setCell w ⟨b', i, none⟩ v b hne).trans h
/-- a ring lies in block r, its slots in block s: n of them, the front's is f; it has xs. -/
structure Ring {α : Type} (enc : α → Value) (tR tE : TypeId) (w : World) (r s n f : Nat) (a : Option Addr) (xs : List α) (room : Nat) : Prop where
  head : w.heap[r]? = some (.cells #[.slice a n n, .int .i64 (f : Int), .int .i64 (xs.length : Int), .int .i64 (room : Int)] tR (0, 0))
  fits : xs.length ≤ n
  most : n ≤ room
  lid : room ≤ 65536
  bare : n = 0 → f = 0
  full : 0 < n → f < n ∧ a = some ⟨s, 0, none⟩ ∧ s ≠ r ∧ ∃ arr : Array Value, w.heap[s]? = some (.cells arr tE (0, 0)) ∧ arr.size = n ∧ ∀ i (h : i < xs.length), arr[(f + i) % n]? = some (enc xs[i])
/-- the blocks of a ring. -/
def foot (r s n : Nat) (k : Nat) : Prop := k = r ∨ (0 < n ∧ k = s)
namespace Ring
variable {α : Type} {enc : α → Value} {tR tE : TypeId} {w w' : World} {r s n f : Nat} {a : Option Addr} {xs : List α} {room : Nat}
theorem keep {K : Nat → Prop} (h : Ring enc tR tE w r s n f a xs room) (hk : Keep K w w') (hK : ∀ k, foot r s n k → K k) : Ring enc tR tE w' r s n f a xs room :=
  ⟨hk.heap h.head (hK r (.inl rfl)), h.fits, h.most, h.lid, h.bare, fun hn => by
    obtain ⟨h1, h2, h3, arr, h4, h5, h6⟩ := h.full hn
    exact ⟨h1, h2, h3, arr, hk.heap h4 (hK s (.inr ⟨hn, rfl⟩)), h5, h6⟩⟩
theorem lt (h : Ring enc tR tE w r s n f a xs room) {k : Nat} (hk : foot r s n k) : k < w.heap.size := by
  rcases hk with rfl | ⟨hn, rfl⟩
  · exact heap_lt h.head
  · obtain ⟨_, _, _, arr, h4, _, _⟩ := h.full hn
    exact heap_lt h4
theorem below (h : Ring enc tR tE w r s n f a xs room) (hb : Below w.heap.size w w') : Ring enc tR tE w' r s n f a xs room := h.keep (K := (· < w.heap.size)) (.of_below hb fun _ h => h) fun _ hk => h.lt hk
theorem drewN (h : Ring enc tR tE w r s n f a xs room) (m : Nat) : Ring enc tR tE (w.drewN m) r s n f a xs room := h.keep (K := fun _ => True) (.drewN _ _ _) fun _ _ => trivial
theorem c0 (h : Ring enc tR tE w r s n f a xs room) : w.cell? ⟨r, 0, none⟩ = some (.slice a n n) := by rw [cell_of h.head]; rfl
theorem c1 (h : Ring enc tR tE w r s n f a xs room) : w.cell? ⟨r, 1, none⟩ = some (.int .i64 (f : Int)) := by rw [cell_of h.head]; rfl
theorem c2 (h : Ring enc tR tE w r s n f a xs room) : w.cell? ⟨r, 2, none⟩ = some (.int .i64 (xs.length : Int)) := by rw [cell_of h.head]; rfl
theorem c3 (h : Ring enc tR tE w r s n f a xs room) : w.cell? ⟨r, 3, none⟩ = some (.int .i64 (room : Int)) := by rw [cell_of h.head]; rfl
theorem fr (h : Ring enc tR tE w r s n f a xs room) (i : Nat) : w.frozen? ⟨r, i, none⟩ = false := frozen_of h.head i
/-- the thing with i ahead of it. -/
theorem at_ (h : Ring enc tR tE w r s n f a xs room) (i : Nat) (hi : i < xs.length) : 0 < n ∧ f < n ∧ a = some ⟨s, 0, none⟩ ∧ (f + i) % n < n ∧ w.cell? ⟨s, (f + i) % n, none⟩ = some (enc xs[i]) ∧ w.frozen? ⟨s, (f + i) % n, none⟩ = false := by
  have hn : 0 < n := by have := h.fits; omega
  obtain ⟨h1, h2, _, arr, h4, _, h6⟩ := h.full hn
  exact ⟨hn, h1, h2, Nat.mod_lt _ hn, (cell_of h4 _).trans (h6 i hi), frozen_of h4 _⟩
end Ring
end Go.Proofs.Ytgkiekidmadabaa
