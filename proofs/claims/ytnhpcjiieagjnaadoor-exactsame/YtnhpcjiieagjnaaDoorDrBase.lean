/-
  Of no function: worlds that are alike but for some blocks (Keep); slices that are read and appended to (Q); rows of one's own.
-/
import Derived.Test.YtnhpcjiieagjnaaDoorRows
import Derived.Below
import Derived.Deep.Draws
import Derived.RangeFuncNested
import Derived.Deep.OwnRows
import Derived.Lib.SliceRun
import Derived.Lib.Hide
import Derived.WalkKit
import Derived.BigQuiet
import Derived.Deep.QuietTactic
import Derived.Laws.BitsAllLaws
import Derived.Deep.AppendLies
import Derived.OwnWalk
import Derived.Lib.JoinLaws
import Derived.Laws.OwnMore
import Derived.Lib.Strings
import Derived.Laws.IdiomStrings
import Derived.Laws.BytesArg
namespace Go.Proofs.YtnhpcjiieagjnaaDoor.dr
open Go.RowKit
/-- of what lay in A the blocks of K lie in B as they lay; nothing has gone. -/
structure Keep (K : Nat → Prop) (A B : World) : Prop where
  os : B.os = A.os
  tape : B.tape = A.tape
  output : B.output = A.output
  size : A.heap.size ≤ B.heap.size
  block : ∀ k, k < A.heap.size → K k → B.heap[k]? = A.heap[k]?
namespace Keep
variable {K K' : Nat → Prop} {A B C : World}
theorem refl (K : Nat → Prop) (A : World) : Keep K A A := ⟨rfl, rfl, rfl, Nat.le_refl _, fun _ _ _ => rfl⟩
theorem trans (h : Keep K A B) (k : Keep K B C) : Keep K A C :=
  ⟨k.os.trans h.os, k.tape.trans h.tape, k.output.trans h.output, Nat.le_trans h.size k.size, fun i hi hK => (k.block i (Nat.lt_of_lt_of_le hi h.size) hK).trans (h.block i hi hK)⟩
theorem mono (h : Keep K A B) (hk : ∀ i, i < A.heap.size → K' i → K i) : Keep K' A B := ⟨h.os, h.tape, h.output, h.size, fun i hi hK => h.block i hi (hk i hi hK)⟩
theorem drewN (K : Nat → Prop) (A : World) (n : Nat) : Keep K A (A.drewN n) := ⟨rfl, rfl, rfl, Nat.le_refl _, fun _ _ _ => rfl⟩
theorem drew (K : Nat → Prop) (A : World) : Keep K A A.drew := ⟨rfl, rfl, rfl, Nat.le_refl _, fun _ _ _ => rfl⟩
theorem alloc (K : Nat → Prop) (A : World) (o : Obj) : Keep K A (A.alloc o) := ⟨rfl, rfl, rfl, by simp, fun k hk _ => Below.heap_alloc _ _ _ hk⟩
theorem setCell (A : World) (p : Addr) (v : Value) (h : ¬ K p.block) : Keep K A (A.setCell p v) := ⟨rfl, rfl, rfl, by simp [World.setCell], fun k _ hK => Below.heap_setCell _ _ _ _ (fun e => h (e ▸ hK))⟩
theorem putObj (A : World) (l : Nat) (o : Obj) (h : ¬ K l) : Keep K A (A.putObj l o) := ⟨rfl, rfl, rfl, by simp, fun k _ hK => World.putObj_heap_other (fun e => h (e ▸ hK))⟩
theorem grown {row : Option Nat} (hg : A.grownBy B row) (h : ∀ k, row = some k → ¬ K k) : Keep K A B := ⟨hg.os, hg.tape, hg.output, hg.size, fun k hk hK => hg.block k hk (fun e => h k e.symm hK)⟩
theorem of_below {N : Nat} (h : Below N A B) (hK : ∀ k, K k → k < N) : Keep K A B := ⟨h.os, h.tape, h.output, h.size, fun k _ hk => h.block k (hK k hk)⟩
theorem below {N : Nat} (h : Keep K A B) (hK : ∀ k, k < N → K k) (hN : N ≤ A.heap.size) : Below N A B := ⟨h.os, h.tape, h.output, h.size, fun k hk => h.block k (Nat.lt_of_lt_of_le hk hN) (hK k hk)⟩
theorem heap (h : Keep K A B) {k : Nat} {o : Obj} (hk : A.heap[k]? = some o) (hK : K k) : B.heap[k]? = some o := (h.block k (Array.getElem?_eq_some_iff.1 hk).1 hK).trans hk
theorem cell (h : Keep K A B) {p : Addr} (hp : p.block < A.heap.size) (hK : K p.block) : B.cell? p = A.cell? p := World.cell?_of_block (w := A) (h.block p.block hp hK)
theorem frozen (h : Keep K A B) {p : Addr} (hp : p.block < A.heap.size) (hK : K p.block) : B.frozen? p = A.frozen? p := World.frozen?_of_block (w := A) (h.block p.block hp hK)
theorem own (h : Keep K A B) {base : Nat} {e : TypeId} {size : Nat} {v : Value} {n : Nat} {xs : List Value} (ho : A.ownsRow base e size v n xs) (hK : ∀ k, v.ownBlock = some k → K k) : B.ownsRow base e size v n xs := by
  refine ⟨ho.1, ?_⟩
  rcases ho.2 with hn | ⟨g, cap, cur, rfl, hb, hgg, rest⟩
  · exact .inl hn
  · exact .inr ⟨g, cap, cur, rfl, hb, h.heap hgg (hK g rfl), rest⟩
theorem setCells (b : Nat) (h : ¬ K b) : ∀ (vs : List Value) (o : Nat) (A : World), Keep K A (A.setCells b o vs)
  | [], _, A => .refl _ A
  | v :: r, o, A => (Keep.setCell A ⟨b, o, none⟩ v h).trans (setCells b h r (o + 1) (A.setCell ⟨b, o, none⟩ v))
end Keep
theorem heap_lt {w : World} {k : Nat} {o : Obj} (h : w.heap[k]? = some o) : k < w.heap.size := (Array.getElem?_eq_some_iff.1 h).1
theorem cell_of {w : World} {b : Nat} {arr : Array Value} {t : TypeId} (h : w.heap[b]? = some (.cells arr t (0, 0))) (i : Nat) : w.cell? ⟨b, i, none⟩ = arr[i]? := by simp [World.cell?, h]
theorem frozen_of {w : World} {b : Nat} {arr : Array Value} {t : TypeId} (h : w.heap[b]? = some (.cells arr t (0, 0))) (i : Nat) : w.frozen? ⟨b, i, none⟩ = false := by simp [World.frozen?, h]
theorem heap_set {w : World} {b : Nat} {arr : Array Value} {t : TypeId} (h : w.heap[b]? = some (.cells arr t (0, 0))) (i : Nat) (v : Value) : (w.setCell ⟨b, i, none⟩ v).heap[b]? = some (.cells (arr.setIfInBounds i v) t (0, 0)) := by
  obtain ⟨hlt, hk⟩ := Array.getElem?_eq_some_iff.1 h
  show (w.heap.modify b _)[b]? = _
  rw [Array.getElem?_eq_getElem (by rw [Array.size_modify]; exact hlt), Array.getElem_modify_self, hk]
  rfl
theorem heap_set_other {w : World} {b b' : Nat} {o : Obj} (h : w.heap[b]? = some o) (hne : b ≠ b') (i : Nat) (v : Value) : (w.setCell ⟨b', i, none⟩ v).heap[b]? = some o := (Below.heap_setCell w ⟨b', i, none⟩ v b hne).trans h
theorem heap_old {w : World} {o o' : Obj} {k : Nat} (h : w.heap[k]? = some o) : (w.alloc o').heap[k]? = some o := (Below.heap_alloc _ _ _ (heap_lt h)).trans h
theorem heap_next {w : World} {k : Nat} (h : k = w.heap.size) (o : Obj) : (w.alloc o).heap[k]? = some o := by rw [h]; exact heap_alloc_new _ _
theorem cell_past {w : World} {o : Obj} {p : Addr} {v : Value} (h : w.cell? p = some v) : (w.alloc o).cell? p = some v := by
  refine (World.cell?_of_block (w := w) (Below.heap_alloc _ _ _ ?_)).trans h
  by_cases hp : p.block < w.heap.size
  · exact hp
  · simp [World.cell?, Array.getElem?_eq_none (Nat.le_of_not_lt hp)] at h
theorem size_sets (b : Nat) : ∀ (vs : List Value) (o : Nat) (w : World), (w.setCells b o vs).heap.size = w.heap.size
  | [], _, _ => rfl
  | v :: r, o, w => (size_sets b r (o + 1) _).trans (by simp [World.setCell])
/-- the counter at a place, 0 where there is none. -/
abbrev ct (cs : List Nat) (i : Nat) : Nat := cs.getD i 0
/-- the cells of bytes. -/
def b8 (l : List Nat) : List Value := l.map fun b : Nat => Value.int .u8 (b : Int)
theorem b8_len (l : List Nat) : (b8 l).length = l.length := by simp [b8]
theorem b8_get {l : List Nat} {i b : Nat} (h : l[i]? = some b) : (b8 l).toArray[i]? = some (.int .u8 (b : Int)) := by simp [b8, h]
theorem b8_set (l : List Nat) (k x : Nat) : (b8 l).toArray.setIfInBounds k (.int .u8 (x : Int)) = (b8 (l.set k x)).toArray := by simp [b8, List.map_set]
abbrev e8 (b : Nat) : Value := .int .u8 (b : Int)
abbrev e64 (c : Nat) : Value := .int .i64 (c : Int)
/-- the slice v reads as l: nil, or at an address. -/
def Q (enc : Nat → Value) (w : World) (v : Value) (l : List Nat) : Prop := (v = .slice none 0 0 ∧ l = []) ∨ ∃ b o cap, v = .slice (some ⟨b, o, none⟩) l.length cap ∧ l.length ≤ cap ∧ ∀ i (h : i < l.length), w.cell? ⟨b, o + i, none⟩ = some (enc l[i])
namespace Q
variable {enc : Nat → Value} {w w' : World} {v : Value} {l : List Nat}
theorem nil (w : World) : Q enc w (.slice none 0 0) [] := .inl ⟨rfl, rfl⟩
theorem keep {K : Nat → Prop} (h : Q enc w v l) (hk : Keep K w w') (hK : ∀ k, v.ownBlock = some k → K k) : Q enc w' v l := by
  rcases h with h | ⟨b, o, cap, rfl, hc, hi⟩
  · exact .inl h
  · exact .inr ⟨b, o, cap, rfl, hc, fun i h => (hk.cell (p := ⟨b, o + i, none⟩) (World.block_lt_of_cell? w ⟨b, o + i, none⟩ (hi i h)) (hK b rfl)).trans (hi i h)⟩
theorem below (h : Q enc w v l) (hb : Below w.heap.size w w') : Q enc w' v l := by
  rcases h with h | ⟨b, o, cap, rfl, hc, hi⟩
  · exact .inl h
  · exact .inr ⟨b, o, cap, rfl, hc, fun i h => (hb.cell (p := ⟨b, o + i, none⟩) (World.block_lt_of_cell? w ⟨b, o + i, none⟩ (hi i h))).trans (hi i h)⟩
theorem drewN (h : Q enc w v l) (q : Nat) : Q enc (w.drewN q) v l := h.keep (Keep.drewN (fun _ => True) w q) fun _ _ => trivial
theorem slice (h : Q enc w v l) : ∃ a cap, v = .slice a l.length cap ∧ l.length ≤ cap := by
  rcases h with ⟨rfl, rfl⟩ | ⟨b, o, cap, rfl, hc, _⟩
  · exact ⟨_, _, rfl, Nat.le_refl _⟩
  · exact ⟨_, _, rfl, hc⟩
/-- the cell at a place. -/
theorem at_ (h : Q enc w v l) (i : Nat) (hi : i < l.length) : ∃ b o cap, v = .slice (some ⟨b, o, none⟩) l.length cap ∧ w.cell? ⟨b, o + i, none⟩ = some (enc (ct l i)) := by
  rcases h with ⟨rfl, rfl⟩ | ⟨b, o, cap, rfl, hc, hc'⟩
  · simp at hi
  · exact ⟨b, o, cap, rfl, by rw [hc' i hi]; simp [ct, hi]⟩
theorem of_own {base : Nat} {e : TypeId} (h : w.ownsRow base e 1 v l.length (l.map enc)) : Q enc w v l := by
  rcases h.2 with ⟨rfl, h0⟩ | ⟨g, cap, cur, rfl, _, _, hc, _⟩
  · exact .inl ⟨rfl, List.eq_nil_of_length_eq_zero h0⟩
  · refine .inr ⟨g, 0, cap, rfl, hc, fun i hi => ?_⟩
    have := h.cells (g := g) rfl i (enc l[i]) (by simp [hi])
    rwa [Addr.add_lit] at this
end Q
theorem info_i : (Tryd.prog.info? 3).map (fun i => (i.zero, i.size, i.bytes)) = some (some (.int .i64 0), 1, 8) := by kernel_rfl
theorem info_parts {P : Program} {e : TypeId} {z : Value} {size bytes : Nat} (h : (P.info? e).map (fun i => (i.zero, i.size, i.bytes)) = some (some z, size, bytes)) : ∃ i, P.info? e = some i ∧ i.zero = some z ∧ i.size = size ∧ i.bytes = bytes := by
  obtain ⟨i, hi, hz⟩ := Option.map_eq_some_iff.1 h
  simp only [Prod.mk.injEq] at hz
  exact ⟨i, hi, hz.1, hz.2.1, hz.2.2⟩
theorem app_step {P : Program} (w : World) {ops : Array Oper} {rest : List Oper} {o : Oper} {a : Act} {Q : Exit → Act → World → Prop} (hgd : o.guard = none) (s x : Operand) (t : TypeId)
    (ho : o.op = .call { callee := .builtin .append, args := #[s, x], argTypes := #[t, t] }) (v u : Value) (hs : a.eval s = v) (hx : a.eval x = u) {R : Value → World → Prop}
    (hrun : ∃ v' w', (Builtin.append_ #[t, t] o.type #[v, u]).run P w = .ok v' w' ∧ R v' w') (h : ∀ v' w', R v' w' → wpList P ops Q rest (a.put o.dst v') w') : wpList P ops Q (o :: rest) a w := by
  refine wpList_plain hgd fun _ hK => ?_
  obtain ⟨v', w', hr, hR⟩ := hrun
  unfold Oper.wp execOp
  simp only [ho, resolve, invoke, builtin, Sem.run_bind, Sem.run_pure, Result.andThen_ok, List.map_toArray, List.map_cons, List.map_nil, hs, hx, hr]
  exact hK _ _ (h v' w' hR)
theorem step_ex {P : Program} (w : World) {ops : Array Oper} {o : Oper} {a : Act} {K : Act → World → Prop} {Q : Exit → Act → World → Prop} {E : Prop} (hgd : o.guard = none) (s x : Operand) (t : TypeId)
    (ho : o.op = .call { callee := .builtin .append, args := #[s, x], argTypes := #[t, t] }) (v u : Value) (hs : a.eval s = v) (hx : a.eval x = u) {R : Value → World → Prop}
    (hrun : ∃ v' w', (Builtin.append_ #[t, t] o.type #[v, u]).run P w = .ok v' w' ∧ R v' w') (h : ∀ v' w', R v' w' → K (a.put o.dst v') w') :
    if Region.wanted o (yielded ops a.tmps) = true then Oper.wp P o a w K Q else E := by
  have hw : Region.wanted o (yielded ops a.tmps) = true := by simp [Region.wanted, hgd]
  rw [if_pos hw]
  obtain ⟨v', w', hr, hR⟩ := hrun
  unfold Oper.wp execOp
  simp only [ho, resolve, invoke, builtin, Sem.run_bind, Sem.run_pure, Result.andThen_ok, List.map_toArray, List.map_cons, List.map_nil, hs, hx, hr]
  exact h v' w' hR
theorem app_i {W : World} {base : Nat} {v0 : Value} {i : Nat} {ys zs : List Nat} {u : Value} (hown : W.ownsRow base 3 1 v0 i (ys.map e64)) (hu : Q e64 W u zs) (hi : i + zs.length ≤ 1000000) (hb : base ≤ W.heap.size) (ty : TypeId) :
    ∃ v' w', (Builtin.append_ #[63, 63] ty #[v0, u]).run Tryd.prog W = .ok v' w' ∧ w'.ownsRow base 3 1 v' (i + zs.length) ((ys ++ zs).map e64) ∧ W.grownBy w' v0.ownBlock := by
  obtain ⟨i0, hi0, hz0, hz1, hz2⟩ := info_parts info_i
  have hmax : maxLen = 9223372036854775807 := by decide
  rcases hu with ⟨rfl, rfl⟩ | ⟨b, o, cap, rfl, hc, hcell⟩
  · exact ⟨v0, W, run_append_owned_none W base 63 ty 3 i0 1 Tryd.underlying63 hi0 v0 i _ hown, by simpa using hown, World.grownBy.refl _ _⟩
  · obtain ⟨v', w1, hr, hown', hgrow, _⟩ := run_append_own (P := Tryd.prog) W base 63 ty 3 i0 (.int .i64 0) 1 8 Tryd.underlying63 hi0 hz0 hz1 hz2 rfl (by decide) v0 i _ hown ⟨b, o, none⟩ zs.length cap (zs.map e64) (by simp) (fun j u hu => by
      rw [List.getElem?_map, Option.map_eq_some_iff] at hu
      obtain ⟨x, hx, rfl⟩ := hu
      obtain ⟨hj, rfl⟩ := List.getElem?_eq_some_iff.1 hx
      rw [show (⟨b, o, none⟩ : Addr).add j = ⟨b, o + j, none⟩ by simp [Addr.add]]
      exact hcell j hj) (fun u hu => by obtain ⟨x, _, rfl⟩ := List.mem_map.1 hu; rfl) (by omega) (by omega) hb
    exact ⟨v', w1, hr, by rw [List.map_append]; exact hown', hgrow⟩
theorem empty_own (w : World) (e : TypeId) (enc : Nat → Value) : (w.alloc (.cells #[] e)).ownsRow w.heap.size e 1 (.slice (some ⟨w.heap.size, 0, none⟩) 0 0) 0 (([] : List Nat).map enc) := World.ownsRow_lit w #[] 0 (Nat.le_refl _) (by decide) rfl
theorem own_slice {w : World} {base : Nat} {e : TypeId} {size : Nat} {v : Value} {n : Nat} {xs : List Value} (h : w.ownsRow base e size v n xs) : ∃ a cap, v = .slice a n cap := by
  rcases h.2 with ⟨rfl, rfl⟩ | ⟨g, cap, cur, rfl, _⟩
  · exact ⟨_, _, rfl⟩
  · exact ⟨_, _, rfl⟩
/-- one more behind a row of one's own. -/
theorem push_i {W : World} {base k : Nat} {v : Value} {ys : List Nat} (ho : W.ownsRow base 3 1 v k (ys.map e64)) (hb : base ≤ W.heap.size) (hk : k ≤ 100000) (x : Nat) (ty : TypeId) :
    ∃ v' w', (Builtin.append_ #[63, 63] ty #[v, .slice (some ⟨W.heap.size, 0, none⟩) 1 1]).run Tryd.prog (W.alloc (.cells #[.int .i64 (x : Int)] 3)) = .ok v' w' ∧ ((∃ a c, v' = .slice a (k + 1) c) ∧ Hid (w'.ownsRow base 3 1 v' (k + 1) ((ys ++ [x]).map e64) ∧ Keep (fun k => k < base) W w')) := by
  obtain ⟨v', w', hr, h1, h2⟩ := app_i (zs := [x]) (u := .slice (some ⟨W.heap.size, 0, none⟩) 1 1) (ho.alloc (.cells #[.int .i64 (x : Int)] 3)) (.inr ⟨W.heap.size, 0, 1, rfl, Nat.le_refl _, fun i hi => by
    obtain rfl : i = 0 := by simpa using hi
    rw [cell_of (heap_next rfl _)]; rfl⟩) (by simp; omega) (by simp; omega) ty
  exact ⟨v', w', hr, own_slice h1, h1, (Keep.alloc _ _ _).trans (Keep.grown h2 fun j hj h => by have := (World.ownsRow.lt ho j hj).1; omega)⟩
/-- what lies in a block behind stores into it. -/
theorem heap_sets (b : Nat) (t : TypeId) : ∀ (vs pre old : List Value) (w : World), w.heap[b]? = some (.cells (pre ++ old).toArray t (0, 0)) → old.length = vs.length → (w.setCells b pre.length vs).heap[b]? = some (.cells (pre ++ vs).toArray t (0, 0))
  | [], pre, old, w, h, hl => by
    obtain rfl : old = [] := List.eq_nil_of_length_eq_zero hl
    exact h
  | v :: vs, pre, [], w, h, hl => by simp at hl
  | v :: vs, pre, x :: old, w, h, hl => by
    have h1 := heap_set h pre.length v
    have e : (pre ++ x :: old).toArray.setIfInBounds pre.length v = ((pre ++ [v]) ++ old).toArray := by simp
    rw [e] at h1
    have := heap_sets b t vs (pre ++ [v]) old (w.setCell ⟨b, pre.length, none⟩ v) h1 (by simpa using hl)
    rw [List.length_append, List.length_singleton, List.append_assoc, List.singleton_append] at this
    exact this
theorem zero_b (w : World) : (zeroValue 5).run Tryd.prog w = .ok (.int .u8 0) w := by simp [Tryd.zeroValue5]
/-- a row of one's own, made so far. -/
def Made (enc : Nat → Value) (e : TypeId) (w : World) (v : Value) (k : Nat) (ys : List Nat) (W : World) : Prop := W.ownsRow w.heap.size e 1 v k (ys.map enc) ∧ Keep (fun k => k < w.heap.size) w W
theorem Made.size {enc : Nat → Value} {e : TypeId} {w W : World} {v : Value} {k : Nat} {ys : List Nat} (h : Made enc e w v k ys W) : w.heap.size ≤ W.heap.size := h.2.size
theorem Made.old {enc : Nat → Value} {e : TypeId} {w W : World} {v : Value} {k : Nat} {ys : List Nat} (h : Made enc e w v k ys W) : Below w.heap.size w W := h.2.below (fun _ h => h) (Nat.le_refl _)
/-- a row of one's own, and what lies at another address. -/
theorem app_row {P : Program} {t e : TypeId} {z : Value} {bytes : Nat} (hinfo : (P.info? e).map (fun i => (i.zero, i.size, i.bytes)) = some (some z, 1, bytes)) (ht : P.underlying t = some (.slice e)) (hz : z.cells.size = 1) (hby : bytes ≤ 24) {W : World} {base : Nat} {v : Value} {n : Nat} {xs ys : List Value} (hown : W.ownsRow base e 1 v n xs)
    (X o c : Nat) (h1 : ∀ u ∈ ys, u.oneCell' = true) (hX : ∀ j u, ys[j]? = some u → W.cell? ⟨X, o + j, none⟩ = some u) (hy : 0 < ys.length) (hn : n + ys.length ≤ 1000000) (hb : base ≤ W.heap.size) (ty : TypeId) :
    ∃ s cap w', (Builtin.append_ #[t, t] ty #[v, .slice (some ⟨X, o, none⟩) ys.length c]).run P W = .ok (.slice (some ⟨s, 0, none⟩) (n + ys.length) cap) w' ∧ w'.ownsRow base e 1 (.slice (some ⟨s, 0, none⟩) (n + ys.length) cap) (n + ys.length) (xs ++ ys) ∧ W.grownBy w' v.ownBlock ∧ (v.ownBlock = some s ∨ s = W.heap.size) := by
  obtain ⟨i, hi, hz0, hz1, hz2⟩ := info_parts hinfo
  have hmax : maxLen = 9223372036854775807 := by decide
  have hbb : (n + ys.length) * bytes ≤ 1000000 * 24 := Nat.mul_le_mul hn hby
  obtain ⟨g, cap, w', hr, h2, h3, h4, _⟩ := run_append_lies (P := P) W t ty base e i z 1 bytes ht hi hz0 hz1 hz2 hz (by decide) v n xs hown ⟨X, o, none⟩ ys.length c ys (by simp) (fun j u hu => by
    rw [show (⟨X, o, none⟩ : Addr).add j = ⟨X, o + j, none⟩ by simp [Addr.add]]
    exact hX j u hu) h1 hy (by omega) (by omega) hb W.heap.size rfl
  exact ⟨g, cap, w', hr, h2, h3, h4⟩
theorem app_one {P : Program} {t e : TypeId} {z : Value} {bytes : Nat} (hinfo : (P.info? e).map (fun i => (i.zero, i.size, i.bytes)) = some (some z, 1, bytes)) (ht : P.underlying t = some (.slice e)) (hz : z.cells.size = 1) (hby : bytes ≤ 24) {W : World} {base : Nat} {v : Value} {n : Nat} {xs : List Value} (hown : W.ownsRow base e 1 v n xs)
    (X : Nat) {x : Value} (h1 : x.oneCell' = true) (hX : W.heap[X]? = some (.cells #[x] e (0, 0))) (hn : n + 1 ≤ 1000000) (hb : base ≤ W.heap.size) (ty : TypeId) :
    ∃ s cap w', (Builtin.append_ #[t, t] ty #[v, .slice (some ⟨X, 0, none⟩) 1 1]).run P W = .ok (.slice (some ⟨s, 0, none⟩) (n + 1) cap) w' ∧ w'.ownsRow base e 1 (.slice (some ⟨s, 0, none⟩) (n + 1) cap) (n + 1) (xs ++ [x]) ∧ W.grownBy w' v.ownBlock ∧ (v.ownBlock = some s ∨ s = W.heap.size) :=
  app_row hinfo ht hz hby hown X 0 1 (ys := [x]) (by simpa using h1) (fun j u hu => by
    rw [cell_of hX, Nat.zero_add]
    simpa using hu) (by simp) (by simpa using hn) hb ty
theorem info_b : (Tryd.prog.info? 5).map (fun i => (i.zero, i.size, i.bytes)) = some (some (.int .u8 0), 1, 1) := by kernel_rfl
theorem made_zeros (n : Nat) : madeCells #[Value.int .u8 0] n = (b8 (List.replicate n 0)).toArray := by
  refine Array.ext (by simp [madeCells, b8]) fun i h1 h2 => ?_
  simp [madeCells, b8, Nat.mod_one]
theorem keep_below {K : Nat → Prop} {W B : World} (hb : Below W.heap.size W B) : Keep K W B := ⟨hb.os, hb.tape, hb.output, hb.size, fun k hk _ => hb.block k hk⟩
end Go.Proofs.YtnhpcjiieagjnaaDoor.dr
