/-
  Dice as they lie, the draw k of a list and a seed (of no function); slices.Clone of ints by its contract, for every list that can be read.
-/
import Derived.Test.YthbniikenenijaaDoorMxWalks
import Derived.RangeFuncNested
import Derived.Laws.OwnMore
import Derived.Lib.SliceRun
import Derived.OwnWalk
namespace Go.Proofs.YthbniikenenijaaDoor
open Go.RowKit
/-- of what lay in A the blocks of K lie in B as they lay; nothing has gone. -/
structure Keep (K : Nat → Prop) (A B : World) : Prop where
  os : B.os = A.os
  tape : B.tape = A.tape
  output : B.output = A.output
  size : A.heap.size ≤ B.heap.size
  block : ∀ k, k < A.heap.size → K k → B.heap[k]? = A.heap[k]?
namespace Keep
variable {K K' : Nat → Prop} {A B C : World}
theorem refl (K : Nat → Prop) (A : World) : Keep K A A := ⟨rfl, rfl, rfl, Nat.le_refl _, fun _ _ _ => rfl⟩
theorem trans (h : Keep K A B) (k : Keep K B C) : Keep K A C :=
  ⟨k.os.trans h.os, k.tape.trans h.tape, k.output.trans h.output, Nat.le_trans h.size k.size, fun i hi hK => (k.block i (Nat.lt_of_lt_of_le hi h.size) hK).trans (h.block i hi hK)⟩
theorem setCell (A : World) (p : Addr) (v : Value) (h : ¬ K p.block) : Keep K A (A.setCell p v) := ⟨rfl, rfl, rfl, by simp [World.setCell], fun k _ hK => Below.heap_setCell _ _ _ _ (fun e => h (e ▸ hK))⟩
theorem of_below (h : Below A.heap.size A B) : Keep K A B := ⟨h.os, h.tape, h.output, h.size, fun k hk _ => h.block k hk⟩
theorem below {N : Nat} (h : Keep K A B) (hK : ∀ k, k < N → K k) (hN : N ≤ A.heap.size) : Below N A B := ⟨h.os, h.tape, h.output, h.size, fun k hk => h.block k (Nat.lt_of_lt_of_le hk hN) (hK k hk)⟩
theorem heap (h : Keep K A B) {k : Nat} {o : Obj} (hk : A.heap[k]? = some o) (hK : K k) : B.heap[k]? = some o := (h.block k (Array.getElem?_eq_some_iff.1 hk).1 hK).trans hk
theorem cell (h : Keep K A B) {p : Addr} (hp : p.block < A.heap.size) (hK : K p.block) : B.cell? p = A.cell? p := World.cell?_of_block (w := A) (h.block p.block hp hK)
end Keep
theorem heap_lt {w : World} {k : Nat} {o : Obj} (h : w.heap[k]? = some o) : k < w.heap.size := (Array.getElem?_eq_some_iff.1 h).1
theorem cell_of {w : World} {b : Nat} {arr : Array Value} {t : TypeId} (h : w.heap[b]? = some (.cells arr t (0, 0))) (i : Nat) : w.cell? ⟨b, i, none⟩ = arr[i]? := by simp [World.cell?, h]
theorem frozen_of {w : World} {b : Nat} {arr : Array Value} {t : TypeId} (h : w.heap[b]? = some (.cells arr t (0, 0))) (i : Nat) : w.frozen? ⟨b, i, none⟩ = false := by simp [World.frozen?, h]
theorem heap_set {w : World} {b : Nat} {arr : Array Value} {t : TypeId} (h : w.heap[b]? = some (.cells arr t (0, 0))) (i : Nat) (v : Value) : (w.setCell ⟨b, i, none⟩ v).heap[b]? = some (.cells (arr.setIfInBounds i v) t (0, 0)) := by
  obtain ⟨hlt, hk⟩ := Array.getElem?_eq_some_iff.1 h
  show (w.heap.modify b _)[b]? = _
  rw [Array.getElem?_eq_getElem (by rw [Array.size_modify]; exact hlt), Array.getElem_modify_self, hk]
  rfl
theorem heap_set_other {w : World} {b b' : Nat} {o : Obj} (h : w.heap[b]? = some o) (hne : b ≠ b') (i : Nat) (v : Value) : (w.setCell ⟨b', i, none⟩ v).heap[b]? = some o := (Below.heap_setCell w ⟨b', i, none⟩ v b hne).trans h
theorem heap_old {w : World} {o o' : Obj} {k : Nat} (h : w.heap[k]? = some o) : (w.alloc o').heap[k]? = some o := (Below.heap_alloc _ _ _ (heap_lt h)).trans h
theorem heap_next {w : World} {k : Nat} (h : k = w.heap.size) (o : Obj) : (w.alloc o).heap[k]? = some o := by rw [h]; exact heap_alloc_new _ _
/-- the slice at p reads as xs; an empty one may lie anywhere. -/
def La (w : World) (p : Option Addr) (xs : List Int) : Prop := 0 < xs.length → ∃ b o, p = some ⟨b, o, none⟩ ∧ ∀ i (h : i < xs.length), w.cell? ⟨b, o + i, none⟩ = some (.int .i64 xs[i])
theorem La.keep {K : Nat → Prop} {w w' : World} {p : Option Addr} {xs : List Int} (h : La w p xs) (hk : Keep K w w') (hK : ∀ b o, p = some ⟨b, o, none⟩ → 0 < xs.length → K b) : La w' p xs := fun h0 => by
  obtain ⟨b, o, hp, hi⟩ := h h0
  exact ⟨b, o, hp, fun i h => (hk.cell (p := ⟨b, o + i, none⟩) (World.block_lt_of_cell? w ⟨b, o + i, none⟩ (hi i h)) (hK b o hp h0)).trans (hi i h)⟩
theorem La.below {w w' : World} {p : Option Addr} {xs : List Int} (h : La w p xs) (hb : Below w.heap.size w w') : La w' p xs := h.keep (K := fun _ => True) (.of_below hb) fun _ _ _ _ => trivial
/-- the draw k. -/
def dr (xs : List Int) (s k : Nat) : Nat := if h : k < xs.length then (xs[k] % 18446744073709551616).toNat else mx.mixN ((s + 11400714819323198485 * (k - xs.length + 1)) % 18446744073709551616)
theorem dr_lt (xs : List Int) (s k : Nat) : dr xs s k < 18446744073709551616 := by
  unfold dr
  split
  · omega
  · exact mx.mixN_lt _
/-- dice (or the document's) in a block of type t. -/
structure Dc (t cap : Nat) (w : World) (D : Nat) (q : Option Addr) (xs : List Int) (s u : Nat) : Prop where
  blk : w.heap[D]? = some (.cells #[.slice q xs.length cap, .int .u64 (s : Int), .int .i64 (u : Int)] t (0, 0))
  lst : La w q xs
  off : ∀ b o, q = some ⟨b, o, none⟩ → 0 < xs.length → b ≠ D
  len : xs.length ≤ 17592186044416
  s64 : s < 18446744073709551616
namespace Dc
variable {t cap : Nat} {w w' : World} {D : Nat} {q : Option Addr} {xs : List Int} {s u : Nat}
theorem c0 (h : Dc t cap w D q xs s u) : w.cell? ⟨D, 0, none⟩ = some (.slice q xs.length cap) := by rw [cell_of h.blk]; rfl
theorem c1 (h : Dc t cap w D q xs s u) : w.cell? ⟨D, 1, none⟩ = some (.int .u64 (s : Int)) := by rw [cell_of h.blk]; rfl
theorem c2 (h : Dc t cap w D q xs s u) : w.cell? ⟨D, 2, none⟩ = some (.int .i64 (u : Int)) := by rw [cell_of h.blk]; rfl
theorem f2 (h : Dc t cap w D q xs s u) : w.frozen? ⟨D, 2, none⟩ = false := frozen_of h.blk 2
theorem lt (h : Dc t cap w D q xs s u) : D < w.heap.size := heap_lt h.blk
theorem keep {K : Nat → Prop} (h : Dc t cap w D q xs s u) (hk : Keep K w w') (hD : K D) (hK : ∀ b o, q = some ⟨b, o, none⟩ → 0 < xs.length → K b) : Dc t cap w' D q xs s u := ⟨hk.heap h.blk hD, h.lst.keep hk hK, h.off, h.len, h.s64⟩
theorem below (h : Dc t cap w D q xs s u) (hb : Below w.heap.size w w') : Dc t cap w' D q xs s u := h.keep (K := fun _ => True) (.of_below hb) trivial fun _ _ _ _ => trivial
theorem step (h : Dc t cap w D q xs s u) : Dc t cap (w.setCell ⟨D, 2, none⟩ (.int .i64 ((u + 1 : Nat) : Int))) D q xs s (u + 1) := by
  refine ⟨heap_set h.blk 2 _, h.lst.keep (K := fun k => k ≠ D) (Keep.setCell _ _ _ (by simp)) h.off, h.off, h.len, h.s64⟩
end Dc
theorem info_i : (Tryd.prog.info? 3).map (fun i => (i.zero, i.size, i.bytes)) = some (some (.int .i64 0), 1, 8) := by kernel_rfl
theorem info_parts {P : Program} {e : TypeId} {z : Value} {size bytes : Nat} (h : (P.info? e).map (fun i => (i.zero, i.size, i.bytes)) = some (some z, size, bytes)) : ∃ i, P.info? e = some i ∧ i.zero = some z ∧ i.size = size ∧ i.bytes = bytes := by
  obtain ⟨i, hi, hz⟩ := Option.map_eq_some_iff.1 h
  simp only [Prod.mk.injEq] at hz
  exact ⟨i, hi, hz.1, hz.2.1, hz.2.2⟩
/-- a slice in memory of the call's own (or none), that reads as xs. -/
def New (w : World) (v : Value) (xs : List Int) (B : World) : Prop := ∃ q c, v = .slice q xs.length c ∧ xs.length ≤ c ∧ La B q xs ∧ (∀ b o, q = some ⟨b, o, none⟩ → w.heap.size ≤ b) ∧ Below w.heap.size w B
theorem New.of_own {w B : World} {v : Value} {xs : List Int} (h : B.ownsRow w.heap.size 3 1 v xs.length (xs.map (Value.int .i64))) (hb : Below w.heap.size w B) : New w v xs B := by
  rcases h.2 with ⟨rfl, h0⟩ | ⟨g, cap, cur, rfl, hg, _, hc, _⟩
  · exact ⟨none, 0, by rw [h0], by omega, fun h => absurd h (by omega), fun _ _ h => by simp at h, hb⟩
  · refine ⟨_, cap, rfl, hc, fun _ => ⟨g, 0, rfl, fun i hi => ?_⟩, fun b o h => ?_, hb⟩
    · have := h.cells (g := g) rfl i (.int .i64 xs[i]) (by simp [hi])
      rwa [Addr.add_lit] at this
    · simp at h
      omega
set_option maxHeartbeats 2000000 in
theorem clone18 (a : Option Addr) (xs : List Int) (cap : Nat) (w : World) (hn : a = none → xs = []) (hl : xs.length ≤ 17592186044415) (hr : La w a xs) :
    Calls Tryd.prog 18 #[.slice a xs.length cap] w fun e B => ∃ v, e = .returned v ∧ New w v xs B := by
  have q22 : ∀ (w : World) (a : Option Addr) (n c n' c' : Nat), (binOp .eql 22 (.slice a n c) (.slice none n' c')).run Tryd.prog w = .ok (.bool a.isNone) w := fun w a n c n' c' => Lib.run_eql_slice_nil w _ _ a n c n' c' Tryd.underlying22
  have hmax : maxLen = 9223372036854775807 := by decide
  cases a with
  | none =>
    obtain rfl := hn rfl
    go_enter Tryd.func18, Tryd.ntmps18
    go_wp2
    go_ret
    exact ⟨_, rfl, none, 0, rfl, by simp, fun h => absurd h (by simp), fun _ _ h => by simp at h, Below.refl _ _⟩
  | some x =>
    obtain ⟨i0, hi0, hz0, hz1, hz2⟩ := info_parts info_i
    have N : Hid (∀ v B, B.ownsRow w.heap.size 3 1 v xs.length (xs.map (Value.int .i64)) → Below w.heap.size w B → New w v xs B) := fun v B h hb => New.of_own h hb
    have R : Hid (La w (some x) xs) := hr
    clear hr hn
    obtain ⟨n, hn⟩ : ∃ n, xs.length = n := ⟨_, rfl⟩
    have HN := Lib.hid hn
    rw [hn] at N hl ⊢
    clear hn
    go_enter Tryd.func18, Tryd.ntmps18
    go_wp2_with (at_builtin; refine wpList_append_own _ rfl _ _ 22 rfl w.heap.size 3 i0 (.int .i64 0) 1 8 Tryd.underlying22 hi0 hz0 hz1 hz2 rfl (by decide) _ _ _ rfl (World.ownsRow_made w #[] 0 (Nat.le_refl _) (Nat.zero_le _) rfl) x n cap (xs.map (Value.int .i64)) rfl ?qc1 ?qc2 ?qc3 ?qc4 ?qc5 ?qc6 ?_)
    case qc1 => simp [HN.out]
    case qc2 =>
      intro j u hj
      rw [List.getElem?_map, Option.map_eq_some_iff] at hj
      obtain ⟨y, hy, rfl⟩ := hj
      obtain ⟨hjn, rfl⟩ := List.getElem?_eq_some_iff.1 hy
      obtain ⟨b, o, hx, hi⟩ := R.out (by omega)
      obtain rfl := Option.some.inj hx
      rw [show (⟨b, o, none⟩ : Addr).add j = ⟨b, o + j, none⟩ by simp [Addr.add]]
      exact Lib.cell?_alloc_some _ (hi j hjn)
    case qc3 => intro u hu; obtain ⟨x, _, rfl⟩ := List.mem_map.1 hu; rfl
    case qc4 => omega
    case qc5 => omega
    case qc6 => simp
    intro v' w1 hown hgrow hnil
    go_wp2
    go_ret
    refine ⟨v', rfl, N.out _ _ (by simpa using hown) ?_⟩
    exact ((Below.refl _ w).alloc (Nat.le_refl _) _).grown hgrow (by simp) (by intro k hk; simp [Value.ownBlock] at hk; omega)
end Go.Proofs.YthbniikenenijaaDoor
