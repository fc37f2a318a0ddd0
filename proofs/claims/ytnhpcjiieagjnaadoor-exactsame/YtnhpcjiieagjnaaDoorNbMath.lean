/-
  Of no function: worlds that are alike but for some blocks ('Keep'), and a row of counters as it lies in memory ('Nib'): two counters a byte ('pack').
-/
import Derived.Below
import Derived.Deep.Draws
import Derived.RangeFuncNested
import Derived.Deep.OwnRows
import Derived.Lib.SliceRun
import Derived.Lib.Hide
namespace Go.Proofs.YtnhpcjiieagjnaaDoor.nb
open Go.RowKit
/-- of what lay in A the blocks of K lie in B as they lay; nothing has gone. -/
structure Keep (K : Nat → Prop) (A B : World) : Prop where
  os : B.os = A.os
  tape : B.tape = A.tape
  output : B.output = A.output
  size : A.heap.size ≤ B.heap.size
  block : ∀ k, k < A.heap.size → K k → B.heap[k]? = A.heap[k]?
namespace Keep
variable {K K' : Nat → Prop} {A B C : World}
theorem refl (K : Nat → Prop) (A : World) : Keep K A A := ⟨rfl, rfl, rfl, Nat.le_refl _, fun _ _ _ => rfl⟩
theorem trans (h : Keep K A B) (k : Keep K B C) : Keep K A C :=
  ⟨k.os.trans h.os, k.tape.trans h.tape, k.output.trans h.output, Nat.le_trans h.size k.size, fun i hi hK => (k.block i (Nat.lt_of_lt_of_le hi h.size) hK).trans (h.block i hi hK)⟩
theorem mono (h : Keep K A B) (hk : ∀ i, i < A.heap.size → K' i → K i) : Keep K' A B := ⟨h.os, h.tape, h.output, h.size, fun i hi hK => h.block i hi (hk i hi hK)⟩
theorem drewN (K : Nat → Prop) (A : World) (n : Nat) : Keep K A (A.drewN n) := ⟨rfl, rfl, rfl, Nat.le_refl _, fun _ _ _ => rfl⟩
theorem drew (K : Nat → Prop) (A : World) : Keep K A A.drew := ⟨rfl, rfl, rfl, Nat.le_refl _, fun _ _ _ => rfl⟩
theorem alloc (K : Nat → Prop) (A : World) (o : Obj) : Keep K A (A.alloc o) := ⟨rfl, rfl, rfl, by simp, fun k hk _ => Below.heap_alloc _ _ _ hk⟩
theorem setCell (A : World) (p : Addr) (v : Value) (h : ¬ K p.block) : Keep K A (A.setCell p v) := ⟨rfl, rfl, rfl, by simp [World.setCell], fun k _ hK => Below.heap_setCell _ _ _ _ (fun e => h (e ▸ hK))⟩
theorem putObj (A : World) (l : Nat) (o : Obj) (h : ¬ K l) : Keep K A (A.putObj l o) := ⟨rfl, rfl, rfl, by simp, fun k _ hK => World.putObj_heap_other (fun e => h (e ▸ hK))⟩
theorem grown {row : Option Nat} (hg : A.grownBy B row) (h : ∀ k, row = some k → ¬ K k) : Keep K A B := ⟨hg.os, hg.tape, hg.output, hg.size, fun k hk hK => hg.block k hk (fun e => h k e.symm hK)⟩
theorem of_below {N : Nat} (h : Below N A B) (hK : ∀ k, K k → k < N) : Keep K A B := ⟨h.os, h.tape, h.output, h.size, fun k _ hk => h.block k (hK k hk)⟩
theorem below {N : Nat} (h : Keep K A B) (hK : ∀ k, k < N → K k) (hN : N ≤ A.heap.size) : Below N A B := ⟨h.os, h.tape, h.output, h.size, fun k hk => h.block k (Nat.lt_of_lt_of_le hk hN) (hK k hk)⟩
theorem heap (h : Keep K A B) {k : Nat} {o : Obj} (hk : A.heap[k]? = some o) (hK : K k) : B.heap[k]? = some o := (h.block k (Array.getElem?_eq_some_iff.1 hk).1 hK).trans hk
theorem cell (h : Keep K A B) {p : Addr} (hp : p.block < A.heap.size) (hK : K p.block) : B.cell? p = A.cell? p := World.cell?_of_block (w := A) (h.block p.block hp hK)
theorem frozen (h : Keep K A B) {p : Addr} (hp : p.block < A.heap.size) (hK : K p.block) : B.frozen? p = A.frozen? p := World.frozen?_of_block (w := A) (h.block p.block hp hK)
theorem own (h : Keep K A B) {base : Nat} {e : TypeId} {size : Nat} {v : Value} {n : Nat} {xs : List Value} (ho : A.ownsRow base e size v n xs) (hK : ∀ k, v.ownBlock = some k → K k) : B.ownsRow base e size v n xs := by
  refine ⟨ho.1, ?_⟩
  rcases ho.2 with hn | ⟨g, cap, cur, rfl, hb, hgg, rest⟩
  · exact .inl hn
  · exact .inr ⟨g, cap, cur, rfl, hb, h.heap hgg (hK g rfl), rest⟩
theorem setCells (b : Nat) (h : ¬ K b) : ∀ (vs : List Value) (o : Nat) (A : World), Keep K A (A.setCells b o vs)
  | [], _, A => .refl _ A
  | v :: r, o, A => (Keep.setCell A ⟨b, o, none⟩ v h).trans (setCells b h r (o + 1) (A.setCell ⟨b, o, none⟩ v))
end Keep
theorem heap_lt {w : World} {k : Nat} {o : Obj} (h : w.heap[k]? = some o) : k < w.heap.size := (Array.getElem?_eq_some_iff.1 h).1
theorem cell_of {w : World} {b : Nat} {arr : Array Value} {t : TypeId} (h : w.heap[b]? = some (.cells arr t (0, 0))) (i : Nat) : w.cell? ⟨b, i, none⟩ = arr[i]? := by simp [World.cell?, h]
theorem frozen_of {w : World} {b : Nat} {arr : Array Value} {t : TypeId} (h : w.heap[b]? = some (.cells arr t (0, 0))) (i : Nat) : w.frozen? ⟨b, i, none⟩ = false := by simp [World.frozen?, h]
theorem heap_set {w : World} {b : Nat} {arr : Array Value} {t : TypeId} (h : w.heap[b]? = some (.cells arr t (0, 0))) (i : Nat) (v : Value) : (w.setCell ⟨b, i, none⟩ v).heap[b]? = some (.cells (arr.setIfInBounds i v) t (0, 0)) := by
  obtain ⟨hlt, hk⟩ := Array.getElem?_eq_some_iff.1 h
  show (w.heap.modify b _)[b]? = _
  rw [Array.getElem?_eq_getElem (by rw [Array.size_modify]; exact hlt), Array.getElem_modify_self, hk]
  rfl
theorem heap_set_other {w : World} {b b' : Nat} {o : Obj} (h : w.heap[b]? = some o) (hne : b ≠ b') (i : Nat) (v : Value) : (w.setCell ⟨b', i, none⟩ v).heap[b]? = some o := (Below.heap_setCell w ⟨b', i, none⟩ v b hne).trans h
theorem heap_old {w : World} {o o' : Obj} {k : Nat} (h : w.heap[k]? = some o) : (w.alloc o').heap[k]? = some o := (Below.heap_alloc _ _ _ (heap_lt h)).trans h
theorem heap_next {w : World} {k : Nat} (h : k = w.heap.size) (o : Obj) : (w.alloc o).heap[k]? = some o := by rw [h]; exact heap_alloc_new _ _
theorem cell_past {w : World} {o : Obj} {p : Addr} {v : Value} (h : w.cell? p = some v) : (w.alloc o).cell? p = some v := by
  refine (World.cell?_of_block (w := w) (Below.heap_alloc _ _ _ ?_)).trans h
  by_cases hp : p.block < w.heap.size
  · exact hp
  · simp [World.cell?, Array.getElem?_eq_none (Nat.le_of_not_lt hp)] at h
theorem size_sets (b : Nat) : ∀ (vs : List Value) (o : Nat) (w : World), (w.setCells b o vs).heap.size = w.heap.size
  | [], _, _ => rfl
  | v :: r, o, w => (size_sets b r (o + 1) _).trans (by simp [World.setCell])
/-- the counter at a place, 0 where there is none. -/
abbrev ct (cs : List Nat) (i : Nat) : Nat := cs.getD i 0
/-- two counters a byte. -/
def pack (cs : List Nat) : List Nat := (List.range ((cs.length + 1) / 2)).map fun p => ct cs (2 * p) + 16 * ct cs (2 * p + 1)
theorem pack_len (cs : List Nat) : (pack cs).length = (cs.length + 1) / 2 := by simp [pack]
theorem pack_get (cs : List Nat) (p : Nat) (h : p < (cs.length + 1) / 2) : (pack cs)[p]? = some (ct cs (2 * p) + 16 * ct cs (2 * p + 1)) := by simp [pack, h]
theorem ct_past (cs : List Nat) (i : Nat) (h : cs.length ≤ i) : ct cs i = 0 := by simp [ct, h]
theorem pack_ext {bs cs : List Nat} (hl : bs.length = (cs.length + 1) / 2) (h : ∀ p, p < bs.length → bs[p]? = some (ct cs (2 * p) + 16 * ct cs (2 * p + 1))) : bs = pack cs := by
  refine List.ext_getElem? fun p => ?_
  by_cases hp : p < bs.length
  · rw [h p hp, pack_get cs p (by omega)]
  · rw [List.getElem?_eq_none (by omega), List.getElem?_eq_none (by rw [pack_len]; omega)]
theorem ct_set (cs : List Nat) (i x : Nat) (hi : i < cs.length) (j : Nat) : ct (cs.set i x) j = if j = i then x else ct cs j := by
  by_cases hj : j = i
  · subst hj; simp [ct, hi]
  · simp [ct, hj, List.getElem?_set_ne (Ne.symm hj)]
/-- one counter is one more. -/
theorem pack_add (cs : List Nat) (i : Nat) (hi : i < cs.length) : pack (cs.set i (ct cs i + 1)) = (pack cs).set (i / 2) (ct cs (2 * (i / 2)) + 16 * ct cs (2 * (i / 2) + 1) + 16 ^ (i % 2)) := by
  refine (pack_ext (by simp [pack_len]) fun p hp => ?_).symm
  simp only [List.length_set, pack_len] at hp
  rw [ct_set cs i _ hi, ct_set cs i _ hi]
  by_cases e : p = i / 2
  · subst e
    rw [List.getElem?_set_self (by rw [pack_len]; exact hp)]
    rcases Nat.mod_two_eq_zero_or_one i with h | h
    · have e1 : 2 * (i / 2) = i := by omega
      rw [h, e1, if_pos rfl, if_neg (by omega)]
      exact congrArg some (by omega)
    · have e1 : 2 * (i / 2) + 1 = i := by omega
      rw [h, if_neg (by omega), e1, if_pos rfl]
      exact congrArg some (by omega)
  · rw [List.getElem?_set_ne (Ne.symm e), pack_get cs p hp, if_neg (by omega), if_neg (by omega)]
theorem ct_half (cs : List Nat) (j : Nat) : ct (cs.map (· / 2)) j = ct cs j / 2 := by
  by_cases h : j < cs.length <;> simp [ct, h]
/-- each counter is half of it. -/
theorem pack_half (cs : List Nat) (bs : List Nat) (hl : bs.length = (cs.length + 1) / 2) (h : ∀ p, p < bs.length → bs[p]? = some (ct cs (2 * p) / 2 + 16 * (ct cs (2 * p + 1) / 2))) : bs = pack (cs.map (· / 2)) :=
  pack_ext (by simpa using hl) fun p hp => by rw [h p hp, ct_half, ct_half]
theorem ct_zeros (n j : Nat) : ct (List.replicate n 0) j = 0 := by
  by_cases h : j < n <;> simp [ct, h]
theorem pack_zeros (n : Nat) : pack (List.replicate n 0) = List.replicate ((n + 1) / 2) 0 :=
  (pack_ext (by simp) fun p hp => by rw [ct_zeros, ct_zeros]; simp at hp; simp [hp]).symm
/-- the shifts of a byte, by its two counters. -/
theorem byte_get (a b q : Nat) (ha : a ≤ 15) (hb : b ≤ 15) (hq : q = 0 ∨ q = 1) : (a + 16 * b) >>> (4 * q) &&& 15 = if q = 0 then a else b := by
  rcases hq with rfl | rfl
  · rw [if_pos rfl, show 15 = 2 ^ 4 - 1 by decide, Nat.and_two_pow_sub_one_eq_mod]; simp; omega
  · rw [if_neg (by decide), show 15 = 2 ^ 4 - 1 by decide, Nat.and_two_pow_sub_one_eq_mod, Nat.shiftRight_eq_div_pow]; omega
theorem byte_half : ∀ a : Fin 16, ∀ b : Fin 16, (a.val + 16 * b.val) >>> 1 &&& 119 = a.val / 2 + 16 * (b.val / 2) := by decide +kernel
/-- the cells of bytes. -/
def b8 (l : List Nat) : List Value := l.map fun b : Nat => Value.int .u8 (b : Int)
theorem b8_len (l : List Nat) : (b8 l).length = l.length := by simp [b8]
theorem b8_get {l : List Nat} {i b : Nat} (h : l[i]? = some b) : (b8 l).toArray[i]? = some (.int .u8 (b : Int)) := by simp [b8, h]
theorem b8_set (l : List Nat) (k x : Nat) : (b8 l).toArray.setIfInBounds k (.int .u8 (x : Int)) = (b8 (l.set k x)).toArray := by simp [b8, List.map_set]
/-- a row of the counters cs lies in block r, its bytes in block g. -/
structure Nib (w : World) (r g : Nat) (cs : List Nat) : Prop where
  head : w.heap[r]? = some (.cells #[.slice (some ⟨g, 0, none⟩) ((cs.length + 1) / 2) ((cs.length + 1) / 2), .int .i64 (cs.length : Int)] 111 (0, 0))
  body : w.heap[g]? = some (.cells (b8 (pack cs)).toArray 5 (0, 0))
  out : r ≠ g
  lid : cs.length ≤ 65536
  low : ∀ i, ct cs i ≤ 15
namespace Nib
variable {w w' : World} {r g : Nat} {cs : List Nat}
theorem keep {K : Nat → Prop} (h : Nib w r g cs) (hk : Keep K w w') (hr : K r) (hg : K g) : Nib w' r g cs := ⟨hk.heap h.head hr, hk.heap h.body hg, h.out, h.lid, h.low⟩
theorem lt (h : Nib w r g cs) : r < w.heap.size ∧ g < w.heap.size := ⟨heap_lt h.head, heap_lt h.body⟩
theorem below (h : Nib w r g cs) (hb : Below w.heap.size w w') : Nib w' r g cs := h.keep (K := (· < w.heap.size)) (.of_below hb fun _ h => h) h.lt.1 h.lt.2
theorem drewN (h : Nib w r g cs) (m : Nat) : Nib (w.drewN m) r g cs := h.keep (K := fun _ => True) (.drewN _ _ _) trivial trivial
theorem c0 (h : Nib w r g cs) : w.cell? ⟨r, 0, none⟩ = some (.slice (some ⟨g, 0, none⟩) ((cs.length + 1) / 2) ((cs.length + 1) / 2)) := by rw [cell_of h.head]; rfl
theorem c1 (h : Nib w r g cs) : w.cell? ⟨r, 1, none⟩ = some (.int .i64 (cs.length : Int)) := by rw [cell_of h.head]; rfl
/-- the byte at a place. -/
theorem at_ (h : Nib w r g cs) (p : Nat) (hp : p < (cs.length + 1) / 2) : w.cell? ⟨g, p, none⟩ = some (.int .u8 ((ct cs (2 * p) + 16 * ct cs (2 * p + 1) : Nat) : Int)) ∧ w.frozen? ⟨g, p, none⟩ = false :=
  ⟨(cell_of h.body p).trans (b8_get (pack_get cs p hp)), frozen_of h.body p⟩
end Nib
end Go.Proofs.YtnhpcjiieagjnaaDoor.nb
