/-
  Of DoorPlays: what lies in memory within a round ('Tri': both doors, three rows of places; 'Nx': the document's next door), and how calls keep it.
-/
import Derived.Test.YtmfdobppihjjkaaDoorPy
namespace Go.Proofs.YtmfdobppihjjkaaDoor
open Go.RowKit
/-- the slice at a reads as the keys l. -/
def Keys (w : World) (a : Option Addr) (l : List Nat) : Prop :=
  0 < l.length → ∃ b o, a = some ⟨b, o, none⟩ ∧ ∀ i (h : i < l.length), w.cell? ⟨b, o + i, none⟩ = some (.int .u64 (l[i] : Int)) ∧ l[i] < 18446744073709551616
/-- a door behind these keys. -/
noncomputable def runB (t m : Nat) (l : List Nat) : List Nat := l.foldl (fun bs x => putB (plN t (8 * m) x) bs) (List.replicate m 0)
theorem runB_nil (t m : Nat) : runB t m [] = List.replicate m 0 := rfl
theorem runB_snoc (t m : Nat) (l : List Nat) (x : Nat) : runB t m (l ++ [x]) = putB (plN t (8 * m) x) (runB t m l) := by simp [runB]
theorem foldB_len (t m : Nat) : ∀ (l : List Nat) (bs : List Nat), (l.foldl (fun bs x => putB (plN t (8 * m) x) bs) bs).length = bs.length
  | [], _ => rfl
  | x :: l, bs => by rw [List.foldl_cons, foldB_len t m l, putB_len]
theorem runB_len (t m : Nat) (l : List Nat) : (runB t m l).length = m := by rw [runB, foldB_len, List.length_replicate]
theorem runB_next (t m : Nat) (l : List Nat) (j X : Nat) (h : l[j]? = some X) : runB t m (l.take (j + 1)) = putB (plN t (8 * m) X) (runB t m (l.take j)) := by
  obtain ⟨hj, rfl⟩ := List.getElem?_eq_some_iff.1 h
  rw [List.take_succ_eq_append_getElem hj, runB_snoc]
/-- four zeros in a block. -/
def Z31 (k : Nat) (W : World) : Prop := W.heap[k]? = some (.cells #[.int .i64 0, .int .i64 0, .int .i64 0, .int .i64 0] 31 (0, 0))
namespace Z31
variable {k : Nat} {W B : World}
theorem below (h : Z31 k W) (hb : Below W.heap.size W B) : Z31 k B := (hb.block k (heap_lt h)).trans h
theorem new (W : World) : Z31 W.heap.size (W.alloc (.cells #[.int .i64 0, .int .i64 0, .int .i64 0, .int .i64 0] 31)) := heap_next rfl _
theorem drew (h : Z31 k W) : Z31 k W.drew := h
theorem lt (h : Z31 k W) : k < W.heap.size := heap_lt h
theorem cells (h : Z31 k W) : W.cell? ⟨k, 0, none⟩ = some (.int .i64 0) ∧ W.cell? ⟨k, 1, none⟩ = some (.int .i64 0) ∧ W.cell? ⟨k, 2, none⟩ = some (.int .i64 0) ∧ W.cell? ⟨k, 3, none⟩ = some (.int .i64 0) ∧ W.frozen? ⟨k, 0, none⟩ = false ∧ W.frozen? ⟨k, 1, none⟩ = false ∧ W.frozen? ⟨k, 2, none⟩ = false ∧ W.frozen? ⟨k, 3, none⟩ = false :=
  ⟨by rw [cell_of h]; rfl, by rw [cell_of h]; rfl, by rw [cell_of h]; rfl, by rw [cell_of h]; rfl, frozen_of h 0, frozen_of h 1, frozen_of h 2, frozen_of h 3⟩
end Z31
/-- four places lie in a block. -/
def At4 (b : Nat) (p : Nat → Nat) (W : World) : Prop := ∀ i, i < 4 → W.cell? ⟨b, i, none⟩ = some (.int .i64 (p i : Int))
namespace At4
variable {b : Nat} {p : Nat → Nat} {W B : World}
theorem lt (h : At4 b p W) : b < W.heap.size := World.block_lt_of_cell? W ⟨b, 0, none⟩ (h 0 (by decide))
theorem below (h : At4 b p W) (hb : Below W.heap.size W B) : At4 b p B := fun i hi => (hb.cell (p := ⟨b, i, none⟩) h.lt).trans (h i hi)
theorem keep {K : Nat → Prop} (h : At4 b p W) (hk : Keep K W B) (hK : K b) : At4 b p B := fun i hi => (hk.cell (p := ⟨b, i, none⟩) h.lt hK).trans (h i hi)
theorem alloc (h : At4 b p W) (o : Obj) : At4 b p (W.alloc o) := h.below ((Below.refl _ _).alloc (Nat.le_refl _) _)
theorem of_box {t : TypeId} (h : W.heap[b]? = some (.cells #[.int .i64 (p 0 : Int), .int .i64 (p 1 : Int), .int .i64 (p 2 : Int), .int .i64 (p 3 : Int)] t (0, 0))) : At4 b p W := fun i hi => by
  rw [cell_of h]
  rcases (show i = 0 ∨ i = 1 ∨ i = 2 ∨ i = 3 by omega) with rfl | rfl | rfl | rfl <;> rfl
theorem all (h : At4 b p W) : W.cell? ⟨b, 0, none⟩ = some (.int .i64 (p 0 : Int)) ∧ W.cell? ⟨b, 1, none⟩ = some (.int .i64 (p 1 : Int)) ∧ W.cell? ⟨b, 2, none⟩ = some (.int .i64 (p 2 : Int)) ∧ W.cell? ⟨b, 3, none⟩ = some (.int .i64 (p 3 : Int)) := ⟨h 0 (by decide), h 1 (by decide), h 2 (by decide), h 3 (by decide)⟩
end At4
theorem q4' {W : World} {b c : Nat} {p : Nat → Nat} (h : Q e64 W (.slice (some ⟨b, 0, none⟩) 4 c) (pl4 p 4)) : At4 b p W := fun i hi => by
  obtain ⟨b', o', c', hv, hc⟩ := h.at_ i (by rw [pl4_len]; exact hi)
  obtain ⟨e1, -, -⟩ := Value.slice.inj hv
  simp only [Option.some.injEq, Addr.mk.injEq, and_true] at e1
  obtain ⟨rfl, rfl⟩ := e1
  rwa [Nat.zero_add, pl4_at p i 4 hi] at hc
/-- a block that is none of the doors'. -/
def Away (w : World) (S G V : Nat) (v : Value) (k : Nat) : Prop := k ≠ S ∧ k ≠ G ∧ k ≠ V ∧ (∀ b, v.ownBlock = some b → b ≠ k) ∧ w.heap.size ≤ k
namespace Ps
variable {w W B : World} {S G t V seed : Nat} {bs : List Nat} {v : Value}
theorem own_lt (h : Ps w S G t V seed bs v W) (b : Nat) (hb : v.ownBlock = some b) : b < W.heap.size := by
  rcases h.q with ⟨hv, h0⟩ | ⟨b2, o2, c2, hv, hc, hi⟩
  · simp [hv, Value.ownBlock] at hb
  · rw [hv] at hb
    simp [Value.ownBlock] at hb
    subst hb
    exact World.block_lt_of_cell? W ⟨b2, o2 + 0, none⟩ (hi 0 (by rw [ub_len]; have := h.at_.dr.pos; omega))
theorem away (h : Ps w S G t V seed bs v W) (k : Nat) (hk : W.heap.size ≤ k) : Away w S G V v k := by
  have h1 := h.at_.lts
  have h2 := heap_lt h.box
  have h3 := h.old.size
  exact ⟨by omega, by omega, by omega, fun b hb => by have := h.own_lt b hb; omega, by omega⟩
theorem keep (h : Ps w S G t V seed bs v W) {k : Nat} (hk : Keep (fun b => b ≠ k) W B) (ha : Away w S G V v k) : Ps w S G t V seed bs v B := by
  obtain ⟨a1, a2, a3, a4, a5⟩ := ha
  exact ⟨⟨h.at_.dr.keep hk (fun e => a1 e.symm) (fun e => a2 e.symm), h.at_.since hk fun k' hk' => by show k' ≠ k; omega, h.at_.le, h.at_.le'⟩, h.q.keep hk a4, h.own, hk.heap h.box (fun e => a3 e.symm), h.far, h.sd, h.lw, h.le⟩
theorem alloc (h : Ps w S G t V seed bs v W) (o : Obj) : Ps w S G t V seed bs v (W.alloc o) := h.below ((Below.refl _ _).alloc (Nat.le_refl _) _)
/-- Places. -/
theorem k8 (h : Ps w S G t V seed bs v W) (x : Nat) (hx : x < 18446744073709551616) : Calls Tryd.prog 8 #[.pointer (some ⟨S, 0, none⟩), .int .u64 (x : Int)] W fun e B => e = .returned (pv (plN t (8 * bs.length) x)) ∧ Hid (Ps w S G t V seed bs v B) ∧ Hid (Below W.heap.size W B) :=
  (places_some h.at_.dr h.at_.old x hx).mono fun _ _ ⟨he, hb⟩ => ⟨he, h.below hb, hb⟩
theorem k9 (h : Ps w S G t V seed bs v W) (x : Nat) (hx : x < 18446744073709551616) : Calls Tryd.prog 9 #[dv v seed, .int .u64 (x : Int)] W fun e B => ∃ b c, e = .returned (.slice (some ⟨b, 0, none⟩) 4 c) ∧ Hid (Ps w S G t V seed bs v B) ∧ Hid (Below W.heap.size W B) ∧ Hid (At4 b (plN t (8 * bs.length) x) B ∧ W.heap.size ≤ b) := by
  obtain ⟨a, k, rfl⟩ := h.slice
  rw [h.sd]
  have := h.at_.dr.pos
  have := h.at_.dr.lid
  exact (refplaces_any a (8 * bs.length) k seed (by omega) (by omega) h.lw x hx W).mono fun e B ⟨b, c, he, hq, hle, hb⟩ => ⟨b, c, he, h.sd ▸ h.below hb, hb, q4' hq, hle⟩
theorem k10 (h : Ps w S G t V seed bs v W) (x y : Nat) (hx : x < 18446744073709551616) (hy : y < 18446744073709551616) : Calls Tryd.prog 10 #[.pointer (some ⟨S, 0, none⟩), .int .u64 (x : Int), .int .u64 (y : Int)] W fun e B => e = .returned (.bool (alike (plN t (8 * bs.length) x) (plN t (8 * bs.length) y))) ∧ Hid (Below W.heap.size W B) :=
  alike_some h.at_.dr h.at_.old x y hx hy
theorem k11 (h : Ps w S G t V seed bs v W) (x : Nat) (hx : x < 18446744073709551616) : Calls Tryd.prog 11 #[.pointer (some ⟨S, 0, none⟩), .int .u64 (x : Int)] W fun e B => e = .returned (.bool (hasB (plN t (8 * bs.length) x) bs)) ∧ Hid (Below W.heap.size W B) :=
  has_some h.at_.dr h.at_.old x hx
theorem k12 (h : Ps w S G t V seed bs v W) (x : Nat) (hx : x < 18446744073709551616) : Calls Tryd.prog 12 #[dv v seed, .int .u64 (x : Int)] W fun e B => e = .returned (.bool (hasB (plN t (8 * bs.length) x) bs)) ∧ Hid (Below W.heap.size W B) := by
  have := refhas_any seed x h.lw hx h.q h.at_.dr.pos h.at_.dr.lid
  rw [← h.sd] at this
  exact this
end Ps
/-- three rows of places beside the doors. -/
structure Tri (w : World) (S G t V seed : Nat) (bs : List Nat) (v : Value) (A b1 b2 : Nat) (p o : Nat → Nat) (W : World) : Prop where
  ps : Ps w S G t V seed bs v W
  pa : At4 A p W
  p1 : At4 b1 p W
  p2 : At4 b2 o W
namespace Tri
variable {w W B : World} {S G t V seed A b1 b2 : Nat} {bs : List Nat} {v : Value} {p o : Nat → Nat}
theorem below (h : Tri w S G t V seed bs v A b1 b2 p o W) (hb : Below W.heap.size W B) : Tri w S G t V seed bs v A b1 b2 p o B := ⟨h.ps.below hb, h.pa.below hb, h.p1.below hb, h.p2.below hb⟩
theorem drewN (h : Tri w S G t V seed bs v A b1 b2 p o W) (q : Nat) : Tri w S G t V seed bs v A b1 b2 p o (W.drewN q) := h.below ⟨rfl, rfl, rfl, Nat.le_refl _, fun _ _ => rfl⟩
theorem of_alloc (h : Ps w S G t V seed bs v W) (h1 : At4 b1 p W) (h2 : At4 b2 o W) : Tri w S G t V seed bs v W.heap.size b1 b2 p o (W.alloc (.cells #[.int .i64 (p 0 : Int), .int .i64 (p 1 : Int), .int .i64 (p 2 : Int), .int .i64 (p 3 : Int)] 31)) := by
  have hb : Below W.heap.size W (W.alloc (.cells #[.int .i64 (p 0 : Int), .int .i64 (p 1 : Int), .int .i64 (p 2 : Int), .int .i64 (p 3 : Int)] 31)) := (Below.refl _ _).alloc (Nat.le_refl _) _
  exact ⟨h.below hb, At4.of_box (heap_next rfl _), h1.below hb, h2.below hb⟩
theorem of_set (h : Ps w S G t V seed bs v W) (h1 : At4 b1 p W) (h2 : At4 b2 o W) (z : Z31 A W) (ha : Away w S G V v A) (n1 : A ≠ b1) (n2 : A ≠ b2) : Tri w S G t V seed bs v A b1 b2 p o ((((W.setCell ⟨A, 0, none⟩ (.int .i64 (p 0 : Int))).setCell ⟨A, 1, none⟩ (.int .i64 (p 1 : Int))).setCell ⟨A, 2, none⟩ (.int .i64 (p 2 : Int))).setCell ⟨A, 3, none⟩ (.int .i64 (p 3 : Int))) := by
  have hk : Keep (fun b => b ≠ A) W ((((W.setCell ⟨A, 0, none⟩ (.int .i64 (p 0 : Int))).setCell ⟨A, 1, none⟩ (.int .i64 (p 1 : Int))).setCell ⟨A, 2, none⟩ (.int .i64 (p 2 : Int))).setCell ⟨A, 3, none⟩ (.int .i64 (p 3 : Int))) := (((Keep.setCell _ _ _ fun h => h rfl).trans (Keep.setCell _ _ _ fun h => h rfl)).trans (Keep.setCell _ _ _ fun h => h rfl)).trans (Keep.setCell _ _ _ fun h => h rfl)
  exact ⟨h.keep hk ha, At4.of_box (put4 _ _ _ _ z), h1.keep hk (Ne.symm n1), h2.keep hk (Ne.symm n2)⟩
end Tri
/-- two zero cells of a door of the document's. -/
def Z29 (k : Nat) (W : World) : Prop := W.heap[k]? = some (.cells #[.slice none 0 0, .int .u64 0] 29 (0, 0))
namespace Z29
variable {k : Nat} {W B : World}
theorem below (h : Z29 k W) (hb : Below W.heap.size W B) : Z29 k B := (hb.block k (heap_lt h)).trans h
theorem new (W : World) : Z29 W.heap.size (W.alloc (.cells #[.slice none 0 0, .int .u64 0] 29)) := heap_next rfl _
theorem drew (h : Z29 k W) : Z29 k W.drew := h
theorem lt (h : Z29 k W) : k < W.heap.size := heap_lt h
theorem cells (h : Z29 k W) : W.cell? ⟨k, 0, none⟩ = some (.slice none 0 0) ∧ W.cell? ⟨k, 1, none⟩ = some (.int .u64 0) ∧ W.frozen? ⟨k, 0, none⟩ = false ∧ W.frozen? ⟨k, 1, none⟩ = false := ⟨by rw [cell_of h]; rfl, by rw [cell_of h]; rfl, frozen_of h 0, frozen_of h 1⟩
end Z29
/-- what the document's Put told. -/
structure Nv (W : World) (G V n : Nat) (bs' : List Nat) (v' : Value) : Prop where
  q : Q eb W v' (ub bs')
  own : ∀ b, v'.ownBlock = some b → b ≠ G ∧ b ≠ V
  sl : ∃ a c, v' = .slice a n c
namespace Nv
variable {W B : World} {G V n : Nat} {bs' : List Nat} {v' : Value}
theorem below (h : Nv W G V n bs' v') (hb : Below W.heap.size W B) : Nv B G V n bs' v' := ⟨h.q.below hb, h.own, h.sl⟩
theorem keep (h : Nv W G V n bs' v') {K : Nat → Prop} (hk : Keep K W B) (hK : ∀ b, v'.ownBlock = some b → K b) : Nv B G V n bs' v' := ⟨h.q.keep hk hK, h.own, h.sl⟩
theorem own_lt (h : Nv W G V n bs' v') (h0 : 0 < bs'.length) (b : Nat) (hb : v'.ownBlock = some b) : b < W.heap.size := by
  rcases h.q with ⟨hv, _⟩ | ⟨b2, o2, c2, hv, hc, hi⟩
  · simp [hv, Value.ownBlock] at hb
  · rw [hv] at hb
    simp [Value.ownBlock] at hb
    subst hb
    exact World.block_lt_of_cell? W ⟨b2, o2 + 0, none⟩ (hi 0 (by rw [ub_len]; omega))
end Nv
theorem Ps.k13 {w W : World} {S G t V seed : Nat} {bs : List Nat} {v : Value} (h : Ps w S G t V seed bs v W) (x : Nat) (hx : x < 18446744073709551616) : Calls Tryd.prog 13 #[dv v seed, .int .u64 (x : Int)] W fun e B => ∃ v', e = .returned (.tuple #[dv v' seed, .bool (!hasB (plN t (8 * bs.length) x) bs)]) ∧ Hid (Ps w S G t V seed bs v B) ∧ Hid (Below W.heap.size W B) ∧ Hid (Nv B G V (8 * bs.length) (putB (plN t (8 * bs.length) x) bs) v') ∧ Hid (∀ b, v'.ownBlock = some b → v.ownBlock = some b ∨ W.heap.size ≤ b) := by
  have h1 := h.at_.lts
  have h2 := heap_lt h.box
  have := refput_any (fun b => (b ≠ G ∧ b ≠ V) ∧ (v.ownBlock = some b ∨ W.heap.size ≤ b)) seed x h.lw hx h.q h.at_.dr.pos h.at_.dr.lid (fun b hb => ⟨h.own b hb, .inl hb⟩) (fun b hb => ⟨⟨by omega, by omega⟩, .inr hb⟩)
  rw [← h.sd] at this
  exact this.mono fun e B ⟨a, c, he, hq, ho, hb⟩ => ⟨_, he, h.below hb, hb, ⟨hq, fun b hb => (ho b hb).1, _, _, rfl⟩, fun b hb => (ho b hb).2⟩
/-- the document's next door in the box V2 beside the doors. -/
structure Nx (w : World) (S G t V seed : Nat) (bs : List Nat) (v : Value) (V2 : Nat) (bs' : List Nat) (v' : Value) (W : World) : Prop where
  ps : Ps w S G t V seed bs v W
  nv : Nv W G V (8 * bs.length) bs' v'
  box : W.heap[V2]? = some (.cells #[v', .int .u64 (seed : Int)] 29 (0, 0))
  far : V2 ≠ G
namespace Nx
variable {w W B : World} {S G t V seed V2 : Nat} {bs bs' : List Nat} {v v' : Value}
theorem below (h : Nx w S G t V seed bs v V2 bs' v' W) (hb : Below W.heap.size W B) : Nx w S G t V seed bs v V2 bs' v' B := ⟨h.ps.below hb, h.nv.below hb, (hb.block V2 (heap_lt h.box)).trans h.box, h.far⟩
theorem drewN (h : Nx w S G t V seed bs v V2 bs' v' W) (q : Nat) : Nx w S G t V seed bs v V2 bs' v' (W.drewN q) := h.below ⟨rfl, rfl, rfl, Nat.le_refl _, fun _ _ => rfl⟩
theorem of_alloc (h : Ps w S G t V seed bs v W) (hn : Nv W G V (8 * bs.length) bs' v') : Nx w S G t V seed bs v W.heap.size bs' v' (W.alloc (.cells #[v', .int .u64 (seed : Int)] 29)) := by
  have hb : Below W.heap.size W (W.alloc (.cells #[v', .int .u64 (seed : Int)] 29)) := (Below.refl _ _).alloc (Nat.le_refl _) _
  have := h.at_.lts
  exact ⟨h.below hb, hn.below hb, heap_next rfl _, by omega⟩
theorem of_set (h : Ps w S G t V seed bs v W) (hn : Nv W G V (8 * bs.length) bs' v') (z : Z29 V2 W) (ha : Away w S G V v V2) (ho : ∀ b, v'.ownBlock = some b → b ≠ V2) : Nx w S G t V seed bs v V2 bs' v' ((W.setCell ⟨V2, 0, none⟩ v').setCell ⟨V2, 1, none⟩ (.int .u64 (seed : Int))) := by
  have hk : Keep (fun b => b ≠ V2) W ((W.setCell ⟨V2, 0, none⟩ v').setCell ⟨V2, 1, none⟩ (.int .u64 (seed : Int))) := (Keep.setCell _ _ _ fun h => h rfl).trans (Keep.setCell _ _ _ fun h => h rfl)
  exact ⟨h.keep hk ha, hn.keep hk ho, put2 _ _ z, ha.2.1⟩
theorem of_alloc' {n : Nat} (e : 8 * bs.length = n) (h : Ps w S G t V seed bs v W) (hn : Nv W G V n bs' v') : Nx w S G t V seed bs v W.heap.size bs' v' (W.alloc (.cells #[v', .int .u64 (seed : Int)] 29)) := by
  subst e
  exact of_alloc h hn
theorem of_set' {n : Nat} (e : 8 * bs.length = n) (h : Ps w S G t V seed bs v W) (hn : Nv W G V n bs' v') (z : Z29 V2 W) (ha : Away w S G V v V2) (ho : ∀ b, v'.ownBlock = some b → b ≠ V2) : Nx w S G t V seed bs v V2 bs' v' ((W.setCell ⟨V2, 0, none⟩ v').setCell ⟨V2, 1, none⟩ (.int .u64 (seed : Int))) := by
  subst e
  exact of_set h hn z ha ho
theorem cells (h : Nx w S G t V seed bs v V2 bs' v' W) : W.cell? ⟨V2, 0, none⟩ = some v' ∧ W.cell? ⟨V2, 1, none⟩ = some (.int .u64 (seed : Int)) := ⟨by rw [cell_of h.box]; rfl, by rw [cell_of h.box]; rfl⟩
end Nx
/-- .. and the key is put into the door too. -/
structure Ny (w : World) (S G t V seed : Nat) (v : Value) (V2 : Nat) (bs' : List Nat) (v' : Value) (W : World) : Prop where
  at_ : At w S G t bs' W
  nv : Nv W G V (8 * bs'.length) bs' v'
  box : W.heap[V]? = some (.cells #[v, .int .u64 (seed : Int)] 29 (0, 0))
  box2 : W.heap[V2]? = some (.cells #[v', .int .u64 (seed : Int)] 29 (0, 0))
  far : V ≠ G
  sd : t = mixF seed
  lw : seed < 18446744073709551616
  le : w.heap.size ≤ V
namespace Ny
variable {w W B : World} {S G t V seed V2 : Nat} {bs bs' : List Nat} {v v' : Value}
theorem below (h : Ny w S G t V seed v V2 bs' v' W) (hb : Below W.heap.size W B) : Ny w S G t V seed v V2 bs' v' B := ⟨h.at_.below hb, h.nv.below hb, (hb.block V (heap_lt h.box)).trans h.box, (hb.block V2 (heap_lt h.box2)).trans h.box2, h.far, h.sd, h.lw, h.le⟩
theorem drewN (h : Ny w S G t V seed v V2 bs' v' W) (q : Nat) : Ny w S G t V seed v V2 bs' v' (W.drewN q) := h.below ⟨rfl, rfl, rfl, Nat.le_refl _, fun _ _ => rfl⟩
theorem cells (h : Ny w S G t V seed v V2 bs' v' W) : (W.cell? ⟨V2, 0, none⟩ = some v' ∧ W.cell? ⟨V2, 1, none⟩ = some (.int .u64 (seed : Int))) ∧ W.cell? ⟨V, 0, none⟩ = some v ∧ W.cell? ⟨V, 1, none⟩ = some (.int .u64 (seed : Int)) ∧ W.frozen? ⟨V, 0, none⟩ = false ∧ W.frozen? ⟨V, 1, none⟩ = false := ⟨⟨by rw [cell_of h.box2]; rfl, by rw [cell_of h.box2]; rfl⟩, by rw [cell_of h.box]; rfl, by rw [cell_of h.box]; rfl, frozen_of h.box 0, frozen_of h.box 1⟩
theorem k15 (h : Ny w S G t V seed v V2 bs' v' W) : Calls Tryd.prog 15 #[.pointer (some ⟨S, 0, none⟩)] W fun e B => e = .returned (.int .i64 (fullB bs' : Int)) ∧ B = W := full_some h.at_.dr
theorem k16 (h : Ny w S G t V seed v V2 bs' v' W) : Calls Tryd.prog 16 #[dv v' seed] W fun e B => e = .returned (.int .i64 (fullB bs' : Int)) ∧ Hid (Below W.heap.size W B) := reffull_any seed h.nv.q h.at_.dr.lid h.at_.dr.low
/-- the document's next door is the door. -/
theorem set (h : Ny w S G t V seed v V2 bs' v' W) : Ps w S G t V seed bs' v' ((W.setCell ⟨V, 0, none⟩ v').setCell ⟨V, 1, none⟩ (.int .u64 (seed : Int))) := by
  have hk : Keep (fun b => b ≠ V) W ((W.setCell ⟨V, 0, none⟩ v').setCell ⟨V, 1, none⟩ (.int .u64 (seed : Int))) := (Keep.setCell _ _ _ fun h => h rfl).trans (Keep.setCell _ _ _ fun h => h rfl)
  have h1 := h.at_.dr.head
  have hS : S ≠ V := fun e => by rw [e, h.box] at h1; simp at h1
  have hl := h.le
  exact ⟨⟨h.at_.dr.keep hk hS (fun e => h.far e.symm), h.at_.since hk fun k hk' => by show k ≠ V; omega, h.at_.le, h.at_.le'⟩, h.nv.q.keep hk fun b hb => (h.nv.own b hb).2, h.nv.own, put2 _ _ h.box, h.far, h.sd, h.lw, h.le⟩
end Ny
theorem Nx.k14 {w W : World} {S G t V seed V2 : Nat} {bs : List Nat} {v v' : Value} (x : Nat) (hx : x < 18446744073709551616) (h : Nx w S G t V seed bs v V2 (putB (plN t (8 * bs.length) x) bs) v' W) : Calls Tryd.prog 14 #[.pointer (some ⟨S, 0, none⟩), .int .u64 (x : Int)] W fun e B => e = .returned (.bool (!hasB (plN t (8 * bs.length) x) bs)) ∧ Hid (Ny w S G t V seed v V2 (putB (plN t (8 * bs.length) x) bs) v' B) :=
  (put_some h.ps.at_ x hx).mono fun _ _ ⟨he, h1, hk⟩ => ⟨he, ⟨h1, by rw [putB_len]; exact h.nv.keep hk fun b hb => (h.nv.own b hb).1, hk.heap h.ps.box h.ps.far, hk.heap h.box h.far, h.ps.far, h.ps.sd, h.ps.lw, h.ps.le⟩⟩
theorem full_zeros (m : Nat) : fullB (List.replicate m 0) = 0 := by
  have : wd.popN 64 0 = 0 := pop_zero 64
  unfold fullB
  rw [List.map_replicate, this]
  simp
theorem own_away {w : World} {S G V n : Nat} {v v' : Value} {k : Nat} (ha : Away w S G V v k) (hk : k < n) (h : ∀ b, v'.ownBlock = some b → v.ownBlock = some b ∨ n ≤ b) : ∀ b, v'.ownBlock = some b → b ≠ k := fun b hb => by
  rcases h b hb with h | h
  · exact ha.2.2.2.1 b h
  · omega
end Go.Proofs.YtmfdobppihjjkaaDoor
