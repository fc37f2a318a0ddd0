/-
  A tiny and the document's side by side ('Pt'); a slice of lists of keys that came in ('Lists').
-/
import Derived.Test.YthjbkabkoolfdaaDoorRz
namespace Go.Proofs.YthjbkabkoolfdaaDoor
open Go.RowKit
open nb (Keep ct cell_of frozen_of heap_set heap_set_other heap_old heap_next heap_lt addAt mayAdd)
/-- the slice at p reads as the lists ls. -/
def Lists (w : World) (p : Option Addr) (ls : List (List Nat)) : Prop :=
  0 < ls.length → ∃ b o, p = some ⟨b, o, none⟩ ∧ ∀ i (h : i < ls.length), ∃ q cap, w.cell? ⟨b, o + i, none⟩ = some (.slice q ls[i].length cap) ∧ Keys w q ls[i]
theorem Lists.at_ {w W : World} {p : Option Addr} {ls : List (List Nat)} (h : Lists w p ls) (hb : Below w.heap.size w W) (i : Nat) (hi : i < ls.length) : ∃ b o q cap l, p = some ⟨b, o, none⟩ ∧ ls[i]? = some l ∧ W.cell? ⟨b, o + i, none⟩ = some (.slice q l.length cap) ∧ Keys w q l := by
  obtain ⟨b, o, rfl, hj⟩ := h (by omega)
  obtain ⟨q, cap, h1, h2⟩ := hj i hi
  exact ⟨b, o, q, cap, ls[i], rfl, by simp [hi], (hb.cell (p := ⟨b, o + i, none⟩) (World.block_lt_of_cell? w ⟨b, o + i, none⟩ h1)).trans h1, h2⟩
/-- what came in is far from the tiny. -/
theorem Keys.far {w0 W : World} {a : Ad} {c : Cs} {z : Zs} {q : Option Addr} {l : List Nat} (h : Keys w0 q l) (hA : At w0 a c z W) : Ks (far a) W q l := fun h0 => by
  obtain ⟨b, o, rfl, hi⟩ := h h0
  have hb := World.block_lt_of_cell? w0 ⟨b, o + 0, none⟩ (hi 0 h0).1
  exact ⟨b, o, rfl, hA.far_old hb, fun i hil => ⟨(hA.old.2.cell (p := ⟨b, o + i, none⟩) hb).trans (hi i hil).1, (hi i hil).2⟩⟩
theorem Keys.next {w W : World} {q : Option Addr} {l : List Nat} (h : Keys w q l) (hb : Below w.heap.size w W) : Keys W q l := fun h0 => by
  obtain ⟨b, o, rfl, hi⟩ := h h0
  exact ⟨b, o, rfl, fun i hil => ⟨(hb.cell (p := ⟨b, o + i, none⟩) (World.block_lt_of_cell? w ⟨b, o + i, none⟩ (hi i hil).1)).trans (hi i hil).1, (hi i hil).2⟩⟩
/-- the tiny knows z; the document's knows y and lies in the box V; each apart. -/
structure Pt (w : World) (a : Ad) (c : Cs) (z y : Zs) (V : Nat) (v u : Value) (W : World) : Prop where
  at_ : At w a c z W
  rv : Rv (fun b => far a b ∧ b ≠ V) W c y.f y.bs v u
  box : W.heap[V]? = some (.cells (tc c (y.cnt : Int) (y.aged : Int) v u) 34 (0, 0))
  fv : far a V
  fd : V ≠ a.D
  le : w.heap.size ≤ V
namespace Pt
variable {w W B : World} {a : Ad} {c : Cs} {z z' y y' : Zs} {V : Nat} {v u v' u' : Value}
theorem old (h : Pt w a c z y V v u W) : Below w.heap.size w W := h.at_.old.2
theorem below (h : Pt w a c z y V v u W) (hb : Below W.heap.size W B) : Pt w a c z y V v u B :=
  ⟨h.at_.below hb, h.rv.below hb, (hb.block V (heap_lt h.box)).trans h.box, h.fv, h.fd, h.le⟩
theorem drewN (h : Pt w a c z y V v u W) (q : Nat) : Pt w a c z y V v u (W.drewN q) := h.below ⟨rfl, rfl, rfl, Nat.le_refl _, fun _ _ => rfl⟩
theorem drew (h : Pt w a c z y V v u W) : Pt w a c z y V v u W.drew := h.below ⟨rfl, rfl, rfl, Nat.le_refl _, fun _ _ => rfl⟩
/-- the tiny turns. -/
theorem turn (h : Pt w a c z y V v u W) (hA : At w a c z' B) (hk : Keep (far a) W B) : Pt w a c z' y V v u B :=
  ⟨hA, h.rv.keep (hk.mono fun _ _ h => h.1), hk.heap h.box h.fv, h.fv, h.fd, h.le⟩
/-- the document's is laid anew. -/
theorem set (h : Pt w a c z y V v u W) (hr : Rv (fun b => far a b ∧ b ≠ V) W c y'.f y'.bs v' u') : Pt w a c z y' V v' u' (set10 W V v' (.int .i64 (c.n : Int)) (.int .u64 (c.seed : Int)) u' (.int .u64 (c.seed : Int)) (.int .i64 (y'.cnt : Int)) (.int .i64 (c.lim : Int)) (.int .i64 (y'.aged : Int)) (.int .i64 0) (.int .u64 (c.seed : Int))) := by
  have hk := keep10 W V v' (.int .i64 (c.n : Int)) (.int .u64 (c.seed : Int)) u' (.int .u64 (c.seed : Int)) (.int .i64 (y'.cnt : Int)) (.int .i64 (c.lim : Int)) (.int .i64 (y'.aged : Int)) (.int .i64 0) (.int .u64 (c.seed : Int))
  have hp := put10 v' (.int .i64 (c.n : Int)) (.int .u64 (c.seed : Int)) u' (.int .u64 (c.seed : Int)) (.int .i64 (y'.cnt : Int)) (.int .i64 (c.lim : Int)) (.int .i64 (y'.aged : Int)) (.int .i64 0) (.int .u64 (c.seed : Int)) h.box
  obtain ⟨f1, f2, f3⟩ := h.fv
  have hle := h.le
  have hA := h.at_
  have hs : mx.Since w (set10 W V v' (.int .i64 (c.n : Int)) (.int .u64 (c.seed : Int)) u' (.int .u64 (c.seed : Int)) (.int .i64 (y'.cnt : Int)) (.int .i64 (c.lim : Int)) (.int .i64 (y'.aged : Int)) (.int .i64 0) (.int .u64 (c.seed : Int))) := ⟨hA.old.1, hA.old.2.trans (hk.below (fun k hk => by show k ≠ V; omega) hA.old.2.size)⟩
  refine ⟨⟨hk.heap hA.box (fun e => f3 e.symm), ⟨hA.s.sk.keep hk fun k h1 h2 => by show k ≠ V; omega, hs, hA.s.le⟩, ⟨hA.d.dr.keep (toDr hk) (fun e => h.fd e.symm) (fun e => f2 e.symm), hs, hA.d.le, hA.d.le'⟩, hA.o1, hA.o2, hA.o3, hA.o4, hA.o5, hA.ln, hA.lid⟩, hr.keep (hk.mono fun _ _ h => h.2), hp, h.fv, h.fd, h.le⟩
theorem cells (h : Pt w a c z y V v u W) : Rb.Cl V c y.cnt y.aged v u W := by
  have hb := h.box
  exact ⟨by rw [cell_of hb]; rfl, by rw [cell_of hb]; rfl, by rw [cell_of hb]; rfl, by rw [cell_of hb]; rfl, by rw [cell_of hb]; rfl, by rw [cell_of hb]; rfl, by rw [cell_of hb]; rfl, by rw [cell_of hb]; rfl, by rw [cell_of hb]; rfl, by rw [cell_of hb]; rfl⟩
theorem fr (h : Pt w a c z y V v u W) (i : Nat) : W.frozen? ⟨V, i, none⟩ = false := frozen_of h.box i
theorem past (h : Pt w a c z y V v u W) : ∀ b, W.heap.size ≤ b → (far a b ∧ b ≠ V) := fun b hb => ⟨h.at_.far_new hb, by have := heap_lt h.box; omega⟩
/-- behind the two News. -/
theorem start {w1 w2 : World} {z : Zs} (hA : At w a c z w1) (hb : Below w1.heap.size w1 w2) (hr : Rv (fun b => w1.heap.size ≤ b) w2 c z.f z.bs v u) : Pt w a c z z w2.heap.size v u (w2.alloc (.cells (tc c (z.cnt : Int) (z.aged : Int) v u) 34)) := by
  have hba : Below w2.heap.size w2 (w2.alloc (.cells (tc c (z.cnt : Int) (z.aged : Int) v u) 34)) := (Below.refl _ _).alloc (Nat.le_refl _) _
  have hz := hb.size
  have hl := hA.lts
  have ho := hA.old.2.size
  refine ⟨(hA.below hb).below hba, (hr.strong.below hba).mono fun b hb => ⟨hA.far_new hb.1, by have := hb.2; omega⟩, heap_next rfl _, hA.far_new hz, by omega, by omega⟩
/-- the tiny's calls. -/
theorem k8 (h : Pt w a c z y V v u W) {q : Option Addr} {cap : Nat} {l : List Nat} (hq : Keys w q l) (k : Nat) (ho : Ok c k z) (hl : k + l.length ≤ 1000000) : Calls Tryd.prog 8 #[.pointer (some ⟨a.T, 0, none⟩), .slice q l.length cap] W fun e B => e = .returned (.tuple #[]) ∧ Hid (Pt w a c (pushZ c l z) y V v u B) :=
  (push_any h.at_ q cap l (hq.far h.at_) k ho hl).mono fun _ _ ⟨he, h1, h2⟩ => ⟨he, h.turn h1 h2⟩
theorem k13 (h : Pt w a c z y V v u W) (x : Nat) (hx : x < 18446744073709551616) : Calls Tryd.prog 13 #[.pointer (some ⟨a.T, 0, none⟩), .int .u64 (x : Int)] W fun e B => e = .returned (.int .i64 (estZ c x z : Int)) ∧ Hid (Pt w a c z y V v u B) :=
  (h.at_.est_any x hx).mono fun _ _ ⟨he, hb⟩ => ⟨he, h.below hb⟩
theorem k14 (h : Pt w a c z y V v u W) (x : Nat) (hx : x < 18446744073709551616) : Calls Tryd.prog 14 #[tv c (y.cnt : Int) (y.aged : Int) v u, .int .u64 (x : Int)] W fun e B => e = .returned (.int .i64 (estZ c x y : Int)) ∧ Hid (Pt w a c z y V v u B) :=
  (refest_any h.rv x hx _ _).mono fun _ _ ⟨he, hb⟩ => ⟨he, h.below hb⟩
theorem k15 (h : Pt w a c z y V v u W) : Calls Tryd.prog 15 #[.pointer (some ⟨a.T, 0, none⟩)] W fun e B => e = .returned (.tuple #[]) ∧ Hid (Pt w a c ⟨zerosS c, zerosD c, 0, 0⟩ y V v u B) :=
  h.at_.clear_any.mono fun _ _ ⟨he, h1, h2⟩ => ⟨he, h.turn h1 h2⟩
theorem k5 (h : Pt w a c z y V v u W) : Calls Tryd.prog 5 #[] W fun e B => e = .returned (.bool true) ∧ Hid (Below w.heap.size w B) :=
  (awake_any w W h.at_.old).mono fun _ _ ⟨he, hb⟩ => ⟨he, h.old.trans (hb.out.mono h.old.size)⟩
/-- the document's Push: what it leaves, and the box behind the store. -/
theorem k9 (h : Pt w a c z y V v u W) {q : Option Addr} {cap : Nat} {l : List Nat} (hq : Keys w q l) (k : Nat) (ho : Ok c k y) (hl : k + l.length ≤ 1000000) : Calls Tryd.prog 9 #[tv c (y.cnt : Int) (y.aged : Int) v u, .slice q l.length cap] W fun e B => ∃ a1 k1 a2 k2, e = .returned (tv c ((pushZ c l y).cnt : Int) ((pushZ c l y).aged : Int) (.slice a1 4 k1) (.slice a2 (8 * c.m) k2)) ∧ (Rb.Cl V c y.cnt y.aged v u B ∧ ∀ i, B.frozen? ⟨V, i, none⟩ = false) ∧
    Hid (Pt w a c z (pushZ c l y) V (.slice a1 4 k1) (.slice a2 (8 * c.m) k2) (set10 B V (.slice a1 4 k1) (.int .i64 (c.n : Int)) (.int .u64 (c.seed : Int)) (.slice a2 (8 * c.m) k2) (.int .u64 (c.seed : Int)) (.int .i64 ((pushZ c l y).cnt : Int)) (.int .i64 (c.lim : Int)) (.int .i64 ((pushZ c l y).aged : Int)) (.int .i64 0) (.int .u64 (c.seed : Int)))) :=
  (refpush13 h.rv h.past q cap l (hq.next h.old) k ho hl h.at_.lid).mono fun e B ⟨v', u', he, hr, hb⟩ => by
    obtain ⟨a1, k1, rfl⟩ := hr.vs
    obtain ⟨a2, k2, rfl⟩ := hr.us
    have h2 := h.below hb
    exact ⟨a1, k1, a2, k2, he, ⟨h2.cells, h2.fr⟩, h2.set hr⟩
end Pt
end Go.Proofs.YthjbkabkoolfdaaDoor
