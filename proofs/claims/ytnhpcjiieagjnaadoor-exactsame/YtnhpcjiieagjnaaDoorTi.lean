/-
  A tiny as it lies in memory ('At'): a sketch, a door and a box of its own; what turns one of them (put, adds, halves, cleared).
-/
import Derived.Test.YtnhpcjiieagjnaaDoorSkDo
import Derived.Test.YtnhpcjiieagjnaaDoorDrPut
import Derived.Test.YtnhpcjiieagjnaaDoorDrNe
namespace Go.Proofs.YtnhpcjiieagjnaaDoor
open Go.RowKit
open nb (Keep ct cell_of frozen_of heap_set heap_set_other heap_old heap_next heap_lt)
/-- what a tiny is made of: its seed, how wide the sketch is, how many bytes the door has, its limit. -/
structure Cs where
  seed : Nat
  n : Nat
  m : Nat
  lim : Nat
/-- what it knows: the sketch's rows, the door's bytes, the count, how often all was aged. -/
structure Zs where
  f : Nat → List Nat
  bs : List Nat
  cnt : Nat
  aged : Nat
/-- where it lies: the sketch in nine blocks from S on, the door in D, its bytes in G, the tiny in T. -/
structure Ad where
  S : Nat
  D : Nat
  G : Nat
  T : Nat
/-- whether the door has a key. -/
noncomputable def hasZ (c : Cs) (x : Nat) (bs : List Nat) : Bool := dr.hasB (dr.plN (dr.mixF c.seed) (8 * c.m) x) bs
noncomputable def putZ (c : Cs) (x : Nat) (bs : List Nat) : List Nat := dr.putB (dr.plN (dr.mixF c.seed) (8 * c.m) x) bs
noncomputable def addsZ (c : Cs) (x : Nat) (f : Nat → List Nat) : Nat → List Nat := sk.adds c.seed c.n x f
def halvesZ (f : Nat → List Nat) : Nat → List Nat := sk.halves f
def zerosS (c : Cs) : Nat → List Nat := fun _ => List.replicate c.n 0
def zerosD (c : Cs) : List Nat := List.replicate c.m 0
noncomputable def cntZ (c : Cs) (x : Nat) (f : Nat → List Nat) : Nat := sk.cntN c.seed c.n x f
/-- blocks that are not a tiny's own (its door's header never turns). -/
def far (a : Ad) (k : Nat) : Prop := (k < a.S ∨ a.S + 9 ≤ k) ∧ k ≠ a.G ∧ k ≠ a.T
theorem toDr {K : Nat → Prop} {A B : World} (h : Keep K A B) : dr.Keep K A B := ⟨h.os, h.tape, h.output, h.size, h.block⟩
theorem ofDr {K : Nat → Prop} {A B : World} (h : dr.Keep K A B) : Keep K A B := ⟨h.os, h.tape, h.output, h.size, h.block⟩
theorem keep_below {K : Nat → Prop} {W B : World} (hb : Below W.heap.size W B) : Keep K W B := sk.keep_below hb
/-- a tiny lies behind what lay in w0. -/
structure At (w0 : World) (a : Ad) (c : Cs) (z : Zs) (W : World) : Prop where
  box : W.heap[a.T]? = some (.cells #[.pointer (some ⟨a.S, 0, none⟩), .pointer (some ⟨a.D, 0, none⟩), .int .i64 (c.lim : Int), .int .i64 (z.cnt : Int), .int .i64 (z.aged : Int)] 52 (0, 0))
  s : sk.At w0 a.S c.seed c.n z.f W
  d : dr.At w0 a.D a.G (dr.mixF c.seed) z.bs W
  o1 : a.S + 9 ≤ a.D
  o2 : a.S + 9 ≤ a.G
  o3 : a.S + 9 ≤ a.T
  o4 : a.D ≠ a.T
  o5 : a.G ≠ a.T
  ln : z.bs.length = c.m
  lid : c.lim ≤ 4096
namespace At
variable {w0 W B : World} {a : Ad} {c : Cs} {z : Zs}
theorem old (h : At w0 a c z W) : mx.Since w0 W := h.s.old
theorem below (h : At w0 a c z W) (hb : Below W.heap.size W B) : At w0 a c z B :=
  ⟨(hb.block a.T (heap_lt h.box)).trans h.box, h.s.below hb, h.d.below hb, h.o1, h.o2, h.o3, h.o4, h.o5, h.ln, h.lid⟩
theorem drewN (h : At w0 a c z W) (q : Nat) : At w0 a c z (W.drewN q) := h.below ⟨rfl, rfl, rfl, Nat.le_refl _, fun _ _ => rfl⟩
theorem drew (h : At w0 a c z W) : At w0 a c z W.drew := h.below ⟨rfl, rfl, rfl, Nat.le_refl _, fun _ _ => rfl⟩
theorem lts (h : At w0 a c z W) : a.S + 9 ≤ W.heap.size ∧ a.D < W.heap.size ∧ a.G < W.heap.size ∧ a.T < W.heap.size := ⟨h.s.sk.lt, h.d.lts.1, h.d.lts.2, heap_lt h.box⟩
theorem far_new (h : At w0 a c z W) {k : Nat} (hk : W.heap.size ≤ k) : far a k := by
  obtain ⟨h1, h2, h3, h4⟩ := h.lts
  exact ⟨.inr (by omega), by omega, by omega⟩
theorem far_old (h : At w0 a c z W) {k : Nat} (hk : k < w0.heap.size) : far a k := by
  have h1 := h.s.le
  have h2 := h.d.le'
  have h3 := h.o3
  exact ⟨.inl (by omega), by omega, by omega⟩
/-- the sketch turns. -/
theorem turnS {f : Nat → List Nat} (h : At w0 a c z W) (hs : sk.At w0 a.S c.seed c.n f B) (hk : Keep (sk.out a.S) W B) : At w0 a c ⟨f, z.bs, z.cnt, z.aged⟩ B :=
  ⟨hk.heap h.box (.inr h.o3), hs, ⟨h.d.dr.keep (toDr hk) (.inr h.o1) (.inr h.o2), h.s.since hk, h.d.le, h.d.le'⟩, h.o1, h.o2, h.o3, h.o4, h.o5, h.ln, h.lid⟩
/-- the door's bytes turn. -/
theorem turnD {bs : List Nat} (h : At w0 a c z W) (hd : dr.At w0 a.D a.G (dr.mixF c.seed) bs B) (hk : Keep (fun k => k ≠ a.G) W B) (hl : bs.length = c.m) : At w0 a c ⟨z.f, bs, z.cnt, z.aged⟩ B := by
  have := h.o2
  refine ⟨hk.heap h.box (fun e => h.o5 e.symm), ⟨h.s.sk.keep hk fun k h1 h2 => by show k ≠ a.G; omega, hd.old, h.s.le⟩, hd, h.o1, h.o2, h.o3, h.o4, h.o5, hl, h.lid⟩
/-- the box turns. -/
theorem turnT {cnt aged : Nat} (h : At w0 a c z W) (hb : B.heap[a.T]? = some (.cells #[.pointer (some ⟨a.S, 0, none⟩), .pointer (some ⟨a.D, 0, none⟩), .int .i64 (c.lim : Int), .int .i64 (cnt : Int), .int .i64 (aged : Int)] 52 (0, 0))) (hk : Keep (fun k => k ≠ a.T) W B) : At w0 a c ⟨z.f, z.bs, cnt, aged⟩ B := by
  have h3 := h.o3
  have h4 := h.s.le
  have hs : mx.Since w0 B := ⟨h.old.1, h.old.2.trans (hk.below (fun k hk => by show k ≠ a.T; omega) h.old.2.size)⟩
  exact ⟨hb, ⟨h.s.sk.keep hk fun k h1 h2 => by show k ≠ a.T; omega, hs, h.s.le⟩, ⟨h.d.dr.keep (toDr hk) h.o4 h.o5, hs, h.d.le, h.d.le'⟩, h.o1, h.o2, h.o3, h.o4, h.o5, h.ln, h.lid⟩
theorem c0 (h : At w0 a c z W) : W.cell? ⟨a.T, 0, none⟩ = some (.pointer (some ⟨a.S, 0, none⟩)) := by rw [cell_of h.box]; rfl
theorem c1 (h : At w0 a c z W) : W.cell? ⟨a.T, 1, none⟩ = some (.pointer (some ⟨a.D, 0, none⟩)) := by rw [cell_of h.box]; rfl
theorem c2 (h : At w0 a c z W) : W.cell? ⟨a.T, 2, none⟩ = some (.int .i64 (c.lim : Int)) := by rw [cell_of h.box]; rfl
theorem c3 (h : At w0 a c z W) : W.cell? ⟨a.T, 3, none⟩ = some (.int .i64 (z.cnt : Int)) := by rw [cell_of h.box]; rfl
theorem c4 (h : At w0 a c z W) : W.cell? ⟨a.T, 4, none⟩ = some (.int .i64 (z.aged : Int)) := by rw [cell_of h.box]; rfl
theorem fr (h : At w0 a c z W) (i : Nat) : W.frozen? ⟨a.T, i, none⟩ = false := frozen_of h.box i
theorem keepS (hk : Keep (sk.out a.S) W B) : Keep (far a) W B := hk.mono fun _ _ h => h.1
theorem keepD (hk : Keep (fun k => k ≠ a.G) W B) : Keep (far a) W B := hk.mono fun _ _ h => h.2.1
theorem keepT (hk : Keep (fun k => k ≠ a.T) W B) : Keep (far a) W B := hk.mono fun _ _ h => h.2.2
/-- the parts' own calls. -/
theorem k43 (h : At w0 a c z W) (x : Nat) (hx : x < 18446744073709551616) : Calls Tryd.prog 45 #[.pointer (some ⟨a.D, 0, none⟩), .int .u64 (x : Int)] W fun e B => e = .returned (.bool (!hasZ c x z.bs)) ∧ At w0 a c ⟨z.f, putZ c x z.bs, z.cnt, z.aged⟩ B ∧ Keep (far a) W B := by
  have := dr.put_some h.d x hx
  rw [h.ln] at this
  refine this.mono fun e B ⟨he, h1, h2⟩ => ⟨he, h.turnD h1 (ofDr h2) ?_, keepD (ofDr h2)⟩
  show (dr.putB _ _).length = c.m
  rw [dr.putB_len]; exact h.ln
theorem k44 (h : At w0 a c z W) (x : Nat) (hx : x < 18446744073709551616) : Calls Tryd.prog 46 #[.pointer (some ⟨a.S, 0, none⟩), .int .u64 (x : Int)] W fun e B => e = .returned (.tuple #[]) ∧ At w0 a c ⟨addsZ c x z.f, z.bs, z.cnt, z.aged⟩ B ∧ Keep (far a) W B :=
  (sk.add_some h.s x hx).mono fun _ _ ⟨he, h1, h2⟩ => ⟨he, h.turnS h1 h2, keepS h2⟩
theorem k57 (h : At w0 a c z W) : Calls Tryd.prog 71 #[.pointer (some ⟨a.S, 0, none⟩)] W fun e B => e = .returned (.tuple #[]) ∧ At w0 a c ⟨halvesZ z.f, z.bs, z.cnt, z.aged⟩ B ∧ Keep (far a) W B :=
  (sk.halve_some h.s).mono fun _ _ ⟨he, h1, h2⟩ => ⟨he, h.turnS h1 h2, keepS h2⟩
theorem k42 (h : At w0 a c z W) : Calls Tryd.prog 72 #[.pointer (some ⟨a.D, 0, none⟩)] W fun e B => e = .returned (.tuple #[]) ∧ At w0 a c ⟨z.f, zerosD c, z.cnt, z.aged⟩ B ∧ Keep (far a) W B := by
  have := dr.clear_some h.d
  rw [h.ln] at this
  exact this.mono fun _ _ ⟨he, h1, h2⟩ => ⟨he, h.turnD h1 (ofDr h2) (List.length_replicate ..), keepD (ofDr h2)⟩
theorem k37 (h : At w0 a c z W) (x : Nat) (hx : x < 18446744073709551616) : Calls Tryd.prog 52 #[.pointer (some ⟨a.D, 0, none⟩), .int .u64 (x : Int)] W fun e B => e = .returned (.bool (hasZ c x z.bs)) ∧ Below W.heap.size W B := by
  have := dr.has_some h.d.dr h.d.old x hx
  rw [h.ln] at this
  exact this
theorem k38 (h : At w0 a c z W) (x : Nat) (hx : x < 18446744073709551616) : Calls Tryd.prog 53 #[.pointer (some ⟨a.S, 0, none⟩), .int .u64 (x : Int)] W fun e B => e = .returned (.int .i64 (cntZ c x z.f : Int)) ∧ Below W.heap.size W B := sk.count_some h.s x hx
end At
end Go.Proofs.YtnhpcjiieagjnaaDoor
