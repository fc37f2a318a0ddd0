/-
  A tiny and an exact side by side since a law began ('Both'): what is done to one leaves the other.
-/
import Derived.Test.YtnhpcjiieagjnaaDoorEx
namespace Go.Proofs.YtnhpcjiieagjnaaDoor
open Go.RowKit
open nb (Keep ct cell_of frozen_of heap_set heap_set_other heap_old heap_next heap_lt)
open rk (Ez addE es0 estE runE run_next run_cnt)
theorem toRk {K : Nat → Prop} {A B : World} (h : Keep K A B) : rk.Keep K A B := ⟨h.os, h.tape, h.output, h.size, h.block⟩
theorem ofRk {K : Nat → Prop} {A B : World} (h : rk.Keep K A B) : Keep K A B := ⟨h.os, h.tape, h.output, h.size, h.block⟩
/-- a block of a tree or an exact is none of a tiny's. -/
theorem At.farT {w0 W : World} {a : Ad} {c : Cs} {z : Zs} (h : At w0 a c z W) (k : Nat) (cs : Array Value) (ty : TypeId) (hk : W.heap[k]? = some (.cells cs ty (0, 0))) (hty : ty = 88 ∨ ty = 90 ∨ ty = 56) : far a k := by
  have no : ∀ (j : Nat) (cs' : Array Value) (ty' : TypeId), W.heap[j]? = some (.cells cs' ty' (0, 0)) → (ty' = 74 ∨ ty' = 111 ∨ ty' = 5 ∨ ty' = 52) → k ≠ j := fun j cs' ty' hj hty' e => by
    subst e
    rw [hk] at hj
    simp only [Option.some.injEq, Obj.cells.injEq] at hj
    obtain ⟨_, rfl, _⟩ := hj
    rcases hty with rfl | rfl | rfl <;> rcases hty' with h | h | h | h <;> cases h
  refine ⟨?_, no _ _ _ h.d.dr.body (by simp), no _ _ _ h.box (by simp)⟩
  have h0 := no _ _ _ h.s.sk.head (by simp)
  have h1 := fun i hi => no _ _ _ (h.s.sk.row i hi).head (by simp)
  have h2 := fun i hi => no _ _ _ (h.s.sk.row i hi).body (by simp)
  have a0 := h1 0 (by decide)
  have a1 := h1 1 (by decide)
  have a2 := h1 2 (by decide)
  have a3 := h1 3 (by decide)
  have b0 := h2 0 (by decide)
  have b1 := h2 1 (by decide)
  have b2 := h2 2 (by decide)
  have b3 := h2 3 (by decide)
  omega
/-- what turns one block behind a tiny leaves it. -/
theorem At.apart {w0 W B : World} {a : Ad} {c : Cs} {z : Zs} {X : Nat} (h : At w0 a c z W) (hk : Keep (fun k => k ≠ X) W B) (hX : a.S + 9 ≤ X ∧ a.D < X ∧ a.G < X ∧ a.T < X) : At w0 a c z B := by
  have h4 := h.s.le
  have hs : mx.Since w0 B := ⟨h.old.1, h.old.2.trans (hk.below (fun k hk => by show k ≠ X; omega) h.old.2.size)⟩
  exact ⟨hk.heap h.box (by omega), ⟨h.s.sk.keep hk fun k h1 h2 => by show k ≠ X; omega, hs, h.s.le⟩, ⟨h.d.dr.keep (toDr hk) (by omega) (by omega), hs, h.d.le, h.d.le'⟩, h.o1, h.o2, h.o3, h.o4, h.o5, h.ln, h.lid⟩
/-- both, side by side: at most n keys came. -/
structure Both (w : World) (a : Ad) (c : Cs) (X n : Nat) (z : Zs) (e : Ez) (V : World) : Prop where
  ti : At w a c z V
  ex : ∃ g t, rk.Xg V X g t c.lim e ∧ t.list.length ≤ n
  ap : a.S + 9 ≤ X ∧ a.D < X ∧ a.G < X ∧ a.T < X
namespace Both
variable {w V B : World} {a : Ad} {c : Cs} {X n : Nat} {z : Zs} {e : Ez}
theorem old (h : Both w a c X n z e V) : Below w.heap.size w V := h.ti.old.2
theorem below (h : Both w a c X n z e V) (hb : Below V.heap.size V B) : Both w a c X n z e B := by
  obtain ⟨h1, ⟨g, t, h2, h3⟩, h4⟩ := h
  exact ⟨h1.below hb, ⟨g, t, h2.below hb, h3⟩, h4⟩
theorem drewN (h : Both w a c X n z e V) (q : Nat) : Both w a c X n z e (V.drewN q) := h.below ⟨rfl, rfl, rfl, Nat.le_refl _, fun _ _ => rfl⟩
theorem add8 (h : Both w a c X n z e V) (x : Nat) (hx : x < 18446744073709551616) (hz : z.cnt < c.lim) (ha : z.aged ≤ 1000000) : Calls Tryd.prog 8 #[.pointer (some ⟨a.T, 0, none⟩), .int .u64 (x : Int)] V fun r B => r = .returned (.tuple #[]) ∧ Hid (Both w a c X n (addZ c x z) e B) := by
  obtain ⟨h1, ⟨g, t, h2, h3⟩, h4⟩ := h
  exact (h1.add_any x hx hz ha).mono fun _ _ ⟨he, hA, hk⟩ => ⟨he, hA, ⟨g, t, h2.keepT (toRk hk) (h1.farT), h3⟩, h4⟩
theorem add9 (h : Both w a c X n z e V) (x : Nat) (hc : e.cnt < c.lim) (hn : n ≤ 1000000) : Calls Tryd.prog 9 #[.pointer (some ⟨X, 0, none⟩), .int .u64 (x : Int)] V fun r B => r = .returned (.tuple #[]) ∧ Hid (Both w a c X (n + 1) z (addE c.lim x e) B) := by
  obtain ⟨h1, ⟨g, t, h2, h3⟩, h4⟩ := h
  refine (h2.add_any x h1.lid hc (by omega)).mono fun _ _ ⟨he, ho⟩ => ⟨he, ?_⟩
  obtain ⟨g2, t2, q1, q2, q3⟩ := ho.out
  exact ⟨h1.apart (ofRk q2) h4, ⟨g2, t2, q1, by omega⟩, h4⟩
theorem est10 (h : Both w a c X n z e V) (x : Nat) (hx : x < 18446744073709551616) : Calls Tryd.prog 10 #[.pointer (some ⟨a.T, 0, none⟩), .int .u64 (x : Int)] V fun r B => r = .returned (.int .i64 (estZ c x z : Int)) ∧ Hid (Both w a c X n z e B) :=
  (h.ti.est_any x hx).mono fun _ _ ⟨he, hb⟩ => ⟨he, h.below hb⟩
theorem est11 (h : Both w a c X n z e V) (x : Nat) : Calls Tryd.prog 11 #[.pointer (some ⟨X, 0, none⟩), .int .u64 (x : Int)] V fun r B => r = .returned (.int .i64 (estE x e : Int)) ∧ Hid (Both w a c X n z e B) := by
  have h0 := h
  obtain ⟨h1, ⟨g, t, h2, h3⟩, h4⟩ := h
  exact (h2.est_any x).mono fun _ _ ⟨he, hb⟩ => ⟨he, h0.below hb⟩
theorem cnt12 (h : Both w a c X n z e V) : Calls Tryd.prog 12 #[.pointer (some ⟨a.T, 0, none⟩)] V fun r B => r = .returned (.int .i64 (z.cnt : Int)) ∧ V = B := h.ti.get10.mono fun _ _ ⟨he, hb⟩ => ⟨he, hb.symm⟩
theorem cnt13 (h : Both w a c X n z e V) : Calls Tryd.prog 13 #[.pointer (some ⟨X, 0, none⟩)] V fun r B => r = .returned (.int .i64 (e.cnt : Int)) ∧ V = B := by
  obtain ⟨h1, ⟨g, t, h2, h3⟩, h4⟩ := h
  exact h2.count_any.mono fun _ _ ⟨he, hb⟩ => ⟨he, hb.symm⟩
end Both
/-- both made. -/
theorem both_new (k : Int) (seed : Nat) (hseed : seed < 18446744073709551616) (w : World) (hs : mx.Since w w) :
    Calls Tryd.prog 6 #[.int .i64 k, .int .u64 (seed : Int)] w fun r B => ∃ a, r = .returned (.pointer (some ⟨a.T, 0, none⟩)) ∧ Hid (Calls Tryd.prog 7 #[.int .i64 k] B fun r B2 => ∃ X, r = .returned (.pointer (some ⟨X, 0, none⟩)) ∧ Hid (Both w a (csN k seed) X 0 (zs0 (csN k seed)) es0 B2)) :=
  (new_any k seed hseed w hs).mono fun r B ⟨a, he, ho⟩ => ⟨a, he, (rk.new_exact k B).mono fun r B2 ⟨X, he2, ho2⟩ => ⟨X, he2, by
    obtain ⟨g, h1, h2, h3⟩ := ho2.out
    obtain ⟨q1, q2, q3, q4⟩ := ho.out.lts
    exact ⟨ho.out.below h2, ⟨g, .nil, h1, Nat.zero_le _⟩, by omega, by omega, by omega, by omega⟩⟩⟩
end Go.Proofs.YtnhpcjiieagjnaaDoor
