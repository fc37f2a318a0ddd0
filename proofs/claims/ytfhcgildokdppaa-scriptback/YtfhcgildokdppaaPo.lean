/-
  The program's boxes while Parse reads the config: the tape's, the script's, two numbers'.
-/
import Derived.Test.YtfhcgildokdppaaPs
namespace Go.Proofs.Ytfhcgildokdppaa
open Go.RowKit Go.Shelf tp
/-- the result's box N, the tape's pointer, two numbers. -/
def Rp (N D X : Nat) (u v : Int) (V : World) : Prop := V.heap[N]? = some (.cells (S8v ⟨0, 0, 0, 0, 0⟩ nl nl nl) 27 (0, 0)) ∧ V.heap[X]? = some (.cells #[.pointer (some ⟨D, 0, none⟩)] 55 (0, 0)) ∧ V.heap[X + 1 + 1]? = some (.cells #[.int .i64 u] 3 (0, 0)) ∧ V.heap[X + 1 + 1 + 1]? = some (.cells #[.int .i64 v] 3 (0, 0))
/-- where the program stands. -/
structure Pp (cap : Nat) (w : World) (D : Nat) (q : Option Addr) (cs : List Nat) (a X : Nat) (S : Array Value) (u v : Int) (V : World) : Prop where
  pf : Pf 76 cap w (Ft D q cs) D q cs a (X + 1) (X + 1 + 1 + 1 + 1) S (Rp w.heap.size D X u v) V
  lo : ∀ j, Ft D q cs j → w.heap.size < j ∧ j < X
theorem alloc_at {W : World} {n : Nat} (h : W.heap.size = n) (o : Obj) : (W.alloc o).heap[n]? = some o ∧ (W.alloc o).heap.size = n + 1 ∧ (∀ (k : Nat) (o' : Obj), W.heap[k]? = some o' → (W.alloc o).heap[k]? = some o') ∧ Keep (fun _ => True) W (W.alloc o) := ⟨heap_next h.symm o, by simp [h], fun _ _ hk => heap_old hk, Keep.alloc _ _ _⟩
namespace Pp
variable {cap : Nat} {w V B : World} {D : Nat} {q : Option Addr} {cs : List Nat} {a a' X i : Nat} {S : Array Value} {u v : Int} {y : Value}
theorem stab (hl : ∀ j, Ft D q cs j → w.heap.size < j ∧ j < X) (hX : w.heap.size < X) : ∀ A B, Rp w.heap.size D X u v A → Keep (fun j => ¬ Ft D q cs j ∧ j ≠ X + 1 ∧ j < X + 1 + 1 + 1 + 1) A B → Rp w.heap.size D X u v B := fun A B ⟨h1, h2, h3, h4⟩ hk =>
  ⟨hk.heap h1 ⟨fun e => by have := hl _ e; omega, by omega, by omega⟩, hk.heap h2 ⟨fun e => by have := hl _ e; omega, by omega, by omega⟩, hk.heap h3 ⟨fun e => by have := hl _ e; omega, by omega, by omega⟩, hk.heap h4 ⟨fun e => by have := hl _ e; omega, by omega, by omega⟩⟩
theorem X_lt (h : Pp cap w D q cs a X S u v V) : w.heap.size < X := by
  have := h.lo D (.inl rfl)
  omega
theorem x (h : Pp cap w D q cs a X S u v V) : V.cell? ⟨X, 0, none⟩ = some (.pointer (some ⟨D, 0, none⟩)) := cell_of h.pf.rest.2.1 0
theorem at2 (h : Pp cap w D q cs a X S u v V) : V.cell? ⟨X + 1 + 1, 0, none⟩ = some (.int .i64 u) := cell_of h.pf.rest.2.2.1 0
theorem at3 (h : Pp cap w D q cs a X S u v V) : V.cell? ⟨X + 1 + 1 + 1, 0, none⟩ = some (.int .i64 v) := cell_of h.pf.rest.2.2.2 0
theorem put (h : Pp cap w D q cs a X S u v V) (i : Nat) (y : Value) : Pp cap w D q cs a X (S.setIfInBounds i y) u v (V.setCell ⟨X + 1, i, none⟩ y) := ⟨h.pf.put i y, h.lo⟩
theorem go (h : Pp cap w D q cs a X S u v V) (hg : Go1 76 cap V D q cs a' B) : Pp cap w D q cs a' X S u v B := ⟨h.pf.go hg, h.lo⟩
/-- Int, stored into the script's box. -/
theorem int (h : Pp cap w D q cs a X S u v V) (hi : S[i]? = some y) : Calls Try.prog 37 #[.pointer (some ⟨D, 0, none⟩)] V fun e B => ∃ x, e = .returned (.int .i64 x) ∧ B.cell? ⟨X + 1, i, none⟩ = some y ∧ B.frozen? ⟨X + 1, i, none⟩ = false ∧ (B.setCell ⟨X + 1, i, none⟩ (.int .i64 x)).cell? ⟨X, 0, none⟩ = some (.pointer (some ⟨D, 0, none⟩)) ∧ Hid (Pp cap w D q cs (ia cs a) X (S.setIfInBounds i (.int .i64 (iv cs a))) u v (B.setCell ⟨X + 1, i, none⟩ (.int .i64 x))) :=
  (int7 h.pf.tape).mono fun e B ⟨he, hg⟩ => by
    have hB := h.go hg.out
    exact ⟨_, he, (hB.pf.cell i).trans hi, hB.pf.frozen i, (hB.put i _).x, hB.put i _⟩
/-- the closure, into the script's box. -/
theorem sub (h : Pp cap w D q cs a X S u v V) (hi : S[i]? = some y) (lo n : Int) (h0 : 0 ≤ lo) (h1 : lo ≤ 1) (hn : 1 ≤ n) (hn2 : n ≤ 256) : Calls Try.prog 35 #[.pointer (some ⟨X + 1, i, none⟩), .int .i64 lo, .int .i64 n, .pointer (some ⟨X, 0, none⟩)] V fun e B => e = .returned (.tuple #[]) ∧ B.cell? ⟨X, 0, none⟩ = some (.pointer (some ⟨D, 0, none⟩)) ∧ Hid (Pp cap w D q cs (nx cs a) X (S.setIfInBounds i (.int .i64 (rm cs a lo n))) u v B) :=
  (read35 h.pf.tape h.x h.pf.box (by have := h.pf.DF; omega) hi lo n h0 h1 hn hn2).mono fun e B ⟨he, hg⟩ => by
    obtain ⟨A, hA, rfl⟩ := hg.out
    have hB := (h.go hA).put i (.int .i64 (rm cs a lo n))
    exact ⟨he, hB.x, hB⟩
theorem other (h : Pp cap w D q cs a X S u v V) {b : Nat} (hb : b = X + 1 + 1 ∨ b = X + 1 + 1 + 1) (z : Value) {u' v' : Int} (hR : Rp w.heap.size D X u' v' (V.setCell ⟨b, 0, none⟩ z)) : Pp cap w D q cs a X S u' v' (V.setCell ⟨b, 0, none⟩ z) := by
  have hk : Keep (fun j => j ≠ b) V (V.setCell ⟨b, 0, none⟩ z) := Keep.setCell _ _ _ fun h => h rfl
  have hX := h.X_lt
  exact ⟨⟨h.pf.old.trans (hk.below (fun k hk => by omega) h.pf.old.size), tp_keep h.pf.tape hk fun j hj e => by (have := h.lo j hj); omega, hk.heap h.pf.box (by omega), hR, stab h.lo hX, h.pf.hG, h.pf.hD, h.pf.hF, h.pf.hq, Nat.le_trans h.pf.hZ hk.size⟩, h.lo⟩
/-- the closure, into the two numbers. -/
theorem sub2 (h : Pp cap w D q cs a X S u v V) (n : Int) (hn : 1 ≤ n) (hn2 : n ≤ 256) : Calls Try.prog 35 #[.pointer (some ⟨X + 1 + 1, 0, none⟩), .int .i64 0, .int .i64 n, .pointer (some ⟨X, 0, none⟩)] V fun e B => e = .returned (.tuple #[]) ∧ B.cell? ⟨X, 0, none⟩ = some (.pointer (some ⟨D, 0, none⟩)) ∧ Hid (Pp cap w D q cs (nx cs a) X S (rm cs a 0 n) v B) :=
  (read35 h.pf.tape h.x h.pf.rest.2.2.1 (by have := h.pf.DF; omega) rfl 0 n (by decide) (by decide) hn hn2).mono fun e B ⟨he, hg⟩ => by
    obtain ⟨A, hA, rfl⟩ := hg.out
    have hB := h.go hA
    have hX := h.X_lt
    have hk : Keep (fun j => j ≠ X + 1 + 1) A (A.setCell ⟨X + 1 + 1, 0, none⟩ (.int .i64 (rm cs a 0 n))) := Keep.setCell _ _ _ fun h => h rfl
    have := hB.other (.inl rfl) (.int .i64 (rm cs a 0 n)) (u' := rm cs a 0 n) (v' := v) ⟨hk.heap hB.pf.rest.1 (by omega), hk.heap hB.pf.rest.2.1 (by omega), heap_set hB.pf.rest.2.2.1 0 _, hk.heap hB.pf.rest.2.2.2 (by omega)⟩
    exact ⟨he, this.x, this⟩
theorem sub3 (h : Pp cap w D q cs a X S u v V) (n : Int) (hn : 1 ≤ n) (hn2 : n ≤ 256) : Calls Try.prog 35 #[.pointer (some ⟨X + 1 + 1 + 1, 0, none⟩), .int .i64 0, .int .i64 n, .pointer (some ⟨X, 0, none⟩)] V fun e B => e = .returned (.tuple #[]) ∧ B.cell? ⟨X, 0, none⟩ = some (.pointer (some ⟨D, 0, none⟩)) ∧ Hid (Pp cap w D q cs (nx cs a) X S u (rm cs a 0 n) B ∧ Keep (fun j => X + 1 + 1 + 1 < j) V B) :=
  (read35 h.pf.tape h.x h.pf.rest.2.2.2 (by have := h.pf.DF; omega) rfl 0 n (by decide) (by decide) hn hn2).mono fun e B ⟨he, hg⟩ => by
    obtain ⟨A, hA, rfl⟩ := hg.out
    have hB := h.go hA
    have hX := h.X_lt
    have hD := h.lo D (.inl rfl)
    have hk : Keep (fun j => j ≠ X + 1 + 1 + 1) A (A.setCell ⟨X + 1 + 1 + 1, 0, none⟩ (.int .i64 (rm cs a 0 n))) := Keep.setCell _ _ _ fun h => h rfl
    have := hB.other (.inr rfl) (.int .i64 (rm cs a 0 n)) (u' := u) (v' := rm cs a 0 n) ⟨hk.heap hB.pf.rest.1 (by omega), hk.heap hB.pf.rest.2.1 (by omega), hk.heap hB.pf.rest.2.2.1 (by omega), heap_set hB.pf.rest.2.2.2 0 _⟩
    exact ⟨he, this.x, this, Keep.trans (K := fun j => X + 1 + 1 + 1 < j) (hA.2.mono fun _ _ hj => by omega) (hk.mono fun _ _ hj => by omega)⟩
/-- the config's five cells read, and written anew. -/
theorem near5 {i0 i1 i2 i3 i4 : Int} (h : Pp cap w D q cs a X (S8v ⟨i0, i1, i2, i3, i4⟩ nl nl nl) u v V) : Cc (X + 1) ⟨i0, i1, i2, i3, i4⟩ V ∧ Hid (Calls Try.prog 9 #[cv ⟨i0, i1, i2, i3, i4⟩] V fun e B => ∃ x0 x1 x2 x3 x4, e = .returned (.agg #[.int .i64 x0, .int .i64 x1, .int .i64 x2, .int .i64 x3, .int .i64 x4]) ∧ Cc (X + 1) ⟨i0, i1, i2, i3, i4⟩ B ∧ (B.frozen? ⟨X + 1, 0, none⟩ = false ∧ B.frozen? ⟨X + 1, 1, none⟩ = false ∧ B.frozen? ⟨X + 1, 2, none⟩ = false ∧ B.frozen? ⟨X + 1, 3, none⟩ = false ∧ B.frozen? ⟨X + 1, 4, none⟩ = false) ∧
    Hid (∀ C, setC B (X + 1) ⟨x0, x1, x2, x3, x4⟩ = C → C.cell? ⟨X, 0, none⟩ = some (.pointer (some ⟨D, 0, none⟩)) ∧ Hid (Pp cap w D q cs a X (S8v (near ⟨i0, i1, i2, i3, i4⟩) nl nl nl) u v C))) := by
  refine ⟨cellsS h.pf.box, (nearest9 _ V).mono fun e B ⟨he, hb⟩ => ?_⟩
  obtain ⟨⟨x0, x1, x2, x3, x4⟩, hx⟩ : ∃ r, near ⟨i0, i1, i2, i3, i4⟩ = r := ⟨_, rfl⟩
  rw [hx] at he ⊢
  have hB : Pp cap w D q cs a X (S8v ⟨i0, i1, i2, i3, i4⟩ nl nl nl) u v B := ⟨h.pf.grow (Keep.of_below hb.out), h.lo⟩
  refine ⟨x0, x1, x2, x3, x4, he, cellsS hB.pf.box, ⟨hB.pf.frozen 0, hB.pf.frozen 1, hB.pf.frozen 2, hB.pf.frozen 3, hB.pf.frozen 4⟩, fun C hC => ?_⟩
  subst hC
  have h5 := ((((hB.put 0 (.int .i64 x0)).put 1 (.int .i64 x1)).put 2 (.int .i64 x2)).put 3 (.int .i64 x3)).put 4 (.int .i64 x4)
  exact ⟨h5.x, h5⟩
end Pp
/-- the boxes as they are made. -/
theorem boxes {w V0 B W : World} {D c X : Nat} {q : Option Addr} {cs : List Nat} (h0 : V0 = w.alloc (.cells (S8v ⟨0, 0, 0, 0, 0⟩ nl nl nl) 27)) (h : Nw V0 D c q cs B) (hX : B.heap.size = X)
    (hW : (((B.alloc (.cells #[.pointer (some ⟨D, 0, none⟩)] 55)).alloc (.cells #[.int .i64 0, .int .i64 0, .int .i64 0, .int .i64 0, .int .i64 0, .slice none 0 0, .slice none 0 0, .slice none 0 0] 27)).alloc (.cells #[.int .i64 0] 3)).alloc (.cells #[.int .i64 0] 3) = W) : Pp c w D q cs 0 X (S8v ⟨0, 0, 0, 0, 0⟩ nl nl nl) 0 0 W := by
  subst hW
  obtain ⟨hT, hD, hq, hb⟩ := h
  obtain ⟨n0, n1, n2, n3⟩ := alloc_at (W := w) rfl (.cells (S8v ⟨0, 0, 0, 0, 0⟩ nl nl nl) 27)
  rw [← h0] at n0 n1 n2 n3
  have hlo : ∀ j, Ft D q cs j → w.heap.size < j ∧ j < X := fun j hj => by
    have h1 := hj.lt hT
    rcases hj with rfl | ⟨_, o, e⟩
    · omega
    · have := hq _ _ e
      omega
  have hw : Below w.heap.size w B := (h0 ▸ (Below.refl _ _).alloc (Nat.le_refl _) _ : Below w.heap.size w V0).trans (hb.mono (by omega))
  have hN : B.heap[w.heap.size]? = some (.cells (S8v ⟨0, 0, 0, 0, 0⟩ nl nl nl) 27 (0, 0)) := (hb.block _ (by omega)).trans n0
  obtain ⟨b0, b1, b2, b3⟩ := alloc_at hX (.cells #[.pointer (some ⟨D, 0, none⟩)] 55)
  have k1 : Keep (fun j => j < X) B (B.alloc (.cells #[.pointer (some ⟨D, 0, none⟩)] 55)) := Keep.alloc _ _ _
  generalize B.alloc (.cells #[.pointer (some ⟨D, 0, none⟩)] 55) = W1 at *
  obtain ⟨c0, c1, c2, c3⟩ := alloc_at b1 (.cells (S8v ⟨0, 0, 0, 0, 0⟩ nl nl nl) 27)
  have d1 := c2 _ _ b0
  change Pp c w D q cs 0 X (S8v ⟨0, 0, 0, 0, 0⟩ nl nl nl) 0 0 (((W1.alloc (.cells (S8v ⟨0, 0, 0, 0, 0⟩ nl nl nl) 27)).alloc (.cells #[.int .i64 0] 3)).alloc (.cells #[.int .i64 0] 3))
  generalize W1.alloc (.cells (S8v ⟨0, 0, 0, 0, 0⟩ nl nl nl) 27) = W2 at *
  obtain ⟨e0, e1, e2, e3⟩ := alloc_at c1 (.cells #[.int .i64 0] 3)
  have f1 := e2 _ _ d1
  have f2 := e2 _ _ c0
  generalize W2.alloc (.cells #[.int .i64 0] 3) = W3 at *
  obtain ⟨g0, g1, g2, g3⟩ := alloc_at e1 (.cells #[.int .i64 0] 3)
  have i1 := g2 _ _ f1
  have i2 := g2 _ _ f2
  have i3 := g2 _ _ e0
  generalize W3.alloc (.cells #[.int .i64 0] 3) = W4 at *
  have k : Keep (fun j => j < X) B W4 := ((k1.trans (c3.mono fun _ _ _ => trivial)).trans (e3.mono fun _ _ _ => trivial)).trans (g3.mono fun _ _ _ => trivial)
  have hXw : w.heap.size < X := by have := hlo D (.inl rfl); omega
  exact ⟨⟨hw.trans (k.below (fun j hj => by omega) (by omega)), tp_keep hT k fun j hj => (hlo j hj).2, i2, ⟨k.heap hN hXw, i1, i3, g0⟩, Pp.stab hlo hXw, fun j hj => by (have := hlo j hj); omega, .inl rfl, by omega, fun b o e h0 => by (have := hlo b (.inr ⟨h0, o, e⟩)); omega, by omega⟩, hlo⟩
end Go.Proofs.Ytfhcgildokdppaa
