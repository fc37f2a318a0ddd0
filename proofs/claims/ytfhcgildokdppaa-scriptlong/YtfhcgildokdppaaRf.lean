/-
  The document's call, Read and Same by their contracts, for every tape and every two slices of calls.
-/
import Derived.Test.YtfhcgildokdppaaRd
namespace Go.Proofs.Ytfhcgildokdppaa
open Go.RowKit Go.Shelf tp
/-- the document's tape, and the result's box N. -/
structure Ks (cap : Nat) (w : World) (N D : Nat) (q : Option Addr) (bs : List Nat) (a : Nat) (B : World) : Prop where
  go : Go1 63 cap w D q bs a B
  box : B.heap[N]? = some (.cells (ocs ⟨0, 0, 0, 0, 0⟩) 53 (0, 0))
  ne : D < w.heap.size ∧ N = w.heap.size
namespace Ks
variable {cap : Nat} {w B : World} {N D : Nat} {q : Option Addr} {bs : List Nat} {a : Nat}
theorem b37 (h : Ks cap w N D q bs a B) : Calls Try.prog 44 #[.pointer (some ⟨D, 0, none⟩)] B fun e C => e = .returned (.int .i64 (bt bs a : Int)) ∧ Hid (Ks cap w N D q bs (nx bs a) C) :=
  (byte10 h.go.1).mono fun _ _ ⟨he, g⟩ => ⟨he, h.go.trans g.out, g.out.2.heap h.box (by have := h.ne; omega), h.ne⟩
theorem i38 (h : Ks cap w N D q bs a B) : Calls Try.prog 41 #[.pointer (some ⟨D, 0, none⟩)] B fun e C => e = .returned (.int .i64 (iv bs a)) ∧ Hid (Ks cap w N D q bs (ia bs a) C) :=
  (int8 h.go.1).mono fun _ _ ⟨he, g⟩ => ⟨he, h.go.trans g.out, g.out.2.heap h.box (by have := h.ne; omega), h.ne⟩
/-- a call stored as the result. -/
theorem fin (h : Ks cap w N D q bs a B) (r : Opn) {C : World} (hC : set5 B N r = C) : C.cell? ⟨N, 0, none⟩ = some (.int .i64 r.k) ∧ C.cell? ⟨N, 1, none⟩ = some (.int .i64 r.key) ∧ C.cell? ⟨N, 2, none⟩ = some (.int .i64 r.val) ∧ C.cell? ⟨N, 3, none⟩ = some (.int .i64 r.cost) ∧ C.cell? ⟨N, 4, none⟩ = some (.int .i64 r.ttl) ∧ Hid (Go1 63 cap w D q bs a C) := by
  subst hC
  obtain ⟨z0, z1, z2, z3, z4⟩ := cells5 (put5 h.box (o := r))
  have hne := h.ne
  have k5 := keep5 B N r
  refine ⟨z0, z1, z2, z3, z4, ?_, ?_⟩
  · refine h.go.1.keep k5 (by show D ≠ N; omega) fun b o hq h0 e => ?_
    subst e
    have hx := h.go.1.lst h0
    obtain ⟨b', o', e', hi⟩ := hx
    obtain ⟨rfl, rfl⟩ : b = b' ∧ o = o' := by rw [hq] at e'; simpa using e'
    have := hi 0 h0
    rw [cell_of h.box] at this
    match o, this with
    | 0, this => cases this
    | 1, this => cases this
    | 2, this => cases this
    | 3, this => cases this
    | 4, this => cases this
    | o + 5, this => simp at this
  · exact Keep.mono (K := fun k => k ≠ D ∧ k ≠ N) ((h.go.2.mono fun _ _ hk => hk.1).trans (k5.mono fun _ _ hk => hk.2)) fun k hk hD => ⟨hD, by omega⟩
end Ks
theorem b5 (x0 x1 x2 x3 x4 : Int) (W : World) : (Instr.build 53 #[(0, .int .i64 x0), (1, .int .i64 x1), (2, .int .i64 x2), (3, .int .i64 x3), (4, .int .i64 x4)]).run Try.prog W = .ok (.agg #[.int .i64 x0, .int .i64 x1, .int .i64 x2, .int .i64 x3, .int .i64 x4]) W := by kernel_rfl
set_option maxRecDepth 100000 in
set_option maxHeartbeats 4000000 in
theorem refcall32 {cap : Nat} {w : World} {D : Nat} {q : Option Addr} {bs : List Nat} {a : Nat} (h : Tp 63 cap w D q bs a) :
    Calls Try.prog 58 #[.pointer (some ⟨D, 0, none⟩)] w fun e B => e = .returned (opv (ro bs a)) ∧ Hid (Go1 63 cap w D q bs (rp bs a) B) := by
  obtain ⟨N, hN⟩ : ∃ N, w.heap.size = N := ⟨_, rfl⟩
  have hD := h.lt
  have K0 : Hid (Ks cap w N D q bs a (w.alloc (.cells (ocs ⟨0, 0, 0, 0, 0⟩) 53))) := by
    have hb : Below w.heap.size w (w.alloc (.cells (ocs ⟨0, 0, 0, 0, 0⟩) 53)) := (Below.refl _ _).alloc (Nat.le_refl _) _
    exact ⟨⟨h.below hb, Keep.of_below hb⟩, by rw [← hN]; exact heap_next rfl _, hD, hN.symm⟩
  have T37 : Hid (Calls Try.prog 44 #[.pointer (some ⟨D, 0, none⟩)] (w.alloc (.cells #[.int .i64 0, .int .i64 0, .int .i64 0, .int .i64 0, .int .i64 0] 53)) fun e C => e = .returned (.int .i64 (bt bs a : Int)) ∧ Hid (Ks cap w N D q bs (nx bs a) C)) := K0.out.b37
  have hi : Hid (∀ a B, Hid (Ks cap w N D q bs a B) → Calls Try.prog 41 #[.pointer (some ⟨D, 0, none⟩)] B fun e C => ∃ x, e = .returned (.int .i64 x) ∧ Hid (iv bs a = x) ∧ Hid (Ks cap w N D q bs (ia bs a) C)) := fun a B h => h.out.i38.mono fun _ _ ⟨he, g⟩ => ⟨_, he, rfl, g⟩
  have FR : Hid (∀ a B, Hid (Ks cap w N D q bs a B) → (B.cell? ⟨N, 0, none⟩ = some (.int .i64 0) ∧ B.cell? ⟨N, 1, none⟩ = some (.int .i64 0) ∧ B.cell? ⟨N, 2, none⟩ = some (.int .i64 0) ∧ B.cell? ⟨N, 3, none⟩ = some (.int .i64 0) ∧ B.cell? ⟨N, 4, none⟩ = some (.int .i64 0)) ∧ B.frozen? ⟨N, 0, none⟩ = false ∧ B.frozen? ⟨N, 1, none⟩ = false ∧ B.frozen? ⟨N, 2, none⟩ = false ∧ B.frozen? ⟨N, 3, none⟩ = false ∧ B.frozen? ⟨N, 4, none⟩ = false) := fun a B h =>
    ⟨cells5 h.out.box, frozen_of h.out.box 0, frozen_of h.out.box 1, frozen_of h.out.box 2, frozen_of h.out.box 3, frozen_of h.out.box 4⟩
  have m1 := b01
  have m2 := b0
  have m3 := b03
  have m4 := b_
  have m5 := b5
  obtain ⟨k, hk⟩ : ∃ k, bt bs a = k := ⟨_, rfl⟩
  have E : Hid (ro bs a = fill (k : Int) (rv bs a) ∧ rp bs a = pa bs (nx bs a) (pls (k : Int)).length) := by
    rw [← hk]
    exact ⟨rfl, rfl⟩
  rw [hk] at T37
  clear h hk K0
  have HH := kinds (k : Int)
  go_enter Try.func58, Try.ntmps58
  go_wp2_with fail
  refine T37.out.mono ?_
  rintro e w1 ⟨rfl, h1⟩
  clear T37
  rcases HH with h1k | h2k | h7k | h456 | hr
  · have e1 : Hid (∀ x, iv bs (nx bs a) = x → ro bs a = ⟨k, x, 0, 0, 0⟩ ∧ rp bs a = ia bs (nx bs a)) := fun x hx => by
      rw [E.out.1, E.out.2, ← hx]
      rcases (show k = 1 ∨ k = 3 by omega) with rfl | rfl
      · exact ⟨rfl, rfl⟩
      · exact ⟨rfl, rfl⟩
    have T := Lib.hid (hi.out _ _ h1)
    clear hi E h1
    rcases (show k = 1 ∨ k = 3 by omega) with rfl | rfl
    all_goals (
      go_wp2_with fail
      refine T.out.mono ?_
      rintro e w2 ⟨x, rfl, hx, h2⟩
      obtain ⟨⟨c0, c1, c2, c3, c4⟩, g0, g1, g2, g3, g4⟩ := FR.out _ _ h2
      clear T
      go_wp2)
    · obtain ⟨C, hC⟩ : ∃ C, set5 w2 N ⟨1, x, 0, 0, 0⟩ = C := ⟨_, rfl⟩
      obtain ⟨z0, z1, z2, z3, z4, F⟩ := h2.out.fin _ hC
      unfold set5 at hC
      rw [hC]
      exact bodyPost_ret (v := opv ⟨1, x, 0, 0, 0⟩) (by simp [results, Try.results58, go_sem, z0, z1, z2, z3, z4]) rfl ⟨by rw [(e1.out x hx.out).1]; try rfl, by rw [(e1.out x hx.out).2]; exact F⟩
    · obtain ⟨C, hC⟩ : ∃ C, set5 w2 N ⟨3, x, 0, 0, 0⟩ = C := ⟨_, rfl⟩
      obtain ⟨z0, z1, z2, z3, z4, F⟩ := h2.out.fin _ hC
      unfold set5 at hC
      rw [hC]
      exact bodyPost_ret (v := opv ⟨3, x, 0, 0, 0⟩) (by simp [results, Try.results58, go_sem, z0, z1, z2, z3, z4]) rfl ⟨by rw [(e1.out x hx.out).1]; try rfl, by rw [(e1.out x hx.out).2]; exact F⟩
  · obtain rfl : k = 2 := by omega
    have e1 : Hid (∀ x0 x1 x2 x3, iv bs (nx bs a) = x0 → iv bs (ia bs (nx bs a)) = x1 → iv bs (ia bs (ia bs (nx bs a))) = x2 → iv bs (ia bs (ia bs (ia bs (nx bs a)))) = x3 → ro bs a = ⟨2, x0, x1, x2, x3⟩ ∧ rp bs a = ia bs (ia bs (ia bs (ia bs (nx bs a))))) := fun x0 x1 x2 x3 h0 h1 h2 h3 => by
      rw [E.out.1, E.out.2, ← h0, ← h1, ← h2, ← h3]
      exact ⟨rfl, rfl⟩
    have T := Lib.hid (hi.out _ _ h1)
    clear E h1 h2k
    go_wp2_with fail
    refine T.out.mono ?_
    rintro e w2 ⟨x0, rfl, hx0, h2⟩
    have T := Lib.hid (hi.out _ _ h2)
    clear h2
    go_wp2_with fail
    refine T.out.mono ?_
    rintro e w3 ⟨x1, rfl, hx1, h3⟩
    have T := Lib.hid (hi.out _ _ h3)
    clear h3
    go_wp2_with fail
    refine T.out.mono ?_
    rintro e w4 ⟨x2, rfl, hx2, h4⟩
    have T := Lib.hid (hi.out _ _ h4)
    clear h4
    go_wp2_with fail
    refine T.out.mono ?_
    rintro e w5 ⟨x3, rfl, hx3, h5⟩
    obtain ⟨⟨c0, c1, c2, c3, c4⟩, g0, g1, g2, g3, g4⟩ := FR.out _ _ h5
    clear T hi
    go_wp2
    obtain ⟨C, hC⟩ : ∃ C, set5 w5 N ⟨2, x0, x1, x2, x3⟩ = C := ⟨_, rfl⟩
    obtain ⟨z0, z1, z2, z3, z4, F⟩ := h5.out.fin _ hC
    unfold set5 at hC
    rw [hC]
    exact bodyPost_ret (v := opv ⟨2, x0, x1, x2, x3⟩) (by simp [results, Try.results58, go_sem, z0, z1, z2, z3, z4]) rfl ⟨by rw [(e1.out x0 x1 x2 x3 hx0.out hx1.out hx2.out hx3.out).1]; try rfl, by rw [(e1.out x0 x1 x2 x3 hx0.out hx1.out hx2.out hx3.out).2]; exact F⟩
  · obtain rfl : k = 7 := by omega
    have e1 : Hid (∀ x, iv bs (nx bs a) = x → ro bs a = ⟨7, 0, 0, x, 0⟩ ∧ rp bs a = ia bs (nx bs a)) := fun x hx => by
      rw [E.out.1, E.out.2, ← hx]
      exact ⟨rfl, rfl⟩
    have T := Lib.hid (hi.out _ _ h1)
    clear hi E h1 h7k
    go_wp2_with fail
    refine T.out.mono ?_
    rintro e w2 ⟨x, rfl, hx, h2⟩
    obtain ⟨⟨c0, c1, c2, c3, c4⟩, g0, g1, g2, g3, g4⟩ := FR.out _ _ h2
    clear T
    go_wp2
    obtain ⟨C, hC⟩ : ∃ C, set5 w2 N ⟨7, 0, 0, x, 0⟩ = C := ⟨_, rfl⟩
    obtain ⟨z0, z1, z2, z3, z4, F⟩ := h2.out.fin _ hC
    unfold set5 at hC
    rw [hC]
    exact bodyPost_ret (v := opv ⟨7, 0, 0, x, 0⟩) (by simp [results, Try.results58, go_sem, z0, z1, z2, z3, z4]) rfl ⟨by rw [(e1.out x hx.out).1]; try rfl, by rw [(e1.out x hx.out).2]; exact F⟩
  · have e1 : Hid (ro bs a = ⟨k, 0, 0, 0, 0⟩ ∧ rp bs a = nx bs a) := by
      have := E.out
      rcases (show k = 4 ∨ k = 5 ∨ k = 6 by omega) with rfl | rfl | rfl
      · exact ⟨this.1, this.2⟩
      · exact ⟨this.1, this.2⟩
      · exact ⟨this.1, this.2⟩
    obtain ⟨⟨c0, c1, c2, c3, c4⟩, g0, g1, g2, g3, g4⟩ := FR.out _ _ h1
    clear hi E
    rcases (show k = 4 ∨ k = 5 ∨ k = 6 by omega) with rfl | rfl | rfl
    all_goals go_wp2
    · obtain ⟨C, hC⟩ : ∃ C, set5 w1 N ⟨4, 0, 0, 0, 0⟩ = C := ⟨_, rfl⟩
      obtain ⟨z0, z1, z2, z3, z4, F⟩ := h1.out.fin _ hC
      unfold set5 at hC
      rw [hC]
      exact bodyPost_ret (v := opv ⟨4, 0, 0, 0, 0⟩) (by simp [results, Try.results58, go_sem, z0, z1, z2, z3, z4]) rfl ⟨by rw [e1.out.1]; try rfl, by rw [e1.out.2]; exact F⟩
    · obtain ⟨C, hC⟩ : ∃ C, set5 w1 N ⟨5, 0, 0, 0, 0⟩ = C := ⟨_, rfl⟩
      obtain ⟨z0, z1, z2, z3, z4, F⟩ := h1.out.fin _ hC
      unfold set5 at hC
      rw [hC]
      exact bodyPost_ret (v := opv ⟨5, 0, 0, 0, 0⟩) (by simp [results, Try.results58, go_sem, z0, z1, z2, z3, z4]) rfl ⟨by rw [e1.out.1]; try rfl, by rw [e1.out.2]; exact F⟩
    · obtain ⟨C, hC⟩ : ∃ C, set5 w1 N ⟨6, 0, 0, 0, 0⟩ = C := ⟨_, rfl⟩
      obtain ⟨z0, z1, z2, z3, z4, F⟩ := h1.out.fin _ hC
      unfold set5 at hC
      rw [hC]
      exact bodyPost_ret (v := opv ⟨6, 0, 0, 0, 0⟩) (by simp [results, Try.results58, go_sem, z0, z1, z2, z3, z4]) rfl ⟨by rw [e1.out.1]; try rfl, by rw [e1.out.2]; exact F⟩
  · have v1 : ¬ k = 1 := by omega
    have v2 : ¬ k = 2 := by omega
    have v3 : ¬ k = 3 := by omega
    have v4 : ¬ k = 4 := by omega
    have v5 : ¬ k = 5 := by omega
    have v6 : ¬ k = 6 := by omega
    have v7 : ¬ k = 7 := by omega
    have g1' : ((k : Int) == 1) = false := by simp; omega
    have g2' : ((k : Int) == 2) = false := by simp; omega
    have g3' : ((k : Int) == 3) = false := by simp; omega
    have g4' : ((k : Int) == 4) = false := by simp; omega
    have g5' : ((k : Int) == 5) = false := by simp; omega
    have g6' : ((k : Int) == 6) = false := by simp; omega
    have g7' : ((k : Int) == 7) = false := by simp; omega
    have e1 : Hid (ro bs a = ⟨0, 0, 0, 0, 0⟩ ∧ rp bs a = nx bs a) := by
      have e0 : pls (k : Int) = [] := by unfold pls; rw [if_neg (by omega), if_neg (by omega), if_neg (by omega)]
      rw [E.out.1, E.out.2]
      unfold fill
      rw [pls_kd, e0]
      refine ⟨?_, rfl⟩
      show (⟨kd k, 0, 0, 0, 0⟩ : Opn) = _
      have : kd (k : Int) = 0 := by
        unfold kd
        split
        · omega
        · rfl
      rw [this]
    obtain ⟨⟨c0, c1, c2, c3, c4⟩, g0, g1, g2, g3, g4⟩ := FR.out _ _ h1
    clear hi E hr
    go_wp2
    obtain ⟨C, hC⟩ : ∃ C, set5 w1 N ⟨0, 0, 0, 0, 0⟩ = C := ⟨_, rfl⟩
    obtain ⟨z0, z1, z2, z3, z4, F⟩ := h1.out.fin _ hC
    unfold set5 at hC
    rw [hC]
    exact bodyPost_ret (v := opv ⟨0, 0, 0, 0, 0⟩) (by simp [results, Try.results58, go_sem, z0, z1, z2, z3, z4]) rfl ⟨by rw [e1.out.1]; try rfl, by rw [e1.out.2]; exact F⟩
/-- the document's tape, and a row of calls made beside it. -/
structure Rr (cap : Nat) (w : World) (D : Nat) (q : Option Addr) (bs : List Nat) (a : Nat) (v : Value) (ys : List Opn) (W : World) : Prop where
  tape : Tp 63 cap W D q bs a
  row : Mo (fun k => k < w.heap.size ∧ k ≠ D) w.heap.size w v ys W
  foot : ∀ j, Ft D q bs j → j < w.heap.size
namespace Rr
variable {cap : Nat} {w W : World} {D : Nat} {q : Option Addr} {bs : List Nat} {a : Nat} {v : Value} {ys : List Opn}
theorem c32 (h : Rr cap w D q bs a v ys W) : Calls Try.prog 58 #[.pointer (some ⟨D, 0, none⟩)] W fun e B => e = .returned (opv (ro bs a)) ∧ Hid (Rr cap w D q bs (rp bs a) v ys B) :=
  (refcall32 h.tape).mono fun e B ⟨he, g⟩ => ⟨he, g.out.1, h.row.keep g.out.2 (fun k hk => hk.2) (fun k hk => by have := h.foot D (.inl rfl); omega), h.foot⟩
theorem app (h : Rr cap w D q bs a v ys W) (o : Opn) (hl : ys.length ≤ 1000000) (ty : TypeId) :
    ∃ v' w', (Builtin.append_ #[30, 30] ty #[v, .slice (some ⟨W.heap.size, 0, none⟩) 1 1]).run Try.prog (W.alloc (.cells (ocs o) 53)) = .ok v' w' ∧ ((∃ a c, v' = .slice a (ys.length + 1) c) ∧ Hid (Rr cap w D q bs a v' (ys ++ [o]) w')) := by
  obtain ⟨v', w', hr, hs, hM⟩ := push_op h.row (fun k hk => hk.1) o hl ty
  exact ⟨v', w', hr, hs, tp_keep h.tape hM.out.2 fun j hj e => by
    have := (World.ownsRow.lt h.row.1 j e).1
    have := h.foot j hj
    omega, hM.out.1, h.foot⟩
end Rr
set_option maxRecDepth 100000 in
set_option maxHeartbeats 2000000 in
theorem refread18 {cap : Nat} {w : World} {D : Nat} {q : Option Addr} {bs : List Nat} {a : Nat} (h : Tp 63 cap w D q bs a) :
    Calls Try.prog 43 #[.pointer (some ⟨D, 0, none⟩)] w fun e B => ∃ p c, e = .returned (.slice p (pn bs a) c) ∧ Hid (Rr cap w D q bs (pz bs a) (.slice p (pn bs a) c) (pl bs a) B) := by
  have T31 : Hid (Calls Try.prog 42 #[.pointer (some ⟨D, 0, none⟩), .int .i64 25] w fun e B => e = .returned (.int .i64 (pn bs a : Int)) ∧ Hid (Rr cap w D q bs (qa bs (nx bs a) 0) (.slice none 0 0) (ql bs (nx bs a) 0) B)) := by
    refine (below12 h 25 (by decide)).mono fun e B ⟨he, g⟩ => ⟨?_, ?_⟩
    · rw [he]
      show Ending.returned (.int .i64 (bv bs a 25)) = _
      unfold bv pn
      rw [if_neg (by decide)]
      rfl
    · have hg := g.out
      rw [show ba bs a 25 = nx bs a from if_neg (by decide)] at hg
      exact ⟨hg.1, ⟨World.ownsRow_nil _ _ _ _, hg.2.mono fun k _ hk => hk.2, hg.2.size⟩, fun j hj => hj.lt h⟩
  have L := pn_lt bs a
  have STEP : Hid (∀ j p c W, Hid (Rr cap w D q bs (qa bs (nx bs a) j) (.slice p j c) (ql bs (nx bs a) j) W) → Calls Try.prog 58 #[.pointer (some ⟨D, 0, none⟩)] W fun e C => ∃ x0 x1 x2 x3 x4, e = .returned (.agg #[.int .i64 x0, .int .i64 x1, .int .i64 x2, .int .i64 x3, .int .i64 x4]) ∧
        Hid (j ≤ 100 → ∀ ty, ∃ v' w', (Builtin.append_ #[30, 30] ty #[.slice p j c, .slice (some ⟨C.heap.size, 0, none⟩) 1 1]).run Try.prog (C.alloc (.cells #[.int .i64 x0, .int .i64 x1, .int .i64 x2, .int .i64 x3, .int .i64 x4] 53)) = .ok v' w' ∧ ((∃ a c, v' = .slice a (j + 1) c) ∧ Hid (Rr cap w D q bs (qa bs (nx bs a) (j + 1)) v' (ql bs (nx bs a) (j + 1)) w')))) := fun j p c W h =>
    (h.out.c32).mono fun e C ⟨he, hC⟩ => ⟨_, _, _, _, _, he, fun hj ty => by
      have := hC.out.app (ro bs (qa bs (nx bs a) j)) (by rw [ql_len]; omega) ty
      rw [ql_len] at this
      exact this⟩
  have END : Hid (∀ v W, Hid (Rr cap w D q bs (qa bs (nx bs a) (pn bs a)) v (ql bs (nx bs a) (pn bs a)) W) → Hid (Rr cap w D q bs (pz bs a) v (pl bs a) W)) := fun v W h => h
  clear h
  generalize pn bs a = n at *
  go_enter Try.func43, Try.ntmps43
  go_wp2_with fail
  refine T31.out.mono ?_
  rintro e w1 ⟨rfl, h1⟩
  clear T31
  go_wp2_with fail
  go_loopw [3, 5] (fun v i wr => ∃ j : Nat, j ≤ n ∧ i = .int .i64 j ∧ ∃ p c, v = .slice p j c ∧ Hid (Rr cap w D q bs (qa bs (nx bs a) j) (.slice p j c) (ql bs (nx bs a) j) wr)) (fun _ i _ => n - (intOf i).toNat)
  case atStart => exact ⟨0, by omega, rfl, none, 0, rfl, h1⟩
  case round =>
    obtain ⟨j, hj, rfl, p, c, rfl, hR⟩ := hrel
    clear h1
    by_cases hlt : j < n
    · have hjn : (j : Int) < (n : Int) := by omega
      have T := Lib.hid (STEP.out j p c _ hR)
      clear STEP END hR
      go_wp2_with fail
      refine T.out.mono ?_
      rintro e w3 ⟨x0, x1, x2, x3, x4, rfl, A⟩
      clear T
      go_wp2_with (at_builtin; refine app_step _ rfl _ _ 30 rfl _ _ rfl rfl (A.out (by omega) _) ?_; rintro v4 w4 ⟨⟨a4, c4, rfl⟩, q4⟩)
      go_roundw
      case rel => exact ⟨j + 1, by omega, by simp, _, _, rfl, q4⟩
      case measure => simp [intOf]; omega
    · obtain rfl : j = n := by omega
      have F := Lib.hid (END.out _ _ hR)
      clear STEP END hR
      go_wp2
      go_ret
      exact ⟨_, _, rfl, F.out⟩
set_option maxRecDepth 100000 in
set_option maxHeartbeats 2000000 in
theorem same17 (p r : Option Addr) (l m : List Opn) (c c' : Nat) (w : World) (hp : Ea w p l) (hr : Ea w r m) (hl : l.length ≤ 1000000) : Calls Try.prog 32 #[.slice p l.length c, .slice r m.length c'] w fun e B => e = .returned (.bool (decide (l = m))) ∧ Hid (Below w.heap.size w B) := by
  by_cases hlen : l.length = m.length
  · have N : Hid (∀ j W, j < l.length → Hid (Below w.heap.size w W) → ∃ (b o b' o' : Nat) (x y : Opn), p = some ⟨b, o, none⟩ ∧ r = some ⟨b', o', none⟩ ∧ (∀ n, Cf b (o + j * 5) x (W.drewN n)) ∧ (∀ n, Cf b' (o' + j * 5) y (W.drewN n)) ∧ Hid (l[j]? = some x ∧ m[j]? = some y)) := fun j W hj h => by
      obtain ⟨b, o, hp', hc⟩ := nowE hp j hj
      obtain ⟨b', o', hr', hc'⟩ := nowE hr j (by omega)
      have hb : ∀ n, Below w.heap.size w (W.drewN n) := fun n => h.out.trans ((below_drewN W n).mono h.out.size)
      exact ⟨b, o, b', o', l[j], m[j]'(by omega), hp', hr', fun n => hc.out _ (hb n), fun n => hc'.out _ (hb n), List.getElem?_eq_getElem hj, List.getElem?_eq_getElem (by omega)⟩
    have S : Hid (Below w.heap.size w w) := Below.refl _ _
    have DR : Hid (∀ W n, Hid (Below w.heap.size w W) → Hid (Below w.heap.size w (W.drewN n))) := fun W n h => h.out.trans ((below_drewN W n).mono h.out.size)
    obtain ⟨q, hq⟩ : ∃ q, decide (l = m) = q := ⟨_, rfl⟩
    rw [hq]
    have D1 : Hid (∀ (j : Nat) (x y : Opn), (l[j]? = some x ∧ m[j]? = some y) → decide (x = y) = false → q = false) := fun j x y hx hr => by
      rw [← hq]
      refine decide_eq_false fun h => ?_
      subst h
      rw [hx.1] at hx
      obtain rfl : x = y := by simpa using hx.2
      simp at hr
    have D2 : Hid ((∀ j : Nat, j < l.length → l[j]? = m[j]?) → q = true) := fun h => by
      rw [← hq]
      refine decide_eq_true (List.ext_getElem? fun j => ?_)
      by_cases hj : j < l.length
      · exact h j hj
      · rw [List.getElem?_eq_none (by omega), List.getElem?_eq_none (by omega)]
    clear hp hr hq
    obtain ⟨n, hn⟩ : ∃ n, l.length = n := ⟨_, rfl⟩
    rw [← hlen]
    rw [hn] at N D2 hl ⊢
    clear hn hlen
    go_enter Try.func32, Try.ntmps32
    go_wp2_with fail
    go_loopw [5] (fun i wr => ∃ j : Nat, j ≤ n ∧ i = .int .i64 j ∧ Hid (∀ j' : Nat, j' < j → l[j']? = m[j']?) ∧ Hid (Below w.heap.size w wr)) (fun i _ => n - (intOf i).toNat)
    case atStart => exact ⟨0, by omega, rfl, fun j' h => absurd h (Nat.not_lt_zero _), S⟩
    case round =>
      obtain ⟨j, hj, rfl, hR, hB⟩ := hrel
      clear S
      by_cases hlt : j < n
      · obtain ⟨b, o, b', o', x, y, rfl, rfl, hc, hc', hxy⟩ := N.out j _ hlt hB
        have K0 : Hid (Cf b (o + j * 5) x wr.drew ∧ Cf b' (o' + j * 5) y wr.drew) := ⟨hc 1, hc' 1⟩
        have hjn : (j : Int) < (n : Int) := by omega
        have hj0 : (0 : Int) ≤ (j : Int) := by omega
        have hne := ne5 x y
        have hDR := Lib.hid (fun n => (DR.out wr n hB).out)
        clear N DR hc hc'
        cases hr : decide (x = y) with
        | true =>
          have HR2 : Hid (∀ j' : Nat, j' < j + 1 → l[j']? = m[j']?) := fun j' hj' => by
            by_cases e : j' = j
            · subst e
              rw [hxy.out.1, hxy.out.2]
              rw [show x = y by simpa using hr]
            · exact hR.out j' (by omega)
          rw [hr] at hne
          clear hr hR hxy D1 D2 hB
          obtain ⟨x0, x1, x2, x3, x4⟩ := x
          obtain ⟨y0, y1, y2, y3, y4⟩ := y
          go_wp2_with fail
          go_region_held3 (fun V => Cf b (o + j * 5) ⟨x0, x1, x2, x3, x4⟩ V ∧ Cf b' (o' + j * 5) ⟨y0, y1, y2, y3, y4⟩ V) (first | exact K0.out | assumption) (fail)
          go_wp2
          go_roundw
          case rel => exact ⟨j + 1, by omega, by simp, HR2, hDR.out _⟩
          case measure => simp [intOf]; omega
        | false =>
          have F := Lib.hid (D1.out _ _ _ hxy.out hr)
          rw [hr] at hne
          clear hr hR hxy D1 D2 hB
          obtain ⟨x0, x1, x2, x3, x4⟩ := x
          obtain ⟨y0, y1, y2, y3, y4⟩ := y
          go_wp2_with fail
          go_region_held3 (fun V => Cf b (o + j * 5) ⟨x0, x1, x2, x3, x4⟩ V ∧ Cf b' (o' + j * 5) ⟨y0, y1, y2, y3, y4⟩ V) (first | exact K0.out | assumption) (fail)
          go_wp2
          go_ret
          exact ⟨by rw [F.out]; rfl, hDR.out _⟩
      · obtain rfl : j = n := by omega
        have F := Lib.hid (D2.out hR.out)
        clear N D1 D2 hR DR
        go_wp2
        go_ret
        exact ⟨by rw [F.out]; rfl, hB⟩
  · have e : decide (l = m) = false := decide_eq_false fun h => hlen (by rw [h])
    rw [e]
    have S : Hid (Below w.heap.size w w) := Below.refl _ _
    generalize l.length = n at *
    generalize m.length = n' at *
    have z1 : ¬ (n : Int) = (n' : Int) := by omega
    have z2 : ((n : Int) == (n' : Int)) = false := by simpa using z1
    have z3 : ((n : Int) != (n' : Int)) = true := by simpa using z1
    clear hp hr e
    go_enter Try.func32, Try.ntmps32
    go_wp2
    go_ret
    exact ⟨rfl, S⟩
end Go.Proofs.Ytfhcgildokdppaa
