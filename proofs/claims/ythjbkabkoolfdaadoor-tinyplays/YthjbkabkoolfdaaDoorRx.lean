/-
  The document's Add, walked.
-/
import Derived.Test.YthjbkabkoolfdaaDoorRu
namespace Go.Proofs.YthjbkabkoolfdaaDoor
open Go.RowKit
open nb (Keep ct cell_of frozen_of heap_set heap_set_other heap_old heap_next heap_lt addAt mayAdd)
theorem come_had {c : Cs} {x : Nat} {z : Zs} (h : hasZ c x z.bs = true) : (comeZ c x z).f = addsZ c x z.f ∧ (comeZ c x z).bs = putZ c x z.bs := ⟨if_pos h, rfl⟩
theorem come_new {c : Cs} {x : Nat} {z : Zs} (h : hasZ c x z.bs = false) : (comeZ c x z).f = z.f ∧ (comeZ c x z).bs = putZ c x z.bs := ⟨if_neg (by rw [h]; decide), rfl⟩
theorem add_full {c : Cs} {x : Nat} {z : Zs} (h : z.cnt + 1 = c.lim) : addZ c x z = ⟨halvesZ (comeZ c x z).f, zerosD c, 0, z.aged + 1⟩ := if_pos h
theorem add_less {c : Cs} {x : Nat} {z : Zs} (h : ¬ z.cnt + 1 = c.lim) : addZ c x z = ⟨(comeZ c x z).f, (comeZ c x z).bs, z.cnt + 1, z.aged⟩ := if_neg h
set_option maxRecDepth 20000 in
set_option maxHeartbeats 8000000 in
theorem refadd13 {w : World} {K : Nat → Prop} {c : Cs} {z : Zs} {v u : Value} (hr : Rv K w c z.f z.bs v u) (hK : ∀ b, w.heap.size ≤ b → K b) (x : Nat) (hx : x < 18446744073709551616) (hc1 : z.cnt < c.lim) (hc2 : c.lim ≤ 4096) (ha : z.aged ≤ 1000000) :
    Calls Tryd.prog 23 #[tv c (z.cnt : Int) (z.aged : Int) v u, .int .u64 (x : Int)] w fun e B => ∃ v' u', e = .returned (tv c ((addZ c x z).cnt : Int) ((addZ c x z).aged : Int) v' u') ∧ Rv K B c (addZ c x z).f (addZ c x z).bs v' u' ∧ Below w.heap.size w B := by
  obtain ⟨N, hN⟩ : ∃ N, w.heap.size = N := ⟨_, rfl⟩
  obtain ⟨W1, hW1⟩ : ∃ W1, (w.alloc (.cells (tc c (z.cnt : Int) (z.aged : Int) v u) 34)).alloc (.cells t0 34) = W1 := ⟨_, rfl⟩
  have S1 : Hid (Rb w K N c z.f z.bs z.cnt z.aged v u W1) := by rw [← hW1]; exact Rb.start hr hN _ _
  rw [hN] at hK
  have T34 := Lib.hid (S1.out.k34 hK x hx)
  have T35 : Hid (∀ f bs cnt aged v u W, Hid (Rb w K N c f bs cnt aged v u W) → _) := fun f bs cnt aged v u W (hW : Hid (Rb w K N c f bs cnt aged v u W)) => hW.out.k35 hK x hx
  have T36 : Hid (∀ f bs cnt aged v u W, Hid (Rb w K N c f bs cnt aged v u W) → _) := fun f bs cnt aged v u W (hW : Hid (Rb w K N c f bs cnt aged v u W)) => hW.out.k36 hK
  have T22 : Hid (∀ f bs cnt aged v u W, Hid (Rb w K N c f bs cnt aged v u W) → _) := fun f bs cnt aged v u W (hW : Hid (Rb w K N c f bs cnt aged v u W)) => hW.out.k22 hK
  have CL : Hid (∀ f bs cnt aged v u W, Hid (Rb w K N c f bs cnt aged v u W) → Rb.Cl N c cnt aged v u W ∧ ∀ i, W.frozen? ⟨N, i, none⟩ = false) := fun f bs cnt aged v u W hW => ⟨hW.out.cells, hW.out.fr⟩
  have RC : Hid (∀ f bs cnt aged v u W, Hid (Rb w K N c f bs cnt aged v u W) → _) := fun f bs cnt aged v u W (hW : Hid (Rb w K N c f bs cnt aged v u W)) => hW.out.rescells
  have SC : Hid (∀ f bs cnt aged v u W (k : Nat), Hid (Rb w K N c f bs cnt aged v u W) → Hid (Rb w K N c f bs k aged v u (W.setCell ⟨N, 5, none⟩ (.int .i64 (k : Int))))) := fun f bs cnt aged v u W k hW => hW.out.setC k
  have SA : Hid (∀ f bs cnt aged v u W (k : Nat), Hid (Rb w K N c f bs cnt aged v u W) → Hid (Rb w K N c f bs cnt k v u (W.setCell ⟨N, 7, none⟩ (.int .i64 (k : Int))))) := fun f bs cnt aged v u W k hW => hW.out.setA k
  have EN : Hid (∀ f bs cnt aged v u W, Hid (Rb w K N c f bs cnt aged v u W) → _) := fun f bs cnt aged v u W (hW : Hid (Rb w K N c f bs cnt aged v u W)) B e => hW.out.end_ (B := B) e
  obtain ⟨d0, d1, d2, d3, d4, d5, d6, d7, d8, d9⟩ := S1.out.cells
  have i5 : IntKind.i64.wrap ((z.cnt : Int) + 1) = ((z.cnt + 1 : Nat) : Int) := by simp only [IntKind.wrap_i64]; omega
  have i7 : IntKind.i64.wrap ((z.aged : Int) + 1) = ((z.aged + 1 : Nat) : Int) := by simp only [IntKind.wrap_i64]; omega
  have E1 : Hid (hasZ c x z.bs = true → (comeZ c x z).f = addsZ c x z.f ∧ (comeZ c x z).bs = putZ c x z.bs) := come_had
  have E2 : Hid (hasZ c x z.bs = false → (comeZ c x z).f = z.f ∧ (comeZ c x z).bs = putZ c x z.bs) := come_new
  have E3 : Hid (z.cnt + 1 = c.lim → addZ c x z = ⟨halvesZ (comeZ c x z).f, zerosD c, 0, z.aged + 1⟩) := add_full
  have E4 : Hid (¬ z.cnt + 1 = c.lim → addZ c x z = ⟨(comeZ c x z).f, (comeZ c x z).bs, z.cnt + 1, z.aged⟩) := add_less
  obtain ⟨a0, k0, rfl⟩ := hr.vs
  obtain ⟨b0, m0, rfl⟩ := hr.us
  clear hr hK S1
  generalize addZ c x z = z1 at *
  generalize comeZ c x z = z2 at *
  generalize putZ c x z.bs = bs1 at *
  generalize z.f = f at *
  generalize z.bs = bs at *
  generalize z.cnt = k at *
  generalize z.aged = g at *
  go_enter Tryd.func23, Tryd.ntmps23
  go_wp2_with fail
  refine T34.out.mono ?_
  rintro e w2 ⟨u1, rfl, ⟨x3, x4, fr⟩, S2⟩
  obtain ⟨a1, k1, rfl⟩ := S2.out.rv.us
  have f3 := fr 3
  have f4 := fr 4
  clear T34 hW1 fr d0 d1 d2 d3 d4 d5 d6 d7 d8 d9
  generalize hw5 : ((w2.alloc (.cells #[.slice a1 (8 * c.m) k1, .int .u64 (c.seed : Int)] 32)).setCell ⟨N, 3, none⟩ (.slice a1 (8 * c.m) k1)).setCell ⟨N, 4, none⟩ (.int .u64 (c.seed : Int)) = w5 at S2
  have e1 : ((k + 1 : Nat) : Int) = (k : Int) + 1 := by omega
  have e2 : ((g + 1 : Nat) : Int) = (g : Int) + 1 := by omega
  obtain ⟨⟨d0, d1, d2, d3, d4, d5, d6, d7, d8, d9⟩, fr⟩ := CL.out _ _ _ _ _ _ _ S2
  cases hb : hasZ c x bs
  case' true =>
    have P35 := Lib.hid (T35.out _ _ _ _ _ _ _ S2)
    clear fr
    go_wp2_with fail
    refine P35.out.mono ?_
    rintro e w3 ⟨v3, rfl, ⟨x0, x1, x2, fr⟩, S3⟩
    obtain ⟨a0, k0, rfl⟩ := S3.out.rv.vs
    have g0 := fr 0
    have g1 := fr 1
    have g2 := fr 2
    clear P35 fr hw5 f3 f4 x3 x4 d0 d1 d2 d3 d4 d5 d6 d7 d8 d9 S2
    generalize hw5 : ((w3.setCell ⟨N, 0, none⟩ (.slice a0 4 k0)).setCell ⟨N, 1, none⟩ (.int .i64 (c.n : Int))).setCell ⟨N, 2, none⟩ (.int .u64 (c.seed : Int)) = w5 at S3
    rw [← (E1.out hb).1, ← (E1.out hb).2] at S3
    have EB := (E1.out hb).2
    have S2 := S3
    clear S3
    obtain ⟨⟨d0, d1, d2, d3, d4, d5, d6, d7, d8, d9⟩, fr⟩ := CL.out _ _ _ _ _ _ _ S2
  case' false =>
    rw [← (E2.out hb).1, ← (E2.out hb).2] at S2
  all_goals (
    have f5 := fr 5
    have S6 := SC.out _ _ _ _ _ _ _ (k + 1) S2
    rw [e1] at S6
    generalize hw6 : w5.setCell ⟨N, 5, none⟩ (.int .i64 ((k : Int) + 1)) = w6 at S6
    by_cases he : k + 1 = c.lim
    case' pos =>
      have hd : (c.lim : Int) ≤ (k : Int) + 1 := by omega
      have hh := Lib.hid he
      clear he
      obtain ⟨⟨q0, q1, q2, q3, q4, q5, q6, q7, q8, q9⟩, _⟩ := CL.out _ _ _ _ _ _ _ S6
      rw [e1] at q5
      have P36 := Lib.hid (T36.out _ _ _ _ _ _ _ S6)
      go_wp2_with fail
      refine P36.out.mono ?_
      rintro e w7 ⟨v7, rfl, ⟨x0, x1, x2, fr7⟩, S7⟩
      obtain ⟨a7, k7, rfl⟩ := S7.out.rv.vs
      have h0 := fr7 0
      have h1 := fr7 1
      have h2 := fr7 2
      clear P36 fr7 hw6 hw5 q0 q1 q2 q3 q4 q5 q6 q7 q8 q9 S6 d0 d1 d2 d3 d4 d5 d6 d7 d8 d9 f5 S2
      generalize hw8 : ((w7.setCell ⟨N, 0, none⟩ (.slice a7 4 k7)).setCell ⟨N, 1, none⟩ (.int .i64 (c.n : Int))).setCell ⟨N, 2, none⟩ (.int .u64 (c.seed : Int)) = w8 at S7
      obtain ⟨⟨q0, q1, q2, q3, q4, q5, q6, q7, q8, q9⟩, _⟩ := CL.out _ _ _ _ _ _ _ S7
      have P22 := Lib.hid (T22.out _ _ _ _ _ _ _ S7)
      go_wp2_with fail
      refine P22.out.mono ?_
      rintro e w9 ⟨u9, rfl, ⟨x3, x4, fr9⟩, S9⟩
      obtain ⟨a9, k9, rfl⟩ := S9.out.rv.us
      have h3 := fr9 3
      have h4 := fr9 4
      clear P22 fr9 hw8 q0 q1 q2 q3 q4 q5 q6 q7 q8 q9 S7 x0 x1 x2 h0 h1 h2
      generalize hw10 : (w9.setCell ⟨N, 3, none⟩ (.slice a9 (8 * c.m) k9)).setCell ⟨N, 4, none⟩ (.int .u64 (c.seed : Int)) = w10 at S9
      obtain ⟨⟨_, _, _, _, _, r5, _, _, _, _⟩, fr10⟩ := CL.out _ _ _ _ _ _ _ S9
      have h5 := fr10 5
      rw [e1] at r5
      have S11 := SC.out _ _ _ _ _ _ _ 0 S9
      rw [show ((0 : Nat) : Int) = 0 from rfl] at S11
      generalize hw11 : w10.setCell ⟨N, 5, none⟩ (.int .i64 0) = w11 at S11
      obtain ⟨⟨_, _, _, _, _, _, _, r7, _, _⟩, fr11⟩ := CL.out _ _ _ _ _ _ _ S11
      have h7 := fr11 7
      have S12 := SA.out _ _ _ _ _ _ _ (g + 1) S11
      rw [e2] at S12
      generalize hw12 : w11.setCell ⟨N, 7, none⟩ (.int .i64 ((g : Int) + 1)) = w12 at S12
      clear fr10 fr11
      obtain ⟨⟨q0, q1, q2, q3, q4, q5, q6, q7, q8, q9⟩, _⟩ := CL.out _ _ _ _ _ _ _ S12
      obtain ⟨⟨y0, y1, y2, y3, y4, y5, y6, y7, y8, y9⟩, fn⟩ := RC.out _ _ _ _ _ _ _ S12
      have n0 := fn 0
      have n1 := fn 1
      have n2 := fn 2
      have n3 := fn 3
      have n4 := fn 4
      have n5 := fn 5
      have n6 := fn 6
      have n7 := fn 7
      have n8 := fn 8
      have n9 := fn 9
      have EZ := EN.out _ _ _ _ _ _ _ S12
      rw [e2, show ((0 : Nat) : Int) = 0 from rfl] at EZ
      rw [e2] at q7
      rw [show ((0 : Nat) : Int) = 0 from rfl] at q5
      obtain ⟨B3, hB3⟩ : ∃ B3, set10 w12 (N + 1) (.slice a7 4 k7) (.int .i64 (c.n : Int)) (.int .u64 (c.seed : Int)) (.slice a9 (8 * c.m) k9) (.int .u64 (c.seed : Int)) (.int .i64 (0)) (.int .i64 (c.lim : Int)) (.int .i64 ((g : Int) + 1)) (.int .i64 0) (.int .u64 (c.seed : Int)) = B3 := ⟨_, rfl⟩
      obtain ⟨⟨b0, b1, b2, b3, b4, b5, b6, b7, b8, b9⟩, q⟩ := EZ _ hB3
      unfold set10 at hB3
      clear CL RC EN SC SA T35 T36 T22 EZ fn fr
      go_wp2
      refine bodyPost_ret (v := tv c (0) ((g : Int) + 1) (.slice a7 4 k7) (.slice a9 (8 * c.m) k9)) ?_ rfl ?_
      · simp [results, Tryd.results23, go_sem, b0, b1, b2, b3, b4, b5, b6, b7, b8, b9]
      · rw [E3.out hh.out]
        exact ⟨.slice a7 4 k7, .slice a9 (8 * c.m) k9, by simp only [e2, show ((0 : Nat) : Int) = 0 from rfl], by rw [hN]; exact q.out⟩
    case' neg =>
      have hd : ¬ (c.lim : Int) ≤ (k : Int) + 1 := by omega
      have hh := Lib.hid he
      clear he
      obtain ⟨⟨q0, q1, q2, q3, q4, q5, q6, q7, q8, q9⟩, _⟩ := CL.out _ _ _ _ _ _ _ S6
      obtain ⟨⟨y0, y1, y2, y3, y4, y5, y6, y7, y8, y9⟩, fn⟩ := RC.out _ _ _ _ _ _ _ S6
      have n0 := fn 0
      have n1 := fn 1
      have n2 := fn 2
      have n3 := fn 3
      have n4 := fn 4
      have n5 := fn 5
      have n6 := fn 6
      have n7 := fn 7
      have n8 := fn 8
      have n9 := fn 9
      have EZ := EN.out _ _ _ _ _ _ _ S6
      rw [e1] at q5 EZ
      obtain ⟨B3, hB3⟩ : ∃ B3, set10 w6 (N + 1) (.slice a0 4 k0) (.int .i64 (c.n : Int)) (.int .u64 (c.seed : Int)) (.slice a1 (8 * c.m) k1) (.int .u64 (c.seed : Int)) (.int .i64 ((k : Int) + 1)) (.int .i64 (c.lim : Int)) (.int .i64 ((g : Int))) (.int .i64 0) (.int .u64 (c.seed : Int)) = B3 := ⟨_, rfl⟩
      obtain ⟨⟨b0, b1, b2, b3, b4, b5, b6, b7, b8, b9⟩, q⟩ := EZ _ hB3
      unfold set10 at hB3
      clear CL RC EN SC SA T35 T36 T22 EZ fn fr
      go_wp2
      refine bodyPost_ret (v := tv c ((k : Int) + 1) ((g : Int)) (.slice a0 4 k0) (.slice a1 (8 * c.m) k1)) ?_ rfl ?_
      · simp [results, Tryd.results23, go_sem, b0, b1, b2, b3, b4, b5, b6, b7, b8, b9]
      · rw [E4.out hh.out]
        exact ⟨.slice a0 4 k0, .slice a1 (8 * c.m) k1, by simp only [e1], by rw [hN]; exact q.out⟩)
end Go.Proofs.YthjbkabkoolfdaaDoor
