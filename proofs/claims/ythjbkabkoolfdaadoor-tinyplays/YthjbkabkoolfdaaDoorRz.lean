/-
  The document's Push by its contract.
-/
import Derived.Test.YthjbkabkoolfdaaDoorRy
namespace Go.Proofs.YthjbkabkoolfdaaDoor
open Go.RowKit
open nb (Keep ct cell_of frozen_of heap_set heap_set_other heap_old heap_next heap_lt addAt mayAdd)
set_option maxRecDepth 20000 in
set_option maxHeartbeats 8000000 in
theorem refpush13 {w : World} {K : Nat → Prop} {c : Cs} {z : Zs} {v u : Value} (hr : Rv K w c z.f z.bs v u) (hK : ∀ b, w.heap.size ≤ b → K b) (p : Option Addr) (cap : Nat) (l : List Nat) (hl : Keys w p l) (k : Nat) (ho : Ok c k z) (hkl : k + l.length ≤ 1000000) (hc2 : c.lim ≤ 4096) :
    Calls Tryd.prog 9 #[tv c (z.cnt : Int) (z.aged : Int) v u, .slice p l.length cap] w fun e B => ∃ v' u', e = .returned (tv c ((pushZ c l z).cnt : Int) ((pushZ c l z).aged : Int) v' u') ∧ Rv K B c (pushZ c l z).f (pushZ c l z).bs v' u' ∧ Below w.heap.size w B := by
  obtain ⟨N, hN⟩ : ∃ N, w.heap.size = N := ⟨_, rfl⟩
  obtain ⟨a0, k0, rfl⟩ := hr.vs
  obtain ⟨b0, m0, rfl⟩ := hr.us
  obtain ⟨W1, hW1⟩ : ∃ W1, (w.alloc (.cells (tc c (z.cnt : Int) (z.aged : Int) (.slice a0 4 k0) (.slice b0 (8 * c.m) m0)) 34)).alloc (.cells t0 34) = W1 := ⟨_, rfl⟩
  have S1 : Hid (Rb w K N c z.f z.bs z.cnt z.aged (.slice a0 4 k0) (.slice b0 (8 * c.m) m0) W1) := by rw [← hW1]; exact Rb.start hr hN _ _
  rw [hN] at hK
  obtain ⟨Z, hZ⟩ : ∃ Z : Nat → Zs, (fun j => pushZ c (l.take j) z) = Z := ⟨_, rfl⟩
  have G : Hid (∀ (j : Nat) (v u : Value) (W : World), j < l.length → Hid (Rb w K N c (Z j).f (Z j).bs (Z j).cnt (Z j).aged v u W) → ∃ b o x, p = some ⟨b, o, none⟩ ∧ W.cell? ⟨b, o + j, none⟩ = some (.int .u64 (x : Int)) ∧
      Hid (Calls Tryd.prog 23 #[tv c ((Z j).cnt : Int) ((Z j).aged : Int) v u, .int .u64 (x : Int)] W.drew fun e B => ∃ a k a' k', e = .returned (tv c ((Z (j + 1)).cnt : Int) ((Z (j + 1)).aged : Int) (.slice a 4 k) (.slice a' (8 * c.m) k')) ∧ (Rb.Cl N c (Z j).cnt (Z j).aged v u B ∧ ∀ i, B.frozen? ⟨N, i, none⟩ = false) ∧
        Hid (Rb w K N c (Z (j + 1)).f (Z (j + 1)).bs (Z (j + 1)).cnt (Z (j + 1)).aged (.slice a 4 k) (.slice a' (8 * c.m) k') (set10 B N (.slice a 4 k) (.int .i64 (c.n : Int)) (.int .u64 (c.seed : Int)) (.slice a' (8 * c.m) k') (.int .u64 (c.seed : Int)) (.int .i64 ((Z (j + 1)).cnt : Int)) (.int .i64 (c.lim : Int)) (.int .i64 ((Z (j + 1)).aged : Int)) (.int .i64 0) (.int .u64 (c.seed : Int)))))) := by
    subst hZ
    intro j v u W hj hW
    obtain ⟨b, o, x, hp, hx, hlt, hc⟩ := hl.at_ (hN ▸ hW.out.old) j hj
    have hO := ho.push (l := l.take j)
    rw [List.length_take, Nat.min_eq_left (by omega)] at hO
    have hD := hW.out.drew
    refine ⟨b, o, x, hp, hc, (refadd13 (z := pushZ c (l.take j) z) hD.rv (hD.past hK) x hlt hO.1 hc2 (by have := hO.2; omega)).mono fun e B ⟨v', u', he, hrv, hb⟩ => ?_⟩
    rw [← push_next c l z j x hx] at he hrv
    obtain ⟨a, k, rfl⟩ := hrv.vs
    obtain ⟨a', k', rfl⟩ := hrv.us
    have h2 := hD.below hb
    exact ⟨a, k, a', k', he, ⟨h2.cells, h2.fr⟩, h2.set hrv⟩
  have CL : Hid (∀ j v u W, Hid (Rb w K N c (Z j).f (Z j).bs (Z j).cnt (Z j).aged v u W) → (Rb.Cl N c (Z j).cnt (Z j).aged v u W ∧ ∀ i, W.frozen? ⟨N, i, none⟩ = false) ∧ ((∃ a k, v = .slice a 4 k) ∧ ∃ a k, u = .slice a (8 * c.m) k)) := fun j v u W hW => ⟨⟨hW.out.cells, hW.out.fr⟩, hW.out.rv.vs, hW.out.rv.us⟩
  have RC : Hid (∀ j v u W, Hid (Rb w K N c (Z j).f (Z j).bs (Z j).cnt (Z j).aged v u W) → _) := fun j v u W (hW : Hid (Rb w K N c (Z j).f (Z j).bs (Z j).cnt (Z j).aged v u W)) => hW.out.rescells
  have EN : Hid (∀ j v u W, Hid (Rb w K N c (Z j).f (Z j).bs (Z j).cnt (Z j).aged v u W) → _) := fun j v u W (hW : Hid (Rb w K N c (Z j).f (Z j).bs (Z j).cnt (Z j).aged v u W)) B e => hW.out.end_ (B := B) e
  have N0 : Hid (Rb w K N c (Z 0).f (Z 0).bs (Z 0).cnt (Z 0).aged (.slice a0 4 k0) (.slice b0 (8 * c.m) m0) W1) := by subst hZ; exact S1
  have E : Hid (pushZ c l z = Z l.length) := by subst hZ; exact (push_all c l z).symm
  have hlen : l.length ≤ 1000000 := by omega
  clear hr hK S1 hZ hl ho hkl
  generalize pushZ c l z = y at *
  generalize l.length = len at *
  go_enter Tryd.func9, Tryd.ntmps9
  go_wp2_with fail
  clear hW1
  go_loopw [5] (fun i wr => ∃ (j : Nat) (v u : Value), j ≤ len ∧ i = .int .i64 j ∧ Hid (Rb w K N c (Z j).f (Z j).bs (Z j).cnt (Z j).aged v u wr)) (fun i _ => len - (intOf i).toNat)
  case atStart => exact ⟨0, _, _, by omega, rfl, N0⟩
  case round =>
    obtain ⟨j, v, u, hj, rfl, hH⟩ := hrel
    obtain ⟨⟨⟨d0, d1, d2, d3, d4, d5, d6, d7, d8, d9⟩, fr⟩, ⟨a, k, rfl⟩, a', k', rfl⟩ := CL.out j v u wr hH
    by_cases hlt : j < len
    · obtain ⟨b, o, x, rfl, x0, P⟩ := G.out j _ _ wr hlt hH
      have h1 : (0 : Int) ≤ (j : Int) := by omega
      have h2 : (j : Int) < (len : Int) := by omega
      clear G CL RC EN E N0 hH fr
      generalize ((Z j).cnt : Int) = n1 at *
      generalize ((Z j).aged : Int) = n2 at *
      go_wp2_with fail
      go_region_with (first | (go_at_call 23; refine P.out.mono ?_; rintro e w2 ⟨a2, k2, a3, k3, rfl, ⟨⟨y0, y1, y2, y3, y4, y5, y6, y7, y8, y9⟩, fr⟩, q2⟩; have f0 := fr 0; have f1 := fr 1; have f2 := fr 2; have f3 := fr 3; have f4 := fr 4; have f5 := fr 5; have f6 := fr 6; have f7 := fr 7; have f8 := fr 8; have f9 := fr 9))
      all_goals (
        unfold set10 at q2
        go_wp2
        go_roundw
        case rel => exact ⟨j + 1, _, _, by omega, by simp, q2⟩
        case measure => simp [intOf]; omega)
    · obtain rfl : j = len := by omega
      obtain ⟨⟨y0, y1, y2, y3, y4, y5, y6, y7, y8, y9⟩, fn⟩ := RC.out _ _ _ _ hH
      have n0 := fn 0
      have n1 := fn 1
      have n2 := fn 2
      have n3 := fn 3
      have n4 := fn 4
      have n5 := fn 5
      have n6 := fn 6
      have n7 := fn 7
      have n8 := fn 8
      have n9 := fn 9
      have EZ := EN.out _ _ _ _ hH
      have EF : Hid (y.f = (Z j).f ∧ y.bs = (Z j).bs ∧ y.cnt = (Z j).cnt ∧ y.aged = (Z j).aged) := by rw [E.out]; exact ⟨rfl, rfl, rfl, rfl⟩
      generalize (Z j).f = f at *
      generalize (Z j).bs = bs at *
      generalize (Z j).cnt = cnt at *
      generalize (Z j).aged = aged at *
      obtain ⟨B3, hB3⟩ : ∃ B3, set10 wr (N + 1) (.slice a 4 k) (.int .i64 (c.n : Int)) (.int .u64 (c.seed : Int)) (.slice a' (8 * c.m) k') (.int .u64 (c.seed : Int)) (.int .i64 (cnt : Int)) (.int .i64 (c.lim : Int)) (.int .i64 (aged : Int)) (.int .i64 0) (.int .u64 (c.seed : Int)) = B3 := ⟨_, rfl⟩
      obtain ⟨⟨b0, b1, b2, b3, b4, b5, b6, b7, b8, b9⟩, q⟩ := EZ _ hB3
      unfold set10 at hB3
      clear CL RC EN G E N0 EZ fn fr hH
      go_wp2
      refine bodyPost_ret (v := tv c (cnt : Int) (aged : Int) (.slice a 4 k) (.slice a' (8 * c.m) k')) ?_ rfl ?_
      · simp [results, Tryd.results9, go_sem, b0, b1, b2, b3, b4, b5, b6, b7, b8, b9]
      · obtain ⟨e1, e2, e3, e4⟩ := EF.out
        exact ⟨.slice a 4 k, .slice a' (8 * c.m) k', by rw [e3, e4], by rw [hN, e1, e2]; exact q.out⟩
end Go.Proofs.YthjbkabkoolfdaaDoor
