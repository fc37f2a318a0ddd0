/-
  The document's New and Push by their contracts.
-/
import Derived.Test.YthjbkabkoolfdaaDoorRx
import Derived.Test.YthjbkabkoolfdaaDoorTa
namespace Go.Proofs.YthjbkabkoolfdaaDoor
open Go.RowKit
open nb (Keep ct cell_of frozen_of heap_set heap_set_other heap_old heap_next heap_lt addAt mayAdd)
set_option maxRecDepth 20000 in
set_option maxHeartbeats 4000000 in
theorem refnew13 (k : Int) (seed : Nat) (hseed : seed < 18446744073709551616) (w : World) (K : Nat → Prop) (hK : ∀ b, w.heap.size ≤ b → K b) :
    Calls Tryd.prog 7 #[.int .i64 k, .int .u64 (seed : Int)] w fun e B => ∃ v u, e = .returned (tv (csN k seed) 0 0 v u) ∧ Rv K B (csN k seed) (zerosS (csN k seed)) (zerosD (csN k seed)) v u ∧ Below w.heap.size w B := by
  obtain ⟨l, hl⟩ : ∃ l : Int, min (max k 1) 4096 = l := ⟨_, rfl⟩
  obtain ⟨lim, hlim⟩ : ∃ lim : Nat, l.toNat = lim := ⟨_, rfl⟩
  have e : csN k seed = ⟨seed, sk.wdN l, dr.bdN l, lim⟩ := by unfold csN; rw [hl, hlim]
  have h1 : l = (lim : Int) ∧ lim ≤ 4096 := by omega
  obtain ⟨rfl, h4⟩ := h1
  have hl' : max 1 (min k 4096) = (lim : Int) := by omega
  obtain ⟨N, hN⟩ : ∃ N, w.heap.size = N := ⟨_, rfl⟩
  obtain ⟨W1, hW1⟩ : ∃ W1, w.alloc (.cells t0 34) = W1 := ⟨_, rfl⟩
  have hr1 : W1.heap[N]? = some (.cells t0 34 (0, 0)) := by rw [← hW1]; exact heap_next hN.symm _
  have hs1 : W1.heap.size = N + 1 := by rw [← hW1]; simp [hN]
  have hb1 : Below N w W1 := by rw [← hW1]; exact (Below.refl _ _).alloc (by omega) _
  rw [hN] at hK
  obtain ⟨c, hc⟩ : ∃ c : Cs, (⟨seed, sk.wdN (lim : Int), dr.bdN (lim : Int), lim⟩ : Cs) = c := ⟨_, rfl⟩
  have c1 : c.seed = seed := by rw [← hc]
  have c2 : c.n = sk.wdN (lim : Int) := by rw [← hc]
  have c3 : c.m = dr.bdN (lim : Int) := by rw [← hc]
  have c4 : c.lim = lim := by rw [← hc]
  obtain ⟨p1, p2⟩ := sk.wdN_bd (lim : Int)
  obtain ⟨_, p3, p4⟩ := dr.bdN_bd (lim : Int)
  have T : Hid (Calls Tryd.prog 21 #[.int .i64 (lim : Int), .int .u64 (seed : Int)] W1 fun e B => ∃ a k, e = .returned (sk.sv (.slice a 4 k) c.n seed) ∧ Hid (Calls Tryd.prog 22 #[.int .i64 (lim : Int), .int .u64 (seed : Int)] B fun e B2 => ∃ a2 k2, e = .returned (dr.dv (.slice a2 (8 * c.m) k2) seed) ∧ B2.heap[N]? = some (.cells t0 34 (0, 0)) ∧ Hid (Rv (fun b => K b ∧ b ≠ N) B2 c (zerosS c) (zerosD c) (.slice a 4 k) (.slice a2 (8 * c.m) k2) ∧ Below N w B2))) := by
    rw [c2, c3]
    exact (sk.refnew_any (lim : Int) seed W1 (fun b => K b ∧ b ≠ N) fun b hb => ⟨hK b (by omega), by omega⟩).mono fun e B ⟨a, k, he, hr, hb⟩ => ⟨a, k, he, (dr.refnew_any (lim : Int) seed B).mono fun e B2 ⟨a2, k2, he2, hq, hb2, ho⟩ => by
      have hz := hb.size
      refine ⟨a2, k2, he2, (hb2.block N (by omega)).trans ((hb.block N (by omega)).trans hr1), ⟨?_, ?_, fun b hb' => ?_, fun i _ => ?_, fun i j _ => ?_, ?_, ?_, ?_, ?_, ?_, ?_, ?_⟩, hb1.trans ((hb.mono (by omega)).trans (hb2.mono (by omega)))⟩
      · have := hr.keep (keep_below hb2)
        rw [← c2] at this
        exact this
      · show dr.Q dr.eb B2 _ (dr.ub (List.replicate c.m 0))
        rw [dr.ub_zeros, c3]
        exact hq
      · have := ho b hb'
        exact ⟨hK b (by omega), by omega⟩
      · exact List.length_replicate ..
      · show ct (zerosS c i) j ≤ 15
        rw [show ct (zerosS c i) j = 0 from nb.ct_zeros _ j]
        omega
      · exact List.length_replicate ..
      · rw [c2]; exact p1
      · rw [c2]; exact p2
      · rw [c3]; exact p3
      · rw [c3]; exact p4
      · rw [c1]; exact hseed
      · rw [c4, c3]⟩
  rw [e, hc]
  clear e hl hlim hc c2 c3 p1 p2 p3 p4 hb1 hs1 hr1 hK
  go_enter Tryd.func7, Tryd.ntmps7
  go_wp2_with fail
  refine T.out.mono ?_
  rintro e w2 ⟨a, k, rfl, T2⟩
  go_wp2_with fail
  refine T2.out.mono ?_
  rintro e w3 ⟨a2, k2, rfl, hr, q⟩
  clear T T2 hW1
  have y0 : w3.cell? ⟨N, 0, none⟩ = some (.slice none 0 0) := by rw [cell_of hr]; rfl
  have y1 : w3.cell? ⟨N, 1, none⟩ = some (.int .i64 0) := by rw [cell_of hr]; rfl
  have y2 : w3.cell? ⟨N, 2, none⟩ = some (.int .u64 0) := by rw [cell_of hr]; rfl
  have y3 : w3.cell? ⟨N, 3, none⟩ = some (.slice none 0 0) := by rw [cell_of hr]; rfl
  have y4 : w3.cell? ⟨N, 4, none⟩ = some (.int .u64 0) := by rw [cell_of hr]; rfl
  have y5 : w3.cell? ⟨N, 5, none⟩ = some (.int .i64 0) := by rw [cell_of hr]; rfl
  have y6 : w3.cell? ⟨N, 6, none⟩ = some (.int .i64 0) := by rw [cell_of hr]; rfl
  have y7 : w3.cell? ⟨N, 7, none⟩ = some (.int .i64 0) := by rw [cell_of hr]; rfl
  have y8 : w3.cell? ⟨N, 8, none⟩ = some (.int .i64 0) := by rw [cell_of hr]; rfl
  have y9 : w3.cell? ⟨N, 9, none⟩ = some (.int .u64 0) := by rw [cell_of hr]; rfl
  have n0 := frozen_of hr 0
  have n1 := frozen_of hr 1
  have n2 := frozen_of hr 2
  have n3 := frozen_of hr 3
  have n4 := frozen_of hr 4
  have n5 := frozen_of hr 5
  have n6 := frozen_of hr 6
  have n7 := frozen_of hr 7
  have n8 := frozen_of hr 8
  have n9 := frozen_of hr 9
  have hz := heap_lt hr
  have hk := keep10 w3 N (.slice a 4 k) (.int .i64 (c.n : Int)) (.int .u64 (seed : Int)) (.slice a2 (8 * c.m) k2) (.int .u64 (seed : Int)) (.int .i64 0) (.int .i64 (lim : Int)) (.int .i64 0) (.int .i64 0) (.int .u64 (seed : Int))
  have hp := put10 (.slice a 4 k) (.int .i64 (c.n : Int)) (.int .u64 (seed : Int)) (.slice a2 (8 * c.m) k2) (.int .u64 (seed : Int)) (.int .i64 0) (.int .i64 (lim : Int)) (.int .i64 0) (.int .i64 0) (.int .u64 (seed : Int)) hr
  obtain ⟨B3, hB3⟩ : ∃ B3, set10 w3 N (.slice a 4 k) (.int .i64 (c.n : Int)) (.int .u64 (seed : Int)) (.slice a2 (8 * c.m) k2) (.int .u64 (seed : Int)) (.int .i64 0) (.int .i64 (lim : Int)) (.int .i64 0) (.int .i64 0) (.int .u64 (seed : Int)) = B3 := ⟨_, rfl⟩
  rw [hB3] at hk hp
  have b0 : B3.cell? ⟨N, 0, none⟩ = some (.slice a 4 k) := by rw [cell_of hp]; rfl
  have b1 : B3.cell? ⟨N, 1, none⟩ = some (.int .i64 (c.n : Int)) := by rw [cell_of hp]; rfl
  have b2 : B3.cell? ⟨N, 2, none⟩ = some (.int .u64 (seed : Int)) := by rw [cell_of hp]; rfl
  have b3 : B3.cell? ⟨N, 3, none⟩ = some (.slice a2 (8 * c.m) k2) := by rw [cell_of hp]; rfl
  have b4 : B3.cell? ⟨N, 4, none⟩ = some (.int .u64 (seed : Int)) := by rw [cell_of hp]; rfl
  have b5 : B3.cell? ⟨N, 5, none⟩ = some (.int .i64 0) := by rw [cell_of hp]; rfl
  have b6 : B3.cell? ⟨N, 6, none⟩ = some (.int .i64 (lim : Int)) := by rw [cell_of hp]; rfl
  have b7 : B3.cell? ⟨N, 7, none⟩ = some (.int .i64 0) := by rw [cell_of hp]; rfl
  have b8 : B3.cell? ⟨N, 8, none⟩ = some (.int .i64 0) := by rw [cell_of hp]; rfl
  have b9 : B3.cell? ⟨N, 9, none⟩ = some (.int .u64 (seed : Int)) := by rw [cell_of hp]; rfl
  have D : Hid (Rv K B3 c (zerosS c) (zerosD c) (.slice a 4 k) (.slice a2 (8 * c.m) k2) ∧ Below N w B3) := ⟨(q.out.1.keep (hk.mono fun _ _ h => h.2)).mono fun _ h => h.1, q.out.2.trans (hk.below (fun k hk => by show k ≠ N; omega) (by omega))⟩
  have c1 := Lib.hid c1
  have c4 := Lib.hid c4
  unfold set10 at hB3
  clear hk hp hr q h4 hz
  go_wp2
  refine bodyPost_ret (v := .agg #[.slice a 4 k, .int .i64 (c.n : Int), .int .u64 (seed : Int), .slice a2 (8 * c.m) k2, .int .u64 (seed : Int), .int .i64 0, .int .i64 (lim : Int), .int .i64 0, .int .i64 0, .int .u64 (seed : Int)]) ?_ rfl ?_
  · simp [results, Tryd.results7, go_sem, b0, b1, b2, b3, b4, b5, b6, b7, b8, b9]
  · exact ⟨.slice a 4 k, .slice a2 (8 * c.m) k2, by rw [tv, tc, c1.out, c4.out], by rw [hN]; exact D.out⟩
end Go.Proofs.YthjbkabkoolfdaaDoor
