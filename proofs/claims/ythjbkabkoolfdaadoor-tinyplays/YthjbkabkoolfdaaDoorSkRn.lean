/-
  The document's sketch (cortadoref11): New by its contract.
-/
import Derived.Test.YthjbkabkoolfdaaDoorSkRw
import Derived.Lib.MinMax
import Derived.RegionTactic
import Derived.Deep.RegionLaw
namespace Go.Proofs.YthjbkabkoolfdaaDoor.sk
open Go.RowKit
open nb (Keep Nib ct cell_of frozen_of heap_set heap_set_other heap_old heap_next heap_lt getAt mayAdd addAt Q e64 info_parts step_ex)
theorem made_ints (n : Nat) : madeCells #[Value.int .i64 0] n = ((List.replicate n 0).map e64).toArray := by
  refine Array.ext (by simp [madeCells]) fun i h1 h2 => ?_
  simp [madeCells, e64, Nat.mod_one]
theorem zeros_q (W : World) (m : Nat) : Q e64 (W.alloc (.cells (madeCells #[.int .i64 0] m) 3)) (.slice (some ⟨W.heap.size, 0, none⟩) m m) (List.replicate m 0) :=
  .inr ⟨W.heap.size, 0, m, by simp, by simp, fun i hi => by
    simp at hi
    rw [cell_of (heap_next rfl _), made_ints]
    simp [hi]⟩
theorem wd_alike (c : Int) : wd.pwN (max 1 (min c 4096)) = wdN c := by
  unfold wdN
  congr 1
  omega
/-- what lies in a box of three. -/
theorem put3 {W : World} {b : Nat} {x y z : Value} (a0 a1 a2 : Value) (h : W.heap[b]? = some (.cells #[x, y, z] 29 (0, 0))) : (((W.setCell ⟨b, 0, none⟩ a0).setCell ⟨b, 1, none⟩ a1).setCell ⟨b, 2, none⟩ a2).heap[b]? = some (.cells #[a0, a1, a2] 29 (0, 0)) := by
  rw [heap_set (heap_set (heap_set h 0 a0) 1 a1) 2 a2]
  rfl
set_option maxHeartbeats 2000000 in
theorem refnew_any (c : Int) (seed : Nat) (w : World) (K : Nat → Prop) (hK : ∀ b, w.heap.size ≤ b → K b) : Calls Tryd.prog 21 #[.int .i64 c, .int .u64 (seed : Int)] w fun e B => ∃ a k, e = .returned (sv (.slice a 4 k) (wdN c) seed) ∧ Rr K B (.slice a 4 k) 4 (fun _ => List.replicate (wdN c) 0) ∧ Below w.heap.size w B := by
  obtain ⟨hp, hl⟩ := wdN_bd c
  obtain ⟨m, hm⟩ : ∃ m : Int, max 1 (min c 4096) = m := ⟨_, rfl⟩
  have P := Lib.hid (wd.refpower_any m)
  have e : wd.pwN m = wdN c := by rw [← hm]; exact wd_alike c
  rw [e] at P
  generalize wdN c = n at *
  obtain ⟨N, hN⟩ : ∃ N, w.heap.size = N := ⟨_, rfl⟩
  have hmk := fun w => run_make_row' (P := Tryd.prog) 70 3 (.int .i64 0) 8 Tryd.underlying70 nb.info_i rfl .i64 .i64 n (by omega) (by omega) w
  clear e
  go_enter Tryd.func21, Tryd.ntmps21
  go_wp2_with (go_at_call 33; refine (P.out _).mono ?_; rintro e w1 ⟨rfl, rfl⟩)
  obtain ⟨W1, hW1⟩ : ∃ W1, (w.alloc (.cells #[.slice none 0 0, .int .i64 0, .int .u64 0] 29)).alloc (.cells #[.slice none 0 0, .int .i64 (n : Int), .int .u64 (seed : Int)] 29) = W1 := ⟨_, rfl⟩
  have hr1 : W1.heap[N]? = some (.cells #[.slice none 0 0, .int .i64 0, .int .u64 0] 29 (0, 0)) := by rw [← hW1]; exact heap_old (heap_next hN.symm _)
  have hx1 : W1.heap[N + 1]? = some (.cells #[.slice none 0 0, .int .i64 (n : Int), .int .u64 (seed : Int)] 29 (0, 0)) := by rw [← hW1]; exact heap_next (by simp [hN]) _
  have hb1 : Below N w W1 := by rw [← hW1]; exact ((Below.refl _ _).alloc (by omega) _).alloc (by simp; omega) _
  have S0 : Hid (Bu W1 (fun b => K b ∧ b ≠ N) (N + 1) n seed 0 (fun _ => List.replicate n 0) (.slice none 0 0) W1) := Bu.start hx1
  have hK' : ∀ b, N ≤ b → K b := hN ▸ hK
  have A : Hid (∀ k v W, k < 4 → Bu W1 (fun b => K b ∧ b ≠ N) (N + 1) n seed k (fun _ => List.replicate n 0) v W → W.cell? ⟨N + 1, 0, none⟩ = some v ∧ Hid (∀ ty, ∃ v' w', (Builtin.append_ #[27, 27] ty #[v, .slice (some ⟨W.heap.size + 1, 0, none⟩) 1 1]).run Tryd.prog ((W.alloc (.cells (madeCells #[.int .i64 0] n) 3)).alloc (.cells #[.slice (some ⟨W.heap.size, 0, none⟩) n n] 70)) = .ok v' w' ∧ ((∃ s c, v' = .slice (some ⟨s, 0, none⟩) (k + 1) c) ∧ w'.cell? ⟨N + 1, 0, none⟩ = some v ∧ w'.frozen? ⟨N + 1, 0, none⟩ = false ∧ Hid (Bu W1 (fun b => K b ∧ b ≠ N) (N + 1) n seed (k + 1) (fun _ => List.replicate n 0) v' (w'.setCell ⟨N + 1, 0, none⟩ v'))))) := fun k v W hk hB => by
    refine ⟨hB.c0, fun ty => ?_⟩
    have hB2 : Bu W1 (fun b => K b ∧ b ≠ N) (N + 1) n seed k (fun _ => List.replicate n 0) v (W.alloc (.cells (madeCells #[.int .i64 0] n) 3)) := hB.keep (K' := fun _ => True) (.alloc _ _ _) fun _ _ => trivial
    have hsz : (W.alloc (.cells (madeCells #[.int .i64 0] n) 3)).heap.size = W.heap.size + 1 := by simp
    rw [← hsz]
    refine hB2.push (zeros_q W n) (fun b hb => ?_) (by omega) ty
    simp [Value.ownBlock] at hb
    subst hb
    have := hB.lt
    obtain ⟨vs, ho, _⟩ := hB.made
    exact ⟨fun e => by have := (World.ownsRow.lt ho _ e).2; omega, by simp, by omega, fun h => by omega⟩
  have D : Hid (∀ v W, Bu W1 (fun b => K b ∧ b ≠ N) (N + 1) n seed 4 (fun _ => List.replicate n 0) v W → ∃ s c, v = .slice (some ⟨s, 0, none⟩) 4 c ∧ W.cell? ⟨N + 1, 0, none⟩ = some v ∧ W.cell? ⟨N + 1, 1, none⟩ = some (.int .i64 (n : Int)) ∧ W.cell? ⟨N + 1, 2, none⟩ = some (.int .u64 (seed : Int)) ∧ W.cell? ⟨N, 0, none⟩ = some (.slice none 0 0) ∧ W.cell? ⟨N, 1, none⟩ = some (.int .i64 0) ∧ W.cell? ⟨N, 2, none⟩ = some (.int .u64 0) ∧ (∀ i, W.frozen? ⟨N, i, none⟩ = false) ∧
      Hid (W.heap[N]? = some (.cells #[.slice none 0 0, .int .i64 0, .int .u64 0] 29 (0, 0)) ∧ Rr (fun b => K b ∧ b ≠ N) W v 4 (fun _ => List.replicate n 0) ∧ Below N w W)) := fun v W hB => by
    obtain ⟨hR, s, c, hv⟩ := hB.done fun b hb => ⟨hK' b (by omega), by omega⟩
    have hh := hB.old.heap hr1 (by omega)
    exact ⟨s, c, hv, hB.c0, by rw [cell_of hB.head]; rfl, by rw [cell_of hB.head]; rfl, by rw [cell_of hh]; rfl, by rw [cell_of hh]; rfl, by rw [cell_of hh]; rfl, fun i => frozen_of hh i, hh, hR, hb1.trans (hB.old.below (fun k hk => by omega) (by have := heap_lt hr1; omega))⟩
  rw [hW1]
  have HK := Lib.hid hK'
  clear hW1 hr1 hx1 hb1 hK hK'
  generalize madeCells #[Value.int .i64 0] n = Z at *
  go_loopw [7] (fun i wr => ∃ (j : Nat) (v : Value), j ≤ 4 ∧ i = .int .i64 j ∧ Hid (Bu W1 (fun b => K b ∧ b ≠ N) (N + 1) n seed j (fun _ => List.replicate n 0) v wr)) (fun i _ => 4 - (intOf i).toNat)
  case atStart => exact ⟨0, _, by omega, rfl, S0⟩
  case round =>
    obtain ⟨j, v, hj, rfl, hH⟩ := hrel
    by_cases hlt : j < 4
    · obtain ⟨c0, A1⟩ := A.out j v wr.drew hlt hH.out.drew
      have c0' : wr.cell? ⟨N + 1, 0, none⟩ = some v := c0
      have c1 : (wr.alloc (.cells Z 3)).cell? ⟨N + 1, 0, none⟩ = some v := nb.cell_past c0'
      have c2 : ((wr.alloc (.cells Z 3)).alloc (.cells #[.slice (some ⟨wr.heap.size, 0, none⟩) n n] 70)).cell? ⟨N + 1, 0, none⟩ = some v := nb.cell_past c1
      clear A D S0
      go_wp2_with fail
      go_region_law (first | (refine step_ex _ (by rfl) _ _ 27 (by rfl) _ _ (by rfl) (by rfl) (A1.out _) ?_; rintro v2 w2 ⟨⟨a2, c3, rfl⟩, d2, f2, q2⟩))
      all_goals (
        go_wp2
        go_roundw
        case rel => exact ⟨j + 1, _, by omega, by simp, q2⟩
        case measure => simp [intOf]; omega)
    · obtain rfl : j = 4 := by omega
      obtain ⟨s, c', rfl, x0, x1, x2, y0, y1, y2, fr, q⟩ := D.out _ _ hH.out
      have f0 := fr 0
      have f1 := fr 1
      have f2 := fr 2
      clear A D S0 fr
      go_wp2
      obtain ⟨hh, hR, hB⟩ := q.out
      have hk : Keep (fun b => b ≠ N) wr (((wr.setCell ⟨N, 0, none⟩ (.slice (some ⟨s, 0, none⟩) 4 c')).setCell ⟨N, 1, none⟩ (.int .i64 (n : Int))).setCell ⟨N, 2, none⟩ (.int .u64 (seed : Int))) := ((Keep.setCell _ _ _ fun h => h rfl).trans (Keep.setCell _ _ _ fun h => h rfl)).trans (Keep.setCell _ _ _ fun h => h rfl)
      have h3 := put3 (.slice (some ⟨s, 0, none⟩) 4 c') (.int .i64 (n : Int)) (.int .u64 (seed : Int)) hh
      generalize ((wr.setCell ⟨N, 0, none⟩ (.slice (some ⟨s, 0, none⟩) 4 c')).setCell ⟨N, 1, none⟩ (.int .i64 (n : Int))).setCell ⟨N, 2, none⟩ (.int .u64 (seed : Int)) = B3 at *
      have b0 : B3.cell? ⟨N, 0, none⟩ = some (.slice (some ⟨s, 0, none⟩) 4 c') := by rw [cell_of h3]; rfl
      have b1 : B3.cell? ⟨N, 1, none⟩ = some (.int .i64 (n : Int)) := by rw [cell_of h3]; rfl
      have b2 : B3.cell? ⟨N, 2, none⟩ = some (.int .u64 (seed : Int)) := by rw [cell_of h3]; rfl
      refine bodyPost_ret (v := sv (.slice (some ⟨s, 0, none⟩) 4 c') n seed) ?_ rfl ⟨_, _, rfl, (hR.keep (hk.mono fun _ _ h => h.2)).mono fun _ h => h.1, ?_⟩
      · simp [results, Tryd.results21, go_sem, b0, b1, b2]
      · rw [hN]; exact hB.trans (hk.below (fun k hk => by omega) (by have := heap_lt hh; omega))
end Go.Proofs.YthjbkabkoolfdaaDoor.sk
