/-
  The document's sketch (cortadoref11): Halve by its contract.
-/
import Derived.Test.YthjbkabkoolfdaaDoorSkRn
namespace Go.Proofs.YthjbkabkoolfdaaDoor.sk
open Go.RowKit
open nb (Keep Nib ct cell_of frozen_of heap_set heap_set_other heap_old heap_next heap_lt getAt mayAdd addAt Q e64 info_parts step_ex)
theorem q_lt {enc : Nat → Value} {w : World} {v : Value} {l : List Nat} (h : Q enc w v l) (hl : 0 < l.length) (b : Nat) (hb : v.ownBlock = some b) : b < w.heap.size := by
  rcases h with ⟨_, rfl⟩ | ⟨b', o, cap, rfl, hc, hi⟩
  · simp at hl
  · simp [Value.ownBlock] at hb
    subst hb
    exact World.block_lt_of_cell? w ⟨b', o + 0, none⟩ (hi 0 hl)
/-- what is owed at the return: all four rows are made, the result's box is in block R. -/
structure Fin3 (w : World) (K : Nat → Prop) (R N n seed : Nat) (f : Nat → List Nat) (s c : Nat) (W : World) : Prop where
  head : W.heap[R]? = some (.cells #[.slice none 0 0, .int .i64 0, .int .u64 0] 29 (0, 0))
  rows : Rr (fun b => K b ∧ b ≠ R) W (.slice (some ⟨s, 0, none⟩) 4 c) 4 f
  old : Below N w W
  le : N ≤ R
theorem Fin3.end_ {w W : World} {K : Nat → Prop} {R N n seed : Nat} {f : Nat → List Nat} {s c : Nat} (h : Fin3 w K R N n seed f s c W) {B3 : World} (e : ((W.setCell ⟨R, 0, none⟩ (.slice (some ⟨s, 0, none⟩) 4 c)).setCell ⟨R, 1, none⟩ (.int .i64 (n : Int))).setCell ⟨R, 2, none⟩ (.int .u64 (seed : Int)) = B3) :
    B3.cell? ⟨R, 0, none⟩ = some (.slice (some ⟨s, 0, none⟩) 4 c) ∧ B3.cell? ⟨R, 1, none⟩ = some (.int .i64 (n : Int)) ∧ B3.cell? ⟨R, 2, none⟩ = some (.int .u64 (seed : Int)) ∧ Rr K B3 (.slice (some ⟨s, 0, none⟩) 4 c) 4 f ∧ Below N w B3 := by
  have hk : Keep (fun b => b ≠ R) W (((W.setCell ⟨R, 0, none⟩ (.slice (some ⟨s, 0, none⟩) 4 c)).setCell ⟨R, 1, none⟩ (.int .i64 (n : Int))).setCell ⟨R, 2, none⟩ (.int .u64 (seed : Int))) := ((Keep.setCell _ _ _ fun h => h rfl).trans (Keep.setCell _ _ _ fun h => h rfl)).trans (Keep.setCell _ _ _ fun h => h rfl)
  have h3 := put3 (.slice (some ⟨s, 0, none⟩) 4 c) (.int .i64 (n : Int)) (.int .u64 (seed : Int)) h.head
  have hs := heap_lt h.head
  have hle := h.le
  rw [e] at hk h3
  exact ⟨by rw [cell_of h3]; rfl, by rw [cell_of h3]; rfl, by rw [cell_of h3]; rfl, (h.rows.keep (hk.mono fun _ _ h => h.2)).mono fun _ h => h.1, h.old.trans (hk.below (fun k hk => by omega) (by omega))⟩
theorem Bu.fin {w W1 W : World} {K : Nat → Prop} {X R N n seed : Nat} {f : Nat → List Nat} {v : Value} (h : Bu W1 (fun b => K b ∧ b ≠ R) X n seed 4 f v W) (hr : W1.heap[R]? = some (.cells #[.slice none 0 0, .int .i64 0, .int .u64 0] 29 (0, 0))) (hb : Below N w W1) (hN : N ≤ R) (hR : R < X) (hK : ∀ b, N ≤ b → K b) :
    ∃ s c, v = .slice (some ⟨s, 0, none⟩) 4 c ∧ W.cell? ⟨X, 0, none⟩ = some v ∧ W.cell? ⟨X, 1, none⟩ = some (.int .i64 (n : Int)) ∧ W.cell? ⟨X, 2, none⟩ = some (.int .u64 (seed : Int)) ∧ W.cell? ⟨R, 0, none⟩ = some (.slice none 0 0) ∧ W.cell? ⟨R, 1, none⟩ = some (.int .i64 0) ∧ W.cell? ⟨R, 2, none⟩ = some (.int .u64 0) ∧ (∀ i, W.frozen? ⟨R, i, none⟩ = false) ∧ Hid (Fin3 w K R N n seed f s c W) := by
  obtain ⟨hRr, s, c, rfl⟩ := h.done fun b hb => ⟨hK b (by omega), by omega⟩
  have hh := h.old.heap hr hR
  have hl := heap_lt hr
  exact ⟨s, c, rfl, h.c0, by rw [cell_of h.head]; rfl, by rw [cell_of h.head]; rfl, by rw [cell_of hh]; rfl, by rw [cell_of hh]; rfl, by rw [cell_of hh]; rfl, fun i => frozen_of hh i, hh, hRr, hb.trans (h.old.below (fun k hk => by omega) (by omega)), hN⟩
/-- the world at the loop's start: the argument's box, the result's, the new sketch's. -/
structure Box3 (w : World) (N n seed : Nat) (v0 : Value) (W1 : World) : Prop where
  arg : W1.heap[N]? = some (.cells #[v0, .int .i64 (n : Int), .int .u64 (seed : Int)] 29 (0, 0))
  res : W1.heap[N + 1]? = some (.cells #[.slice none 0 0, .int .i64 0, .int .u64 0] 29 (0, 0))
  new : W1.heap[N + 2]? = some (.cells #[.slice none 0 0, .int .i64 (n : Int), .int .u64 (seed : Int)] 29 (0, 0))
  old : Below N w W1
  size : W1.heap.size = N + 3
theorem box3 (w : World) (N n seed : Nat) (v0 : Value) (hN : w.heap.size = N) : Box3 w N n seed v0 (((w.alloc (.cells #[v0, .int .i64 (n : Int), .int .u64 (seed : Int)] 29)).alloc (.cells #[.slice none 0 0, .int .i64 0, .int .u64 0] 29)).alloc (.cells #[.slice none 0 0, .int .i64 (n : Int), .int .u64 (seed : Int)] 29)) :=
  ⟨heap_old (heap_old (heap_next hN.symm _)), heap_old (heap_next (by simp [hN]) _), heap_next (by simp [hN]) _, (((Below.refl _ _).alloc (by omega) _).alloc (by simp; omega) _).alloc (by simp; omega) _, by simp [hN]⟩
set_option maxHeartbeats 4000000 in
theorem refhalve_any {w : World} {K : Nat → Prop} {v0 : Value} {f : Nat → List Nat} (n seed : Nat) (h : Rr K w v0 4 f) (hn : ∀ i, i < 4 → (f i).length = n) (hp : 0 < n) (hl : n ≤ 4096) (hlow : ∀ i j, i < 4 → ct (f i) j ≤ 15) (hK : ∀ b, w.heap.size ≤ b → K b) :
    Calls Tryd.prog 36 #[sv v0 n seed] w fun e B => ∃ a k, e = .returned (sv (.slice a 4 k) n seed) ∧ Rr K B (.slice a 4 k) 4 (halves f) ∧ Below w.heap.size w B := by
  obtain ⟨N, hN⟩ : ∃ N, w.heap.size = N := ⟨_, rfl⟩
  obtain ⟨b, o, cap, vs, rfl, hc, hb, hi⟩ := h
  obtain ⟨W1, hW1⟩ : ∃ W1, ((w.alloc (.cells #[.slice (some ⟨b, o, none⟩) 4 cap, .int .i64 (n : Int), .int .u64 (seed : Int)] 29)).alloc (.cells #[.slice none 0 0, .int .i64 0, .int .u64 0] 29)).alloc (.cells #[.slice none 0 0, .int .i64 (n : Int), .int .u64 (seed : Int)] 29) = W1 := ⟨_, rfl⟩
  have B3 := box3 w N n seed (.slice (some ⟨b, o, none⟩) 4 cap) hN
  rw [hW1] at B3
  rw [hN] at hK
  have S0 : Hid (Bu W1 (fun b => K b ∧ b ≠ N + 1) (N + 2) n seed 0 (halves f) (.slice none 0 0) W1) := Bu.start B3.new
  have D : Hid (∀ v W, Bu W1 (fun b => K b ∧ b ≠ N + 1) (N + 2) n seed 4 (halves f) v W → _) := fun v W hB => hB.fin (w := w) (N := N) B3.res B3.old (by omega) (by omega) hK
  have A : Hid (∀ k v W, k ≤ 4 → Bu W1 (fun b => K b ∧ b ≠ N + 1) (N + 2) n seed k (halves f) v W → W.cell? ⟨N, 0, none⟩ = some (.slice (some ⟨b, o, none⟩) 4 cap) ∧ (k < 4 → W.cell? ⟨N + 2, 0, none⟩ = some v ∧ ∃ a c, W.cell? ⟨b, o + k, none⟩ = some (.slice a n c) ∧
      Hid (Calls Tryd.prog 49 #[.slice a n c] W.drew fun e B => ∃ a2 c2, e = .returned (.slice a2 n c2) ∧ B.cell? ⟨N + 2, 0, none⟩ = some v ∧ (B.alloc (.cells #[.slice a2 n c2] 70)).cell? ⟨N + 2, 0, none⟩ = some v ∧
        Hid (∀ ty, ∃ v' w', (Builtin.append_ #[27, 27] ty #[v, .slice (some ⟨B.heap.size, 0, none⟩) 1 1]).run Tryd.prog (B.alloc (.cells #[.slice a2 n c2] 70)) = .ok v' w' ∧ ((∃ s c, v' = .slice (some ⟨s, 0, none⟩) (k + 1) c) ∧ w'.cell? ⟨N + 2, 0, none⟩ = some v ∧ w'.frozen? ⟨N + 2, 0, none⟩ = false ∧ Hid (Bu W1 (fun b => K b ∧ b ≠ N + 1) (N + 2) n seed (k + 1) (halves f) v' (w'.setCell ⟨N + 2, 0, none⟩ v'))))))) := fun k v W hk hB => by
    have hs1 := B3.size
    have hbel : Below N w W := B3.old.trans (hB.old.below (fun k hk => by omega) (by omega))
    refine ⟨by rw [cell_of (hB.old.heap B3.arg (by omega))]; rfl, fun hk4 => ⟨hB.c0, ?_⟩⟩
    obtain ⟨h1, h2, h3⟩ := hi k hk4
    have h1' : W.cell? ⟨b, o + k, none⟩ = some (vs k) := (hbel.cell (p := ⟨b, o + k, none⟩) (hN ▸ World.block_lt_of_cell? w ⟨b, o + k, none⟩ h1)).trans h1
    have hq : Q e64 W.drew (vs k) (f k) := (h2.below (hN ▸ hbel)).keep (Keep.drew (fun _ => True) W) fun _ _ => trivial
    obtain ⟨a, c, hv, _⟩ := hq.slice
    rw [hn k hk4] at hv
    refine ⟨a, c, by rw [h1', hv], ?_⟩
    have := nb.refhalve_any hq (by rw [hn k hk4]; omega) (fun j => hlow k j hk4)
    rw [hv] at this
    refine this.mono fun e B ⟨v2, he, q2, b2, n2⟩ => ?_
    obtain ⟨a2, c2, hv2, _⟩ := q2.slice
    rw [List.length_map, hn k hk4] at hv2
    subst hv2
    have hB2 := hB.drew.below b2
    have hc2 := hB2.c0
    refine ⟨a2, c2, he, hc2, nb.cell_past hc2, fun ty => hB2.push (u := .slice a2 n c2) q2 (fun b' hb' => ?_) (by omega) ty⟩
    have hge := n2 b' hb'
    obtain ⟨vs', ho, _⟩ := hB.drew.made
    have hX := hB.drew.lt
    exact ⟨fun e => by have := (World.ownsRow.lt ho _ e).2; omega, q_lt q2 (by rw [List.length_map, hn k hk4]; exact hp) b' hb', by omega, fun h => by omega⟩
  have HK := Lib.hid hK
  clear hK hi hn hlow hb B3
  go_enter Tryd.func36, Tryd.ntmps36
  go_wp2_with fail
  clear hW1
  go_loopw [4] (fun i wr => ∃ (j : Nat) (v : Value), j ≤ 4 ∧ i = .int .i64 j ∧ Hid (Bu W1 (fun b => K b ∧ b ≠ N + 1) (N + 2) n seed j (halves f) v wr)) (fun i _ => 4 - (intOf i).toNat)
  case atStart => exact ⟨0, _, by omega, rfl, S0⟩
  case round =>
    obtain ⟨j, v, hj, rfl, hH⟩ := hrel
    obtain ⟨c0, A0⟩ := A.out j v wr hj hH.out
    by_cases hlt : j < 4
    · obtain ⟨c1, a, c, c2, A1⟩ := A0 hlt
      have h1 : (0 : Int) ≤ (j : Int) := by omega
      have h2 : (j : Int) < 4 := by omega
      clear A D S0 A0
      go_wp2_with fail
      go_region_law (first
        | (refine step_ex _ (by rfl) _ _ 27 (by rfl) _ _ (by rfl) (by rfl) (A2.out _) ?_; rintro v2 w2 ⟨⟨a2, c3, rfl⟩, d2, f2, q2⟩)
        | (go_simp; go_at_call 49; refine A1.out.mono ?_; rintro e w2 ⟨a2, c2, rfl, d0, d1, A2⟩))
      all_goals (
        go_wp2
        go_roundw
        case rel => exact ⟨j + 1, _, by omega, by simp, q2⟩
        case measure => simp [intOf]; omega)
    · obtain rfl : j = 4 := by omega
      obtain ⟨s, c', rfl, x0, x1, x2, y0, y1, y2, fr, q⟩ := D.out _ _ hH.out
      have f0 := fr 0
      have f1 := fr 1
      have f2 := fr 2
      clear A D S0 fr A0
      go_wp2
      generalize e3 : ((wr.setCell ⟨N + 1, 0, none⟩ (.slice (some ⟨s, 0, none⟩) 4 c')).setCell ⟨N + 1, 1, none⟩ (.int .i64 (n : Int))).setCell ⟨N + 1, 2, none⟩ (.int .u64 (seed : Int)) = B3 at *
      obtain ⟨b0, b1, b2, hR, hB⟩ := q.out.end_ e3
      refine bodyPost_ret (v := sv (.slice (some ⟨s, 0, none⟩) 4 c') n seed) ?_ rfl ⟨_, _, rfl, hR, by rw [hN]; exact hB⟩
      simp [results, Tryd.results36, go_sem, b0, b1, b2]
end Go.Proofs.YthjbkabkoolfdaaDoor.sk
