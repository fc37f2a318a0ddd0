/-
  The document's sketch (cortadoref11): Add by its contract.
-/
import Derived.Test.YthjbkabkoolfdaaDoorSkRh
import Derived.Deep.RegionHeld3
namespace Go.Proofs.YthjbkabkoolfdaaDoor.sk
open Go.RowKit
open nb (Keep Nib ct cell_of frozen_of heap_set heap_set_other heap_old heap_next heap_lt getAt mayAdd addAt Q e64 info_parts step_ex app_step)
/-- the document's Add of a list of counters, at a place that it has. -/
theorem rowadd_any {W : World} {u : Value} {l : List Nat} (h : Q e64 W u l) (p : Nat) (hp : p < l.length) (hl : l.length ≤ 4096) : Calls Tryd.prog 48 #[u, .int .i64 (p : Int)] W fun e B => ∃ v' bb, e = .returned (.tuple #[v', .bool bb]) ∧ Q e64 B v' (addAt l (p : Int)) ∧ Below W.heap.size W B ∧ ∀ k, v'.ownBlock = some k → u.ownBlock = some k ∨ W.heap.size ≤ k := by
  by_cases hm : ct l p < 15
  · have hmay : mayAdd l (p : Int) = true := decide_eq_true ⟨by omega, by omega, by simpa using hm⟩
    refine (nb.refadd_ok h p hp hm (by omega)).mono fun e B ⟨v', he, h1, h2, h3⟩ => ⟨v', _, he, ?_, h2, fun k hk => .inr (h3 k hk)⟩
    rw [addAt, if_pos hmay]
    exact h1
  · have hmay : mayAdd l (p : Int) = false := decide_eq_false fun h' => hm h'.2.2
    refine (nb.refadd_most h p hp (by omega)).mono fun e B ⟨he, hB⟩ => ⟨u, _, he, ?_, hB ▸ Below.refl _ _, fun k hk => .inl hk⟩
    rw [addAt, if_neg (by rw [hmay]; simp), hB]
    exact h
set_option maxHeartbeats 4000000 in
theorem refadd_any {w : World} {K : Nat → Prop} {v0 : Value} {f : Nat → List Nat} (n seed x : Nat) (hx : x < 18446744073709551616) (h : Rr K w v0 4 f) (hn : ∀ i, i < 4 → (f i).length = n) (hp : 0 < n) (hl : n ≤ 4096) (hK : ∀ b, w.heap.size ≤ b → K b) :
    Calls Tryd.prog 35 #[sv v0 n seed, .int .u64 (x : Int)] w fun e B => ∃ a k, e = .returned (sv (.slice a 4 k) n seed) ∧ Rr K B (.slice a 4 k) 4 (adds seed n x f) ∧ Below w.heap.size w B := by
  obtain ⟨N, hN⟩ : ∃ N, w.heap.size = N := ⟨_, rfl⟩
  obtain ⟨b, o, cap, vs, rfl, hc, hb, hi⟩ := h
  obtain ⟨W1, hW1⟩ : ∃ W1, ((w.alloc (.cells #[.slice (some ⟨b, o, none⟩) 4 cap, .int .i64 (n : Int), .int .u64 (seed : Int)] 29)).alloc (.cells #[.slice none 0 0, .int .i64 0, .int .u64 0] 29)).alloc (.cells #[.slice none 0 0, .int .i64 (n : Int), .int .u64 (seed : Int)] 29) = W1 := ⟨_, rfl⟩
  have B3 := box3 w N n seed (.slice (some ⟨b, o, none⟩) 4 cap) hN
  rw [hW1] at B3
  rw [hN] at hK
  have S0 : Hid (Bu W1 (fun b => K b ∧ b ≠ N + 1) (N + 2) n seed 0 (adds seed n x f) (.slice none 0 0) W1) := Bu.start B3.new
  have D : Hid (∀ v W, Bu W1 (fun b => K b ∧ b ≠ N + 1) (N + 2) n seed 4 (adds seed n x f) v W → _) := fun v W hB => hB.fin (w := w) (N := N) B3.res B3.old (by omega) (by omega) hK
  have A : Hid (∀ k v W, k ≤ 4 → Bu W1 (fun b => K b ∧ b ≠ N + 1) (N + 2) n seed k (adds seed n x f) v W → W.cell? ⟨N, 0, none⟩ = some (.slice (some ⟨b, o, none⟩) 4 cap) ∧ (k < 4 → W.cell? ⟨N, 1, none⟩ = some (.int .i64 (n : Int)) ∧ W.cell? ⟨N, 2, none⟩ = some (.int .u64 (seed : Int)) ∧ ∃ a c, W.cell? ⟨b, o + k, none⟩ = some (.slice a n c) ∧
      Hid (Calls Tryd.prog 39 #[sv (.slice (some ⟨b, o, none⟩) 4 cap) n seed, .int .u64 (x : Int), .int .i64 (k : Int)] W.drew fun e B => e = .returned (.int .i64 (plN seed n x k : Int)) ∧ (B.cell? ⟨N, 0, none⟩ = some (.slice (some ⟨b, o, none⟩) 4 cap) ∧ B.cell? ⟨N, 1, none⟩ = some (.int .i64 (n : Int)) ∧ B.cell? ⟨N, 2, none⟩ = some (.int .u64 (seed : Int)) ∧ B.cell? ⟨b, o + k, none⟩ = some (.slice a n c)) ∧
        Hid (Calls Tryd.prog 48 #[.slice a n c, .int .i64 (plN seed n x k : Int)] B fun e B => ∃ a2 c2 bb, e = .returned (.tuple #[.slice a2 n c2, .bool bb]) ∧ (B.cell? ⟨N, 0, none⟩ = some (.slice (some ⟨b, o, none⟩) 4 cap) ∧ B.cell? ⟨N, 1, none⟩ = some (.int .i64 (n : Int)) ∧ B.cell? ⟨N, 2, none⟩ = some (.int .u64 (seed : Int)) ∧ B.cell? ⟨b, o + k, none⟩ = some (.slice a n c)) ∧ B.cell? ⟨N + 2, 0, none⟩ = some v ∧
          Hid (∀ ty, ∃ v' w', (Builtin.append_ #[27, 27] ty #[v, .slice (some ⟨B.heap.size, 0, none⟩) 1 1]).run Tryd.prog (B.alloc (.cells #[.slice a2 n c2] 70)) = .ok v' w' ∧ ((∃ s c, v' = .slice (some ⟨s, 0, none⟩) (k + 1) c) ∧ w'.cell? ⟨N + 2, 0, none⟩ = some v ∧ w'.frozen? ⟨N + 2, 0, none⟩ = false ∧ Hid (Bu W1 (fun b => K b ∧ b ≠ N + 1) (N + 2) n seed (k + 1) (adds seed n x f) v' (w'.setCell ⟨N + 2, 0, none⟩ v')))))))) := fun k v W hk hB => by
    have hs1 := B3.size
    have hbel : Below N w W := B3.old.trans (hB.old.below (fun k hk => by omega) (by omega))
    have harg := hB.old.heap B3.arg (show N < N + 2 by omega)
    refine ⟨by rw [cell_of harg]; rfl, fun hk4 => ⟨by rw [cell_of harg]; rfl, by rw [cell_of harg]; rfl, ?_⟩⟩
    obtain ⟨h1, h2, h3⟩ := hi k hk4
    have h1' : W.cell? ⟨b, o + k, none⟩ = some (vs k) := (hbel.cell (p := ⟨b, o + k, none⟩) (hN ▸ World.block_lt_of_cell? w ⟨b, o + k, none⟩ h1)).trans h1
    have hq : Q e64 W.drew (vs k) (f k) := (h2.below (hN ▸ hbel)).keep (Keep.drew (fun _ => True) W) fun _ _ => trivial
    obtain ⟨a, c, hv, _⟩ := hq.slice
    rw [hn k hk4] at hv
    have cells : ∀ B, Below W.drew.heap.size W.drew B → (B.cell? ⟨N, 0, none⟩ = some (.slice (some ⟨b, o, none⟩) 4 cap) ∧ B.cell? ⟨N, 1, none⟩ = some (.int .i64 (n : Int)) ∧ B.cell? ⟨N, 2, none⟩ = some (.int .u64 (seed : Int)) ∧ B.cell? ⟨b, o + k, none⟩ = some (.slice a n c)) := fun B hb2 => by
      have hh : B.heap[N]? = _ := (hb2.block N (heap_lt harg)).trans harg
      exact ⟨by rw [cell_of hh]; rfl, by rw [cell_of hh]; rfl, by rw [cell_of hh]; rfl, ((hb2.cell (p := ⟨b, o + k, none⟩) (World.block_lt_of_cell? W ⟨b, o + k, none⟩ h1')).trans h1').trans (by rw [hv])⟩
    refine ⟨a, c, by rw [h1', hv], (refplace_in _ 4 cap n seed x k hp hl hx hk4 _).mono fun e B ⟨he, hb2⟩ => ⟨he, cells B hb2, ?_⟩⟩
    have hp2 := plN_lt seed n x k hp
    have hqB := hq.below hb2
    have := rowadd_any hqB (plN seed n x k) (by rw [hn k hk4]; exact hp2) (by rw [hn k hk4]; exact hl)
    rw [hv] at this
    refine this.mono fun e B' ⟨v2, bb, he, q2, b2, n2⟩ => ?_
    obtain ⟨a2, c2, hv2, _⟩ := q2.slice
    rw [nb.addAt_len, hn k hk4] at hv2
    subst hv2
    have hb3 : Below W.drew.heap.size W.drew B' := hb2.trans (b2.mono hb2.size)
    have hB2 := hB.drew.below hb3
    refine ⟨a2, c2, bb, he, cells B' hb3, hB2.c0, fun ty => hB2.push (u := .slice a2 n c2) q2 (fun b' hb' => ?_) (by omega) ty⟩
    obtain ⟨vs', ho, _⟩ := hB.drew.made
    have hX := hB.drew.lt
    have hlt := q_lt q2 (by rw [nb.addAt_len, hn k hk4]; exact hp) b' hb'
    rcases n2 b' hb' with hge | hge
    · have hlo : b' < N := hN ▸ q_lt h2 (by rw [hn k hk4]; exact hp) b' (by rw [hv]; exact hge)
      exact ⟨fun e => by have := (World.ownsRow.lt ho _ e).1; omega, hlt, by omega, fun _ => ⟨h3 b' (by rw [hv]; exact hge), by omega⟩⟩
    · have hz := hb2.size
      exact ⟨fun e => by have := (World.ownsRow.lt ho _ e).2; omega, hlt, by omega, fun h => by omega⟩
  have HK := Lib.hid hK
  clear hK hi hn hb B3
  go_enter Tryd.func35, Tryd.ntmps35
  go_wp2_with fail
  clear hW1
  go_loopw [6] (fun i wr => ∃ (j : Nat) (v : Value), j ≤ 4 ∧ i = .int .i64 j ∧ Hid (Bu W1 (fun b => K b ∧ b ≠ N + 1) (N + 2) n seed j (adds seed n x f) v wr)) (fun i _ => 4 - (intOf i).toNat)
  case atStart => exact ⟨0, _, by omega, rfl, S0⟩
  case round =>
    obtain ⟨j, v, hj, rfl, hH⟩ := hrel
    obtain ⟨c0, A0⟩ := A.out j v wr hj hH.out
    by_cases hlt : j < 4
    · obtain ⟨c1, c2, a, c, c3, A1⟩ := A0 hlt
      have h1 : (0 : Int) ≤ (j : Int) := by omega
      have h2 : (j : Int) < 4 := by omega
      have K0 : Hid (wr.drew.cell? ⟨N, 0, none⟩ = some (.slice (some ⟨b, o, none⟩) 4 cap) ∧ wr.drew.cell? ⟨N, 1, none⟩ = some (.int .i64 (n : Int)) ∧ wr.drew.cell? ⟨N, 2, none⟩ = some (.int .u64 (seed : Int)) ∧ wr.drew.cell? ⟨b, o + j, none⟩ = some (.slice a n c)) := ⟨c0, c1, c2, c3⟩
      clear A D S0 A0
      generalize plN seed n x j = p at *
      go_wp2_with fail
      go_region_held3 (fun W => W.cell? ⟨N, 0, none⟩ = some (.slice (some ⟨b, o, none⟩) 4 cap) ∧ W.cell? ⟨N, 1, none⟩ = some (.int .i64 (n : Int)) ∧ W.cell? ⟨N, 2, none⟩ = some (.int .u64 (seed : Int)) ∧ W.cell? ⟨b, o + j, none⟩ = some (.slice a n c)) (first | exact K0.out | assumption) (first
        | (go_at_call 48; refine A2.out.mono ?_; rintro e w3 ⟨a2, c2, bb, rfl, S3, d0, A3⟩)
        | (go_at_call 39; refine A1.out.mono ?_; rintro e w2 ⟨rfl, S2, A2⟩))
      all_goals (
        clear K0 A1 c0 c1 c3
        go_wp2_with (at_builtin; refine app_step _ rfl _ _ 27 rfl _ _ rfl rfl (A3.out _) ?_; rintro v4 w4 ⟨⟨a4, c4, rfl⟩, d4, f4, q4⟩)
        go_roundw
        case rel => exact ⟨j + 1, _, by omega, by simp, q4⟩
        case measure => simp [intOf]; omega)
    · obtain rfl : j = 4 := by omega
      obtain ⟨s, c', rfl, x0, x1, x2, y0, y1, y2, fr, q⟩ := D.out _ _ hH.out
      have f0 := fr 0
      have f1 := fr 1
      have f2 := fr 2
      clear A D S0 fr A0
      go_wp2
      generalize e3 : ((wr.setCell ⟨N + 1, 0, none⟩ (.slice (some ⟨s, 0, none⟩) 4 c')).setCell ⟨N + 1, 1, none⟩ (.int .i64 (n : Int))).setCell ⟨N + 1, 2, none⟩ (.int .u64 (seed : Int)) = B3 at *
      obtain ⟨b0, b1, b2, hR, hB⟩ := q.out.end_ e3
      refine bodyPost_ret (v := sv (.slice (some ⟨s, 0, none⟩) 4 c') n seed) ?_ rfl ⟨_, _, rfl, hR, by rw [hN]; exact hB⟩
      simp [results, Tryd.results35, go_sem, b0, b1, b2]
end Go.Proofs.YthjbkabkoolfdaaDoor.sk
