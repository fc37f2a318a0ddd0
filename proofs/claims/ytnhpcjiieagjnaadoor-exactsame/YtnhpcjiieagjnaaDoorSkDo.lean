/-
  (*Sketch).Halve, Clear, Add and Count by their contracts.
-/
import Derived.Test.YtnhpcjiieagjnaaDoorSkNew
import Derived.Lib.MinMax
namespace Go.Proofs.YtnhpcjiieagjnaaDoor.sk
open Go.RowKit
open nb (Keep Nib ct cell_of frozen_of heap_set heap_set_other heap_old heap_next heap_lt getAt mayAdd addAt)
theorem keep_below {K : Nat → Prop} {W B : World} (hb : Below W.heap.size W B) : Keep K W B := ⟨hb.os, hb.tape, hb.output, hb.size, fun k hk _ => hb.block k hk⟩
/-- the first j rows are turned by g. -/
def part (g : Nat → List Nat → List Nat) (f : Nat → List Nat) (j : Nat) : Nat → List Nat := fun i => if i < j then g i (f i) else f i
namespace Sk
variable {w w' : World} {S seed n : Nat} {f f' : Nat → List Nat}
theorem congr (h : Sk w S seed n f) (e : ∀ i, i < 4 → f' i = f i) : Sk w S seed n f' :=
  ⟨h.head, fun i hi => by rw [e i hi]; exact h.row i hi, fun i hi => by rw [e i hi]; exact h.len i hi, h.pos, h.lid, h.low⟩
/-- one row is turned. -/
theorem turn (h : Sk w S seed n f) {j : Nat} (hj : j < 4) {l : List Nat} (hn : Nib w' (S + 2 + 2 * j) (S + 1 + 2 * j) l) (hl : l.length = n) (hk : Keep (fun k => k ≠ S + 1 + 2 * j) w w') : Sk w' S seed n (fun i => if i = j then l else f i) := by
  refine ⟨hk.heap h.head (by show S ≠ _; omega), fun i hi => ?_, fun i hi => ?_, h.pos, h.lid, h.low⟩
  · by_cases e : i = j
    · subst e; rw [if_pos rfl]; exact hn
    · rw [if_neg e]; exact (h.row i hi).keep hk (by show S + 2 + 2 * i ≠ S + 1 + 2 * j; omega) (by show S + 1 + 2 * i ≠ S + 1 + 2 * j; omega)
  · by_cases e : i = j
    · subst e; rw [if_pos rfl]; exact hl
    · rw [if_neg e]; exact h.len i hi
end Sk
/-- a sketch in blocks of its own, behind what lay in w0, the table among it. -/
structure At (w0 : World) (S seed n : Nat) (f : Nat → List Nat) (W : World) : Prop where
  sk : Sk W S seed n f
  old : mx.Since w0 W
  le : w0.heap.size ≤ S
namespace At
variable {w0 W B : World} {S seed n : Nat} {f f' : Nat → List Nat} {g : Nat → List Nat → List Nat} {j : Nat}
theorem since (h : At w0 S seed n f W) (hk : Keep (out S) W B) : mx.Since w0 B := by
  have hz := h.old.2.size
  exact ⟨h.old.1, h.old.2.trans (hk.below (fun k hk => .inl (by have := h.le; omega)) hz)⟩
theorem swap (h : At w0 S seed n f W) (hk : Keep (out S) W B) (hs : Sk B S seed n f') : At w0 S seed n f' B := ⟨hs, h.since hk, h.le⟩
theorem below (h : At w0 S seed n f W) (hb : Below W.heap.size W B) : At w0 S seed n f B :=
  ⟨h.sk.below hb, h.old.next hb, h.le⟩
theorem drewN (h : At w0 S seed n f W) (q : Nat) : At w0 S seed n f (W.drewN q) := h.swap (.drewN _ _ _) (h.sk.drewN q)
theorem drew (h : At w0 S seed n f W) : At w0 S seed n f W.drew := h.swap (.drew _ _) (h.sk.keep (K := fun _ => True) (.drew _ _) fun _ _ _ => trivial)
/-- the next row is turned. -/
theorem next (h : At w0 S seed n (part g f j) W) (hj : j < 4) (hn : Nib B (S + 2 + 2 * j) (S + 1 + 2 * j) (g j (f j))) (hl : (g j (f j)).length = n) (hk : Keep (fun k => k ≠ S + 1 + 2 * j) W B) : At w0 S seed n (part g f (j + 1)) B ∧ Keep (out S) W B := by
  have hk' : Keep (out S) W B := hk.mono fun k _ h => by rcases h with h | h <;> omega
  refine ⟨h.swap hk' ((h.sk.turn hj hn hl hk).congr fun i hi => ?_), hk'⟩
  unfold part
  by_cases e : i = j
  · subst e; rw [if_pos (by omega), if_pos rfl]
  · rw [if_neg e]
    by_cases h1 : i < j
    · rw [if_pos h1, if_pos (by omega)]
    · rw [if_neg h1, if_neg (by omega)]
theorem first (h : At w0 S seed n f W) : At w0 S seed n (part g f 0) W := ⟨h.sk.congr fun _ _ => if_neg (by omega), h.old, h.le⟩
theorem done (h : At w0 S seed n (part g f 4) W) : At w0 S seed n (fun i => g i (f i)) W := ⟨h.sk.congr fun _ hi => (if_pos hi).symm, h.old, h.le⟩
theorem here (h : At w0 S seed n (part g f j) W) (hj : j < 4) : Nib W (S + 2 + 2 * j) (S + 1 + 2 * j) (f j) ∧ (f j).length = n ∧ W.cell? ⟨S, j, none⟩ = some (.pointer (some ⟨S + 2 + 2 * j, 0, none⟩)) := by
  have e : part g f j j = f j := if_neg (by omega)
  have h1 := h.sk.row j hj
  have h2 := h.sk.len j hj
  rw [e] at h1 h2
  exact ⟨h1, h2, h.sk.cr j hj⟩
end At
variable {w0 w : World} {S seed n : Nat} {f : Nat → List Nat}
theorem halve_none (w : World) : Calls Tryd.prog 71 #[.pointer none] w fun e w' => e = .returned (.tuple #[]) ∧ w' = w := by
  go_enter Tryd.func71, Tryd.ntmps71
  go_wp2
  refine bodyPost_ret (results_none rfl _ _ _) rfl ?_
  exact ⟨rfl, rfl⟩
theorem add_none (x : Int) (w : World) : Calls Tryd.prog 46 #[.pointer none, .int .u64 x] w fun e w' => e = .returned (.tuple #[]) ∧ w' = w := by
  go_enter Tryd.func46, Tryd.ntmps46
  go_wp2
  refine bodyPost_ret (results_none rfl _ _ _) rfl ?_
  exact ⟨rfl, rfl⟩
theorem count_none (x : Int) (w : World) : Calls Tryd.prog 53 #[.pointer none, .int .u64 x] w fun e w' => e = .returned (.int .i64 0) ∧ w' = w := by
  go_enter Tryd.func53, Tryd.ntmps53
  go_wp2
  go_ret
  exact ⟨rfl, rfl⟩
/-- each row, its counters halved. -/
abbrev halves (f : Nat → List Nat) : Nat → List Nat := fun i => (f i).map (· / 2)
set_option maxHeartbeats 1000000 in
theorem halve_some (h : At w0 S seed n f w) : Calls Tryd.prog 71 #[.pointer (some ⟨S, 0, none⟩)] w fun e B => e = .returned (.tuple #[]) ∧ At w0 S seed n (halves f) B ∧ Keep (out S) w B := by
  have G : Hid (∀ j W, j < 4 → (At w0 S seed n (part (fun _ l => l.map (· / 2)) f j) W ∧ Keep (out S) w W) → W.cell? ⟨S, j, none⟩ = some (.pointer (some ⟨S + 2 + 2 * j, 0, none⟩)) ∧ Hid (Calls Tryd.prog 88 #[.pointer (some ⟨S + 2 + 2 * j, 0, none⟩)] W fun e B => e = .returned (.tuple #[]) ∧ Hid (At w0 S seed n (part (fun _ l => l.map (· / 2)) f (j + 1)) B ∧ Keep (out S) w B))) := fun j W hj ⟨h1, h2⟩ => by
    obtain ⟨a, b, c⟩ := h1.here hj
    refine ⟨c, (nb.halve_some a).mono fun e B ⟨he, hn, hk⟩ => ⟨he, ?_⟩⟩
    obtain ⟨k1, k2⟩ := h1.next hj hn (by simpa using b) hk
    exact ⟨k1, h2.trans k2⟩
  have D : Hid (∀ W, (At w0 S seed n (part (fun _ l => l.map (· / 2)) f 4) W ∧ Keep (out S) w W) → At w0 S seed n (halves f) W ∧ Keep (out S) w W) := fun W hW => ⟨hW.1.done, hW.2⟩
  have N0 : Hid (At w0 S seed n (part (fun _ l => l.map (· / 2)) f 0) w ∧ Keep (out S) w w) := ⟨h.first, .refl _ _⟩
  clear h
  go_enter Tryd.func71, Tryd.ntmps71
  go_wp2_with fail
  go_loopw [5] (fun i wr => ∃ j : Nat, j ≤ 4 ∧ i = .int .i64 j ∧ Hid (At w0 S seed n (part (fun _ l => l.map (· / 2)) f j) wr ∧ Keep (out S) w wr)) (fun i _ => 4 - (intOf i).toNat)
  case atStart => exact ⟨0, by omega, rfl, N0⟩
  case round =>
    obtain ⟨j, hj, rfl, hH⟩ := hrel
    by_cases hlt : j < 4
    · obtain ⟨c, T⟩ := G.out j wr hlt hH.out
      have h1 : (0 : Int) ≤ (j : Int) := by omega
      have h2 : (j : Int) < 4 := by omega
      clear G
      go_wp2_with (go_at_call 88; refine T.out.mono ?_; rintro e w2 ⟨rfl, q2⟩)
      go_roundw
      case rel => exact ⟨j + 1, by omega, by simp, q2⟩
      case measure => simp [intOf]; omega
    · obtain rfl : j = 4 := by omega
      go_wp2
      go_end0
      exact ⟨rfl, D.out _ hH.out⟩
/-- each row, one more at the key's place. -/
noncomputable abbrev adds (seed n x : Nat) (f : Nat → List Nat) : Nat → List Nat := fun i => addAt (f i) (plN seed n x i : Int)
set_option maxHeartbeats 2000000 in
theorem add_some (h : At w0 S seed n f w) (x : Nat) (hx : x < 18446744073709551616) : Calls Tryd.prog 46 #[.pointer (some ⟨S, 0, none⟩), .int .u64 (x : Int)] w fun e B => e = .returned (.tuple #[]) ∧ At w0 S seed n (adds seed n x f) B ∧ Keep (out S) w B := by
  obtain ⟨g, hg⟩ : ∃ g : Nat → List Nat → List Nat, g = fun i l => addAt l (plN seed n x i : Int) := ⟨_, rfl⟩
  have G : Hid (∀ j W, j < 4 → (At w0 S seed n (part g f j) W ∧ Keep (out S) w W) → W.cell? ⟨S, j, none⟩ = some (.pointer (some ⟨S + 2 + 2 * j, 0, none⟩)) ∧
      Hid (Calls Tryd.prog 56 #[.pointer (some ⟨S, 0, none⟩), .int .u64 (x : Int), .int .i64 (j : Int)] W fun e B => e = .returned (.int .i64 (plN seed n x j : Int)) ∧ B.cell? ⟨S, j, none⟩ = some (.pointer (some ⟨S + 2 + 2 * j, 0, none⟩)) ∧ Hid (At w0 S seed n (part g f j) B ∧ Keep (out S) w B)) ∧
      Hid (∃ b, Calls Tryd.prog 70 #[.pointer (some ⟨S + 2 + 2 * j, 0, none⟩), .int .i64 (plN seed n x j : Int)] W fun e B => e = .returned (.bool b) ∧ Hid (At w0 S seed n (part g f (j + 1)) B ∧ Keep (out S) w B))) := fun j W hj ⟨h1, h2⟩ => by
    obtain ⟨a, b, c⟩ := h1.here hj
    refine ⟨c, (place_some w0 h1.sk h1.old x j hx hj).mono fun e B ⟨he, hb⟩ => ⟨he, (h1.below hb).sk.cr j hj, h1.below hb, h2.trans (keep_below hb)⟩, _, (nb.add_any a (plN seed n x j : Int)).mono fun e B ⟨he, hn, hk⟩ => ⟨he, ?_⟩⟩
    obtain ⟨k1, k2⟩ := h1.next (g := g) hj (by rw [hg]; exact hn) (by rw [hg]; show (addAt _ _).length = n; rw [nb.addAt_len]; exact b) hk
    exact ⟨k1, h2.trans k2⟩
  have D : Hid (∀ W, (At w0 S seed n (part g f 4) W ∧ Keep (out S) w W) → At w0 S seed n (adds seed n x f) W ∧ Keep (out S) w W) := fun W hW => ⟨by have := hW.1.done; rw [hg] at this; exact this, hW.2⟩
  have N0 : Hid (At w0 S seed n (part g f 0) w ∧ Keep (out S) w w) := ⟨h.first, .refl _ _⟩
  clear h hg
  go_enter Tryd.func46, Tryd.ntmps46
  go_wp2_with fail
  go_loopw [7] (fun i wr => ∃ j : Nat, j ≤ 4 ∧ i = .int .i64 j ∧ Hid (At w0 S seed n (part g f j) wr ∧ Keep (out S) w wr)) (fun i _ => 4 - (intOf i).toNat)
  case atStart => exact ⟨0, by omega, rfl, N0⟩
  case round =>
    obtain ⟨j, hj, rfl, hH⟩ := hrel
    by_cases hlt : j < 4
    · have K0 : Hid (At w0 S seed n (part g f j) wr.drew ∧ Keep (out S) w wr.drew) := ⟨hH.out.1.drew, hH.out.2.trans (.drew _ _)⟩
      obtain ⟨c, T, _⟩ := G.out j wr.drew hlt K0.out
      have A : Hid (∀ W, Hid (At w0 S seed n (part g f j) W ∧ Keep (out S) w W) → ∃ b, Calls Tryd.prog 70 #[.pointer (some ⟨S + 2 + 2 * j, 0, none⟩), .int .i64 (plN seed n x j : Int)] W fun e B => e = .returned (.bool b) ∧ Hid (At w0 S seed n (part g f (j + 1)) B ∧ Keep (out S) w B)) := fun W hW => (G.out j W hlt hW.out).2.2.out
      have h1 : (0 : Int) ≤ (j : Int) := by omega
      have h2 : (j : Int) < 4 := by omega
      generalize plN seed n x j = p at *
      generalize S + 2 + 2 * j = r at *
      clear G D N0 K0
      go_wp2_with fail
      go_region_with (first
        | (go_at_call 56; refine T.out.mono ?_; rintro e w2 ⟨rfl, d1, q2⟩)
        | (obtain ⟨b3, A3⟩ := A.out _ q2; go_at_call 70; refine A3.mono ?_; rintro e w3 ⟨rfl, q3⟩))
      all_goals (
        go_wp2
        go_roundw
        case rel => exact ⟨j + 1, by omega, by simp, q3⟩
        case measure => simp [intOf]; omega)
    · obtain rfl : j = 4 := by omega
      go_wp2
      go_end0
      exact ⟨rfl, D.out _ hH.out⟩
/-- the least of the counters in the first j rows, and 15. -/
def cntTo (f : Nat → List Nat) (p : Nat → Nat) : Nat → Nat
  | 0 => 15
  | j + 1 => min (cntTo f p j) (ct (f j) (p j))
theorem cntTo_le (f : Nat → List Nat) (p : Nat → Nat) : ∀ j, cntTo f p j ≤ 15
  | 0 => Nat.le_refl _
  | j + 1 => Nat.le_trans (Nat.min_le_left _ _) (cntTo_le f p j)
/-- a key's count. -/
noncomputable def cntN (seed n x : Nat) (f : Nat → List Nat) : Nat := cntTo f (plN seed n x) 4
set_option maxHeartbeats 2000000 in
theorem count_some (h : At w0 S seed n f w) (x : Nat) (hx : x < 18446744073709551616) : Calls Tryd.prog 53 #[.pointer (some ⟨S, 0, none⟩), .int .u64 (x : Int)] w fun e B => e = .returned (.int .i64 (cntN seed n x f : Int)) ∧ Below w.heap.size w B := by
  have G : Hid (∀ j W, j < 4 → (At w0 S seed n f W ∧ Below w.heap.size w W) → W.cell? ⟨S, j, none⟩ = some (.pointer (some ⟨S + 2 + 2 * j, 0, none⟩)) ∧
      Hid (Calls Tryd.prog 56 #[.pointer (some ⟨S, 0, none⟩), .int .u64 (x : Int), .int .i64 (j : Int)] W fun e B => e = .returned (.int .i64 (plN seed n x j : Int)) ∧ B.cell? ⟨S, j, none⟩ = some (.pointer (some ⟨S + 2 + 2 * j, 0, none⟩)) ∧ Hid (At w0 S seed n f B ∧ Below w.heap.size w B)) ∧
      Hid (Calls Tryd.prog 77 #[.pointer (some ⟨S + 2 + 2 * j, 0, none⟩), .int .i64 (plN seed n x j : Int)] W fun e B => e = .returned (.int .i64 (ct (f j) (plN seed n x j) : Int)) ∧ Hid (At w0 S seed n f B ∧ Below w.heap.size w B))) := fun j W hj ⟨h1, h2⟩ => by
    refine ⟨h1.sk.cr j hj, (place_some w0 h1.sk h1.old x j hx hj).mono fun e B ⟨he, hb⟩ => ⟨he, (h1.below hb).sk.cr j hj, h1.below hb, h2.trans (hb.mono h2.size)⟩, ?_⟩
    have hp := plN_lt seed n x j h1.sk.pos
    exact (nb.get_in (h1.sk.row j hj) _ (by rw [h1.sk.len j hj]; exact hp)).mono fun e B ⟨he, m, hm⟩ => ⟨he, by rw [hm]; exact h1.drewN m, by rw [hm]; exact h2.trans ⟨rfl, rfl, rfl, Nat.le_refl _, fun _ _ => rfl⟩⟩
  have N0 : Hid (At w0 S seed n f w ∧ Below w.heap.size w w) := ⟨h, Below.refl _ _⟩
  have L := cntTo_le f (plN seed n x)
  have X : Hid (∀ j, ((min (cntTo f (plN seed n x) j : Int) (ct (f j) (plN seed n x j) : Int)) = (cntTo f (plN seed n x) (j + 1) : Int))) := fun j => by show _ = ((min _ _ : Nat) : Int); omega
  have C0 : Hid (cntTo f (plN seed n x) 0 = 15) := rfl
  unfold cntN
  generalize cntTo f (plN seed n x) = C at *
  obtain ⟨Z, hZ⟩ : ∃ Z, w.heap.size = Z := ⟨_, rfl⟩
  rw [hZ] at G N0 ⊢
  have HZ := Lib.hid hZ
  clear h hZ
  go_enter Tryd.func53, Tryd.ntmps53
  go_wp2_with fail
  go_loopw [5, 9] (fun t i wr => ∃ j : Nat, j ≤ 4 ∧ i = .int .i64 j ∧ t = .int .i64 (C j : Int) ∧ Hid (At w0 S seed n f wr ∧ Below Z w wr)) (fun _ i _ => 4 - (intOf i).toNat)
  case atStart => exact ⟨0, by omega, rfl, by rw [C0.out]; rfl, N0⟩
  case round =>
    obtain ⟨j, hj, rfl, rfl, hH⟩ := hrel
    by_cases hlt : j < 4
    · have K0 : Hid (At w0 S seed n f wr.drew ∧ Below Z w wr.drew) := ⟨hH.out.1.drew, hH.out.2.trans ⟨rfl, rfl, rfl, Nat.le_refl _, fun _ _ => rfl⟩⟩
      obtain ⟨c, T, _⟩ := G.out j wr.drew hlt K0.out
      have A : Hid (∀ W, Hid (At w0 S seed n f W ∧ Below Z w W) → Calls Tryd.prog 77 #[.pointer (some ⟨S + 2 + 2 * j, 0, none⟩), .int .i64 (plN seed n x j : Int)] W fun e B => e = .returned (.int .i64 (ct (f j) (plN seed n x j) : Int)) ∧ Hid (At w0 S seed n f B ∧ Below Z w B)) := fun W hW => (G.out j W hlt hW.out).2.2.out
      have h1 : (0 : Int) ≤ (j : Int) := by omega
      have h2 : (j : Int) < 4 := by omega
      have hmin := X.out j
      generalize ct (f j) (plN seed n x j) = y at *
      generalize plN seed n x j = p at *
      generalize S + 2 + 2 * j = r at *
      clear G N0 K0 X L C0
      generalize hc0 : C j = c0 at *
      generalize hc1 : C (j + 1) = c1 at *
      have HC := Lib.hid hc1
      clear hc0 hc1
      go_wp2_with fail
      go_region_with (first
        | (go_at_call 56; refine T.out.mono ?_; rintro e w2 ⟨rfl, d1, q2⟩)
        | (have A3 := A.out _ q2; go_at_call 77; refine A3.mono ?_; rintro e w3 ⟨rfl, q3⟩))
      all_goals (
        go_wp2
        go_roundw
        case rel => exact ⟨j + 1, by omega, by simp, by rw [HC.out], q3⟩
        case measure => simp [intOf]; omega)
    · obtain rfl : j = 4 := by omega
      go_wp2
      go_ret
      exact ⟨rfl, hH.out.2⟩
end Go.Proofs.YtnhpcjiieagjnaaDoor.sk
