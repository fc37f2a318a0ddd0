/-
  Ones, Log, Low and High of the reference, by their contracts, for every word and every int: what each returns; what was there stays as it was.
-/
import Derived.Test.YtbecnmclemmemaaTurn
namespace Go.Proofs.Ytbecnmclemmemaa
open Go.ChangeShapes Go.WideShapes Go.ChangeAt Go.RowKit
set_option maxHeartbeats 1600000 in
set_option maxRecDepth 100000 in
theorem refones_any (x : Nat) (hx : x < 18446744073709551616) (w : World) :
    Calls Try.prog 12 #[.int .u64 x] w fun e w' => e = .returned (.int .i64 (popN 64 x : Nat)) ∧ Below w.heap.size w w' := by
  go_enter Try.func12, Try.ntmps12
  go_wp2_with (go_at_call 19; refine (bits_row x hx _).mono ?_; rintro e w1 ⟨⟨g, cap, rfl, hg0, hg1, hc0, hf0, _⟩, hb0⟩; have HC := Lib.hid hc0; have HF := Lib.hid hf0; clear hc0 hf0)
  go_loop [3, 5] (fun n i => ∃ j : Nat, j ≤ 64 ∧ i = .int .i64 j ∧ n = .int .i64 ((popN j x : Nat) : Int)) (fun _ i => 64 - (intOf i).toNat)
  case atStart => exact ⟨0, by omega, rfl, rfl⟩
  case round =>
    obtain ⟨j, hj, rfl, rfl⟩ := hrel
    have hp := popN_le j x
    by_cases hlt : j < 64
    · have hcj := HC.out j hlt
      rw [bitsTo_get x j hlt] at hcj
      have hs := popN_snoc j x
      have HS := Lib.hid hs
      clear hs
      rcases (show bit x j = 0 ∨ bit x j = 1 from by have := bit_lt x j; omega) with h | h
      all_goals
        rw [h] at hcj
        have H := Lib.hid h
        clear h
        go_wp2
        go_round
        case rel => exact ⟨j + 1, by omega, by go_num, by rw [HS.out, H.out]; go_num⟩
        case measure => simp [intOf]; omega
    · have : j = 64 := by omega
      subst this
      go_wp2
      go_ret
      exact ⟨rfl, hb0⟩
set_option maxHeartbeats 1600000 in
set_option maxRecDepth 100000 in
theorem reflog_any (x : Nat) (hx : x < 18446744073709551616) (w : World) :
    Calls Try.prog 15 #[.int .u64 x] w fun e w' => e = .returned (.int .i64 ((lenN x : Int) - 1)) ∧ Below w.heap.size w w' := by
  go_enter Try.func15, Try.ntmps15
  go_wp2_with (go_at_call 19; refine (bits_row x hx _).mono ?_; rintro e w1 ⟨⟨g, cap, rfl, hg0, hg1, hc0, hf0, _⟩, hb0⟩; have HC := Lib.hid hc0; have HF := Lib.hid hf0; clear hc0 hf0)
  go_loop [3, 5] (fun n i => ∃ j : Nat, j ≤ 64 ∧ i = .int .i64 j ∧ n = .int .i64 (hi x j)) (fun _ i => 64 - (intOf i).toNat)
  case atStart => exact ⟨0, by omega, rfl, rfl⟩
  case round =>
    obtain ⟨j, hj, rfl, rfl⟩ := hrel
    by_cases hlt : j < 64
    · have hcj := HC.out j hlt
      rw [bitsTo_get x j hlt] at hcj
      have hs : hi x (j + 1) = if bit x j = 1 then (j : Int) else hi x j := rfl
      have HS := Lib.hid hs
      clear hs
      rcases (show bit x j = 0 ∨ bit x j = 1 from by have := bit_lt x j; omega) with h | h
      all_goals
        rw [h] at hcj
        have H := Lib.hid h
        clear h
        go_wp2
        go_round
        case rel => exact ⟨j + 1, by omega, by go_num, by rw [HS.out, H.out]; rfl⟩
        case measure => simp [intOf]; omega
    · have : j = 64 := by omega
      subst this
      go_wp2
      go_ret
      exact ⟨by rw [← hi_word x hx]; rfl, hb0⟩
def lowTo (x : Nat) (k : Int) (j : Nat) : List Nat := (List.range 64).map fun i : Nat => if i < j ∧ k ≤ (i : Int) then 0 else bit x i
theorem lowTo_zero (x : Nat) (k : Int) : lowTo x k 0 = bitsTo x 64 := by simp [lowTo, bitsTo]
theorem lowTo_all (x : Nat) (k : Int) : lowTo x k 64 = (List.range 64).map fun i : Nat => if k ≤ (i : Int) then 0 else bit x i := by
  refine List.map_congr_left fun i hi => ?_
  have := List.mem_range.mp hi
  simp [this]
theorem lowTo_bit (x : Nat) (k : Int) (j : Nat) : ∀ b ∈ lowTo x k j, b < 2 := by
  intro b hb
  obtain ⟨i, _, rfl⟩ := List.mem_map.mp hb
  split
  · decide
  · exact bit_lt _ _
theorem lowTo_get (x : Nat) (k : Int) (j i : Nat) (h : i < 64) : (lowTo x k j).getD i 0 = if i < j ∧ k ≤ (i : Int) then 0 else bit x i := by simp [lowTo, h]
theorem low_keep (x : Nat) (k : Int) (j i : Nat) (hj : (j : Int) < k) (h : i < 64) : (lowTo x k (j + 1)).getD i 0 = (lowTo x k j).getD i 0 := by
  rw [lowTo_get _ _ _ _ h, lowTo_get _ _ _ _ h]
  by_cases e : i = j
  · subst e; rw [if_neg (by omega), if_neg (by omega)]
  · by_cases h1 : i < j ∧ k ≤ (i : Int)
    · rw [if_pos h1, if_pos (by omega)]
    · rw [if_neg h1, if_neg (by omega)]
theorem low_zero (x : Nat) (k : Int) (j i : Nat) (hj : k ≤ (j : Int)) (h : i < 64) : (lowTo x k (j + 1)).getD i 0 = if i = j then 0 else (lowTo x k j).getD i 0 := by
  rw [lowTo_get _ _ _ _ h, lowTo_get _ _ _ _ h]
  by_cases e : i = j
  · subst e; rw [if_pos (by omega), if_pos rfl]
  · rw [if_neg e]
    by_cases h1 : i < j ∧ k ≤ (i : Int)
    · rw [if_pos h1, if_pos (by omega)]
    · rw [if_neg h1, if_neg (by omega)]
/-- the row at block g holds the numbers of l, and may be written. -/
def Holds64 (w : World) (g : Nat) (l : List Nat) : Prop := (∀ i, i < 64 → w.cell? ⟨g, i, none⟩ = some (.int .u64 ((l.getD i 0 : Nat) : Int))) ∧ ∀ i, w.frozen? ⟨g, i, none⟩ = false
theorem Holds64.zero {w : World} {g : Nat} {x : Nat} {k : Int} {j : Nat} (h : Holds64 w g (lowTo x k j)) (hj : k ≤ (j : Int)) (hj' : j < 64) : Holds64 (w.setCell ⟨g, j, none⟩ (.int .u64 0)) g (lowTo x k (j + 1)) := by
  refine ⟨fun i hi => ?_, fun i => (World.frozen?_setCell _ _ _ _).trans (h.2 i)⟩
  rw [low_zero x k j i hj hi]
  by_cases e : i = j
  · subst e
    rw [World.cell?_setCell_same _ _ _ (h.1 i hi), if_pos rfl]
    rfl
  · rw [World.cell?_setCell_other _ _ _ _ (by intro h; injection h with _ h; exact e h.symm), if_neg e]
    exact h.1 i hi
theorem Holds64.keep {w : World} {g : Nat} {x : Nat} {k : Int} {j : Nat} (h : Holds64 w g (lowTo x k j)) (hj : (j : Int) < k) : Holds64 w g (lowTo x k (j + 1)) :=
  ⟨fun i hi => by rw [low_keep x k j i hj hi]; exact h.1 i hi, h.2⟩
set_option maxHeartbeats 1600000 in
set_option maxRecDepth 100000 in
theorem reflow_any (x : Nat) (k : Int) (hx : x < 18446744073709551616) (w : World) :
    Calls Try.prog 18 #[.int .u64 x, .int .i64 k] w fun e w' => e = .returned (.int .u64 (lowN x k : Nat)) ∧ Below w.heap.size w w' := by
  go_enter Try.func18, Try.ntmps18
  go_wp2_with (go_at_call 19; refine (bits_row x hx _).mono ?_; rintro e w1 ⟨⟨g, cap, rfl, hg0, hg1, hc0, hf0, _⟩, hb0⟩; have HH := Lib.hid (show Holds64 w1 g (bitsTo x 64) from ⟨hc0, hf0⟩); clear hc0 hf0)
  go_loopw [6] (fun i wr => ∃ j : Nat, j ≤ 64 ∧ i = .int .i64 j ∧ Holds64 wr g (lowTo x k j) ∧ Below w.heap.size w wr) (fun i _ => 64 - (intOf i).toNat)
  case atStart => exact ⟨0, by omega, rfl, by rw [lowTo_zero]; exact HH.out, hb0⟩
  case round =>
    obtain ⟨j, hj, rfl, hh, hb⟩ := hrel
    have H := Lib.hid hh
    clear hh
    by_cases hlt : j < 64
    · by_cases hk : k ≤ (j : Int)
      · have hc := H.out.1 j hlt
        have hf := H.out.2 j
        go_wp2
        go_roundw
        case rel => exact ⟨j + 1, by omega, by go_num, H.out.zero hk hlt, hb.setCell (by exact hg0) _⟩
        case measure => simp [intOf]; omega
      · go_wp2
        go_roundw
        case rel => exact ⟨j + 1, by omega, by go_num, H.out.keep (by omega), hb⟩
        case measure => simp [intOf]; omega
    · have : j = 64 := by omega
      subst this
      go_wp2_with (go_at_call 20; refine (of_any g cap (lowTo x k 64) (by simp [lowTo]) (lowTo_bit x k 64) _ H.out.1).mono ?_; rintro e w2 ⟨rfl, rfl⟩)
      go_ret
      refine ⟨congrArg Ending.returned (congrArg (Value.int IntKind.u64) ?_), hb⟩
      rw [lowTo_all, low_of x k hx]
theorem hi_step (a b i : Nat) : a * (b / 2 ^ i) = 2 * (a * (b / 2 ^ (i + 1))) + a * bit b i := by
  have e : b / 2 ^ i = 2 * (b / 2 ^ (i + 1)) + bit b i := by
    rw [Nat.pow_succ, ← Nat.div_div_eq_div_mul]; unfold bit; omega
  rw [e, Nat.mul_add, ← Nat.mul_assoc, ← Nat.mul_assoc, Nat.mul_comm a 2]
theorem hi_bound (a b i : Nat) (ha : a < 18446744073709551616) (hb : b < 18446744073709551616) : a * (b / 2 ^ i) < 340282366920938463463374607431768211456 := by
  have h1 : b / 2 ^ i < 18446744073709551616 := Nat.lt_of_le_of_lt (Nat.div_le_self _ _) hb
  calc a * (b / 2 ^ i) ≤ a * 18446744073709551616 := Nat.mul_le_mul_left _ (Nat.le_of_lt h1)
    _ < 18446744073709551616 * 18446744073709551616 := Nat.mul_lt_mul_of_pos_right ha (by decide)
/-- what a round does to the two halves of v: v doubled (0), or doubled and a added (1). -/
def upH (v : Nat) : Nat := v / 18446744073709551616
def upL (v : Nat) : Nat := v % 18446744073709551616
theorem up_r1 (v : Nat) (hv : v < 170141183460469231731687303715884105728) : IntKind.u64.wrap (IntKind.u64.wrap (2 * ((upH v : Nat) : Int)) + IntKind.u64.wrap (((upL v : Nat) : Int) / 9223372036854775808)) = ((upH (2 * v) : Nat) : Int) := by
  rw [IntKind.wrap_u64, IntKind.wrap_u64, IntKind.wrap_u64]
  unfold upH upL
  omega
theorem up_r2 (v : Nat) : IntKind.u64.wrap (2 * ((upL v : Nat) : Int)) = ((upL (2 * v) : Nat) : Int) := by
  rw [IntKind.wrap_u64]
  unfold upL
  omega
theorem up_r3 (v a : Nat) : IntKind.u64.wrap (((upL v : Nat) : Int) + (a : Int)) = ((upL (v + a) : Nat) : Int) := by
  rw [IntKind.wrap_u64]
  unfold upL
  omega
theorem up_r4 (v a : Nat) (ha : a < 18446744073709551616) : (upL (v + a) < upL v → upH (v + a) = upH v + 1) ∧ (¬ upL (v + a) < upL v → upH (v + a) = upH v) := by
  unfold upL upH
  omega
theorem up_r5 (v : Nat) (hv : v < 340282366920938463463374607431768211456) : upH v < 18446744073709551616 := by
  unfold upH
  omega
set_option maxHeartbeats 1600000 in
set_option maxRecDepth 100000 in
theorem refhigh_any (a b : Nat) (ha : a < 18446744073709551616) (hb : b < 18446744073709551616) (w : World) :
    Calls Try.prog 11 #[.int .u64 a, .int .u64 b] w fun e w' => e = .returned (.int .u64 (a * b / 18446744073709551616 : Nat)) ∧ Below w.heap.size w w' := by
  go_enter Try.func11, Try.ntmps11
  go_wp2_with (go_at_call 19; refine (bits_row b hb _).mono ?_; rintro e w1 ⟨⟨g, cap, rfl, hg0, hg1, hc0, hf0, _⟩, hb0⟩; have HC := Lib.hid hc0; have HF := Lib.hid hf0; clear hc0 hf0)
  go_loop [6, 7, 8, 9] (fun h l i s => ∃ j : Nat, j ≤ 64 ∧ i = .int .i64 ((j : Int) - 1) ∧ h = .int .u64 ((upH (a * (b / 2 ^ j)) : Nat) : Int) ∧ l = .int .u64 ((upL (a * (b / 2 ^ j)) : Nat) : Int)) (fun _ _ i _ => (intOf i + 1).toNat)
  case atStart =>
    have : a * (b / 2 ^ 64) = 0 := by rw [Nat.div_eq_of_lt (show b < 2 ^ 64 from hb)]; rfl
    exact ⟨64, by omega, rfl, by rw [this]; rfl, by rw [this]; rfl⟩
  case round =>
    obtain ⟨j, hj, rfl, rfl, rfl⟩ := hrel
    cases j with
    | zero =>
      go_wp2
      go_ret
      exact ⟨by simp [upH], hb0⟩
    | succ j =>
      have hcj := HC.out j (by omega)
      rw [bitsTo_get b j (by omega)] at hcj
      have hs := hi_step a b j
      have hbd := hi_bound a b j ha hb
      have hij : ((j + 1 : Nat) : Int) - 1 = (j : Int) := by omega
      rw [hij]
      clear hij
      rcases (show bit b j = 0 ∨ bit b j = 1 from by have := bit_lt b j; omega) with h | h
      · rw [h] at hcj hs
        generalize a * (b / 2 ^ (j + 1)) = v at *
        rw [Nat.mul_zero, Nat.add_zero] at hs
        have r1 := up_r1 v (by omega)
        have r2 := up_r2 v
        rw [← hs] at r1 r2
        clear hs hbd
        go_wp2
        go_round
        case rel => exact ⟨j, by omega, rfl, rfl, rfl⟩
        case measure => simp [intOf]
      · rw [h] at hcj hs
        generalize a * (b / 2 ^ (j + 1)) = v at *
        rw [Nat.mul_one] at hs
        have r1 := up_r1 v (by omega)
        have r2 := up_r2 v
        have r3 := up_r3 (2 * v) a
        obtain ⟨r4, r4'⟩ := up_r4 (2 * v) a ha
        have r5 := up_r5 _ hbd
        rw [← hs] at r3 r4 r4'
        clear hs hbd
        have R4 := Lib.hid r4
        have R4' := Lib.hid r4'
        clear r4 r4'
        generalize hS : upL (a * (b / 2 ^ j)) = s at *
        generalize upL (2 * v) = m at *
        generalize hH : upH (a * (b / 2 ^ j)) = h1 at *
        have HS := Lib.hid hS
        have HH := Lib.hid hH
        clear hS hH
        generalize upH (2 * v) = h2 at *
        by_cases hlt : s < m
        · have e := R4.out hlt
          subst e
          go_wp2
          go_round
          case rel => exact ⟨j, by omega, rfl, by rw [HH.out]; go_num, by rw [HS.out]⟩
          case measure => simp [intOf]
        · have e := R4'.out hlt
          subst e
          go_wp2
          go_round
          case rel => exact ⟨j, by omega, rfl, by rw [HH.out], by rw [HS.out]⟩
          case measure => simp [intOf]
end Go.Proofs.Ytbecnmclemmemaa
