/-
  Low of package word and of its reference, by their contracts, for every word and every int: what each returns; what was there stays as it was.
-/
import Derived.Test.YtmjcdondogpceaaDoorXxTurn
namespace Go.Proofs.YtmjcdondogpceaaDoor.xx
open Go.ChangeShapes Go.WideShapes Go.ChangeAt Go.RowKit
def cl (k : Int) : Nat := (min (max k 0) 64).toNat
theorem cl_le (k : Int) : cl k ≤ 64 := by unfold cl; omega
def lowN (x : Nat) (k : Int) : Nat := x % 2 ^ cl k
theorem low_le (x : Nat) (k : Int) : lowN x k ≤ x := Nat.mod_le _ _
theorem low_low (x : Nat) (k : Int) : lowN (lowN x k) k = lowN x k := Nat.mod_mod _ _
theorem low_of (x : Nat) (k : Int) (hx : x < 18446744073709551616) : ofBits ((List.range 64).map fun i : Nat => if k ≤ (i : Int) then 0 else bit x i) = lowN x k := by
  have hlt : lowN x k < 18446744073709551616 := Nat.lt_of_le_of_lt (low_le x k) hx
  have e : ((List.range 64).map fun i : Nat => if k ≤ (i : Int) then 0 else bit x i) = (List.range 64).map (bit (lowN x k)) := by
    refine List.map_congr_left fun i hi => ?_
    have hi := List.mem_range.mp hi
    rw [bit_test, bit_test, lowN, Nat.testBit_mod_two_pow]
    by_cases h : k ≤ (i : Int)
    · rw [if_pos h, decide_eq_false (by unfold cl; omega)]
      simp
    · rw [if_neg h, decide_eq_true (by unfold cl; omega)]
      simp
  rw [e, ofBits_bits]
  exact Nat.mod_eq_of_lt hlt
theorem low_expr (x c : Nat) (hx : x < 18446744073709551616) (hc : c ≤ 64) : bits BinOp.and IntKind.u64 ↑x (IntKind.u64.wrap (IntKind.u64.wrap (2 ^ c) - 1)) = ((x % 2 ^ c : Nat) : Int) := by
  have hp : 2 ^ c ≤ 2 ^ 64 := Nat.pow_le_pow_right (by decide) hc
  have hq := Nat.two_pow_pos c
  have e0 : ((2 : Int) ^ c) = ((2 ^ c : Nat) : Int) := by simp
  have e1 : IntKind.u64.wrap (IntKind.u64.wrap (2 ^ c) - 1) = ((2 ^ c - 1 : Nat) : Int) := by
    rw [IntKind.wrap_u64, IntKind.wrap_u64, e0]
    have : (2 : Nat) ^ c ≤ 18446744073709551616 := hp
    generalize (2 : Nat) ^ c = p at *
    omega
  rw [e1, u64_and_nat _ _ hx (by have : (2 : Nat) ^ c ≤ 18446744073709551616 := hp; omega), Nat.and_two_pow_sub_one_eq_mod]
set_option maxHeartbeats 400000 in
theorem low_any (x : Nat) (k : Int) (hx : x < 18446744073709551616) (w : World) :
    Calls Tryd.prog 25 #[.int .u64 x, .int .i64 k] w fun e w' => e = .returned (.int .u64 (lowN x k : Nat)) ∧ w = w' := by
  go_enter Tryd.func25, Tryd.ntmps25
  go_wp2
  go_ret
  refine ⟨congrArg Ending.returned (congrArg (Value.int IntKind.u64) ?_), rfl⟩
  exact low_expr x (cl k) hx (cl_le k)
def lowTo (x : Nat) (k : Int) (j : Nat) : List Nat := (List.range 64).map fun i : Nat => if i < j ∧ k ≤ (i : Int) then 0 else bit x i
theorem lowTo_zero (x : Nat) (k : Int) : lowTo x k 0 = bitsTo x 64 := by simp [lowTo, bitsTo]
theorem lowTo_all (x : Nat) (k : Int) : lowTo x k 64 = (List.range 64).map fun i : Nat => if k ≤ (i : Int) then 0 else bit x i := by
  refine List.map_congr_left fun i hi => ?_
  have := List.mem_range.mp hi
  simp [this]
theorem lowTo_bit (x : Nat) (k : Int) (j : Nat) : ∀ b ∈ lowTo x k j, b < 2 := by
  intro b hb
  obtain ⟨i, _, rfl⟩ := List.mem_map.mp hb
  split
  · decide
  · exact bit_lt _ _
theorem lowTo_get (x : Nat) (k : Int) (j i : Nat) (h : i < 64) : (lowTo x k j).getD i 0 = if i < j ∧ k ≤ (i : Int) then 0 else bit x i := by simp [lowTo, h]
theorem low_keep (x : Nat) (k : Int) (j i : Nat) (hj : (j : Int) < k) (h : i < 64) : (lowTo x k (j + 1)).getD i 0 = (lowTo x k j).getD i 0 := by
  rw [lowTo_get _ _ _ _ h, lowTo_get _ _ _ _ h]
  by_cases e : i = j
  · subst e; rw [if_neg (by omega), if_neg (by omega)]
  · by_cases h1 : i < j ∧ k ≤ (i : Int)
    · rw [if_pos h1, if_pos (by omega)]
    · rw [if_neg h1, if_neg (by omega)]
theorem low_zero (x : Nat) (k : Int) (j i : Nat) (hj : k ≤ (j : Int)) (h : i < 64) : (lowTo x k (j + 1)).getD i 0 = if i = j then 0 else (lowTo x k j).getD i 0 := by
  rw [lowTo_get _ _ _ _ h, lowTo_get _ _ _ _ h]
  by_cases e : i = j
  · subst e; rw [if_pos (by omega), if_pos rfl]
  · rw [if_neg e]
    by_cases h1 : i < j ∧ k ≤ (i : Int)
    · rw [if_pos h1, if_pos (by omega)]
    · rw [if_neg h1, if_neg (by omega)]
/-- the row at block g holds the numbers of l, and may be written. -/
def Holds64 (w : World) (g : Nat) (l : List Nat) : Prop := (∀ i, i < 64 → w.cell? ⟨g, i, none⟩ = some (.int .u64 ((l.getD i 0 : Nat) : Int))) ∧ ∀ i, w.frozen? ⟨g, i, none⟩ = false
theorem Holds64.zero {w : World} {g : Nat} {x : Nat} {k : Int} {j : Nat} (h : Holds64 w g (lowTo x k j)) (hj : k ≤ (j : Int)) (hj' : j < 64) : Holds64 (w.setCell ⟨g, j, none⟩ (.int .u64 0)) g (lowTo x k (j + 1)) := by
  refine ⟨fun i hi => ?_, fun i => (World.frozen?_setCell _ _ _ _).trans (h.2 i)⟩
  rw [low_zero x k j i hj hi]
  by_cases e : i = j
  · subst e
    rw [World.cell?_setCell_same _ _ _ (h.1 i hi), if_pos rfl]
    rfl
  · rw [World.cell?_setCell_other _ _ _ _ (by intro h; injection h with _ h; exact e h.symm), if_neg e]
    exact h.1 i hi
theorem Holds64.keep {w : World} {g : Nat} {x : Nat} {k : Int} {j : Nat} (h : Holds64 w g (lowTo x k j)) (hj : (j : Int) < k) : Holds64 w g (lowTo x k (j + 1)) :=
  ⟨fun i hi => by rw [low_keep x k j i hj hi]; exact h.1 i hi, h.2⟩
set_option maxHeartbeats 1600000 in
set_option maxRecDepth 100000 in
theorem reflow_any (x : Nat) (k : Int) (hx : x < 18446744073709551616) (w : World) :
    Calls Tryd.prog 26 #[.int .u64 x, .int .i64 k] w fun e w' => e = .returned (.int .u64 (lowN x k : Nat)) ∧ Below w.heap.size w w' := by
  go_enter Tryd.func26, Tryd.ntmps26
  go_wp2_with (go_at_call 42; refine (bits_row x hx _).mono ?_; rintro e w1 ⟨⟨g, cap, rfl, hg0, hg1, hc0, hf0, _⟩, hb0⟩; have HH := Lib.hid (show Holds64 w1 g (bitsTo x 64) from ⟨hc0, hf0⟩); clear hc0 hf0)
  go_loopw [6] (fun i wr => ∃ j : Nat, j ≤ 64 ∧ i = .int .i64 j ∧ Holds64 wr g (lowTo x k j) ∧ Below w.heap.size w wr) (fun i _ => 64 - (intOf i).toNat)
  case atStart => exact ⟨0, by omega, rfl, by rw [lowTo_zero]; exact HH.out, hb0⟩
  case round =>
    obtain ⟨j, hj, rfl, hh, hb⟩ := hrel
    have H := Lib.hid hh
    clear hh
    by_cases hlt : j < 64
    · by_cases hk : k ≤ (j : Int)
      · have hc := H.out.1 j hlt
        have hf := H.out.2 j
        go_wp2
        go_roundw
        case rel => exact ⟨j + 1, by omega, by go_num, H.out.zero hk hlt, hb.setCell (by exact hg0) _⟩
        case measure => simp [intOf]; omega
      · go_wp2
        go_roundw
        case rel => exact ⟨j + 1, by omega, by go_num, H.out.keep (by omega), hb⟩
        case measure => simp [intOf]; omega
    · have : j = 64 := by omega
      subst this
      go_wp2_with (go_at_call 43; refine (of_any g cap (lowTo x k 64) (by simp [lowTo]) (lowTo_bit x k 64) _ H.out.1).mono ?_; rintro e w2 ⟨rfl, rfl⟩)
      go_ret
      refine ⟨congrArg Ending.returned (congrArg (Value.int IntKind.u64) ?_), hb⟩
      rw [lowTo_all, low_of x k hx]
end Go.Proofs.YtmjcdondogpceaaDoor.xx
