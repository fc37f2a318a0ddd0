/-
  The functions of package cost, and of its reference, by their contracts: what each returns, for every input of its types. Where a call lays a row of its own (two numbers handed to a sum of many) the world below what was there stays as it was.
-/
import Derived.Test.YtgienoomodlfdaaRows
import Derived.Test.YtgienoomodlfdaaMath
import Derived.WalkKit
import Derived.ProofKit
import Derived.OpenShut
import Derived.Lib.Hide
import Derived.Lib.Walk
namespace Go.Proofs.Ytgienoomodlfdaa
open Go.ChangeShapes Go.WideShapes Go.ChangeAt Go.RowKit
theorem ret_bool {a b : Bool} (h : a = b) : Ending.returned (.bool a) = .returned (.bool b) := by rw [h]
theorem ret_pair {a b : Int} {c d : Bool} (h : a = b) (h' : c = d) : Ending.returned (.tuple #[.int .i64 a, .bool c]) = .returned (.tuple #[.int .i64 b, .bool d]) := by rw [h, h']
theorem right_any (n : Int) (w : World) : Calls Try.prog 8 #[.int .i64 n] w fun e w' => e = .returned (.bool (okC n)) ∧ w = w' := by
  by_cases h0 : 0 ≤ n
  all_goals by_cases h1 : n ≤ 4611686018427387904
  all_goals
    go_enter Try.func8, Try.ntmps8
    go_wp2
    go_ret
    exact ⟨ret_bool (by unfold okC; simp [h0, h1]), rfl⟩
theorem refright_any (n : Int) (w : World) : Calls Try.prog 9 #[.int .i64 n] w fun e w' => e = .returned (.bool (okC n)) ∧ w = w' := by
  by_cases h0 : 0 ≤ n
  all_goals by_cases h1 : n ≤ 4611686018427387904
  all_goals
    go_enter Try.func9, Try.ntmps9
    go_wp2
    go_ret
    exact ⟨ret_bool (by unfold okC; simp [h0, h1]), rfl⟩
set_option maxHeartbeats 400000 in
theorem room_any (m u : Int) (w : World) : Calls Try.prog 15 #[.int .i64 m, .int .i64 u] w fun e w' => e = .returned (.tuple #[.int .i64 (roomV m u), .bool (roomB m u)]) ∧ w = w' := by
  by_cases h0 : 0 ≤ m
  all_goals by_cases h1 : m ≤ 4611686018427387904
  all_goals by_cases h2 : 0 ≤ u
  all_goals by_cases h3 : u ≤ 4611686018427387904
  all_goals by_cases h4 : m < u
  all_goals first
    | (exfalso; omega)
    | (go_enter Try.func15, Try.ntmps15
       go_wp2
       go_ret2
       refine ⟨ret_pair ?_ ?_, rfl⟩
       · unfold roomV; first | (rw [if_pos (by omega)]; done) | (rw [if_neg (by omega)]; done)
       · unfold roomB; first | (rw [decide_eq_true (by omega)]; done) | (rw [decide_eq_false (by omega)]; done))
set_option maxHeartbeats 400000 in
theorem refroom_any (m u : Int) (w : World) : Calls Try.prog 16 #[.int .i64 m, .int .i64 u] w fun e w' => e = .returned (.tuple #[.int .i64 (roomV m u), .bool (roomB m u)]) ∧ w = w' := by
  by_cases h0 : 0 ≤ m
  all_goals by_cases h1 : m ≤ 4611686018427387904
  all_goals by_cases h2 : 0 ≤ u
  all_goals by_cases h3 : u ≤ 4611686018427387904
  all_goals by_cases h4 : m < u
  all_goals first
    | (exfalso; omega)
    | (go_enter Try.func16, Try.ntmps16
       go_wp2
       go_ret2
       refine ⟨ret_pair ?_ ?_, rfl⟩
       · unfold roomV; first | (rw [if_pos (by omega)]; done) | (rw [if_neg (by omega)]; done)
       · unfold roomB; first | (rw [decide_eq_true (by omega)]; done) | (rw [decide_eq_false (by omega)]; done))
theorem cut_any (n : Int) (w : World) : Calls Try.prog 10 #[.int .i64 n] w fun e w' => e = .returned (.int .i64 (cutV n)) ∧ w = w' := by
  go_enter Try.func10, Try.ntmps10
  go_wp2
  go_ret
  exact ⟨rfl, rfl⟩
theorem ret_int {a b : Int} (h : a = b) : Ending.returned (.int .i64 a) = .returned (.int .i64 b) := by rw [h]
theorem refcut_any (n : Int) (w : World) : Calls Try.prog 11 #[.int .i64 n] w fun e w' => e = .returned (.int .i64 (cutV n)) ∧ w = w' := by
  by_cases h0 : n < 0
  all_goals by_cases h1 : n ≤ 4611686018427387904
  all_goals first
    | (exfalso; omega)
    | (go_enter Try.func11, Try.ntmps11
       go_wp2
       go_ret
       exact ⟨ret_int (by unfold cutV; omega), rfl⟩)
set_option maxHeartbeats 400000 in
theorem refadd_any (a b : Int) (w : World) : Calls Try.prog 7 #[.int .i64 a, .int .i64 b] w fun e w' => e = .returned (.tuple #[.int .i64 (addV a b), .bool (addB a b)]) ∧ w = w' := by
  by_cases h0 : 0 ≤ a
  all_goals by_cases h1 : a ≤ 4611686018427387904
  all_goals by_cases h2 : 0 ≤ b
  all_goals by_cases h3 : b ≤ 4611686018427387904
  all_goals by_cases h4 : a + b ≤ 4611686018427387904
  all_goals first
    | (exfalso; omega)
    | (go_enter Try.func7, Try.ntmps7
       go_wp2
       go_ret2
       refine ⟨ret_pair ?_ ?_, rfl⟩
       · unfold addV; first | (rw [if_pos (by omega)]; done) | (rw [if_neg (by omega)]; done)
       · unfold addB; first | (rw [decide_eq_true (by omega)]; done) | (rw [decide_eq_false (by omega)]; done))
end Go.Proofs.Ytgienoomodlfdaa
