/-
  awake of package cortadolaw18 by its contract: it answers true.
-/
import Derived.Test.YtfhcgildokdppaaPr
namespace Go.Proofs.Ytfhcgildokdppaa
open Go.RowKit Go.Shelf tp
theorem cf_nil : near (cf []) = ⟨0, 1, 1, 1, 0⟩ := by decide
theorem b23' (W : World) : (Instr.build 23 #[(1, .int .i64 1), (2, .int .i64 1), (3, .int .i64 1)]).run Try.prog W = .ok (.agg #[.int .i64 0, .int .i64 1, .int .i64 1, .int .i64 1, .int .i64 0]) W := by kernel_rfl
theorem eqA (W : World) : (binOp .eql 23 (.agg #[.int .i64 0, .int .i64 1, .int .i64 1, .int .i64 1, .int .i64 0]) (.agg #[.int .i64 0, .int .i64 1, .int .i64 1, .int .i64 1, .int .i64 0])).run Try.prog W = .ok (.bool true) W := by
  have := eqC ⟨0, 1, 1, 1, 0⟩ ⟨0, 1, 1, 1, 0⟩ W
  rwa [decide_eq_true rfl] at this
theorem fA (a : Option Addr) (n c : Nat) (b : Option Addr) (m d : Nat) (f : Option Addr) (l g : Nat) (W : World) : (Instr.field 27 (svl ⟨0, 1, 1, 1, 0⟩ a n c b m d f l g) 0).run Try.prog W = .ok (.agg #[.int .i64 0, .int .i64 1, .int .i64 1, .int .i64 1, .int .i64 0]) W := by kernel_rfl
theorem awake8 (w : World) : Calls Try.prog 8 #[] w fun e B => e = .returned (.bool true) ∧ Hid (Below w.heap.size w B) := by
  have T : Hid (Calls Try.prog 17 #[.slice none 0 0] w fun e B => ∃ a n c b m d f l g, e = .returned (svl ⟨0, 1, 1, 1, 0⟩ a n c b m d f l g) ∧ Hid (Below w.heap.size w B)) := by
    refine (parse17 none [] 0 w (fun _ => ⟨rfl, rfl⟩) (Nat.le_refl _) (by simp) (fun x h => by cases h) (La.nil _ _)).mono ?_
    rintro e B ⟨x, he, hB⟩
    rw [List.take_nil, sv_parse, cf_nil] at he
    exact ⟨_, _, _, _, _, _, _, _, _, he, hB.out.2⟩
  have hB := b23'
  have hE := eqA
  have hF := fA
  go_enter Try.func8, Try.ntmps8
  go_wp2_with fail
  refine T.out.mono ?_
  rintro e w1 ⟨a, n, c, b, m, d, f, l, g, rfl, h1⟩
  go_wp2
  go_ret
  exact ⟨rfl, h1⟩
end Go.Proofs.Ytfhcgildokdppaa
