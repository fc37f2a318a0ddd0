/-
  Configs as they lie; the nearer one of two bounds by its contracts (the program's and the document's).
-/
import Derived.Test.YtfhcgildokdppaaSm
import Derived.Test.YtfhcgildokdppaaBb
import Derived.Lib.MinMax
namespace Go.Proofs.Ytfhcgildokdppaa
open Go.RowKit Go.Shelf tp
/-- a config as a value, and its five cells. -/
abbrev ccs (c : Cfg) : Array Value := #[.int .i64 c.mx, .int .i64 c.bu, .int .i64 c.co, .int .i64 c.ba, .int .i64 c.bi]
abbrev cv (c : Cfg) : Value := .agg #[.int .i64 c.mx, .int .i64 c.bu, .int .i64 c.co, .int .i64 c.ba, .int .i64 c.bi]
abbrev Cc (b : Nat) (c : Cfg) (V : World) : Prop := V.cell? ⟨b, 0, none⟩ = some (.int .i64 c.mx) ∧ V.cell? ⟨b, 1, none⟩ = some (.int .i64 c.bu) ∧ V.cell? ⟨b, 2, none⟩ = some (.int .i64 c.co) ∧ V.cell? ⟨b, 3, none⟩ = some (.int .i64 c.ba) ∧ V.cell? ⟨b, 4, none⟩ = some (.int .i64 c.bi)
theorem cellsC {W : World} {b : Nat} {c : Cfg} (h : W.heap[b]? = some (.cells (ccs c) 23 (0, 0))) : Cc b c W := ⟨cell_of h 0, cell_of h 1, cell_of h 2, cell_of h 3, cell_of h 4⟩
def setC (W : World) (b : Nat) (c : Cfg) : World := ((((W.setCell ⟨b, 0, none⟩ (.int .i64 c.mx)).setCell ⟨b, 1, none⟩ (.int .i64 c.bu)).setCell ⟨b, 2, none⟩ (.int .i64 c.co)).setCell ⟨b, 3, none⟩ (.int .i64 c.ba)).setCell ⟨b, 4, none⟩ (.int .i64 c.bi)
theorem putC {W : World} {b : Nat} {u c : Cfg} (h : W.heap[b]? = some (.cells (ccs u) 23 (0, 0))) : (setC W b c).heap[b]? = some (.cells (ccs c) 23 (0, 0)) := by
  unfold setC
  rw [heap_set (heap_set (heap_set (heap_set (heap_set h 0 _) 1 _) 2 _) 3 _) 4 _]
  rfl
theorem keepC (W : World) (b : Nat) (c : Cfg) : Keep (fun k => k ≠ b) W (setC W b c) :=
  ((((Keep.setCell _ _ _ fun h => h rfl).trans (Keep.setCell _ _ _ fun h => h rfl)).trans (Keep.setCell _ _ _ fun h => h rfl)).trans (Keep.setCell _ _ _ fun h => h rfl)).trans (Keep.setCell _ _ _ fun h => h rfl)
theorem eqC (a b : Cfg) (W : World) : (binOp .eql 23 (cv a) (cv b)).run Try.prog W = .ok (.bool (decide (a = b))) W := by
  obtain ⟨a0, a1, a2, a3, a4⟩ := a
  obtain ⟨b0, b1, b2, b3, b4⟩ := b
  have h : (binOp .eql 23 (cv ⟨a0, a1, a2, a3, a4⟩) (cv ⟨b0, b1, b2, b3, b4⟩)).run Try.prog W = .ok (.bool (a0 == b0 && (a1 == b1 && (a2 == b2 && (a3 == b3 && a4 == b4))))) W := by
    simp [go_sem]
    repeat' split
    all_goals simp_all
  rw [h]
  simp only [Cfg.mk.injEq, Bool.decide_and]
  rfl
theorem neC (a b : Cfg) (W : World) : (binOp .neq 23 (cv a) (cv b)).run Try.prog W = .ok (.bool (!decide (a = b))) W := by
  obtain ⟨a0, a1, a2, a3, a4⟩ := a
  obtain ⟨b0, b1, b2, b3, b4⟩ := b
  have h : (binOp .neq 23 (cv ⟨a0, a1, a2, a3, a4⟩) (cv ⟨b0, b1, b2, b3, b4⟩)).run Try.prog W = .ok (.bool (!(a0 == b0 && (a1 == b1 && (a2 == b2 && (a3 == b3 && a4 == b4)))))) W := by
    simp [go_sem]
    repeat' split
    all_goals simp_all
  rw [h]
  simp only [Cfg.mk.injEq, Bool.decide_and]
  rfl
theorem cut21 (x : Int) (w : World) : Calls Try.prog 21 #[.int .i64 x] w fun e B => e = .returned (.int .i64 (nr x 0 4611686018427387904)) ∧ B = w := by
  go_enter Try.func21, Try.ntmps21
  go_wp2
  go_ret
  exact ⟨rfl, rfl⟩
theorem nearer22 (x lo hi : Int) (w : World) : Calls Try.prog 22 #[.int .i64 x, .int .i64 lo, .int .i64 hi] w fun e B => e = .returned (.int .i64 (nr x lo hi)) ∧ B = w := by
  go_enter Try.func22, Try.ntmps22
  go_wp2
  go_ret
  exact ⟨rfl, rfl⟩
theorem refcut28 (x lo hi : Int) (w : World) : Calls Try.prog 28 #[.int .i64 x, .int .i64 lo, .int .i64 hi] w fun e B => e = .returned (.int .i64 (max lo (min x hi))) ∧ B = w := by
  go_enter Try.func28, Try.ntmps28
  go_wp2
  go_ret
  exact ⟨rfl, rfl⟩
theorem bC (a b c d e : Int) (W : World) : (Instr.build 23 #[(0, .int .i64 a), (1, .int .i64 b), (2, .int .i64 c), (3, .int .i64 d), (4, .int .i64 e)]).run Try.prog W = .ok (.agg #[.int .i64 a, .int .i64 b, .int .i64 c, .int .i64 d, .int .i64 e]) W := by kernel_rfl
/-- a config's box, and the result's behind it. -/
theorem twoC {w W1 : World} {N : Nat} {c : Cfg} (hN : w.heap.size = N) (h : (w.alloc (.cells (ccs c) 23)).alloc (.cells (ccs ⟨0, 0, 0, 0, 0⟩) 23) = W1) : W1.heap[N]? = some (.cells (ccs c) 23 (0, 0)) ∧ W1.heap[N + 1]? = some (.cells (ccs ⟨0, 0, 0, 0, 0⟩) 23 (0, 0)) ∧ Below N w W1 ∧ W1.heap.size = N + 2 := by
  subst hN
  rw [← h]
  exact ⟨heap_old (heap_next rfl _), heap_next (by simp) _, ((Below.refl _ _).alloc (Nat.le_refl _) _).alloc (by simp) _, by simp⟩
end Go.Proofs.Ytfhcgildokdppaa
