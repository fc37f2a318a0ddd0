/-
  Get and Len of a tree of keys by their contracts; a struct of what is known in a box ('Kb').
-/
import Derived.Test.YtnhpcjiieagjnaaDoorRkSeek
import Derived.OwnWalk
namespace Go.Proofs.YtnhpcjiieagjnaaDoor.rk
open Go.RowKit
open Tr (node)
/-- what is known of a key lies in block g. -/
def Kb (w : World) (g : Nat) (v : Kn) : Prop := w.heap[g]? = some (.cells #[.int .i64 (v.n : Int), .bool v.c] 58 (0, 0))
namespace Kb
variable {w w' : World} {g : Nat} {v : Kn}
theorem c0 (h : Kb w g v) : w.cell? ⟨g, 0, none⟩ = some (.int .i64 (v.n : Int)) := by rw [cell_of h]; rfl
theorem c1 (h : Kb w g v) : w.cell? ⟨g, 1, none⟩ = some (.bool v.c) := by rw [cell_of h]; rfl
theorem fr (h : Kb w g v) (i : Nat) : w.frozen? ⟨g, i, none⟩ = false := frozen_of h i
theorem below (h : Kb w g v) (hb : Below w.heap.size w w') : Kb w' g v := (hb.block g (heap_lt h)).trans h
theorem keep {K : Nat → Prop} (h : Kb w g v) (hk : Keep K w w') (hg : K g) : Kb w' g v := hk.heap h hg
theorem drewN (h : Kb w g v) (m : Nat) : Kb (w.drewN m) g v := h
theorem new (w : World) (v : Kn) : Kb (w.alloc (.cells #[.int .i64 (v.n : Int), .bool v.c] 58)) w.heap.size v := heap_next rfl _
theorem set2 (h : Kb w g v) (u : Kn) : Kb ((w.setCell ⟨g, 0, none⟩ (.int .i64 (u.n : Int))).setCell ⟨g, 1, none⟩ (.bool u.c)) g u := by
  have h1 := heap_set h 0 (.int .i64 (u.n : Int))
  exact heap_set h1 1 (.bool u.c)
theorem set0 (h : Kb w g v) (n : Nat) : Kb (w.setCell ⟨g, 0, none⟩ (.int .i64 (n : Int))) g ⟨n, v.c⟩ := heap_set h 0 (.int .i64 (n : Int))
theorem set1 (h : Kb w g v) (c : Bool) : Kb (w.setCell ⟨g, 1, none⟩ (.bool c)) g ⟨v.n, c⟩ := heap_set h 1 (.bool c)
end Kb
theorem below_set {B g : Nat} {w w2 : World} (h : Below B w w2) (hg : B ≤ g) (u v : Value) : Below B w ((w2.setCell ⟨g, 0, none⟩ u).setCell ⟨g, 1, none⟩ v) := (h.setCell hg u).setCell hg v
section
variable {w : World} {g : Nat} {t : Tr} (h : At w g t)
include h
set_option maxHeartbeats 1000000 in
theorem get_some (k : Int) : Calls Tryd.prog 24 #[.pointer (some ⟨g, 0, none⟩), .int .u64 k] w fun e w' => e = .returned (.tuple #[kn ((look k t.list).getD kn0), .bool (look k t.list).isSome]) ∧ Below w.heap.size w w' := by
  obtain ⟨N, hN⟩ : ∃ N, w.heap.size = N := ⟨_, rfl⟩
  obtain ⟨W1, hW1⟩ : ∃ W1, w.alloc (.cells #[.int .i64 0, .bool false] 58) = W1 := ⟨_, rfl⟩
  have hk : Kb W1 N kn0 := by rw [← hW1, ← hN]; exact Kb.new w kn0
  have hb : Below N w W1 := by rw [← hW1]; exact (Below.refl _ _).alloc (by omega) _
  have h1 : At W1 g t := by rw [← hW1]; exact h.below ((Below.refl _ _).alloc (Nat.le_refl _) _)
  have S := Lib.hid (seek_some h1 k)
  clear h h1
  rw [hN]
  go_enter Tryd.func24, Tryd.ntmps24
  go_wp2_with fail
  refine S.out.mono ?_
  rintro e w1 ⟨p, rfl, hf, m, rfl⟩
  have k0 := hk.drewN m
  have hb2 : Below N w (W1.drewN m) := hb.trans ⟨rfl, rfl, rfl, Nat.le_refl _, fun _ _ => rfl⟩
  clear hk hb
  rcases hf.out with ⟨rfl, hl⟩ | ⟨b, v, l, r, rfl, hl, hp⟩
  · rw [Tr.addr_nil]
    have HL := Lib.hid hl
    obtain ⟨W2, hW2⟩ : ∃ W2, (W1.drewN m).alloc (.cells #[.int .i64 0, .bool false] 58) = W2 := ⟨_, rfl⟩
    have k2 : Kb W2 N kn0 := by rw [← hW2]; exact k0.below ((Below.refl _ _).alloc (Nat.le_refl _) _)
    have k3 : Kb W2 W1.heap.size kn0 := by rw [← hW2]; exact Kb.new (W1.drewN m) kn0
    have hb3 : Below N w W2 := by rw [← hW2]; exact hb2.alloc (hN ▸ hb2.size) _
    have d0 : W2.cell? ⟨N, 0, none⟩ = some (.int .i64 0) := k2.c0
    have d1 : W2.cell? ⟨N, 1, none⟩ = some (.bool false) := k2.c1
    have e0 : W2.cell? ⟨W1.heap.size, 0, none⟩ = some (.int .i64 0) := k3.c0
    have e1 : W2.cell? ⟨W1.heap.size, 1, none⟩ = some (.bool false) := k3.c1
    have f0 := k2.fr 0
    have f1 := k2.fr 1
    have HK := Lib.hid k2
    have HB := Lib.hid hb3
    clear hf hl k0 k2 k3 hb2 hb3
    go_wp2
    have q := HK.out.set2 kn0
    have q0 : ((W2.setCell ⟨N, 0, none⟩ (.int .i64 0)).setCell ⟨N, 1, none⟩ (.bool false)).cell? ⟨N, 0, none⟩ = some (.int .i64 0) := q.c0
    have q1 : ((W2.setCell ⟨N, 0, none⟩ (.int .i64 0)).setCell ⟨N, 1, none⟩ (.bool false)).cell? ⟨N, 1, none⟩ = some (.bool false) := q.c1
    exact bodyPost_ret (v := .tuple #[kn kn0, .bool false]) (by simp [results, Tryd.results24, go_sem, q0, q1, kn0]) rfl ⟨by rw [HL.out]; rfl, below_set HB.out (Nat.le_refl _) _ _⟩
  · rw [Tr.addr_node]
    have HL := Lib.hid hl
    have c1 := (hp.drewN m).c1
    have c1b := (hp.drewN m).c1b
    have d0 : (W1.drewN m).cell? ⟨N, 0, none⟩ = some (.int .i64 0) := k0.c0
    have d1 : (W1.drewN m).cell? ⟨N, 1, none⟩ = some (.bool false) := k0.c1
    have f0 := k0.fr 0
    have f1 := k0.fr 1
    have HK := Lib.hid k0
    have HB := Lib.hid hb2
    clear hf hl hp k0 hb2
    go_wp2
    have q := HK.out.set2 v
    have q0 := q.c0
    have q1 := q.c1
    exact bodyPost_ret (v := .tuple #[kn v, .bool true]) (by simp [results, Tryd.results24, go_sem, q0, q1]) rfl ⟨by rw [HL.out]; rfl, below_set HB.out (Nat.le_refl _) _ _⟩
theorem len_some : Calls Tryd.prog 39 #[.pointer (some ⟨g, 0, none⟩)] w fun e w' => e = .returned (.int .i64 (t.list.length : Int)) ∧ w' = w := by
  have W := Lib.hid (whole_some h.c1)
  have C := Lib.hid (count_any h.lies)
  clear h
  generalize t.addr = ta at *
  generalize t.list.length = n at *
  go_enter Tryd.func39, Tryd.ntmps39
  go_wp2_with fail
  refine W.out.mono ?_
  rintro e w1 ⟨rfl, rfl⟩
  go_wp2_with fail
  refine C.out.mono ?_
  rintro e w1 ⟨rfl, rfl⟩
  go_wp2
  go_ret
  exact ⟨rfl, rfl⟩
end
end Go.Proofs.YtnhpcjiieagjnaaDoor.rk
