/-
  PoolPlays, its state: Give of the document and of the pool, side by side.
-/
import Derived.Test.YtkobbilcpgffeaaCut
namespace Go.Proofs.Ytkobbilcpgffeaa
open Go.RowKit
/-- the cells of the box in block G. -/
def Four (B : World) (G rm sp m q : Nat) : Prop := B.cell? ⟨G, 0, none⟩ = some (.int .i64 (rm : Int)) ∧ B.cell? ⟨G, 1, none⟩ = some (.int .i64 (sp : Int)) ∧ B.cell? ⟨G, 2, none⟩ = some (.int .i64 (m : Int)) ∧ B.cell? ⟨G, 3, none⟩ = some (.int .i64 (q : Int))
/-- and none is frozen. -/
def Warm (B : World) (G : Nat) : Prop := B.frozen? ⟨G, 0, none⟩ = false ∧ B.frozen? ⟨G, 1, none⟩ = false ∧ B.frozen? ⟨G, 2, none⟩ = false ∧ B.frozen? ⟨G, 3, none⟩ = false
/-- the box in block X written anew. -/
abbrev set4 (B : World) (X rm sp m q : Nat) : World := (((B.setCell ⟨X, 0, none⟩ (.int .i64 (rm : Int))).setCell ⟨X, 1, none⟩ (.int .i64 (sp : Int))).setCell ⟨X, 2, none⟩ (.int .i64 (m : Int))).setCell ⟨X, 3, none⟩ (.int .i64 (q : Int))
theorem four_of {B : World} {G rm sp m q : Nat} (h : B.heap[G]? = some (.cells #[.int .i64 (rm : Int), .int .i64 (sp : Int), .int .i64 (m : Int), .int .i64 (q : Int)] 27 (0, 0))) : Four B G rm sp m q :=
  ⟨by rw [cell_of h]; rfl, by rw [cell_of h]; rfl, by rw [cell_of h]; rfl, by rw [cell_of h]; rfl⟩
/-- behind the two: d was told, the next box lies in block G, and it may come in. -/
def Gave (w : World) (N X G rm sp bm bn q n : Nat) (vo : Value) (B : World) : Prop := Four B G rm sp bm q ∧ Four B X rm sp bm bn ∧ Warm B X ∧ Hid (∃ os : List Nat, os.length = n ∧ St w N X rm sp bm q bm q vo os no no (set4 B X rm sp bm q))
namespace St
variable {w W : World} {N X rm sp bm bn pm pn : Nat} {vo : Value} {os : List Nat} {F E : Nat → Prop}
theorem four (h : St w N X rm sp bm bn pm pn vo os F E W) : Four W X rm sp bm bn := four_of h.box
theorem warm (h : St w N X rm sp bm bn pm pn vo os F E W) : Warm W X := ⟨h.fr 0, h.fr 1, h.fr 2, h.fr 3⟩
theorem no10 (h : St w N X rm sp bm bn bm bn vo os no no W) : Calls Try.prog 10 #[pv rm sp bm bn, .int .i64 ((rm : Int) + 1)] W fun e B => e = .returned (.tuple #[pv rm sp bm bn, .bool false]) ∧ Hid (St w N X rm sp bm bn bm bn vo os no no B) := by
  have := refgive_no rm sp bm bn (rm + 1) (by omega) W
  rw [show ((rm + 1 : Nat) : Int) = (rm : Int) + 1 by omega] at this
  exact this.mono fun e B ⟨he, hb⟩ => ⟨he, h.below hb⟩
theorem ok10 {g : Nat} (h : St w N X rm sp bm bn bm bn vo os no (fun k => k = g) W) : Calls Try.prog 10 #[pv rm sp bm bn, .int .i64 (rm : Int)] W fun e B => e = .returned (.tuple #[pv rm sp bm (gn bn sp), .bool (decide (bn < sp))]) ∧ Hid (St w N X rm sp bm bn bm bn vo os no (fun k => k = g) B) :=
  (refgive_own rm sp bm bn (by have := h.has.lids; omega) W).mono fun _ _ ⟨he, hb⟩ => ⟨he, h.below hb⟩
theorem no11 (h : Hid (St w N X rm sp bm bn bm bn vo os no no W)) {n : Nat} (hn : os.length = n) (a : Option Addr) : Calls Try.prog 11 #[.pointer (some ⟨N, 0, none⟩), .slice a 0 (rm + 1)] (W.alloc (.cells #[.int .i64 (rm : Int), .int .i64 (sp : Int), .int .i64 (bm : Int), .int .i64 (bn : Int)] 27)) fun e B => e = .returned (.bool false) ∧ Gave w N X W.heap.size rm sp bm bn bn n vo B := by
  have hA := h.out.alloc (.cells #[.int .i64 (rm : Int), .int .i64 (sp : Int), .int .i64 (bm : Int), .int .i64 (bn : Int)] 27)
  have hG := heap_next (w := W) rfl (.cells #[.int .i64 (rm : Int), .int .i64 (sp : Int), .int .i64 (bm : Int), .int .i64 (bn : Int)] 27)
  refine (hA.refuse a 0 (rm + 1) (by omega)).mono fun e B ⟨he, m, hm⟩ => ?_
  have hB := hA.drewN m
  have hGB := (Keep.drewN (fun _ => True) _ m).heap hG trivial
  rw [← hm] at hB hGB
  exact ⟨he, four_of hGB, hB.four, hB.warm, os, hn, hB.set bm bn _ _ rfl rfl⟩
theorem ok11 {g : Nat} (h : Hid (St w N X rm sp bm bn bm bn vo os no (fun k => k = g) W)) {n : Nat} (hn : os.length = n) (m : Nat) : Calls Try.prog 11 #[.pointer (some ⟨N, 0, none⟩), .slice (some ⟨g, 0, none⟩) m rm] (W.alloc (.cells #[.int .i64 (rm : Int), .int .i64 (sp : Int), .int .i64 (bm : Int), .int .i64 ((gn bn sp : Nat) : Int)] 27)) fun e B => e = .returned (.bool (decide (bn < sp))) ∧ Gave w N X W.heap.size rm sp bm bn (gn bn sp) n vo B := by
  have hA := h.out.next (.cells #[.int .i64 (rm : Int), .int .i64 (sp : Int), .int .i64 (bm : Int), .int .i64 ((gn bn sp : Nat) : Int)] 27)
  have hG := heap_next (w := W) rfl (.cells #[.int .i64 (rm : Int), .int .i64 (sp : Int), .int .i64 (bm : Int), .int .i64 ((gn bn sp : Nat) : Int)] 27)
  refine (hA.give m).mono fun e B ⟨he, hB, hk⟩ => ?_
  exact ⟨he, four_of (hk.heap hG (.inr (.inr (.inr (.inr rfl))))), hB.four, hB.warm, os, hn, (hB.set bm (gn bn sp) _ _ rfl rfl).past⟩
end St
end Go.Proofs.Ytkobbilcpgffeaa
