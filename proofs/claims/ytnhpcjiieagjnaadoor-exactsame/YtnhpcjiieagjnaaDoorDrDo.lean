/-
  (*Door).Has, Put and Clear by their contracts.
-/
import Derived.Test.YtnhpcjiieagjnaaDoorDrPl
import Derived.RegionTactic
import Derived.Lib.MinMax
namespace Go.Proofs.YtnhpcjiieagjnaaDoor.dr
open Go.RowKit
/-- a door in blocks of its own, behind what lay in w0, the table among it. -/
structure At (w0 : World) (S G t : Nat) (bs : List Nat) (W : World) : Prop where
  dr : Dr W S G t bs
  old : mx.Since w0 W
  le : w0.heap.size ≤ S
  le' : w0.heap.size ≤ G
namespace At
variable {w0 W B : World} {S G t : Nat} {bs bs' : List Nat}
theorem since (h : At w0 S G t bs W) {K : Nat → Prop} (hk : Keep K W B) (hK : ∀ k, k < w0.heap.size → K k) : mx.Since w0 B := ⟨h.old.1, h.old.2.trans (hk.below hK h.old.2.size)⟩
theorem below (h : At w0 S G t bs W) (hb : Below W.heap.size W B) : At w0 S G t bs B := ⟨h.dr.below hb, h.old.next hb, h.le, h.le'⟩
theorem drewN (h : At w0 S G t bs W) (q : Nat) : At w0 S G t bs (W.drewN q) := ⟨h.dr.drewN q, h.since (K := fun _ => True) (.drewN _ _ _) fun _ _ => trivial, h.le, h.le'⟩
theorem drew (h : At w0 S G t bs W) : At w0 S G t bs W.drew := ⟨h.dr.drew, h.since (K := fun _ => True) (.drew _ _) fun _ _ => trivial, h.le, h.le'⟩
/-- what changes the bytes alone. -/
theorem swap (h : At w0 S G t bs W) (hk : Keep (fun k => k ≠ G) W B) (hd : Dr B S G t bs') : At w0 S G t bs' B := ⟨hd, h.since hk fun k hk => by have := h.le'; show k ≠ G; omega, h.le, h.le'⟩
theorem lts (h : At w0 S G t bs W) : S < W.heap.size ∧ G < W.heap.size := h.dr.lt
end At
theorem idx0 (w : World) (v0 v1 v2 v3 : Value) : (Instr.index 97 (.agg #[v0, v1, v2, v3]) (.int .i64 0)).run Tryd.prog w = .ok v0 w := by kernel_rfl
theorem idx1 (w : World) (v0 v1 v2 v3 : Value) : (Instr.index 97 (.agg #[v0, v1, v2, v3]) (.int .i64 1)).run Tryd.prog w = .ok v1 w := by kernel_rfl
theorem idx2 (w : World) (v0 v1 v2 v3 : Value) : (Instr.index 97 (.agg #[v0, v1, v2, v3]) (.int .i64 2)).run Tryd.prog w = .ok v2 w := by kernel_rfl
theorem idx3 (w : World) (v0 v1 v2 v3 : Value) : (Instr.index 97 (.agg #[v0, v1, v2, v3]) (.int .i64 3)).run Tryd.prog w = .ok v3 w := by kernel_rfl
theorem idx_pv (p : Nat → Nat) (j : Nat) (hj : j < 4) (w : World) : (Instr.index 97 (.agg #[.int .i64 (p 0 : Int), .int .i64 (p 1 : Int), .int .i64 (p 2 : Int), .int .i64 (p 3 : Int)]) (.int .i64 (j : Int))).run Tryd.prog w = .ok (.int .i64 (p j : Int)) w := by
  rcases (show j = 0 ∨ j = 1 ∨ j = 2 ∨ j = 3 by omega) with rfl | rfl | rfl | rfl
  · exact idx0 w _ _ _ _
  · exact idx1 w _ _ _ _
  · exact idx2 w _ _ _ _
  · exact idx3 w _ _ _ _
theorem bit_expr (b r : Nat) (hb : b < 256) : bits BinOp.and IntKind.u8 ((b : Int) / 2 ^ r) 1 = (wd.bit b r : Int) := by
  have e : ((b : Int) / 2 ^ r) = ((b / 2 ^ r : Nat) : Int) := by simp
  have hl : b / 2 ^ r < 256 := Nat.lt_of_le_of_lt (Nat.div_le_self _ _) hb
  have e2 := u8_and_nat (b / 2 ^ r) 1 hl (by decide)
  rw [e, show ((1 : Int)) = ((1 : Nat) : Int) from rfl, e2, show 1 = 2 ^ 1 - 1 by decide, Nat.and_two_pow_sub_one_eq_mod]
  rfl
theorem has_none (x : Int) (w : World) : Calls Tryd.prog 52 #[.pointer none, .int .u64 x] w fun e B => e = .returned (.bool false) ∧ B = w := by
  go_enter Tryd.func52, Tryd.ntmps52
  go_wp2
  go_ret
  exact ⟨rfl, rfl⟩
set_option maxHeartbeats 1000000 in
theorem has_some {w0 w : World} {S G t : Nat} {bs : List Nat} (h : Dr w S G t bs) (hs : mx.Since w0 w) (x : Nat) (hx : x < 18446744073709551616) : Calls Tryd.prog 52 #[.pointer (some ⟨S, 0, none⟩), .int .u64 (x : Int)] w fun e B => e = .returned (.bool (hasB (plN t (8 * bs.length) x) bs)) ∧ Below w.heap.size w B := by
  have X1 := Lib.hid (places_some h hs x hx)
  have PL : Hid (∀ i, plN t (8 * bs.length) x i < 8 * bs.length) := fun i => plN_lt _ _ _ _ (by have := h.pos; omega)
  generalize plN t (8 * bs.length) x = p at *
  have IX : Hid (∀ (j : Nat) (w : World), j < 4 → (Instr.index 97 (.agg #[.int .i64 (p 0 : Int), .int .i64 (p 1 : Int), .int .i64 (p 2 : Int), .int .i64 (p 3 : Int)]) (.int .i64 (j : Int))).run Tryd.prog w = .ok (.int .i64 (p j : Int)) w) := fun j w hj => idx_pv p j hj w
  have C : Hid (∀ (W : World), Below w.heap.size w W → ∀ j : Nat, j < 4 → ∃ a r b y : Nat, ((p j : Int) / 8 = (a : Int) ∧ (p j : Int) % 8 = (r : Int) ∧ a < bs.length ∧ p j < 65536) ∧ W.cell? ⟨S, 0, none⟩ = some (.slice (some ⟨G, 0, none⟩) bs.length bs.length) ∧ W.cell? ⟨G, a, none⟩ = some (.int .u8 (b : Int)) ∧ b < 256 ∧ r < 8 ∧ bits BinOp.and IntKind.u8 ((b : Int) / 2 ^ r) 1 = (y : Int) ∧ Hid (bt bs (p j) = y) ∧ (y = 0 ∨ y = 1)) := fun W hW j _ => by
    have h1 := h.below hW
    have h2 := PL.out j
    have h3 := h.lid
    refine ⟨p j / 8, p j % 8, ct bs (p j / 8), bt bs (p j), ⟨by omega, by omega, by omega, by omega⟩, h1.c0, (h1.at_ _ (by omega)).1, h.low _, by omega, bit_expr _ _ (h.low _), rfl, ?_⟩
    have := bt_lt bs (p j)
    omega
  have R0 : Hid (∀ i, i < 4 → bt bs (p i) = 0 → hasB p bs = false) := fun i hi e => has_false i hi e
  have R1 : Hid ((∀ i, i < 4 → bt bs (p i) = 1) → hasB p bs = true) := fun e => has_true e
  have hl := h.lid
  clear h hs PL
  generalize hasB p bs = res at *
  generalize bt bs = bq at *
  generalize bs.length = m at *
  go_enter Tryd.func52, Tryd.ntmps52
  go_wp2_with fail
  refine X1.out.mono ?_
  rintro e w1 ⟨rfl, b1⟩
  have B1 := Lib.hid b1
  clear b1 X1
  go_wp2_with fail
  go_loopw [6, 12] (fun u i wr => ∃ j : Nat, j ≤ 4 ∧ i = .int .i64 j ∧ Hid (∀ k, k < j → bq (p k) = 1) ∧ wr = w1) (fun _ i _ => 4 - (intOf i).toNat)
  case atStart => exact ⟨0, by omega, rfl, fun k hk => absurd hk (by omega), rfl⟩
  case round =>
    obtain ⟨j, hj, rfl, hH, rfl⟩ := hrel
    by_cases hlt : j < 4
    · obtain ⟨a, r, b, y, ⟨ha, hr, ham, hp⟩, d0, d1, hb, hr8, hy, hbt, hyy⟩ := C.out _ B1.out j hlt
      have ix := IX.out j
      have ix := fun w => ix w hlt
      have R0 := Lib.hid (R0.out j hlt)
      have h1 : (0 : Int) ≤ (j : Int) := by omega
      have h2 : (j : Int) < 4 := by omega
      have h3 : (0 : Int) ≤ (a : Int) := by omega
      have h4 : (a : Int) < (m : Int) := by omega
      clear C IX R1
      have HY := Lib.hid hyy
      clear hyy
      generalize hq : p j = q at *
      have HQ := Lib.hid hq
      clear hq
      rcases HY.out with rfl | rfl
      · go_wp2
        go_ret
        exact ⟨by rw [R0.out hbt.out]; rfl, B1.out⟩
      · go_wp2
        go_roundw
        case rel => exact ⟨j + 1, by omega, by simp, fun k hk => by
          by_cases e : k = j
          · rw [e, HQ.out]; exact hbt.out
          · exact hH.out k (by omega), trivial⟩
        case measure => simp [intOf]; omega
    · obtain rfl : j = 4 := by omega
      clear C IX
      go_wp2
      go_ret
      exact ⟨by rw [R1.out hH.out]; rfl, B1.out⟩
end Go.Proofs.YtnhpcjiieagjnaaDoor.dr
