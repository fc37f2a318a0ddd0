/-
  (*Door).Bits, Places and Alike by their contracts.
-/
import Derived.Test.YtnhpcjiieagjnaaDoorDrDr
import Derived.Deep.RegionHeld3
import Derived.ChangeKeysEq
namespace Go.Proofs.YtnhpcjiieagjnaaDoor.dr
open Go.RowKit
theorem bits_some {w : World} {S G t : Nat} {bs : List Nat} (h : Dr w S G t bs) : Calls Tryd.prog 80 #[.pointer (some ⟨S, 0, none⟩)] w fun e w' => e = .returned (.int .i64 ((8 * bs.length : Nat) : Int)) ∧ w' = w := by
  have c0 := h.c0
  have hl := h.lid
  clear h
  generalize bs.length = m at *
  go_enter Tryd.func80, Tryd.ntmps80
  go_wp2
  go_ret
  exact ⟨by simp, rfl⟩
theorem bits_none (w : World) : Calls Tryd.prog 80 #[.pointer none] w fun e w' => e = .returned (.int .i64 0) ∧ w' = w := by
  go_enter Tryd.func80, Tryd.ntmps80
  go_wp2
  go_ret
  exact ⟨rfl, rfl⟩
theorem mix_f (x : Nat) (hx : x < 18446744073709551616) (w0 w : World) (h : mx.Since w0 w) : Calls Tryd.prog 42 #[.int .u64 (x : Int)] w fun e w' => e = .returned (.int .u64 (mixF x : Int)) ∧ Below w.heap.size w w' := by
  rw [mixF_eq]
  exact (mx.mix_any x hx w w ⟨⟨h.pos, fun i hi => h.cell i hi⟩, Below.refl _ _⟩).mono fun e B ⟨he, hB⟩ => ⟨he, hB.2⟩
theorem twist_f (x : Nat) (hx : x < 18446744073709551616) (w0 w : World) (h : mx.Since w0 w) : Calls Tryd.prog 79 #[.int .u64 (x : Int)] w fun e w' => e = .returned (.int .u64 (twF x : Int)) ∧ Below w.heap.size w w' := by
  rw [twF_eq]
  exact (mx.twist_any x hx w w ⟨⟨h.pos, fun i hi => h.cell i hi⟩, Below.refl _ _⟩).mono fun e B ⟨he, hB⟩ => ⟨he, hB.2⟩
/-- four places as a value. -/
abbrev pv (p : Nat → Nat) : Value := .agg #[.int .i64 (p 0 : Int), .int .i64 (p 1 : Int), .int .i64 (p 2 : Int), .int .i64 (p 3 : Int)]
/-- the place i, where j are told. -/
def pc (p : Nat → Nat) (j i : Nat) : Value := .int .i64 ((if i < j then p i else 0 : Nat) : Int)
/-- so many places are told, in the box N + 1; the result's box is N. -/
structure Pb (w : World) (N : Nat) (p : Nat → Nat) (j : Nat) (W : World) : Prop where
  res : W.heap[N]? = some (.cells #[.int .i64 0, .int .i64 0, .int .i64 0, .int .i64 0] 97 (0, 0))
  box : W.heap[N + 1]? = some (.cells #[pc p j 0, pc p j 1, pc p j 2, pc p j 3] 97 (0, 0))
  old : Below N w W
namespace Pb
variable {w W B : World} {N j : Nat} {p : Nat → Nat}
theorem start (hN : w.heap.size = N) : Pb w N p 0 ((w.alloc (.cells #[.int .i64 0, .int .i64 0, .int .i64 0, .int .i64 0] 97)).alloc (.cells #[.int .i64 0, .int .i64 0, .int .i64 0, .int .i64 0] 97)) :=
  ⟨heap_old (heap_next hN.symm _), heap_next (by simp [hN]) _, ((Below.refl _ _).alloc (by omega) _).alloc (by simp; omega) _⟩
theorem below (h : Pb w N p j W) (hb : Below W.heap.size W B) : Pb w N p j B := by
  have h1 := heap_lt h.box
  exact ⟨(hb.block N (by omega)).trans h.res, (hb.block _ h1).trans h.box, h.old.trans (hb.mono (by omega))⟩
theorem next (h : Pb w N p j W) (hj : j < 4) : Pb w N p (j + 1) (W.setCell ⟨N + 1, j, none⟩ (.int .i64 (p j : Int))) := by
  have h1 := heap_lt h.box
  refine ⟨heap_set_other h.res (by omega) _ _, ?_, h.old.trans ((Keep.setCell (K := (· < N)) _ _ _ (by simp)).below (fun _ h => h) (by omega))⟩
  rw [heap_set h.box]
  rcases (show j = 0 ∨ j = 1 ∨ j = 2 ∨ j = 3 by omega) with rfl | rfl | rfl | rfl <;> rfl
theorem cj (h : Pb w N p j W) (i : Nat) (hi : i < 4) : W.cell? ⟨N + 1, i, none⟩ = some (pc p j i) ∧ W.frozen? ⟨N + 1, i, none⟩ = false := by
  refine ⟨?_, frozen_of h.box i⟩
  rw [cell_of h.box]
  rcases (show i = 0 ∨ i = 1 ∨ i = 2 ∨ i = 3 by omega) with rfl | rfl | rfl | rfl <;> rfl
theorem done (h : Pb w N p 4 W) : ((W.cell? ⟨N + 1, 0, none⟩ = some (.int .i64 (p 0 : Int)) ∧ W.cell? ⟨N + 1, 1, none⟩ = some (.int .i64 (p 1 : Int)) ∧ W.cell? ⟨N + 1, 2, none⟩ = some (.int .i64 (p 2 : Int)) ∧ W.cell? ⟨N + 1, 3, none⟩ = some (.int .i64 (p 3 : Int))) ∧
    (W.cell? ⟨N, 0, none⟩ = some (.int .i64 0) ∧ W.cell? ⟨N, 1, none⟩ = some (.int .i64 0) ∧ W.cell? ⟨N, 2, none⟩ = some (.int .i64 0) ∧ W.cell? ⟨N, 3, none⟩ = some (.int .i64 0)) ∧ ∀ i, W.frozen? ⟨N, i, none⟩ = false) := by
  refine ⟨⟨?_, ?_, ?_, ?_⟩, ⟨?_, ?_, ?_, ?_⟩, fun i => frozen_of h.res i⟩
  · rw [cell_of h.box]; rfl
  · rw [cell_of h.box]; rfl
  · rw [cell_of h.box]; rfl
  · rw [cell_of h.box]; rfl
  · rw [cell_of h.res]; rfl
  · rw [cell_of h.res]; rfl
  · rw [cell_of h.res]; rfl
  · rw [cell_of h.res]; rfl
end Pb
/-- what lies in a box of four. -/
theorem put4 {W : World} {b : Nat} {x y z u : Value} (a0 a1 a2 a3 : Value) (h : W.heap[b]? = some (.cells #[x, y, z, u] 97 (0, 0))) : ((((W.setCell ⟨b, 0, none⟩ a0).setCell ⟨b, 1, none⟩ a1).setCell ⟨b, 2, none⟩ a2).setCell ⟨b, 3, none⟩ a3).heap[b]? = some (.cells #[a0, a1, a2, a3] 97 (0, 0)) := by
  rw [heap_set (heap_set (heap_set (heap_set h 0 a0) 1 a1) 2 a2) 3 a3]
  rfl
set_option maxHeartbeats 1000000 in
theorem places_some {w0 w : World} {S G t : Nat} {bs : List Nat} (h : Dr w S G t bs) (hs : mx.Since w0 w) (x : Nat) (hx : x < 18446744073709551616) : Calls Tryd.prog 58 #[.pointer (some ⟨S, 0, none⟩), .int .u64 (x : Int)] w fun e B => e = .returned (pv (plN t (8 * bs.length) x)) ∧ Below w.heap.size w B := by
  have c1 := h.c1
  have hS := h.lt.1
  obtain ⟨N, hN⟩ : ∃ N, w.heap.size = N := ⟨_, rfl⟩
  have hm := h.pos
  have hl := h.lid
  have ht := h.turns
  have hx2 : bits BinOp.xor IntKind.u64 (x : Int) (t : Int) = ((x ^^^ t : Nat) : Int) := u64_xor_nat _ _ hx ht
  have hx3 := xor_lt x t hx ht
  have X1 : Hid (∀ W, Below N w W → Calls Tryd.prog 42 #[.int .u64 ((x ^^^ t : Nat) : Int)] W fun e B => e = .returned (.int .u64 (mixF (x ^^^ t) : Int)) ∧ Hid (Below W.heap.size W B)) := fun W hW => mix_f _ hx3 w0 W (hs.next (hN ▸ hW))
  have X2 : Hid (∀ W, Below N w W → Calls Tryd.prog 79 #[.int .u64 ((x ^^^ t : Nat) : Int)] W fun e B => e = .returned (.int .u64 (twF (x ^^^ t) : Int)) ∧ Hid (Below W.heap.size W B)) := fun W hW => twist_f _ hx3 w0 W (hs.next (hN ▸ hW))
  have hor : bits BinOp.or IntKind.u64 (twF (x ^^^ t) : Int) 1 = ((odd (twF (x ^^^ t)) : Nat) : Int) := by rw [← odd_or]; exact u64_or_nat _ 1 (twF_lt _) (by decide)
  have hol := odd_lt _ (twF_lt (x ^^^ t))
  have hml := mixF_lt (x ^^^ t)
  have T : Hid (∀ W, Below N w W → Calls Tryd.prog 80 #[.pointer (some ⟨S, 0, none⟩)] W fun e w' => e = .returned (.int .i64 ((8 * bs.length : Nat) : Int)) ∧ w' = W) := fun W hW => bits_some (h.below (hN ▸ hW))
  have E0 := Lib.hid (smN_zero t x)
  have E1 : Hid (∀ i, smN t x (i + 1) = (smN t x i + odd (twF (x ^^^ t))) % 18446744073709551616) := fun i => smN_succ t x i
  have E2 : Hid (∀ i, smN t x i < 18446744073709551616) := fun i => smN_lt t x i
  have E3 : Hid (∀ i, wrap64 ((smN t x i : Int) % ((8 * bs.length : Nat) : Int)) = (plN t (8 * bs.length) x i : Int)) := fun i => by
    rw [plN_eq]
    have := Nat.mod_lt (smN t x i) (show 0 < 8 * bs.length by omega)
    generalize smN t x i = z at *
    have e1 : (z : Int) % ((8 * bs.length : Nat) : Int) = ((z % (8 * bs.length) : Nat) : Int) := by simp
    rw [e1]
    unfold wrap64
    omega
  have P0 : Hid (Pb w N (plN t (8 * bs.length) x) 0 _) := Pb.start hN
  have hSN : S < N := hN ▸ hS
  have HN := Lib.hid hN
  clear hs h
  generalize twF (x ^^^ t) = tw at *
  generalize odd tw = od at *
  generalize mixF (x ^^^ t) = mi at *
  generalize x ^^^ t = y at *
  generalize smN t x = sm at *
  generalize plN t (8 * bs.length) x = p at *
  generalize hn : 8 * bs.length = n at *
  have hn1 : 0 < n ∧ n ≤ 32768 := by omega
  clear hn hm hl
  rw [hN]
  clear HN hS
  go_enter Tryd.func58, Tryd.ntmps58
  go_wp2_with fail
  have HN := Lib.hid hN
  clear hN
  generalize (w.alloc (.cells #[Value.int .i64 0, .int .i64 0, .int .i64 0, .int .i64 0] 97)).alloc (.cells #[Value.int .i64 0, .int .i64 0, .int .i64 0, .int .i64 0] 97) = W0 at *
  refine (X1.out _ P0.out.old).mono ?_
  rintro e w1 ⟨rfl, b1⟩
  have P1 := Lib.hid (P0.out.below b1.out)
  clear b1 P0
  go_wp2_with fail
  refine (X2.out _ P1.out.old).mono ?_
  rintro e w2 ⟨rfl, b2⟩
  have P2 := Lib.hid (P1.out.below b2.out)
  clear b2 P1
  go_wp2_with fail
  go_loopw [7, 9, 24] (fun s u i wr => ∃ j : Nat, j ≤ 4 ∧ i = .int .i64 j ∧ s = .int .u64 (sm j : Int) ∧ Hid (Pb w N p j wr)) (fun _ _ i _ => 4 - (intOf i).toNat)
  case atStart => exact ⟨0, by omega, rfl, by rw [E0.out], P2⟩
  case round =>
    obtain ⟨j, hj, rfl, rfl, hH⟩ := hrel
    clear P2 X1 X2
    by_cases hlt : j < 4
    · have T1 := Lib.hid (T.out _ hH.out.old)
      obtain ⟨d0, f0⟩ := hH.out.cj j hlt
      have P3 := Lib.hid (hH.out.next hlt)
      have e1 := E1.out j
      have e3 := E3.out j
      have hl1 := E2.out j
      have h1 : (0 : Int) ≤ (j : Int) := by omega
      have h2 : (j : Int) < 4 := by omega
      have hsum : IntKind.u64.wrap ((sm j : Int) + (od : Int)) = ((sm j + od) % 18446744073709551616 : Nat) := by simp only [IntKind.wrap_u64]; omega
      clear T E1 E2 E3 hH
      rw [← e1] at hsum
      clear e1
      generalize hc1 : sm (j + 1) = s1 at *
      generalize hc0 : sm j = s0 at *
      have HC := Lib.hid hc1
      clear hc0 hc1
      generalize p j = q at *
      go_wp2_with (go_at_call 80; refine T1.out.mono ?_; rintro e w4 ⟨rfl, e4⟩; obtain rfl : wr = w4 := e4.symm)
      go_roundw
      case rel => exact ⟨j + 1, by omega, by simp, by rw [HC.out], P3⟩
      case measure => simp [intOf]; omega
    · obtain rfl : j = 4 := by omega
      obtain ⟨⟨d0, d1, d2, d3⟩, ⟨r0, r1, r2, r3⟩, fr⟩ := hH.out.done
      have f0 := fr 0
      have f1 := fr 1
      have f2 := fr 2
      have f3 := fr 3
      clear T E1 E2 E3 fr
      have HV : Hid (Ending.returned (Value.agg #[.int .i64 (p 0 : Int), .int .i64 (p 1 : Int), .int .i64 (p 2 : Int), .int .i64 (p 3 : Int)]) = Ending.returned (pv p)) := rfl
      obtain ⟨p0, hp0⟩ : ∃ p0, p 0 = p0 := ⟨_, rfl⟩
      obtain ⟨p1, hp1⟩ : ∃ p0, p 1 = p0 := ⟨_, rfl⟩
      obtain ⟨p2, hp2⟩ : ∃ p0, p 2 = p0 := ⟨_, rfl⟩
      obtain ⟨p3, hp3⟩ : ∃ p0, p 3 = p0 := ⟨_, rfl⟩
      rw [hp0, hp1, hp2, hp3] at HV
      rw [hp0] at d0
      rw [hp1] at d1
      rw [hp2] at d2
      rw [hp3] at d3
      clear hp0 hp1 hp2 hp3
      go_wp2
      have h3 := put4 (.int .i64 (p0 : Int)) (.int .i64 (p1 : Int)) (.int .i64 (p2 : Int)) (.int .i64 (p3 : Int)) hH.out.res
      have hk : Keep (fun b => b < N) wr ((((wr.setCell ⟨N, 0, none⟩ (.int .i64 (p0 : Int))).setCell ⟨N, 1, none⟩ (.int .i64 (p1 : Int))).setCell ⟨N, 2, none⟩ (.int .i64 (p2 : Int))).setCell ⟨N, 3, none⟩ (.int .i64 (p3 : Int))) := (((Keep.setCell _ _ _ (by simp)).trans (Keep.setCell _ _ _ (by simp))).trans (Keep.setCell _ _ _ (by simp))).trans (Keep.setCell _ _ _ (by simp))
      generalize (((wr.setCell ⟨N, 0, none⟩ (.int .i64 (p0 : Int))).setCell ⟨N, 1, none⟩ (.int .i64 (p1 : Int))).setCell ⟨N, 2, none⟩ (.int .i64 (p2 : Int))).setCell ⟨N, 3, none⟩ (.int .i64 (p3 : Int)) = B3 at *
      have b0 : B3.cell? ⟨N, 0, none⟩ = some (.int .i64 (p0 : Int)) := by rw [cell_of h3]; rfl
      have b1 : B3.cell? ⟨N, 1, none⟩ = some (.int .i64 (p1 : Int)) := by rw [cell_of h3]; rfl
      have b2 : B3.cell? ⟨N, 2, none⟩ = some (.int .i64 (p2 : Int)) := by rw [cell_of h3]; rfl
      have b3 : B3.cell? ⟨N, 3, none⟩ = some (.int .i64 (p3 : Int)) := by rw [cell_of h3]; rfl
      refine bodyPost_ret (v := .agg #[.int .i64 (p0 : Int), .int .i64 (p1 : Int), .int .i64 (p2 : Int), .int .i64 (p3 : Int)]) ?_ rfl ⟨HV.out, hH.out.old.trans (hk.below (fun _ h => h) (by have := heap_lt hH.out.res; omega))⟩
      simp [results, Tryd.results58, go_sem, b0, b1, b2, b3]
theorem places_none (x : Int) (w : World) : Calls Tryd.prog 58 #[.pointer none, .int .u64 x] w fun e B => e = .returned (pv fun _ => 0) ∧ Below w.heap.size w B := by
  obtain ⟨N, hN⟩ : ∃ N, w.heap.size = N := ⟨_, rfl⟩
  obtain ⟨W0, hW⟩ : ∃ W0, (w.alloc (.cells #[Value.int .i64 0, .int .i64 0, .int .i64 0, .int .i64 0] 97)).alloc (.cells #[Value.int .i64 0, .int .i64 0, .int .i64 0, .int .i64 0] 97) = W0 := ⟨_, rfl⟩
  have P0 : Pb w N (fun _ => 0) 0 W0 := hW ▸ Pb.start hN
  have H := Lib.hid P0
  obtain ⟨d0, f0⟩ := P0.cj 0 (by decide)
  obtain ⟨d1, f1⟩ := P0.cj 1 (by decide)
  obtain ⟨d2, f2⟩ := P0.cj 2 (by decide)
  obtain ⟨d3, f3⟩ := P0.cj 3 (by decide)
  have r0 : W0.cell? ⟨N, 0, none⟩ = some (.int .i64 0) := by rw [cell_of P0.res]; rfl
  have r1 : W0.cell? ⟨N, 1, none⟩ = some (.int .i64 0) := by rw [cell_of P0.res]; rfl
  have r2 : W0.cell? ⟨N, 2, none⟩ = some (.int .i64 0) := by rw [cell_of P0.res]; rfl
  have r3 : W0.cell? ⟨N, 3, none⟩ = some (.int .i64 0) := by rw [cell_of P0.res]; rfl
  have g0 := frozen_of P0.res 0
  have g1 := frozen_of P0.res 1
  have g2 := frozen_of P0.res 2
  have g3 := frozen_of P0.res 3
  simp only [pc, Nat.not_lt_zero, if_false, Int.natCast_zero] at d0 d1 d2 d3
  rw [hN]
  clear P0
  go_enter Tryd.func58, Tryd.ntmps58
  go_wp2
  have h3 := put4 (.int .i64 0) (.int .i64 0) (.int .i64 0) (.int .i64 0) H.out.res
  have hk : Keep (fun b => b < N) W0 ((((W0.setCell ⟨N, 0, none⟩ (.int .i64 0)).setCell ⟨N, 1, none⟩ (.int .i64 0)).setCell ⟨N, 2, none⟩ (.int .i64 0)).setCell ⟨N, 3, none⟩ (.int .i64 0)) := (((Keep.setCell _ _ _ (by simp)).trans (Keep.setCell _ _ _ (by simp))).trans (Keep.setCell _ _ _ (by simp))).trans (Keep.setCell _ _ _ (by simp))
  generalize (((W0.setCell ⟨N, 0, none⟩ (.int .i64 0)).setCell ⟨N, 1, none⟩ (.int .i64 0)).setCell ⟨N, 2, none⟩ (.int .i64 0)).setCell ⟨N, 3, none⟩ (.int .i64 0) = B3 at *
  have b0 : B3.cell? ⟨N, 0, none⟩ = some (.int .i64 0) := by rw [cell_of h3]; rfl
  have b1 : B3.cell? ⟨N, 1, none⟩ = some (.int .i64 0) := by rw [cell_of h3]; rfl
  have b2 : B3.cell? ⟨N, 2, none⟩ = some (.int .i64 0) := by rw [cell_of h3]; rfl
  have b3 : B3.cell? ⟨N, 3, none⟩ = some (.int .i64 0) := by rw [cell_of h3]; rfl
  refine bodyPost_ret (v := .agg #[.int .i64 0, .int .i64 0, .int .i64 0, .int .i64 0]) ?_ rfl ⟨rfl, H.out.old.trans (hk.below (fun _ h => h) (by have := heap_lt H.out.res; omega))⟩
  simp [results, Tryd.results58, go_sem, b0, b1, b2, b3]
/-- both keys have the same places, one by one. -/
def alike (p q : Nat → Nat) : Bool := p 0 == q 0 && p 1 == q 1 && p 2 == q 2 && p 3 == q 3
theorem cells3 : Tryd.prog.cellsOf 3 = 1 := by kernel_rfl
theorem eql4 (w : World) (a0 a1 a2 a3 b0 b1 b2 b3 : Int) : (Op.equalIn 10000 97 (.agg #[.int .i64 a0, .int .i64 a1, .int .i64 a2, .int .i64 a3]) (.agg #[.int .i64 b0, .int .i64 b1, .int .i64 b2, .int .i64 b3])).run Tryd.prog w = .ok (a0 == b0 && a1 == b1 && a2 == b2 && a3 == b3) w := by
  obtain ⟨i, hi⟩ := info_of_underlying Tryd.underlying3
  rw [run_equalIn_array (P := Tryd.prog) w 9999 _ _ Tryd.underlying97 hi, cells3, show List.range 4 = [0, 1, 2, 3] by decide]
  have p0 : ∀ (x0 x1 x2 x3 : Int) (w : World), (part 3 #[Value.int .i64 x0, .int .i64 x1, .int .i64 x2, .int .i64 x3] 0).run Tryd.prog w = .ok (.int .i64 x0) w := fun x0 x1 x2 x3 w => by simp [part, isAgg, run_underlying Tryd.underlying3]
  have p1 : ∀ (x0 x1 x2 x3 : Int) (w : World), (part 3 #[Value.int .i64 x0, .int .i64 x1, .int .i64 x2, .int .i64 x3] 1).run Tryd.prog w = .ok (.int .i64 x1) w := fun x0 x1 x2 x3 w => by simp [part, isAgg, run_underlying Tryd.underlying3]
  have p2 : ∀ (x0 x1 x2 x3 : Int) (w : World), (part 3 #[Value.int .i64 x0, .int .i64 x1, .int .i64 x2, .int .i64 x3] 2).run Tryd.prog w = .ok (.int .i64 x2) w := fun x0 x1 x2 x3 w => by simp [part, isAgg, run_underlying Tryd.underlying3]
  have p3 : ∀ (x0 x1 x2 x3 : Int) (w : World), (part 3 #[Value.int .i64 x0, .int .i64 x1, .int .i64 x2, .int .i64 x3] 3).run Tryd.prog w = .ok (.int .i64 x3) w := fun x0 x1 x2 x3 w => by simp [part, isAgg, run_underlying Tryd.underlying3]
  have he : ∀ (x y : Int) (w : World), (Op.equalIn 9999 3 (.int .i64 x) (.int .i64 y)).run Tryd.prog w = .ok (x == y) w := fun x y w => run_equalIn_int w 9998 3 .i64 .i64 x y Tryd.underlying3
  simp only [Op.eqItems, Nat.mul_one, Sem.run_bind, p0, he, Result.andThen_ok]
  cases a0 == b0
  · simp
  · simp only [Bool.not_true, Bool.false_eq_true, if_false, Sem.run_bind, p1, he, Result.andThen_ok]
    cases a1 == b1
    · simp
    · simp only [Bool.not_true, Bool.false_eq_true, if_false, Sem.run_bind, p2, he, Result.andThen_ok]
      cases a2 == b2
      · simp
      · simp only [Bool.not_true, Bool.false_eq_true, if_false, Sem.run_bind, p3, he, Result.andThen_ok]
        cases a3 == b3 <;> simp
theorem nat_beq (a b : Nat) : ((a : Int) == (b : Int)) = (a == b) := by
  rw [Bool.eq_iff_iff, beq_iff_eq, beq_iff_eq]
  omega
theorem eql_pv (p q : Nat → Nat) (w : World) : (Op.equalIn 10000 97 (pv p) (pv q)).run Tryd.prog w = .ok (alike p q) w := by
  rw [eql4, nat_beq, nat_beq, nat_beq, nat_beq]
  rfl
end Go.Proofs.YtnhpcjiieagjnaaDoor.dr
