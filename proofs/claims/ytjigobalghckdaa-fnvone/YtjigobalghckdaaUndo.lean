/-
  FnvBack walked: for all words h and g and every array of two bytes it returns true; what was in memory stays.
-/
import Derived.Test.YtjigobalghckdaaSums
import Derived.Deep.QuietTactic
import Derived.BigQuiet
namespace Go.Proofs.Ytjigobalghckdaa
open Go.ChangeShapes Go.WideShapes Go.ChangeAt Go.RowKit
theorem quiet_still {P : Program} {f : FuncId} {args : Array Value} {w : World} {n : Nat} {v : Value}
    (h : Calls P f args (w.drewN n) fun e w' => e = .returned v ∧ w.drewN n = w') : Calls P f args (w.drewN n) fun e w' => e = .returned v ∧ ∃ m, w' = w.drewN m :=
  h.mono fun _ _ ⟨he, hw⟩ => ⟨he, n, hw.symm⟩
/-- the two bytes lie in block q, and all else of w stands. -/
def Held (w : World) (q b c : Nat) (w' : World) : Prop := w'.cell? ⟨q, 0, none⟩ = some (.int .u8 (b : Nat)) ∧ w'.cell? ⟨q, 1, none⟩ = some (.int .u8 (c : Nat)) ∧ Below w.heap.size w w'
theorem below_drewN {B : Nat} {a w : World} (h : Below B a w) (n : Nat) : Below B a (w.drewN n) := ⟨h.os, h.tape, h.output, h.size, h.block⟩
theorem held_box (w : World) (b c n : Nat) : Held w w.heap.size b c ((w.alloc (.cells #[.int .u8 (b : Int), .int .u8 (c : Int)] 29)).drewN n) :=
  ⟨World.cell?_alloc_mark w _ 29 (0, 0) 0, World.cell?_alloc_mark w _ 29 (0, 0) 1, below_drewN ((Below.refl _ w).alloc (Nat.le_refl _) _) n⟩
theorem Held.next {w : World} {q b c : Nat} {w1 w2 : World} (h : Held w q b c w1) (hb : Below w1.heap.size w1 w2) : Held w q b c w2 :=
  ⟨(hb.cell (p := ⟨q, 0, none⟩) (cell_lt h.1)).trans h.1, (hb.cell (p := ⟨q, 1, none⟩) (cell_lt h.2.1)).trans h.2.1, bnext h.2.2 hb h.2.2.size⟩
theorem Held.same {w : World} {q b c : Nat} {w1 w2 : World} (h : Held w q b c w1) (hb : w1 = w2) : Held w q b c w2 := hb ▸ h
theorem one_row (w : World) (b : Nat) : Row (w.alloc (.cells #[.int .u8 (b : Int)] 5)) (some ⟨w.heap.size, 0, none⟩) 1 [b] := by
  refine ⟨rfl, fun _ => ⟨w.heap.size, 0, rfl, fun i hi => ?_⟩⟩
  obtain rfl : i = 0 := by omega
  exact World.cell?_alloc_mark w _ 5 (0, 0) 0
theorem beq_of {x y a b : Nat} (h : x = y ↔ a = b) : ((x : Int) == (y : Int)) = ((a : Int) == (b : Int)) := by
  rw [Bool.eq_iff_iff, beq_iff_eq, beq_iff_eq]
  omega
theorem one_small (b : Nat) (hb : b < 256) : bytes [b] := fun n hn => by
  simp at hn
  omega
set_option maxHeartbeats 3200000 in
set_option maxRecDepth 100000 in
theorem back_walk (h g b c : Nat) (w : World) (hh : h < 18446744073709551616) (hg : g < 18446744073709551616) (hb : b < 256) (hc : c < 256) :
    Calls Try.prog 4 #[.int .u64 h, .int .u64 g, .agg #[.int .u8 b, .int .u8 c]] w fun e w' => e = .returned (.bool true) ∧ Below w.heap.size w w' := by
  obtain ⟨x, hx⟩ : ∃ x, go1 h b = x := ⟨_, rfl⟩
  obtain ⟨y, hy⟩ : ∃ x, go1 g b = x := ⟨_, rfl⟩
  obtain ⟨z, hz⟩ : ∃ x, go1 h c = x := ⟨_, rfl⟩
  have N1 : Hid (∀ w, Calls Try.prog 11 #[.int .u64 h, .int .u8 b] w fun e w' => e = .returned (.int .u64 (x : Nat)) ∧ w = w') := fun w => hx ▸ next_any h b hh hb w
  have N2 : Hid (∀ w, Calls Try.prog 11 #[.int .u64 g, .int .u8 b] w fun e w' => e = .returned (.int .u64 (y : Nat)) ∧ w = w') := fun w => hy ▸ next_any g b hg hb w
  have N3 : Hid (∀ w, Calls Try.prog 11 #[.int .u64 h, .int .u8 c] w fun e w' => e = .returned (.int .u64 (z : Nat)) ∧ w = w') := fun w => hz ▸ next_any h c hh hc w
  obtain ⟨u, hu⟩ : ∃ x, ba1 h b = x := ⟨_, rfl⟩
  have hul : u < 18446744073709551616 := hu ▸ ba1_lt h b hb
  have R1 : Hid (∀ w', Held w w.heap.size b c w' → Calls Try.prog 8 #[.int .u64 h, .slice (some ⟨w'.heap.size, 0, none⟩) 1 1] (w'.alloc (.cells #[.int .u8 (b : Int)] 5)) fun e w'' => e = .returned (.int .u64 (x : Nat)) ∧ Held w w.heap.size b c w'') := fun w' hw =>
    (refgo_any h _ 1 1 [b] _ hh (one_row w' b) (one_small b hb) (by omega)).mono fun _ _ ⟨he, e2⟩ => ⟨by rw [he, gon_one, hx], (hw.next ((Below.refl _ _).alloc (Nat.le_refl _) _)).same e2⟩
  have B1 : Hid (∀ w', Held w w.heap.size b c w' → Calls Try.prog 12 #[.int .u64 x, .int .u8 b] w' fun e w'' => e = .returned (.int .u64 (h : Nat)) ∧ Held w w.heap.size b c w'') := fun w' hw =>
    (back_any x b hb w').mono fun _ _ ⟨he, e2⟩ => ⟨by rw [he, ← hx, ba_go h b hh hb], hw.same e2⟩
  have B2 : Hid (∀ w', Held w w.heap.size b c w' → Calls Try.prog 12 #[.int .u64 h, .int .u8 b] w' fun e w'' => e = .returned (.int .u64 (u : Nat)) ∧ Held w w.heap.size b c w'') := fun w' hw =>
    (back_any h b hb w').mono fun _ _ ⟨he, e2⟩ => ⟨by rw [he, hu], hw.same e2⟩
  have N4 : Hid (∀ w', Held w w.heap.size b c w' → Calls Try.prog 11 #[.int .u64 u, .int .u8 b] w' fun e w'' => e = .returned (.int .u64 (h : Nat)) ∧ Held w w.heap.size b c w'') := fun w' hw =>
    (next_any u b hul hb w').mono fun _ _ ⟨he, e2⟩ => ⟨by rw [he, ← hu, go_ba h b hh], hw.same e2⟩
  have A1 : Hid (∀ w', Held w w.heap.size b c w' → Calls Try.prog 6 #[] w' fun e w'' => e = .returned (.bool true) ∧ Held w w.heap.size b c w'') := fun w' hw =>
    (awake_any w').mono fun _ _ ⟨he, e2⟩ => ⟨he, hw.same e2⟩
  obtain ⟨q1, f1, f2⟩ : ∃ q1 : Bool, ((x : Int) == (y : Int)) = q1 ∧ ((h : Int) == (g : Int)) = q1 := ⟨_, beq_of (by rw [← hx, ← hy]; exact go1_inj h g b hh hg hb), rfl⟩
  obtain ⟨q2, f3, f4⟩ : ∃ q2 : Bool, ((x : Int) == (z : Int)) = q2 ∧ ((b : Int) == (c : Int)) = q2 := ⟨_, beq_of (by rw [← hx, ← hz]; exact go1_apart h b c hh hb hc), rfl⟩
  clear hx hy hz hu
  go_enter Try.func4, Try.ntmps4
  go_wp2_with fail
  go_quiet (first
    | (go_at_call_of 11 (Value.int IntKind.u64 (h : Int)); exact quiet_still (N1.out _))
    | (go_at_call_of 11 (Value.int IntKind.u64 (g : Int)); exact quiet_still (N2.out _)))
  go_wp2_with fail
  refine (N3.out _).mono ?_
  rintro e w1 ⟨rfl, hw1⟩
  have K0 := Lib.hid ((held_box w b c nq).same hw1)
  clear hw1
  go_wp2_with fail
  have K1 : Hid (Held w w.heap.size b c w1.drew) := K0.out.next (Below.refl _ _).drew
  go_region_held3 (fun w' => w'.cell? ⟨w.heap.size, 0, none⟩ = some (.int .u8 (b : Int)) ∧ w'.cell? ⟨w.heap.size, 1, none⟩ = some (.int .u8 (c : Int)) ∧ Below w.heap.size w w') (first | exact K1.out | assumption | exact K1.out.next ((Below.refl _ _).alloc (Nat.le_refl _) _)) (first
    | (go_at_call 8; refine (R1.out _ K1.out).mono ?_; rintro e w2 ⟨rfl, hk2⟩)
    | (go_at_call_of 12 (Value.int IntKind.u64 (x : Int)); refine (B1.out _ hk2).mono ?_; rintro e w3 ⟨rfl, hk3⟩)
    | (go_at_call_of 12 (Value.int IntKind.u64 (h : Int)); refine (B2.out _ hk3).mono ?_; rintro e w4 ⟨rfl, hk4⟩)
    | (go_at_call_of 11 (Value.int IntKind.u64 (u : Int)); refine (N4.out _ hk4).mono ?_; rintro e w5 ⟨rfl, hk5⟩)
    | (go_at_call 6; refine (A1.out _ hk5).mono ?_; rintro e w6 ⟨rfl, hk6⟩))
  go_wp2
  go_ret
  exact ⟨rfl, hk6.2.2⟩
end Go.Proofs.Ytjigobalghckdaa
