/-
  The walks of the three statements of layer 1: whatever the words and ints, each returns true, and what was there stays as it was.
-/
import Derived.Test.YtbecnmclemmemaaRefs
import Derived.Test.YtbecnmclemmemaaHigh
namespace Go.Proofs.Ytbecnmclemmemaa
open Go.ChangeShapes Go.WideShapes Go.ChangeAt Go.RowKit
theorem awake_turn (w : World) : Calls Try.prog 6 #[.int .u64 1, .int .i64 65] w fun e w' => e = .returned (.int .u64 2) ∧ w = w' :=
  (turn_any 1 65 (by decide) w).mono fun _ _ h => ⟨by rw [h.1, show turnN 1 (65 % 64 : Int).toNat = 2 from by decide]; rfl, h.2⟩
theorem pw5 : pwN 5 = 8 := by decide
theorem ln9 : lenN 9 = 4 := by decide
theorem awake_power (w : World) : Calls Try.prog 16 #[.int .i64 5] w fun e w' => e = .returned (.int .i64 8) ∧ w = w' :=
  (power_any 5 w).mono fun _ _ h => ⟨by rw [h.1, pw5]; rfl, h.2⟩
theorem awake_log (w : World) : Calls Try.prog 14 #[.int .u64 9] w fun e w' => e = .returned (.int .i64 3) ∧ w = w' :=
  (log_any 9 (by decide) w).mono fun _ _ h => ⟨by rw [h.1, ln9]; rfl, h.2⟩
set_option maxHeartbeats 400000 in
theorem awake_any (w : World) : Calls Try.prog 9 #[] w fun e w' => e = .returned (.bool true) ∧ w = w' := by
  go_enter Try.func9, Try.ntmps9
  go_wp2_with (first | (go_at_call 6; refine (awake_turn _).mono ?_; rintro e w' ⟨rfl, rfl⟩) | (go_at_call 16; refine (awake_power _).mono ?_; rintro e w' ⟨rfl, rfl⟩) | (go_at_call 14; refine (awake_log _).mono ?_; rintro e w' ⟨rfl, rfl⟩))
  go_ret
  exact ⟨rfl, rfl⟩
theorem neg_mod (k : Int) : wrap64 (-k) % 64 = (-k) % 64 := by unfold wrap64; omega
set_option maxHeartbeats 1600000 in
theorem turns_walk (x : Nat) (k : Int) (hx : x < 18446744073709551616) (k0 : -9223372036854775808 ≤ k) (k1 : k ≤ 9223372036854775807) (w : World) :
    Calls Try.prog 3 #[.int .u64 x, .int .i64 k] w fun e w' => e = .returned (.bool true) ∧ Below w.heap.size w w' := by
  have ht := turn_lt x (k % 64).toNat hx
  have hback := turn_back x (k % 64).toNat ((-k) % 64).toNat hx (by omega) (by omega)
  have hpop := turn_pop x (k % 64).toNat hx (by omega)
  have HB := Lib.hid hback
  have HP := Lib.hid hpop
  have HT := Lib.hid ht
  have K0 := Lib.hid k0
  have K1 := Lib.hid k1
  clear hback hpop k0 k1 ht
  go_enter Try.func3, Try.ntmps3
  go_wp2_with fail
  refine (turn_any x k hx _).mono ?_
  rintro e w1 ⟨rfl, rfl⟩
  generalize hu : turnN x (k % 64).toNat = t at *
  go_wp2_with fail
  refine (refturn_any x k hx K0.out K1.out _).mono ?_
  rintro e w1 ⟨rfl, hb⟩
  rw [hu]
  have HU := Lib.hid hu
  clear hu
  go_wp2_with fail
  refine (turn_any t (wrap64 (-k)) HT.out _).mono ?_
  rintro e w2 ⟨rfl, rfl⟩
  rw [neg_mod, HB.out]
  go_wp2_with fail
  refine (word_ones t HT.out _).mono ?_
  rintro e w2 ⟨rfl, rfl⟩
  rw [HP.out]
  go_wp2_with fail
  refine (word_ones x hx _).mono ?_
  rintro e w2 ⟨rfl, rfl⟩
  go_wp2_with fail
  refine (awake_any _).mono ?_
  rintro e w2 ⟨rfl, rfl⟩
  go_wp2
  go_ret
  exact ⟨rfl, hb⟩
set_option maxHeartbeats 1600000 in
theorem products_walk (a b : Nat) (ha : a < 18446744073709551616) (hb : b < 18446744073709551616) (w : World) :
    Calls Try.prog 4 #[.int .u64 a, .int .u64 b] w fun e w' => e = .returned (.bool true) ∧ Below w.heap.size w w' := by
  have hcm := Lib.hid (Nat.mul_comm b a)
  go_enter Try.func4, Try.ntmps4
  go_wp2_with fail
  refine (high_any a b ha hb _).mono ?_
  rintro e w1 ⟨rfl, b1⟩
  go_wp2_with fail
  refine (refhigh_any a b ha hb _).mono ?_
  rintro e w2 ⟨rfl, b2⟩
  go_wp2_with fail
  refine (high_any a b ha hb _).mono ?_
  rintro e w3 ⟨rfl, b3⟩
  go_wp2_with fail
  refine (high_any b a hb ha _).mono ?_
  rintro e w4 ⟨rfl, b4⟩
  rw [hcm.out]
  go_wp2_with fail
  refine (word_ones a ha _).mono ?_
  rintro e w5 ⟨rfl, rfl⟩
  go_wp2_with fail
  refine (refones_any a ha _).mono ?_
  rintro e w5 ⟨rfl, b5⟩
  go_wp2_with fail
  refine (awake_any _).mono ?_
  rintro e w6 ⟨rfl, rfl⟩
  go_wp2
  go_ret
  have s1 := b1.size
  have s2 := b2.size
  have s3 := b3.size
  have s4 := b4.size
  exact ⟨rfl, b1.trans ((b2.mono s1).trans ((b3.mono (by omega)).trans ((b4.mono (by omega)).trans (b5.mono (by omega)))))⟩
set_option maxHeartbeats 1600000 in
theorem places_walk (x : Nat) (n k : Int) (hx : x < 18446744073709551616) (w : World) :
    Calls Try.prog 5 #[.int .u64 x, .int .i64 n, .int .i64 k] w fun e w' => e = .returned (.bool true) ∧ Below w.heap.size w w' := by
  have hl := low_le x k
  have hll := Lib.hid (low_low x k)
  generalize hlo : lowN x k = lo at *
  have HLO := Lib.hid hlo
  clear hlo
  go_enter Try.func5, Try.ntmps5
  go_wp2_with fail
  refine (low_any x k hx _).mono ?_
  rintro e w1 ⟨rfl, rfl⟩
  rw [HLO.out]
  go_wp2_with fail
  refine (log_any x hx _).mono ?_
  rintro e w1 ⟨rfl, rfl⟩
  go_wp2_with fail
  refine (reflog_any x hx _).mono ?_
  rintro e w1 ⟨rfl, b1⟩
  go_wp2_with fail
  refine (power_any n _).mono ?_
  rintro e w2 ⟨rfl, rfl⟩
  go_wp2_with fail
  refine (refpower_any n _).mono ?_
  rintro e w2 ⟨rfl, rfl⟩
  go_wp2_with fail
  refine (reflow_any x k hx _).mono ?_
  rintro e w2 ⟨rfl, b2⟩
  rw [HLO.out]
  go_wp2_with fail
  refine (low_any lo k (by omega) _).mono ?_
  rintro e w3 ⟨rfl, rfl⟩
  rw [hll.out]
  go_wp2_with fail
  refine (awake_any _).mono ?_
  rintro e w3 ⟨rfl, rfl⟩
  go_wp2
  go_ret
  exact ⟨rfl, b1.trans (b2.mono b1.size)⟩
theorem u64_bd {n : Int} (h : (Lit.int .u64 n).wf = true) : ∃ m : Nat, n = (m : Int) ∧ m < 18446744073709551616 := by
  simp only [Lit.wf, IntKind.min, IntKind.max, IntKind.signed, IntKind.bits, Bool.and_eq_true] at h
  exact ⟨n.toNat, by simp at h; omega, by simp at h; omega⟩
theorem i64_bd {n : Int} (h : (Lit.int .i64 n).wf = true) : -9223372036854775808 ≤ n ∧ n ≤ 9223372036854775807 := by
  simp only [Lit.wf, IntKind.min, IntKind.max, IntKind.signed, IntKind.bits, Bool.and_eq_true, decide_eq_true_eq] at h
  simp at h
  omega
end Go.Proofs.Ytbecnmclemmemaa
