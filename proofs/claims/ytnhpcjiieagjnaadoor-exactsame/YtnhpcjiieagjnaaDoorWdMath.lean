/-
  Plain arithmetic of words: bits of a number, a number of bits, a word turned, how many bits are 1, the highest bit. Nothing here speaks of a program. Conditions stand in each theorem.
-/
import Derived.Laws.BitsAllLaws
import Derived.Lib.BitFns
namespace Go.Proofs.YtnhpcjiieagjnaaDoor.wd

def bit (x i : Nat) : Nat := x / 2 ^ i % 2
theorem bit_lt (x i : Nat) : bit x i < 2 := Nat.mod_lt _ (by decide)
theorem bit_test (x i : Nat) : bit x i = (x.testBit i).toNat := (Nat.toNat_testBit x i).symm
theorem bit_zero (x : Nat) : bit x 0 = x % 2 := by simp [bit]
theorem bit_succ (x i : Nat) : bit x (i + 1) = bit (x / 2) i := by
  unfold bit
  rw [Nat.div_div_eq_div_mul, Nat.pow_succ, Nat.mul_comm]

theorem test_high (x i : Nat) (hx : x < 18446744073709551616) (hi : 64 ≤ i) : x.testBit i = false :=
  Nat.testBit_lt_two_pow (Nat.lt_of_lt_of_le hx (show 2 ^ 64 ≤ 2 ^ i from Nat.pow_le_pow_right (by decide) hi))
/-- how many of the lowest n bits are 1. -/
def popN : Nat → Nat → Nat
  | 0, _ => 0
  | n + 1, x => x % 2 + popN n (x / 2)
theorem popN_sum (n x : Nat) : popN n x = ((List.range n).map (bit x)).sum := by
  induction n generalizing x with
  | zero => rfl
  | succ n ih =>
    rw [List.range_succ_eq_map, List.map_cons, List.map_map, List.sum_cons, popN, ih, bit_zero]
    congr 3
    exact funext fun i => (bit_succ x i).symm
theorem popN_le (n x : Nat) : popN n x ≤ n := by
  induction n generalizing x with
  | zero => simp [popN]
  | succ n ih => have := ih (x / 2); simp only [popN]; omega
theorem popN_add (n m x : Nat) : popN (n + m) x = popN n x + popN m (x / 2 ^ n) := by
  induction n generalizing x with
  | zero => simp [popN]
  | succ n ih =>
    rw [show n + 1 + m = (n + m) + 1 from by omega, popN, popN, ih, Nat.div_div_eq_div_mul, Nat.pow_succ, Nat.mul_comm 2]
    omega
theorem popN_mod (n x : Nat) : popN n (x % 2 ^ n) = popN n x := by
  rw [popN_sum, popN_sum]
  refine congrArg List.sum (List.map_congr_left fun i hi => ?_)
  rw [bit_test, bit_test, Nat.testBit_mod_two_pow]
  simp [List.mem_range.mp hi]
theorem popN_snoc (n x : Nat) : popN (n + 1) x = popN n x + bit x n := by
  rw [popN_add]
  simp [popN, bit]

/-! bits.OnesCount64, byte by byte -/
def rep (p : Nat) : Nat → Nat
  | 0 => 0
  | n + 1 => 256 * rep p n + p
theorem and_cat (x y : Nat) : x &&& y = 256 * (x / 256 &&& y / 256) + (x % 256 &&& y % 256) := by
  have h1 : (x &&& y) / 2 ^ 8 = x / 2 ^ 8 &&& y / 2 ^ 8 := Nat.and_div_two_pow
  have h2 : (x &&& y) % 2 ^ 8 = x % 2 ^ 8 &&& y % 2 ^ 8 := Nat.and_mod_two_pow
  simp only [show (2 ^ 8 : Nat) = 256 from rfl] at h1 h2
  rw [← h1, ← h2]
  omega
theorem and_rep (x p n : Nat) (hp : p < 256) : x &&& rep p (n + 1) = 256 * (x / 256 &&& rep p n) + (x % 256 &&& p) := by
  rw [and_cat, rep, show (256 * rep p n + p) / 256 = rep p n from by omega, show (256 * rep p n + p) % 256 = p from by omega]
def g1 (n x : Nat) : Nat := (x / 2 &&& rep 85 n) + (x &&& rep 85 n)
def g2 (n x : Nat) : Nat := (x / 4 &&& rep 51 n) + (x &&& rep 51 n)
def g3 (n x : Nat) : Nat := x / 16 + x &&& rep 15 n
def f1 (b : Nat) : Nat := (b / 2 &&& 85) + (b &&& 85)
def f2 (b : Nat) : Nat := (b / 4 &&& 51) + (b &&& 51)
def f3 (b : Nat) : Nat := b / 16 + b &&& 15
theorem cross1 : ∀ c : Fin 512, (c.val / 2) % 256 &&& 85 = (c.val % 256) / 2 &&& 85 := by decide +kernel
theorem cross2 : ∀ c : Fin 1024, (c.val / 4) % 256 &&& 51 = (c.val % 256) / 4 &&& 51 := by decide +kernel
theorem byte1 : ∀ c : Fin 256, f1 c.val < 256 := by decide +kernel
theorem byte2 : ∀ c : Fin 256, f2 (f1 c.val) % 16 ≤ 4 ∧ f2 (f1 c.val) ≤ 68 := by decide +kernel
theorem byte3 : ∀ c : Fin 256, f3 (f2 (f1 c.val)) = popN 8 c.val := by decide +kernel
theorem and15 : ∀ c : Fin 256, c.val &&& 15 = c.val % 16 := by decide +kernel
theorem g1_succ (n x : Nat) : g1 (n + 1) x = 256 * g1 n (x / 256) + f1 (x % 256) := by
  have h := cross1 ⟨x % 512, Nat.mod_lt _ (by decide)⟩
  simp only [show x % 512 / 2 % 256 = x / 2 % 256 from by omega, show x % 512 % 256 = x % 256 from by omega] at h
  unfold g1 f1
  rw [and_rep _ _ _ (by decide), and_rep _ _ _ (by decide), h, show x / 2 / 256 = x / 256 / 2 from by omega]
  omega
theorem g2_succ (n x : Nat) : g2 (n + 1) x = 256 * g2 n (x / 256) + f2 (x % 256) := by
  have h := cross2 ⟨x % 1024, Nat.mod_lt _ (by decide)⟩
  simp only [show x % 1024 / 4 % 256 = x / 4 % 256 from by omega, show x % 1024 % 256 = x % 256 from by omega] at h
  unfold g2 f2
  rw [and_rep _ _ _ (by decide), and_rep _ _ _ (by decide), h, show x / 4 / 256 = x / 256 / 4 from by omega]
  omega
theorem g12_succ (n x : Nat) : g2 (n + 1) (g1 (n + 1) x) = 256 * g2 n (g1 n (x / 256)) + f2 (f1 (x % 256)) := by
  have h := byte1 ⟨x % 256, Nat.mod_lt _ (by decide)⟩
  simp only at h
  rw [g1_succ, g2_succ, show (256 * g1 n (x / 256) + f1 (x % 256)) / 256 = g1 n (x / 256) from by omega, show (256 * g1 n (x / 256) + f1 (x % 256)) % 256 = f1 (x % 256) from by omega]
theorem g12_low (n x : Nat) : g2 n (g1 n x) % 16 ≤ 4 := by
  cases n with
  | zero => simp [g2, rep]
  | succ n =>
    have h := (byte2 ⟨x % 256, Nat.mod_lt _ (by decide)⟩).1
    simp only at h
    rw [g12_succ]
    omega
theorem g123_succ (n x : Nat) : g3 (n + 1) (g2 (n + 1) (g1 (n + 1) x)) = 256 * g3 n (g2 n (g1 n (x / 256))) + popN 8 (x % 256) := by
  have hb := byte2 ⟨x % 256, Nat.mod_lt _ (by decide)⟩
  have hp := byte3 ⟨x % 256, Nat.mod_lt _ (by decide)⟩
  have hl := g12_low n (x / 256)
  simp only at hb hp
  rw [g12_succ, ← hp]
  generalize g2 n (g1 n (x / 256)) = y at *
  generalize f2 (f1 (x % 256)) = b at *
  unfold g3 f3
  rw [and_rep _ _ _ (by decide), show ((256 * y + b) / 16 + (256 * y + b)) / 256 = y / 16 + y from by omega]
  have e1 : ((256 * y + b) / 16 + (256 * y + b)) % 256 = 16 * (y % 16) + b / 16 + b := by omega
  have h1 := and15 ⟨16 * (y % 16) + b / 16 + b, by omega⟩
  have h2 := and15 ⟨b / 16 + b, by omega⟩
  simp only at h1 h2
  rw [e1, h1, h2]
  have e2 : (16 * (y % 16) + b / 16 + b) % 16 = (b / 16 + b) % 16 := by
    rw [Nat.add_assoc, Nat.mul_add_mod]
  rw [e2]
theorem g_zero (x : Nat) : g3 0 (g2 0 (g1 0 x)) = 0 := by simp [g3, rep]
def last3 (z : Nat) : Nat := ((z + z / 256) + (z + z / 256) / 65536 + ((z + z / 256) + (z + z / 256) / 65536) / 4294967296) % 128
theorem div_of (z r q d : Nat) (h : z = r + d * q) (hr : r < d) : z / d = q := by
  subst h
  rw [Nat.add_mul_div_left _ _ (by omega), Nat.div_eq_of_lt hr, Nat.zero_add]
theorem mod_of (z r q d : Nat) (h : z = r + d * q) (hr : r < d) : z % d = r := by
  subst h
  rw [Nat.add_mul_mod_self_left, Nat.mod_eq_of_lt hr]
theorem last3_sum (p0 p1 p2 p3 p4 p5 p6 p7 : Nat) (h0 : p0 ≤ 8) (h1 : p1 ≤ 8) (h2 : p2 ≤ 8) (h3 : p3 ≤ 8) (h4 : p4 ≤ 8) (h5 : p5 ≤ 8) (h6 : p6 ≤ 8) (h7 : p7 ≤ 8) :
    last3 (256 * (256 * (256 * (256 * (256 * (256 * (256 * (256 * 0 + p7) + p6) + p5) + p4) + p3) + p2) + p1) + p0) = p0 + p1 + p2 + p3 + p4 + p5 + p6 + p7 := by
  unfold last3
  rw [div_of (256 * (256 * (256 * (256 * (256 * (256 * (256 * (256 * 0 + p7) + p6) + p5) + p4) + p3) + p2) + p1) + p0) p0 (256 * (256 * (256 * (256 * (256 * (256 * (256 * 0 + p7) + p6) + p5) + p4) + p3) + p2) + p1) 256 (by omega) (by omega)]
  have ea : 256 * (256 * (256 * (256 * (256 * (256 * (256 * (256 * 0 + p7) + p6) + p5) + p4) + p3) + p2) + p1) + p0 + (256 * (256 * (256 * (256 * (256 * (256 * (256 * 0 + p7) + p6) + p5) + p4) + p3) + p2) + p1) =
      (p0 + p1) + 256 * (p1 + p2) + 65536 * ((p2 + p3) + 256 * (p3 + p4) + 65536 * (p4 + p5) + 16777216 * (p5 + p6) + 4294967296 * (p6 + p7) + 1099511627776 * p7) := by omega
  rw [ea]
  rw [div_of _ ((p0 + p1) + 256 * (p1 + p2)) ((p2 + p3) + 256 * (p3 + p4) + 65536 * (p4 + p5) + 16777216 * (p5 + p6) + 4294967296 * (p6 + p7) + 1099511627776 * p7) 65536 rfl (by omega)]
  have eb : (p0 + p1) + 256 * (p1 + p2) + 65536 * ((p2 + p3) + 256 * (p3 + p4) + 65536 * (p4 + p5) + 16777216 * (p5 + p6) + 4294967296 * (p6 + p7) + 1099511627776 * p7) +
        ((p2 + p3) + 256 * (p3 + p4) + 65536 * (p4 + p5) + 16777216 * (p5 + p6) + 4294967296 * (p6 + p7) + 1099511627776 * p7) =
      ((p0 + p1 + p2 + p3) + 256 * (p1 + p2 + p3 + p4) + 65536 * (p2 + p3 + p4 + p5) + 16777216 * (p3 + p4 + p5 + p6)) + 4294967296 * ((p4 + p5 + p6 + p7) + 256 * (p5 + p6 + p7) + 65536 * (p6 + p7) + 16777216 * p7) := by omega
  rw [eb]
  rw [div_of _ ((p0 + p1 + p2 + p3) + 256 * (p1 + p2 + p3 + p4) + 65536 * (p2 + p3 + p4 + p5) + 16777216 * (p3 + p4 + p5 + p6)) ((p4 + p5 + p6 + p7) + 256 * (p5 + p6 + p7) + 65536 * (p6 + p7) + 16777216 * p7) 4294967296 rfl (by omega)]
  refine mod_of _ _ (2 * (p1 + p2 + p3 + p4) + 512 * (p2 + p3 + p4 + p5) + 131072 * (p3 + p4 + p5 + p6) + 33554432 * ((p4 + p5 + p6 + p7) + 256 * (p5 + p6 + p7) + 65536 * (p6 + p7) + 16777216 * p7) + 2 * (p5 + p6 + p7) + 512 * (p6 + p7) + 131072 * p7) 128 ?_ (by omega)
  omega
theorem pop_bytes (x : Nat) : popN 64 x = popN 8 (x % 256) + popN 8 (x / 256 % 256) + popN 8 (x / 256 / 256 % 256) + popN 8 (x / 256 / 256 / 256 % 256) + popN 8 (x / 256 / 256 / 256 / 256 % 256) +
    popN 8 (x / 256 / 256 / 256 / 256 / 256 % 256) + popN 8 (x / 256 / 256 / 256 / 256 / 256 / 256 % 256) + popN 8 (x / 256 / 256 / 256 / 256 / 256 / 256 / 256 % 256) := by
  have m : ∀ y, popN 8 (y % 256) = popN 8 y := fun y => popN_mod 8 y
  have s : ∀ n y, popN (8 + n) y = popN 8 y + popN n (y / 256) := fun n y => popN_add 8 n y
  simp only [m]
  rw [show (64 : Nat) = 8 + (8 + (8 + (8 + (8 + (8 + (8 + 8)))))) from rfl]
  simp only [s]
  omega
theorem ones_eq (x : Nat) : last3 (g3 8 (g2 8 (g1 8 x))) = popN 64 x := by
  rw [pop_bytes]
  simp only [g123_succ, g_zero]
  exact last3_sum _ _ _ _ _ _ _ _ (popN_le 8 _) (popN_le 8 _) (popN_le 8 _) (popN_le 8 _) (popN_le 8 _) (popN_le 8 _) (popN_le 8 _) (popN_le 8 _)

/-! the highest bit -/
def lenN (x : Nat) : Nat := if x = 0 then 0 else x.log2 + 1
theorem lenN_aux (f x : Nat) (h : x < 2 ^ f) : Lib.bitLenAux f x = lenN x := by
  induction f generalizing x with
  | zero =>
    have : x = 0 := by simpa using h
    simp [Lib.bitLenAux, lenN, this]
  | succ f ih =>
    unfold Lib.bitLenAux lenN
    by_cases h0 : x = 0
    · simp [h0]
    · rw [if_neg h0, if_neg h0, ih (x / 2) (by rw [Nat.pow_succ] at h; omega), Nat.log2_def x]
      unfold lenN
      by_cases h1 : x ≥ 2
      · rw [if_pos h1, if_neg (by omega)]; omega
      · rw [if_neg h1, if_pos (by omega)]
theorem lenN_eq (x : Nat) (h : x < 18446744073709551616) : Lib.bitLen x = lenN x := lenN_aux 64 x h
theorem lenN_of (x k : Nat) (h1 : 2 ^ k ≤ x) (h2 : x < 2 ^ (k + 1)) : lenN x = k + 1 := by
  have h0 : x ≠ 0 := by have := Nat.two_pow_pos k; omega
  unfold lenN
  rw [if_neg h0, (Nat.log2_eq_iff h0).mpr ⟨h1, h2⟩]
theorem lenN_zero : lenN 0 = 0 := rfl
theorem lenN_le (x k : Nat) (h : x < 2 ^ k) : lenN x ≤ k := by
  unfold lenN
  by_cases h0 : x = 0
  · simp [h0]
  · rw [if_neg h0]
    exact (Nat.log2_lt h0).mpr h
end Go.Proofs.YtnhpcjiieagjnaaDoor.wd
