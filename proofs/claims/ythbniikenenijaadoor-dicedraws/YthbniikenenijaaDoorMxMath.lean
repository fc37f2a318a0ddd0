/-
  Plain arithmetic of words: a word folded by k places and unfolded, the inverse of an odd word modulo 2^64, a fold with a product behind it and what undoes it. Nothing here speaks of a program. Conditions stand in each theorem.
-/
import Derived.Laws.BitsAllLaws
namespace Go.Proofs.YthbniikenenijaaDoor.mx

def M : Nat := 18446744073709551616
theorem M_pow : M = 2 ^ 64 := by decide
/-- x folded by k. -/
def fo (k x : Nat) : Nat := x ^^^ (x / 2 ^ k)
theorem fo_lt (k x : Nat) (h : x < M) : fo k x < M := by
  unfold fo
  rw [M_pow] at *
  exact Nat.xor_lt_two_pow h (Nat.lt_of_le_of_lt (Nat.div_le_self _ _) h)
theorem fo_test (k x i : Nat) : (fo k x).testBit i = (x.testBit i ^^ x.testBit (i + k)) := by
  unfold fo
  rw [Nat.testBit_xor, Nat.testBit_div_two_pow]
theorem fo_comm (a b x : Nat) : fo a (fo b x) = fo b (fo a x) := by
  refine Nat.eq_of_testBit_eq fun i => ?_
  simp only [fo_test]
  rw [show i + a + b = i + b + a from by omega]
  generalize x.testBit i = p
  generalize x.testBit (i + a) = q
  generalize x.testBit (i + b) = r
  generalize x.testBit (i + b + a) = s
  revert p q r s
  decide
theorem fo_two (a x : Nat) : fo a (fo a x) = fo (2 * a) x := by
  refine Nat.eq_of_testBit_eq fun i => ?_
  simp only [fo_test]
  rw [show i + 2 * a = i + a + a from by omega]
  generalize x.testBit i = p
  generalize x.testBit (i + a) = q
  generalize x.testBit (i + a + a) = r
  revert p q r
  decide
theorem fo_big (k x : Nat) (hk : 64 ≤ k) (hx : x < M) : fo k x = x := by
  unfold fo
  rw [Nat.div_eq_of_lt (Nat.lt_of_lt_of_le hx (by rw [M_pow]; exact Nat.pow_le_pow_right (by decide) hk)), Nat.xor_zero]
/-- x unfolded by k. -/
def un (k x : Nat) : Nat := fo (32 * k) (fo (16 * k) (fo (8 * k) (fo (4 * k) (fo (2 * k) (fo k x)))))
theorem un_lt (k x : Nat) (h : x < M) : un k x < M := by
  unfold un
  exact fo_lt _ _ (fo_lt _ _ (fo_lt _ _ (fo_lt _ _ (fo_lt _ _ (fo_lt _ _ h)))))
theorem un_fo (k x : Nat) (hk : 1 ≤ k) (hx : x < M) : un k (fo k x) = x := by
  unfold un
  rw [fo_two, fo_two, show 2 * (2 * k) = 4 * k from by omega, fo_two, show 2 * (4 * k) = 8 * k from by omega, fo_two, show 2 * (8 * k) = 16 * k from by omega, fo_two, show 2 * (16 * k) = 32 * k from by omega, fo_two, fo_big _ _ (by omega) hx]
theorem fo_un (k x : Nat) (hk : 1 ≤ k) (hx : x < M) : fo k (un k x) = x := by
  have e : fo k (un k x) = un k (fo k x) := by
    unfold un
    rw [fo_comm k (32 * k), fo_comm k (16 * k), fo_comm k (8 * k), fo_comm k (4 * k), fo_comm k (2 * k)]
  rw [e, un_fo k x hk hx]
theorem un_of (k x r : Nat) (hk : 1 ≤ k) (hr : r < M) (h : fo k r = x) : r = un k x := by
  rw [← h, un_fo k r hk hr]
/-- .. by any int. -/
def foZ (x : Nat) (k : Int) : Nat := if 1 ≤ k ∧ k ≤ 63 then fo k.toNat x else x
def unZ (x : Nat) (k : Int) : Nat := if 1 ≤ k ∧ k ≤ 63 then un k.toNat x else x
theorem foZ_lt (x : Nat) (k : Int) (h : x < M) : foZ x k < M := by
  unfold foZ; split
  · exact fo_lt _ _ h
  · exact h
theorem unZ_lt (x : Nat) (k : Int) (h : x < M) : unZ x k < M := by
  unfold unZ; split
  · exact un_lt _ _ h
  · exact h
theorem foZ_unZ (x : Nat) (k : Int) (h : x < M) : foZ (unZ x k) k = x := by
  unfold foZ unZ; split
  · exact fo_un _ _ (by omega) h
  · rfl
theorem unZ_foZ (x : Nat) (k : Int) (h : x < M) : unZ (foZ x k) k = x := by
  unfold foZ unZ; split
  · exact un_fo _ _ (by omega) h
  · rfl
theorem div_two (x i : Nat) : x / 2 ^ i / 2 = x / 2 ^ (i + 1) := by
  rw [Nat.pow_succ, Nat.div_div_eq_div_mul]

/-- one turn of Newton's. -/
def nx (a v : Nat) : Nat := v * ((M + 2 - a * v % M) % M) % M
theorem nx_lt (a v : Nat) : nx a v < M := Nat.mod_lt _ (by decide)
/-- a times v is 1 modulo d. -/
def Inv (a v d : Nat) : Prop := ∃ q : Int, (a : Int) * v = 1 + d * q
theorem inv_base (a : Nat) (h : a % 2 = 1) : Inv a a 8 := by
  obtain ⟨b, rfl⟩ : ∃ b, a = 2 * b + 1 := ⟨a / 2, by omega⟩
  obtain ⟨c, hc⟩ : ∃ c, b * (b + 1) = 2 * c := by
    rcases Nat.mod_two_eq_zero_or_one b with h | h
    · exact ⟨b / 2 * (b + 1), by rw [← Nat.mul_assoc]; congr 1; omega⟩
    · exact ⟨b * ((b + 1) / 2), by rw [Nat.mul_left_comm]; congr 1; omega⟩
  refine ⟨c, ?_⟩
  have e : (2 * b + 1) * (2 * b + 1) = 4 * (b * (b + 1)) + 1 := by
    simp only [Nat.mul_add, Nat.add_mul, Nat.mul_one, Nat.one_mul]
    have : 2 * b * (2 * b) = 4 * (b * b) := by rw [Nat.mul_mul_mul_comm]
    omega
  have e2 : (((2 * b + 1) * (2 * b + 1) : Nat) : Int) = 1 + 8 * c := by rw [e, hc]; omega
  exact e2
theorem nx_int (a v : Nat) : ∃ t : Int, (nx a v : Int) = v * (2 - a * v) + (M : Int) * t := by
  have h1 : ((a * v % M : Nat) : Int) = a * v - M * ((a * v / M : Nat) : Int) := by
    have := Nat.mod_add_div (a * v) M
    have e : ((a * v % M + M * (a * v / M) : Nat) : Int) = ((a * v : Nat) : Int) := by rw [this]
    simp only [Int.natCast_add, Int.natCast_mul] at e
    omega
  have hl : a * v % M < M := Nat.mod_lt _ (by decide)
  have h2 : ((M + 2 - a * v % M : Nat) : Int) = M + 2 - ((a * v % M : Nat) : Int) := by omega
  generalize ha : M + 2 - a * v % M = u at *
  have h3 : ((u % M : Nat) : Int) = u - M * ((u / M : Nat) : Int) := by
    have := Nat.mod_add_div u M
    have e : ((u % M + M * (u / M) : Nat) : Int) = ((u : Nat) : Int) := by rw [this]
    simp only [Int.natCast_add, Int.natCast_mul] at e
    omega
  have hn : nx a v = v * (u % M) % M := by unfold nx; rw [ha]
  have h4 : ((v * (u % M) % M : Nat) : Int) = v * ((u % M : Nat) : Int) - M * ((v * (u % M) / M : Nat) : Int) := by
    have := Nat.mod_add_div (v * (u % M)) M
    have e : ((v * (u % M) % M + M * (v * (u % M) / M) : Nat) : Int) = ((v * (u % M) : Nat) : Int) := by rw [this]
    simp only [Int.natCast_add, Int.natCast_mul] at e
    omega
  rw [hn, h4, h3, h2, h1]
  generalize ((v * (u % M) / M : Nat) : Int) = z1
  generalize ((u / M : Nat) : Int) = z2
  generalize ((a * v / M : Nat) : Int) = z3
  refine ⟨v * (1 + z3 - z2) - z1, ?_⟩
  simp only [Int.mul_sub, Int.mul_add, Int.mul_one]
  have c1 : (v : Int) * (M * z2) = M * (v * z2) := Int.mul_left_comm _ _ _
  have c2 : (v : Int) * (M * z3) = M * (v * z3) := Int.mul_left_comm _ _ _
  have c3 : (v : Int) * M = M * v := Int.mul_comm _ _
  omega
theorem inv_step (a v d c m n : Nat) (h : Inv a v d) (hd : d * d = c * m) (hM : M = c * n) : Inv a (nx a v) c := by
  obtain ⟨q, hq⟩ := h
  obtain ⟨t, ht⟩ := nx_int a v
  refine ⟨a * (n * t) - m * (q * q), ?_⟩
  rw [ht, hM, Int.mul_add, ← Int.mul_assoc, hq]
  have e1 : (1 + (d : Int) * q) * (2 - (1 + d * q)) = 1 - (d * d) * (q * q) := by
    have : (2 : Int) - (1 + d * q) = 1 - d * q := by omega
    rw [this, Int.mul_sub, Int.mul_one, Int.add_mul, Int.one_mul]
    have : (d : Int) * q * (d * q) = d * d * (q * q) := by
      rw [Int.mul_assoc, Int.mul_left_comm q d q, ← Int.mul_assoc]
    omega
  have e2 : ((d : Int) * d) = c * m := by exact_mod_cast hd
  rw [e1, e2, Int.natCast_mul, Int.mul_sub, Int.mul_assoc (c : Int) m, Int.mul_assoc (c : Int) n t, Int.mul_left_comm (a : Int) c]
  omega
def nxi (a : Nat) : Nat → Nat
  | 0 => a
  | j + 1 => nx a (nxi a j)
theorem nxi_lt (a j : Nat) (h : a < M) : nxi a j < M := by
  cases j with
  | zero => exact h
  | succ j => exact nx_lt _ _
theorem nxi_five (a : Nat) (h : a % 2 = 1) : Inv a (nxi a 5) M := by
  have s0 : Inv a (nxi a 0) 8 := inv_base a h
  have s1 : Inv a (nxi a 1) 64 := inv_step a _ 8 64 1 288230376151711744 s0 (by decide) (by decide)
  have s2 : Inv a (nxi a 2) 4096 := inv_step a _ 64 4096 1 4503599627370496 s1 (by decide) (by decide)
  have s3 : Inv a (nxi a 3) 16777216 := inv_step a _ 4096 16777216 1 1099511627776 s2 (by decide) (by decide)
  have s4 : Inv a (nxi a 4) 281474976710656 := inv_step a _ 16777216 281474976710656 1 65536 s3 (by decide) (by decide)
  exact inv_step a _ 281474976710656 M 4294967296 1 s4 (by decide) (by decide)
/-- the inverse of a; 0 of an even one. -/
def invN (a : Nat) : Nat := if a % 2 = 0 then 0 else nxi a 5
theorem invN_lt (a : Nat) (h : a < M) : invN a < M := by
  unfold invN; split
  · decide
  · exact nxi_lt _ _ h
theorem inv_mod {a v : Nat} (h : Inv a v M) : a * v % M = 1 := by
  obtain ⟨q, hq⟩ := h
  have e : ((a * v : Nat) : Int) = 1 + M * q := by rw [← hq]; simp
  have h1 : ((a * v % M : Nat) : Int) = 1 := by
    rw [Int.natCast_emod, e, Int.add_mul_emod_self_left]
    decide
  omega
theorem mul_inv (a : Nat) (h : a % 2 = 1) : a * invN a % M = 1 := by
  unfold invN
  rw [if_neg (by omega)]
  exact inv_mod (nxi_five a h)
theorem odd_of_mul {a v : Nat} (h : a * v % M = 1) : v % 2 = 1 := by
  have hm : a * v % M % 2 = 1 := by rw [h]
  rw [Nat.mod_mod_of_dvd _ (show 2 ∣ M from by decide)] at hm
  rcases Nat.mod_two_eq_zero_or_one v with h0 | h1
  · rw [Nat.mul_mod, h0, Nat.mul_zero] at hm
    exact absurd hm (by decide)
  · exact h1
theorem mul_cancel (x a v : Nat) (hx : x < M) (h : a * v % M = 1) : x * a % M * v % M = x := by
  rw [Nat.mod_mul_mod, Nat.mul_assoc, ← Nat.mul_mod_mod, h, Nat.mul_one, Nat.mod_eq_of_lt hx]
theorem inv_inv (a : Nat) (h : a % 2 = 1) (ha : a < M) : invN (invN a) = a := by
  have h1 := mul_inv a h
  have h2 := mul_inv (invN a) (odd_of_mul h1)
  have hl := invN_lt (invN a) (invN_lt a ha)
  have e := mul_cancel a (invN a) (invN (invN a)) ha h2
  rw [h1, Nat.one_mul, Nat.mod_eq_of_lt hl] at e
  exact e

/-- a fold, and a product behind it; and what undoes it. -/
def st (k c x : Nat) : Nat := fo k x * c % M
def bk (k c x : Nat) : Nat := un k (x * invN c % M)
theorem st_lt (k c x : Nat) : st k c x < M := Nat.mod_lt _ (by decide)
theorem bk_lt (k c x : Nat) : bk k c x < M := un_lt _ _ (Nat.mod_lt _ (by decide))
theorem bk_st (k c x : Nat) (hk : 1 ≤ k) (hc : c % 2 = 1) (hx : x < M) : bk k c (st k c x) = x := by
  unfold bk st
  rw [mul_cancel _ _ _ (fo_lt k x hx) (mul_inv c hc), un_fo k x hk hx]
theorem st_bk (k c x : Nat) (hk : 1 ≤ k) (hc : c % 2 = 1) (hx : x < M) : st k c (bk k c x) = x := by
  unfold bk st
  rw [fo_un k _ hk (Nat.mod_lt _ (by decide)), mul_cancel _ _ _ hx (by rw [Nat.mul_comm]; exact mul_inv c hc)]
theorem st_one (k x : Nat) (hx : x < M) : st k 1 x = fo k x := by
  unfold st
  rw [Nat.mul_one, Nat.mod_eq_of_lt (fo_lt k x hx)]
def mixN (x : Nat) : Nat := st 31 1 (st 27 10723151780598845931 (st 30 13787848793156543929 x))
def unmixN (x : Nat) : Nat := bk 30 13787848793156543929 (bk 27 10723151780598845931 (bk 31 1 x))
def twistN (x : Nat) : Nat := st 33 1 (st 33 14181476777654086739 (st 33 18397679294719823053 x))
def untwistN (x : Nat) : Nat := bk 33 18397679294719823053 (bk 33 14181476777654086739 (bk 33 1 x))
theorem mixN_lt (x : Nat) : mixN x < M := st_lt _ _ _
theorem unmixN_lt (x : Nat) : unmixN x < M := bk_lt _ _ _
theorem twistN_lt (x : Nat) : twistN x < M := st_lt _ _ _
theorem untwistN_lt (x : Nat) : untwistN x < M := bk_lt _ _ _
theorem unmix_mix (x : Nat) (h : x < M) : unmixN (mixN x) = x := by
  unfold unmixN mixN
  rw [bk_st _ _ _ (by decide) (by decide) (st_lt _ _ _), bk_st _ _ _ (by decide) (by decide) (st_lt _ _ _), bk_st _ _ _ (by decide) (by decide) h]
theorem mix_unmix (x : Nat) (h : x < M) : mixN (unmixN x) = x := by
  unfold unmixN mixN
  rw [st_bk _ _ _ (by decide) (by decide) (bk_lt _ _ _), st_bk _ _ _ (by decide) (by decide) (bk_lt _ _ _), st_bk _ _ _ (by decide) (by decide) h]
theorem untwist_twist (x : Nat) (h : x < M) : untwistN (twistN x) = x := by
  unfold untwistN twistN
  rw [bk_st _ _ _ (by decide) (by decide) (st_lt _ _ _), bk_st _ _ _ (by decide) (by decide) (st_lt _ _ _), bk_st _ _ _ (by decide) (by decide) h]
theorem twist_untwist (x : Nat) (h : x < M) : twistN (untwistN x) = x := by
  unfold untwistN twistN
  rw [st_bk _ _ _ (by decide) (by decide) (bk_lt _ _ _), st_bk _ _ _ (by decide) (by decide) (bk_lt _ _ _), st_bk _ _ _ (by decide) (by decide) h]
theorem mix_inj (x y : Nat) (hx : x < M) (hy : y < M) : mixN x = mixN y ↔ x = y :=
  ⟨fun h => by rw [← unmix_mix x hx, h, unmix_mix y hy], fun h => by rw [h]⟩
theorem twist_inj (x y : Nat) (hx : x < M) (hy : y < M) : twistN x = twistN y ↔ x = y :=
  ⟨fun h => by rw [← untwist_twist x hx, h, untwist_twist y hy], fun h => by rw [h]⟩
end Go.Proofs.YthbniikenenijaaDoor.mx
