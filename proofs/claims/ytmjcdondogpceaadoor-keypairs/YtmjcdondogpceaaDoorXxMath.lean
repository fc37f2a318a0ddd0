/-
  Plain arithmetic of words and of the digest: a word turned, a word folded, bytes as a number, the four sums behind whole blocks, what is left, and the digest of a list of bytes by a seed. Nothing here speaks of a program. Conditions stand in each theorem.
-/
import Derived.Laws.BitsAllLaws
import Derived.Lib.BitFns
namespace Go.Proofs.YtmjcdondogpceaaDoor.xx
def bit (x i : Nat) : Nat := x / 2 ^ i % 2
theorem bit_lt (x i : Nat) : bit x i < 2 := Nat.mod_lt _ (by decide)
theorem bit_test (x i : Nat) : bit x i = (x.testBit i).toNat := (Nat.toNat_testBit x i).symm
theorem bit_zero (x : Nat) : bit x 0 = x % 2 := by simp [bit]
theorem bit_succ (x i : Nat) : bit x (i + 1) = bit (x / 2) i := by
  unfold bit
  rw [Nat.div_div_eq_div_mul, Nat.pow_succ, Nat.mul_comm]

def ofBits : List Nat → Nat
  | [] => 0
  | b :: l => 2 * ofBits l + b
theorem ofBits_lt (l : List Nat) (h : ∀ b ∈ l, b < 2) : ofBits l < 2 ^ l.length := by
  induction l with
  | nil => simp [ofBits]
  | cons b l ih =>
    have h1 := ih fun c hc => h c (by simp [hc])
    have h2 := h b (by simp)
    simp only [ofBits, List.length_cons, Nat.pow_succ]
    omega
theorem ofBits_bits (n x : Nat) : ofBits ((List.range n).map (bit x)) = x % 2 ^ n := by
  induction n generalizing x with
  | zero => simp [ofBits, Nat.mod_one]
  | succ n ih =>
    rw [List.range_succ_eq_map, List.map_cons, List.map_map]
    have e : (bit x ∘ Nat.succ) = bit (x / 2) := funext fun i => bit_succ x i
    rw [e, ofBits, ih, bit_zero, Nat.pow_succ, Nat.mul_comm (2 ^ n) 2, Nat.mod_mul]
    omega

/-- x turned by u places (u below 64). -/
def turnN (x u : Nat) : Nat := x * 2 ^ u % 18446744073709551616 ||| x / 2 ^ (64 - u)
theorem test_high (x i : Nat) (hx : x < 18446744073709551616) (hi : 64 ≤ i) : x.testBit i = false :=
  Nat.testBit_lt_two_pow (Nat.lt_of_lt_of_le hx (show 2 ^ 64 ≤ 2 ^ i from Nat.pow_le_pow_right (by decide) hi))
theorem turn_test (x u i : Nat) (hx : x < 18446744073709551616) (hu : u < 64) (hi : i < 64) : (turnN x u).testBit i = x.testBit ((i + 64 - u) % 64) := by
  unfold turnN
  rw [Nat.testBit_or, show (18446744073709551616 : Nat) = 2 ^ 64 from rfl, Nat.testBit_mod_two_pow, Nat.testBit_mul_two_pow, Nat.testBit_div_two_pow]
  by_cases h : u ≤ i
  · rw [test_high x (i + (64 - u)) hx (by omega), show (i + 64 - u) % 64 = i - u from by omega]
    simp [hi, h]
  · rw [show (i + 64 - u) % 64 = i + (64 - u) from by omega]
    simp [h]
theorem turn_lt (x u : Nat) (hx : x < 18446744073709551616) : turnN x u < 18446744073709551616 := by
  unfold turnN
  refine Nat.or_lt_two_pow (n := 64) ?_ ?_
  · exact Nat.mod_lt _ (by decide)
  · exact Nat.lt_of_le_of_lt (Nat.div_le_self _ _) hx
theorem turn_bit (x u i : Nat) (hx : x < 18446744073709551616) (hu : u < 64) (hi : i < 64) : bit (turnN x u) i = bit x ((i + 64 - u) % 64) := by
  rw [bit_test, bit_test, turn_test x u i hx hu hi]
theorem turn_of (x u : Nat) (hx : x < 18446744073709551616) (hu : u < 64) : ofBits ((List.range 64).map fun i => bit x ((i + 64 - u) % 64)) = turnN x u := by
  have e : ((List.range 64).map fun i => bit x ((i + 64 - u) % 64)) = (List.range 64).map (bit (turnN x u)) := by
    refine List.map_congr_left fun i hi => ?_
    exact (turn_bit x u i hx hu (List.mem_range.mp hi)).symm
  rw [e, ofBits_bits]
  exact Nat.mod_eq_of_lt (turn_lt x u hx)
def M : Nat := 18446744073709551616
theorem M_pow : M = 2 ^ 64 := by decide
/-- x folded by k. -/
def fo (k x : Nat) : Nat := x ^^^ (x / 2 ^ k)
theorem fo_lt (k x : Nat) (h : x < M) : fo k x < M := by
  unfold fo
  rw [M_pow] at *
  exact Nat.xor_lt_two_pow h (Nat.lt_of_le_of_lt (Nat.div_le_self _ _) h)
theorem fo_test (k x i : Nat) : (fo k x).testBit i = (x.testBit i ^^ x.testBit (i + k)) := by
  unfold fo
  rw [Nat.testBit_xor, Nat.testBit_div_two_pow]
def foZ (x : Nat) (k : Int) : Nat := if 1 ≤ k ∧ k ≤ 63 then fo k.toNat x else x
theorem foZ_lt (x : Nat) (k : Int) (h : x < M) : foZ x k < M := by
  unfold foZ; split
  · exact fo_lt _ _ h
  · exact h
theorem div_two (x i : Nat) : x / 2 ^ i / 2 = x / 2 ^ (i + 1) := by
  rw [Nat.pow_succ, Nat.div_div_eq_div_mul]


theorem foZ_fo (x k : Nat) (h : 1 ≤ k ∧ k < 64) : foZ x (k : Int) = fo k x := by
  unfold foZ
  rw [if_pos (by omega)]
  rfl
theorem xor_lt (x y : Nat) (hx : x < M) (hy : y < M) : x ^^^ y < M := by
  rw [M_pow] at *
  exact Nat.xor_lt_two_pow hx hy

/-! the steps of the digest: each known by its equation alone (the kernel can't open it) -/
theorem rnd_ex : ∃ f : Nat → Nat → Nat, ∀ s x, f s x = turnN ((s + x * 14029467366897019727 % M) % M) 31 * 11400714785074694791 % M := ⟨fun _ _ => _, fun _ _ => rfl⟩
/-- a round of the sum s by x. -/
noncomputable def rnd : Nat → Nat → Nat := rnd_ex.choose
theorem rnd_eq (s x : Nat) : rnd s x = turnN ((s + x * 14029467366897019727 % M) % M) 31 * 11400714785074694791 % M := rnd_ex.choose_spec s x
theorem rnd_lt (s x : Nat) : rnd s x < M := by rw [rnd_eq]; exact Nat.mod_lt _ (by decide)
theorem mg_ex : ∃ f : Nat → Nat → Nat, ∀ h s, f h s = ((h ^^^ rnd 0 s) * 11400714785074694791 % M + 9650029242287828579) % M := ⟨fun _ _ => _, fun _ _ => rfl⟩
/-- a sum put to h. -/
noncomputable def mg : Nat → Nat → Nat := mg_ex.choose
theorem mg_eq (h s : Nat) : mg h s = ((h ^^^ rnd 0 s) * 11400714785074694791 % M + 9650029242287828579) % M := mg_ex.choose_spec h s
theorem mg_lt (h s : Nat) : mg h s < M := by rw [mg_eq]; exact Nat.mod_lt _ (by decide)
theorem s8_ex : ∃ f : Nat → Nat → Nat, ∀ h x, f h x = (turnN (h ^^^ rnd 0 x) 27 * 11400714785074694791 % M + 9650029242287828579) % M := ⟨fun _ _ => _, fun _ _ => rfl⟩
/-- eight bytes put to h. -/
noncomputable def s8 : Nat → Nat → Nat := s8_ex.choose
theorem s8_eq (h x : Nat) : s8 h x = (turnN (h ^^^ rnd 0 x) 27 * 11400714785074694791 % M + 9650029242287828579) % M := s8_ex.choose_spec h x
theorem s8_lt (h s : Nat) : s8 h s < M := by rw [s8_eq]; exact Nat.mod_lt _ (by decide)
theorem s4_ex : ∃ f : Nat → Nat → Nat, ∀ h x, f h x = (turnN (h ^^^ (x * 11400714785074694791 % M)) 23 * 14029467366897019727 % M + 1609587929392839161) % M := ⟨fun _ _ => _, fun _ _ => rfl⟩
/-- four bytes put to h. -/
noncomputable def s4 : Nat → Nat → Nat := s4_ex.choose
theorem s4_eq (h x : Nat) : s4 h x = (turnN (h ^^^ (x * 11400714785074694791 % M)) 23 * 14029467366897019727 % M + 1609587929392839161) % M := s4_ex.choose_spec h x
theorem s4_lt (h s : Nat) : s4 h s < M := by rw [s4_eq]; exact Nat.mod_lt _ (by decide)
theorem s1_ex : ∃ f : Nat → Nat → Nat, ∀ h x, f h x = turnN (h ^^^ (x * 2870177450012600261 % M)) 11 * 11400714785074694791 % M := ⟨fun _ _ => _, fun _ _ => rfl⟩
/-- a byte put to h. -/
noncomputable def s1 : Nat → Nat → Nat := s1_ex.choose
theorem s1_eq (h x : Nat) : s1 h x = turnN (h ^^^ (x * 2870177450012600261 % M)) 11 * 11400714785074694791 % M := s1_ex.choose_spec h x
theorem s1_lt (h s : Nat) : s1 h s < M := by rw [s1_eq]; exact Nat.mod_lt _ (by decide)
theorem fin_ex : ∃ f : Nat → Nat, ∀ h, f h = fo 32 (fo 29 (fo 33 h * 14029467366897019727 % M) * 1609587929392839161 % M) := ⟨fun _ => _, fun _ => rfl⟩
/-- h mixed for the last time. -/
noncomputable def fin : Nat → Nat := fin_ex.choose
theorem fin_eq (h : Nat) : fin h = fo 32 (fo 29 (fo 33 h * 14029467366897019727 % M) * 1609587929392839161 % M) := fin_ex.choose_spec h
theorem fin_lt (h : Nat) : fin h < M := by rw [fin_eq]; exact fo_lt _ _ (Nat.mod_lt _ (by decide))

/-! bytes as a number, the lowest first -/
def bytes (l : List Nat) : Prop := ∀ b ∈ l, b < 256
def num : List Nat → Nat
  | [] => 0
  | b :: l => b + 256 * num l
theorem num_lt (l : List Nat) (h : bytes l) : num l < 256 ^ l.length := by
  induction l with
  | nil => simp [num]
  | cons b l ih =>
    have h1 := ih fun c hc => h c (by simp [hc])
    have h2 := h b (by simp)
    simp only [num, List.length_cons, Nat.pow_succ]
    omega
theorem num_snoc (l : List Nat) (b : Nat) : num (l ++ [b]) = num l + b * 256 ^ l.length := by
  induction l with
  | nil => simp [num]
  | cons c l ih =>
    simp only [List.cons_append, num, ih, List.length_cons, Nat.pow_succ, Nat.mul_add]
    rw [Nat.mul_comm 256 (b * 256 ^ l.length), Nat.mul_assoc]
    omega
theorem bytes_get {l : List Nat} (h : bytes l) (k : Nat) : l.getD k 0 < 256 := by
  rw [List.getD_eq_getElem?_getD]
  by_cases hk : k < l.length
  · rw [List.getElem?_eq_getElem hk]; exact h _ (List.getElem_mem hk)
  · rw [List.getElem?_eq_none (by omega)]; decide
theorem bytes_take {l : List Nat} (h : bytes l) (k : Nat) : bytes (l.take k) := fun n hn => h n (List.mem_of_mem_take hn)
theorem bytes_drop {l : List Nat} (h : bytes l) (k : Nat) : bytes (l.drop k) := fun n hn => h n (List.mem_of_mem_drop hn)
theorem bytes_app {l c : List Nat} (h : bytes l) (h' : bytes c) : bytes (l ++ c) := fun n hn => (List.mem_append.mp hn).elim (h n) (h' n)
theorem take_snoc (l : List Nat) (k : Nat) (hk : k < l.length) : l.take (k + 1) = l.take k ++ [l.getD k 0] := by
  rw [List.take_succ_eq_append_getElem hk]
  simp [hk]
theorem num_take (l : List Nat) (k : Nat) (hk : k < l.length) (h : bytes l) : num (l.take (k + 1)) = num (l.take k) ||| l.getD k 0 * 2 ^ (8 * k) ∧ num (l.take k) < 2 ^ (8 * k) := by
  have h1 := num_lt (l.take k) (bytes_take h k)
  rw [List.length_take, Nat.min_eq_left (by omega)] at h1
  have e : (256 : Nat) ^ k = 2 ^ (8 * k) := by rw [Nat.pow_mul]
  rw [e] at h1
  refine ⟨?_, h1⟩
  rw [take_snoc l k hk, num_snoc, List.length_take, Nat.min_eq_left (by omega), e, Nat.or_comm, Nat.mul_comm, ← Nat.two_pow_add_eq_or_of_lt h1]
  omega
theorem num_word (l : List Nat) (h : bytes l) (hl : l.length ≤ 8) : num l < M := by
  refine Nat.lt_of_lt_of_le (num_lt l h) ?_
  have : (256 : Nat) ^ l.length ≤ 256 ^ 8 := Nat.pow_le_pow_right (by decide) hl
  exact this
theorem num_drop (l : List Nat) (k : Nat) (hk : k < l.length) : num (l.drop k) = l.getD k 0 + 256 * num (l.drop (k + 1)) := by
  rw [List.drop_eq_getElem_cons hk, num]
  simp [hk]
theorem num_drop_lt (l : List Nat) (h : bytes l) (hl : l.length ≤ 8) (k : Nat) (hk : 0 < k) : num (l.drop k) < 72057594037927936 := by
  refine Nat.lt_of_lt_of_le (num_lt _ (bytes_drop h k)) ?_
  rw [List.length_drop]
  have : (256 : Nat) ^ (l.length - k) ≤ 256 ^ 7 := Nat.pow_le_pow_right (by decide) (by omega)
  exact this

/-! the four sums -/
/-- one block of 32 bytes put to the sums. -/
noncomputable def blk (s : Nat → Nat) (l : List Nat) : Nat → Nat := fun i => rnd (s i) (num ((l.drop (8 * i)).take 8))
noncomputable def run (s : Nat → Nat) (l : List Nat) : Nat → Nat := if l.length < 32 then s else run (blk s (l.take 32)) (l.drop 32)
termination_by l.length
decreasing_by rw [List.length_drop]; omega
theorem run_small (s : Nat → Nat) (l : List Nat) (h : l.length < 32) : run s l = s := by rw [run]; simp [h]
theorem run_big (s : Nat → Nat) (l : List Nat) (h : 32 ≤ l.length) : run s l = run (blk s (l.take 32)) (l.drop 32) := by
  rw [run]; simp [show ¬ l.length < 32 by omega]
/-- what is left behind whole blocks. -/
def left (l : List Nat) : List Nat := l.drop (l.length / 32 * 32)
theorem left_len (l : List Nat) : (left l).length = l.length % 32 := by unfold left; rw [List.length_drop]; omega
theorem left_small (l : List Nat) (h : l.length < 32) : left l = l := by unfold left; rw [Nat.div_eq_of_lt h]; simp
theorem left_big (l : List Nat) (h : 32 ≤ l.length) : left (l.drop 32) = left l := by
  unfold left
  rw [List.drop_drop, List.length_drop, show 32 + (l.length - 32) / 32 * 32 = l.length / 32 * 32 from by omega]
theorem left_bytes {l : List Nat} (h : bytes l) : bytes (left l) := bytes_drop h _
theorem left_app (l c : List Nat) : left (l ++ c) = left (left l ++ c) := by
  have e : left l ++ c = (l ++ c).drop (l.length / 32 * 32) := by
    unfold left
    rw [List.drop_append_of_le_length (by omega)]
  rw [e]
  unfold left
  rw [List.drop_drop, List.length_drop, List.length_append]
  congr 1
  omega
theorem run_app (c : List Nat) : ∀ (n : Nat) (s : Nat → Nat) (l : List Nat), l.length ≤ n → run s (l ++ c) = run (run s l) (left l ++ c) := by
  intro n
  induction n with
  | zero =>
    intro s l hl
    rw [run_small s l (by omega), left_small l (by omega)]
  | succ n ih =>
    intro s l hl
    by_cases h : l.length < 32
    · rw [run_small s l h, left_small l h]
    · rw [run_big s (l ++ c) (by rw [List.length_append]; omega), List.take_append_of_le_length (by omega), List.drop_append_of_le_length (by omega), ih _ _ (by rw [List.length_drop]; omega), left_big l (by omega), ← run_big s l (by omega)]
theorem blk_lt (s : Nat → Nat) (l : List Nat) (i : Nat) : blk s l i < M := rnd_lt _ _
theorem run_lt : ∀ (n : Nat) (s : Nat → Nat) (l : List Nat), l.length ≤ n → (∀ i, s i < M) → ∀ i, run s l i < M := by
  intro n
  induction n with
  | zero => intro s l hl hs i; rw [run_small s l (by omega)]; exact hs i
  | succ n ih =>
    intro s l hl hs i
    by_cases h : l.length < 32
    · rw [run_small s l h]; exact hs i
    · rw [run_big s l (by omega)]
      exact ih _ _ (by rw [List.length_drop]; omega) (fun i => blk_lt s _ i) i
theorem third_ex : ∃ f : Nat → Nat, ∀ seed, f seed = (seed + 7046029288634856825) % M := ⟨fun _ => _, fun _ => rfl⟩
noncomputable def low1 : Nat → Nat := third_ex.choose
theorem low1_eq (seed : Nat) : low1 seed = (seed + 7046029288634856825) % M := third_ex.choose_spec seed
theorem first_ex : ∃ f : Nat → Nat, ∀ seed, f seed = ((seed + 11400714785074694791) % M + 14029467366897019727) % M := ⟨fun _ => _, fun _ => rfl⟩
noncomputable def up12 : Nat → Nat := first_ex.choose
theorem up12_eq (seed : Nat) : up12 seed = ((seed + 11400714785074694791) % M + 14029467366897019727) % M := first_ex.choose_spec seed
theorem second_ex : ∃ f : Nat → Nat, ∀ seed, f seed = (seed + 14029467366897019727) % M := ⟨fun _ => _, fun _ => rfl⟩
noncomputable def up2 : Nat → Nat := second_ex.choose
theorem up2_eq (seed : Nat) : up2 seed = (seed + 14029467366897019727) % M := second_ex.choose_spec seed
/-- the four sums ahead of all bytes. -/
noncomputable def seedS (seed : Nat) : Nat → Nat
  | 0 => up12 seed
  | 1 => up2 seed
  | 2 => seed
  | _ => low1 seed
theorem up12_lt (seed : Nat) : up12 seed < M := by rw [up12_eq]; exact Nat.mod_lt _ (by decide)
theorem up2_lt (seed : Nat) : up2 seed < M := by rw [up2_eq]; exact Nat.mod_lt _ (by decide)
theorem low1_lt (seed : Nat) : low1 seed < M := by rw [low1_eq]; exact Nat.mod_lt _ (by decide)
theorem seedS_lt (seed : Nat) (h : seed < M) (i : Nat) : seedS seed i < M := by
  match i with
  | 0 => exact up12_lt _
  | 1 => exact up2_lt _
  | 2 => exact h
  | _ + 3 => exact low1_lt _
/-- the sums turned and added. -/
def tg (s : Nat → Nat) : Nat := (((turnN (s 0) 1 + turnN (s 1) 7) % M + turnN (s 2) 12) % M + turnN (s 3) 18) % M
noncomputable def mgs (s : Nat → Nat) (h : Nat) : Nat := mg (mg (mg (mg h (s 0)) (s 1)) (s 2)) (s 3)
theorem tg_lt (s : Nat → Nat) : tg s < M := Nat.mod_lt _ (by decide)
/-! the bytes left -/
noncomputable def tl (h : Nat) (l : List Nat) : Nat := l.foldl s1 h
theorem tl_step (h : Nat) (l : List Nat) (k : Nat) (hk : k < l.length) : tl h (l.drop k) = tl (s1 h (l.getD k 0)) (l.drop (k + 1)) := by
  unfold tl
  rw [List.drop_eq_getElem_cons hk, List.foldl_cons]
  simp [hk]
theorem tl_nil (h : Nat) : tl h [] = h := rfl
/-- .. where less than eight are left. -/
noncomputable def few (h : Nat) (l : List Nat) : Nat := if l.length < 4 then tl h l else tl (s4 h (num (l.take 4))) (l.drop 4)
noncomputable def rest (h : Nat) (l : List Nat) : Nat := if l.length < 8 then few h l else rest (s8 h (num (l.take 8))) (l.drop 8)
termination_by l.length
decreasing_by rw [List.length_drop]; omega
theorem rest_small (h : Nat) (l : List Nat) (hl : l.length < 8) : rest h l = few h l := by rw [rest]; simp [hl]
theorem rest_big (h : Nat) (l : List Nat) (hl : 8 ≤ l.length) : rest h l = rest (s8 h (num (l.take 8))) (l.drop 8) := by
  rw [rest]; simp [show ¬ l.length < 8 by omega]
theorem tl_lt (h : Nat) (l : List Nat) (hh : h < M) : tl h l < M := by
  unfold tl
  induction l generalizing h with
  | nil => exact hh
  | cons b l ih => exact ih _ (s1_lt _ _)
theorem few_lt (h : Nat) (l : List Nat) (hh : h < M) : few h l < M := by
  unfold few; split
  · exact tl_lt _ _ hh
  · exact tl_lt _ _ (s4_lt _ _)
theorem rest_lt : ∀ (n h : Nat) (l : List Nat), l.length ≤ n → h < M → rest h l < M := by
  intro n
  induction n with
  | zero => intro h l hl hh; rw [rest_small h l (by omega)]; exact few_lt _ _ hh
  | succ n ih =>
    intro h l hl hh
    by_cases h8 : l.length < 8
    · rw [rest_small h l h8]; exact few_lt _ _ hh
    · rw [rest_big h l (by omega)]
      exact ih _ _ (by rw [List.length_drop]; omega) (s8_lt _ _)
/-- what the whole blocks leave. -/
noncomputable def start (seed : Nat) (l : List Nat) : Nat := if l.length < 32 then (seed + 2870177450012600261) % M else mgs (run (seedS seed) l) (tg (run (seedS seed) l))
theorem start_lt (seed : Nat) (l : List Nat) : start seed l < M := by
  unfold start; split
  · exact Nat.mod_lt _ (by decide)
  · exact mg_lt _ _
theorem xx_ex : ∃ f : List Nat → Nat → Nat, ∀ l seed, f l seed = fin (rest ((start seed l + l.length) % M) (left l)) := ⟨fun _ _ => _, fun _ _ => rfl⟩
/-- the digest of l by seed. -/
noncomputable def xx : List Nat → Nat → Nat := xx_ex.choose
theorem xx_eq (l : List Nat) (seed : Nat) : xx l seed = fin (rest ((start seed l + l.length) % M) (left l)) := xx_ex.choose_spec l seed
theorem xx_lt (l : List Nat) (seed : Nat) : xx l seed < M := by rw [xx_eq]; exact fin_lt _
theorem xx_abc : xx [97, 98, 99] 0 = 4952883123889572249 := by
  rw [xx_eq, fin_eq, left_small _ (by decide), rest_small _ _ (by decide), few, if_pos (by decide), start, if_pos (by decide)]
  simp only [tl, List.foldl_cons, List.foldl_nil, s1_eq]
  decide +kernel
end Go.Proofs.YtmjcdondogpceaaDoor.xx
