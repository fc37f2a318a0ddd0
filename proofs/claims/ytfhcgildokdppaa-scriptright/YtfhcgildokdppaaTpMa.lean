/-
  Of no function: bytes that are read as numbers, by the document's words (a place, what the next byte is, what the next number is), and the bytes of a number; what was put is read. Conditions stand in each theorem.
-/
import Derived.Laws.BitsAllLaws
import Derived.Lib.BitFns
import Derived.Lib.Hide
namespace Go.Proofs.Ytfhcgildokdppaa.tp
/-- each is a byte. -/
def Bs (l : List Nat) : Prop := ∀ b ∈ l, b < 256
/-- the byte at a place, 0 where there is none. -/
def bt (bs : List Nat) (a : Nat) : Nat := bs.getD a 0
theorem bt_lt {bs : List Nat} (h : Bs bs) (a : Nat) : bt bs a < 256 := by
  unfold bt
  rw [List.getD_eq_getElem?_getD]
  by_cases ha : a < bs.length
  · rw [List.getElem?_eq_getElem ha]; exact h _ (List.getElem_mem ha)
  · rw [List.getElem?_eq_none (by omega)]; decide
theorem bt_in {bs : List Nat} {a : Nat} (h : a < bs.length) : bt bs a = bs[a] := by simp [bt, h]
theorem bt_out {bs : List Nat} {a : Nat} (h : bs.length ≤ a) : bt bs a = 0 := by simp [bt, h]
/-- the place behind it. -/
def nx (bs : List Nat) (a : Nat) : Nat := if a < bs.length then a + 1 else a
theorem nx_le {bs : List Nat} {a : Nat} (h : a ≤ bs.length) : nx bs a ≤ bs.length := by unfold nx; split <;> omega
theorem nx_in {bs : List Nat} {a : Nat} (h : a < bs.length) : nx bs a = a + 1 := by unfold nx; rw [if_pos h]
theorem nx_out {bs : List Nat} {a : Nat} (h : bs.length ≤ a) : nx bs a = a := by unfold nx; rw [if_neg (by omega)]
/-- the place behind k of them, and the number of k of them. -/
def ad (bs : List Nat) (a : Nat) : Nat → Nat
  | 0 => a
  | k + 1 => nx bs (ad bs a k)
def nm (bs : List Nat) (a : Nat) : Nat → Nat
  | 0 => 0
  | k + 1 => 256 * nm bs a k + bt bs (ad bs a k)
theorem ad_le {bs : List Nat} {a : Nat} (h : a ≤ bs.length) (k : Nat) : ad bs a k ≤ bs.length := by
  induction k with
  | zero => exact h
  | succ k ih => exact nx_le ih
theorem ad_in {bs : List Nat} {a : Nat} (k : Nat) (h : a + k ≤ bs.length) : ad bs a k = a + k := by
  induction k with
  | zero => rfl
  | succ k ih =>
    show nx bs (ad bs a k) = _
    rw [ih (by omega), nx_in (by omega)]
    omega
theorem nm_lt {bs : List Nat} (h : Bs bs) (a k : Nat) : nm bs a k < 256 ^ k := by
  induction k with
  | zero => show (0 : Nat) < 1; decide
  | succ k ih =>
    show 256 * nm bs a k + bt bs (ad bs a k) < 256 ^ (k + 1)
    have := bt_lt h (ad bs a k)
    rw [Nat.pow_succ]
    omega
/-- the number at a place, and the place behind it. -/
def iv (bs : List Nat) (a : Nat) : Int :=
  if bt bs a < 200 then (bt bs a : Int) else if bt bs a < 255 then (((bt bs a - 200) * 256 + 200 + bt bs (nx bs a) : Nat) : Int) else IntKind.i64.wrap (nm bs (nx bs a) 8 : Nat)
def ia (bs : List Nat) (a : Nat) : Nat :=
  if bt bs a < 200 then nx bs a else if bt bs a < 255 then nx bs (nx bs a) else ad bs (nx bs a) 8
theorem ia_le {bs : List Nat} {a : Nat} (h : a ≤ bs.length) : ia bs a ≤ bs.length := by
  unfold ia
  split
  · exact nx_le h
  · split
    · exact nx_le (nx_le h)
    · exact ad_le (nx_le h) 8
theorem iv_out {bs : List Nat} {a : Nat} (h : bs.length ≤ a) : iv bs a = 0 := by unfold iv; rw [bt_out h]; rfl
theorem ia_out {bs : List Nat} {a : Nat} (h : bs.length ≤ a) : ia bs a = a := by unfold ia; rw [bt_out h, nx_out h]; rfl
/-- .. below n. -/
def bv (bs : List Nat) (a : Nat) (n : Int) : Int := if n < 1 then 0 else (bt bs a : Int) % n
def ba (bs : List Nat) (a : Nat) (n : Int) : Nat := if n < 1 then a else nx bs a
theorem ba_le {bs : List Nat} {a : Nat} (h : a ≤ bs.length) (n : Int) : ba bs a n ≤ bs.length := by
  unfold ba
  split
  · exact h
  · exact nx_le h
/-- the 8 bytes of a word, the highest first. -/
def be8 (u : Nat) : List Nat := (List.range 8).map fun i => u / 256 ^ (7 - i) % 256
theorem be8_len (u : Nat) : (be8 u).length = 8 := by simp [be8]
theorem be8_get (u i : Nat) (h : i < 8) : (be8 u)[i]? = some (u / 256 ^ (7 - i) % 256) := by simp [be8, h]
theorem be8_bs (u : Nat) : Bs (be8 u) := by
  intro b hb
  obtain ⟨i, _, rfl⟩ := List.mem_map.1 hb
  exact Nat.mod_lt _ (by decide)
theorem be8_take (u k : Nat) (h : k < 8) : (be8 u).take k ++ [u / 256 ^ (7 - k) % 256] = (be8 u).take (k + 1) := by
  have hl : k < (be8 u).length := by rw [be8_len]; exact h
  have e := be8_get u k h
  rw [List.getElem?_eq_getElem hl] at e
  rw [List.take_succ_eq_append_getElem hl, Option.some.inj e]
theorem be8_drop (u k : Nat) (h : k < 8) : (u / 256 ^ k % 256) :: (be8 u).drop (8 - k) = (be8 u).drop (8 - (k + 1)) := by
  have hl : 7 - k < (be8 u).length := by rw [be8_len]; omega
  have e := be8_get u (7 - k) (by omega)
  rw [List.getElem?_eq_getElem hl] at e
  rw [show 8 - (k + 1) = 7 - k by omega, List.drop_eq_getElem_cons hl, Option.some.inj e, show 7 - (7 - k) = k by omega, show 7 - k + 1 = 8 - k by omega]
/-- the word of an int. -/
def wd (n : Int) : Nat := (n % 18446744073709551616).toNat
theorem wd_lt (n : Int) : wd n < 18446744073709551616 := by unfold wd; omega
theorem wd_wrap (n : Int) (h : -9223372036854775808 ≤ n) (h' : n < 9223372036854775808) : IntKind.i64.wrap (wd n : Nat) = n := by
  rw [IntKind.wrap_i64]
  unfold wd
  omega
/-- the byte of a word at a place. -/
theorem wd_byte (n : Int) (p : Nat) (h : p < 8) : (n / (256 ^ p : Nat)) % 256 = ((wd n / 256 ^ p % 256 : Nat) : Int) := by
  have e : ((wd n : Nat) : Int) = n % 18446744073709551616 := by unfold wd; omega
  rw [Int.natCast_emod, Int.natCast_ediv, e]
  rcases (show p = 0 ∨ p = 1 ∨ p = 2 ∨ p = 3 ∨ p = 4 ∨ p = 5 ∨ p = 6 ∨ p = 7 by omega) with rfl | rfl | rfl | rfl | rfl | rfl | rfl | rfl <;> simp only [show (256 : Nat) ^ 0 = 1 from rfl, show (256 : Nat) ^ 1 = 256 from rfl, show (256 : Nat) ^ 2 = 65536 from rfl, show (256 : Nat) ^ 3 = 16777216 from rfl, show (256 : Nat) ^ 4 = 4294967296 from rfl, show (256 : Nat) ^ 5 = 1099511627776 from rfl, show (256 : Nat) ^ 6 = 281474976710656 from rfl, show (256 : Nat) ^ 7 = 72057594037927936 from rfl] <;> omega
/-- a number's bytes. -/
def en (n : Int) : List Nat :=
  if 0 ≤ n ∧ n < 200 then [n.toNat] else if 200 ≤ n ∧ n < 14280 then [200 + (n.toNat - 200) / 256, (n.toNat - 200) % 256] else 255 :: be8 (wd n)
theorem en_bs (n : Int) : Bs (en n) := by
  unfold en
  split
  · intro b hb; simp at hb; omega
  · split
    · intro b hb; simp at hb; omega
    · intro b hb
      rcases List.mem_cons.1 hb with rfl | hb
      · decide
      · exact be8_bs _ b hb
theorem en_len (n : Int) : 1 ≤ (en n).length ∧ (en n).length ≤ 9 := by
  unfold en
  split
  · simp
  · split
    · simp
    · simp [be8_len]
def ens (ls : List Int) : List Nat := ls.flatMap en
theorem ens_take (ls : List Int) (k : Nat) (h : k < ls.length) : ens (ls.take k) ++ en ls[k] = ens (ls.take (k + 1)) := by
  unfold ens
  rw [List.take_succ_eq_append_getElem h, List.flatMap_append, List.flatMap_singleton]
theorem ens_len (ls : List Int) : (ens ls).length ≤ 9 * ls.length := by
  induction ls with
  | nil => simp [ens]
  | cons n r ih =>
    have := (en_len n).2
    simp only [ens, List.flatMap_cons, List.length_append, List.length_cons] at *
    omega
theorem ens_bs (ls : List Int) : Bs (ens ls) := by
  intro b hb
  obtain ⟨n, _, h⟩ := List.mem_flatMap.1 hb
  exact en_bs n b h
theorem bs_app {l c : List Nat} (h : Bs l) (h' : Bs c) : Bs (l ++ c) := fun b hb => (List.mem_append.1 hb).elim (h b) (h' b)
theorem bt_mid (pre c post : List Nat) (k : Nat) (h : k < c.length) : bt (pre ++ c ++ post) (pre.length + k) = c[k] := by
  unfold bt
  rw [List.append_assoc, List.getD_eq_getElem?_getD, List.getElem?_append_right (by omega), show pre.length + k - pre.length = k by omega, List.getElem?_append_left h, List.getElem?_eq_getElem h]
  rfl
/-- the number of a word's bytes is it. -/
theorem nm_be8 (pre post : List Nat) (u : Nat) (hu : u < 18446744073709551616) (k : Nat) (hk : k ≤ 8) : nm (pre ++ be8 u ++ post) pre.length k = u / 256 ^ (8 - k) := by
  induction k with
  | zero => show 0 = u / 256 ^ 8; rw [Nat.div_eq_of_lt (by simpa using hu)]
  | succ k ih =>
    show 256 * nm _ _ k + bt _ (ad _ _ k) = _
    have hl : (pre ++ be8 u ++ post).length = pre.length + 8 + post.length := by simp [be8_len]; omega
    have e := be8_get u k (by omega)
    rw [List.getElem?_eq_getElem (by rw [be8_len]; omega)] at e
    rw [ih (by omega), ad_in k (by omega), bt_mid _ _ _ k (by rw [be8_len]; omega), Option.some.inj e]
    have e1 : 8 - k = (7 - k) + 1 := by omega
    have e2 : 8 - (k + 1) = 7 - k := by omega
    rw [e1, e2, Nat.pow_succ, ← Nat.div_div_eq_div_mul]
    have := Nat.mod_add_div (u / 256 ^ (7 - k)) 256
    omega
/-- what was put is read. -/
theorem iv_put (pre post : List Nat) (n : Int) (h : -9223372036854775808 ≤ n) (h' : n < 9223372036854775808) : iv (pre ++ en n ++ post) pre.length = n ∧ ia (pre ++ en n ++ post) pre.length = pre.length + (en n).length := by
  by_cases h1 : 0 ≤ n ∧ n < 200
  · have e : en n = [n.toNat] := by unfold en; rw [if_pos h1]
    have b := bt_mid pre (en n) post 0 (by rw [e]; simp)
    have l : pre.length < (pre ++ en n ++ post).length := by rw [e]; simp
    simp only [e, List.getElem_cons_zero, Nat.add_zero] at b
    rw [e] at l ⊢
    unfold iv ia
    rw [b, if_pos (by omega), if_pos (by omega), nx_in l]
    simp
    omega
  · by_cases h2 : 200 ≤ n ∧ n < 14280
    · have e : en n = [200 + (n.toNat - 200) / 256, (n.toNat - 200) % 256] := by unfold en; rw [if_neg h1, if_pos h2]
      have b := bt_mid pre (en n) post 0 (by rw [e]; simp)
      have b2 := bt_mid pre (en n) post 1 (by rw [e]; simp)
      have l : pre.length + 1 < (pre ++ en n ++ post).length := by rw [e]; simp
      simp only [e, List.getElem_cons_zero, List.getElem_cons_succ, Nat.add_zero] at b b2
      rw [e] at l ⊢
      unfold iv ia
      rw [b, if_neg (by omega), if_pos (by omega), if_neg (by omega), if_pos (by omega), nx_in (by omega), b2, nx_in l]
      simp
      omega
    · have e : en n = 255 :: be8 (wd n) := by unfold en; rw [if_neg h1, if_neg h2]
      have b := bt_mid pre (en n) post 0 (by rw [e]; simp)
      have l : pre.length + 8 < (pre ++ en n ++ post).length := by rw [e]; simp [be8_len]; omega
      simp only [e, List.getElem_cons_zero, Nat.add_zero] at b
      rw [e] at l ⊢
      have m := nm_be8 (pre ++ [255]) post (wd n) (wd_lt n) 8 (Nat.le_refl _)
      have e3 : pre ++ [255] ++ be8 (wd n) ++ post = pre ++ 255 :: be8 (wd n) ++ post := by simp
      have e4 : (pre ++ [255]).length = pre.length + 1 := by simp
      rw [e3, e4] at m
      unfold iv ia
      rw [b, if_neg (by omega), if_neg (by omega), if_neg (by omega), if_neg (by omega), nx_in (by omega), m, ad_in 8 (by omega)]
      refine ⟨?_, by simp [be8_len]⟩
      rw [show wd n / 256 ^ (8 - 8) = wd n by simp]
      exact wd_wrap n h h'
/-- the step of the program's number: shifted by 8 places, and a byte. -/
theorem or_step (x b : Nat) (hb : b < 256) : bits .or .i64 (IntKind.i64.wrap (IntKind.i64.wrap (x : Int) * 256)) (b : Int) = IntKind.i64.wrap ((256 * x + b : Nat) : Int) := by
  show IntKind.i64.wrap ((BitVec.ofInt 64 _ ||| BitVec.ofInt 64 (b : Int)).toNat : Int) = _
  have e1 : (BitVec.ofInt 64 (IntKind.i64.wrap (IntKind.i64.wrap (x : Int) * 256))).toNat = 256 * x % 18446744073709551616 := by
    rw [BitVec.toNat_ofInt, IntKind.wrap_i64, IntKind.wrap_i64]
    omega
  have e2 : (BitVec.ofInt 64 (b : Int)).toNat = b := by rw [BitVec.toNat_ofInt]; omega
  rw [BitVec.toNat_or, e1, e2, show 256 * x % 18446744073709551616 ||| b = 256 * x % 18446744073709551616 + b from by
    have hx : 256 * x % 18446744073709551616 = 2 ^ 8 * (x % 72057594037927936) := by omega
    rw [hx, ← Nat.two_pow_add_eq_or_of_lt (by simpa using hb)]]
  rw [IntKind.wrap_i64, IntKind.wrap_i64]
  omega
end Go.Proofs.Ytfhcgildokdppaa.tp
