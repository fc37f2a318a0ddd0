/-
  Of no function: a key's places ('plN'), rows of bytes as rows of bits ('bt', 'sb', 'ub'), how many bits are 1 ('fullB'), a door as it lies in memory ('Dr').
-/
import Derived.Test.YtnhpcjiieagjnaaDoorMxWalks
import Derived.Test.YtnhpcjiieagjnaaDoorWdWord
import Derived.Test.YtnhpcjiieagjnaaDoorDrBase
namespace Go.Proofs.YtnhpcjiieagjnaaDoor.dr
open Go.RowKit
/-- a word mixed, a word twisted: known by their equations alone. -/
theorem mix_ex : ∃ f : Nat → Nat, ∀ x, f x = mx.mixN x := ⟨_, fun _ => rfl⟩
noncomputable def mixF : Nat → Nat := mix_ex.choose
theorem mixF_eq (x : Nat) : mixF x = mx.mixN x := mix_ex.choose_spec x
theorem mixF_lt (x : Nat) : mixF x < 18446744073709551616 := by rw [mixF_eq]; exact mx.mixN_lt x
theorem tw_ex : ∃ f : Nat → Nat, ∀ x, f x = mx.twistN x := ⟨_, fun _ => rfl⟩
noncomputable def twF : Nat → Nat := tw_ex.choose
theorem twF_eq (x : Nat) : twF x = mx.twistN x := tw_ex.choose_spec x
theorem twF_lt (x : Nat) : twF x < 18446744073709551616 := by rw [twF_eq]; exact mx.twistN_lt x
/-- a twist, its lowest bit made 1. -/
def odd (x : Nat) : Nat := if x % 2 = 0 then x + 1 else x
theorem odd_lt (x : Nat) (h : x < 18446744073709551616) : odd x < 18446744073709551616 := by unfold odd; split <;> omega
theorem odd_or (x : Nat) : x ||| 1 = odd x := by
  unfold odd
  refine Nat.eq_of_testBit_eq fun i => ?_
  rw [Nat.testBit_or]
  cases i with
  | zero => split <;> simp [Nat.testBit_zero] <;> omega
  | succ i =>
    have h1 : Nat.testBit 1 (i + 1) = false := by simp [Nat.testBit_succ]
    rw [h1, Bool.or_false]
    split
    · rw [Nat.testBit_succ, Nat.testBit_succ, show (x + 1) / 2 = x / 2 by omega]
    · rfl
/-- what is summed up to the place i. -/
theorem sm_ex : ∃ f : Nat → Nat → Nat → Nat, ∀ t h i, f t h i = (mixF (h ^^^ t) + i * odd (twF (h ^^^ t))) % 18446744073709551616 := ⟨_, fun _ _ _ => rfl⟩
noncomputable def smN : Nat → Nat → Nat → Nat := sm_ex.choose
theorem smN_eq (t h i : Nat) : smN t h i = (mixF (h ^^^ t) + i * odd (twF (h ^^^ t))) % 18446744073709551616 := sm_ex.choose_spec t h i
theorem smN_lt (t h i : Nat) : smN t h i < 18446744073709551616 := by rw [smN_eq]; exact Nat.mod_lt _ (by decide)
theorem smN_zero (t h : Nat) : smN t h 0 = mixF (h ^^^ t) := by rw [smN_eq, Nat.zero_mul, Nat.add_zero, Nat.mod_eq_of_lt (mixF_lt _)]
theorem smN_succ (t h i : Nat) : smN t h (i + 1) = (smN t h i + odd (twF (h ^^^ t))) % 18446744073709551616 := by
  rw [smN_eq, smN_eq, Nat.mod_add_mod, Nat.succ_mul, Nat.add_assoc]
/-- a key's places, of n bits, t the bits that are turned. -/
theorem pl_ex : ∃ f : Nat → Nat → Nat → Nat → Nat, ∀ t n h i, f t n h i = smN t h i % n := ⟨_, fun _ _ _ _ => rfl⟩
noncomputable def plN : Nat → Nat → Nat → Nat → Nat := pl_ex.choose
theorem plN_eq (t n h i : Nat) : plN t n h i = smN t h i % n := pl_ex.choose_spec t n h i
theorem plN_lt (t n h i : Nat) (hn : 0 < n) : plN t n h i < n := by rw [plN_eq]; exact Nat.mod_lt _ hn
theorem xor_lt (x y : Nat) (hx : x < 18446744073709551616) (hy : y < 18446744073709551616) : x ^^^ y < 18446744073709551616 := Nat.xor_lt_two_pow (n := 64) hx hy
/-- the bit at a place of a row of bytes. -/
def bt (bs : List Nat) (i : Nat) : Nat := wd.bit (ct bs (i / 8)) (i % 8)
theorem bt_lt (bs : List Nat) (i : Nat) : bt bs i < 2 := wd.bit_lt _ _
/-- that bit made 1. -/
def sb (bs : List Nat) (i : Nat) : List Nat := bs.set (i / 8) (ct bs (i / 8) ||| 2 ^ (i % 8))
theorem sb_len (bs : List Nat) (i : Nat) : (sb bs i).length = bs.length := by simp [sb]
theorem bit_or (x i j : Nat) : wd.bit (x ||| 2 ^ i) j = if j = i then 1 else wd.bit x j := by
  rw [wd.bit_test, wd.bit_test, Nat.testBit_or, Nat.testBit_two_pow]
  by_cases h : j = i
  · subst h; simp
  · have : ¬ i = j := fun e => h e.symm
    simp [h, this]
theorem ct_set' (cs : List Nat) (i x : Nat) (hi : i < cs.length) (j : Nat) : ct (cs.set i x) j = if j = i then x else ct cs j := by
  by_cases hj : j = i
  · subst hj; simp [ct, hi]
  · simp [ct, hj, List.getElem?_set_ne (Ne.symm hj)]
theorem bt_sb (bs : List Nat) (i : Nat) (h : i < 8 * bs.length) (j : Nat) : bt (sb bs i) j = if j = i then 1 else bt bs j := by
  unfold bt sb
  rw [ct_set' bs (i / 8) _ (by omega)]
  by_cases e : j / 8 = i / 8
  · rw [if_pos e, bit_or]
    by_cases e2 : j % 8 = i % 8
    · rw [if_pos e2, if_pos (by omega)]
    · rw [if_neg e2, if_neg (by omega), e]
  · rw [if_neg e, if_neg (by omega)]
theorem or_lt (x i : Nat) (hx : x < 256) (hi : i < 8) : x ||| 2 ^ i < 256 :=
  Nat.or_lt_two_pow (n := 8) hx (Nat.pow_lt_pow_right (by decide) hi)
theorem sb_low (bs : List Nat) (i : Nat) (h : ∀ k, ct bs k < 256) (k : Nat) : ct (sb bs i) k < 256 := by
  unfold sb
  by_cases hi : i / 8 < bs.length
  · rw [ct_set' bs _ _ hi]
    split
    · exact or_lt _ _ (h _) (by omega)
    · exact h k
  · rw [List.set_eq_of_length_le (by omega)]; exact h k
/-- all bits of a row of bytes. -/
def ub (bs : List Nat) : List Nat := (List.range (8 * bs.length)).map (bt bs)
theorem ub_len (bs : List Nat) : (ub bs).length = 8 * bs.length := by simp [ub]
theorem ct_ub (bs : List Nat) (i : Nat) (h : i < 8 * bs.length) : ct (ub bs) i = bt bs i := by simp [ct, ub, h]
theorem ub_sb (bs : List Nat) (i : Nat) (h : i < 8 * bs.length) : ub (sb bs i) = (ub bs).set i 1 := by
  refine List.ext_getElem (by rw [List.length_set, ub_len, ub_len, sb_len]) fun j h1 h2 => ?_
  rw [ub_len, sb_len] at h1
  rw [List.getElem_set]
  simp only [ub, List.getElem_map, List.getElem_range]
  rw [bt_sb bs i h]
  by_cases e : j = i
  · rw [if_pos e, if_pos e.symm]
  · rw [if_neg e, if_neg (Ne.symm e)]
theorem bt_zeros (m i : Nat) : bt (List.replicate m 0) i = 0 := by
  have : ct (List.replicate m 0) (i / 8) = 0 := by by_cases h : i / 8 < m <;> simp [ct, h]
  unfold bt
  rw [this]
  simp [wd.bit]
theorem ub_zeros (m : Nat) : ub (List.replicate m 0) = List.replicate (8 * m) 0 := by
  refine List.ext_getElem (by simp [ub_len]) fun j h1 h2 => ?_
  simp only [ub, List.getElem_map, List.getElem_range, List.getElem_replicate]
  exact bt_zeros m j
/-- how many bits are 1 in a row of bytes. -/
def fullB (bs : List Nat) : Nat := (bs.map (wd.popN 64)).sum
theorem pop_zero : ∀ n, wd.popN n 0 = 0
  | 0 => rfl
  | n + 1 => by rw [wd.popN, pop_zero n]
theorem pop_more (n m b : Nat) (h : b < 2 ^ n) : wd.popN (n + m) b = ((List.range n).map (wd.bit b)).sum := by
  rw [wd.popN_add, Nat.div_eq_of_lt h, pop_zero, Nat.add_zero, wd.popN_sum]
theorem pop_byte (b : Nat) (h : b < 256) : wd.popN 64 b = ((List.range 8).map (wd.bit b)).sum := by
  have := pop_more 8 56 b h
  rwa [show 8 + 56 = 64 from rfl] at this
theorem full_ub : ∀ bs : List Nat, (∀ k, ct bs k < 256) → (ub bs).sum = fullB bs
  | [], _ => by simp [ub, fullB]
  | b :: bs, h => by
    have hb : b < 256 := h 0
    have ih := full_ub bs fun k => h (k + 1)
    have e : ub (b :: bs) = (List.range 8).map (wd.bit b) ++ ub bs := by
      unfold ub
      rw [List.length_cons, show 8 * (bs.length + 1) = 8 + 8 * bs.length by omega, List.range_add, List.map_append, List.map_map]
      congr 1
      refine List.map_congr_left fun i hi => ?_
      show bt (b :: bs) (8 + i) = bt bs i
      unfold bt
      rw [show (8 + i) / 8 = i / 8 + 1 by omega, show (8 + i) % 8 = i % 8 by omega]
      rfl
    rw [e, List.sum_append, ih, ← pop_byte b hb]
    rfl
/-- is the bit 1 at all four places? -/
def hasB (p : Nat → Nat) (bs : List Nat) : Bool := (List.range 4).all fun i => bt bs (p i) == 1
theorem has_true {p : Nat → Nat} {bs : List Nat} (h : ∀ i, i < 4 → bt bs (p i) = 1) : hasB p bs = true := by
  unfold hasB
  rw [List.all_eq_true]
  intro i hi
  simpa using h i (List.mem_range.1 hi)
theorem has_at {p : Nat → Nat} {bs : List Nat} (h : hasB p bs = true) (i : Nat) (hi : i < 4) : bt bs (p i) = 1 := by
  unfold hasB at h
  simpa using List.all_eq_true.1 h i (List.mem_range.2 hi)
theorem has_false {p : Nat → Nat} {bs : List Nat} (i : Nat) (hi : i < 4) (h : bt bs (p i) = 0) : hasB p bs = false := by
  cases e : hasB p bs
  · rfl
  · have := has_at e i hi
    omega
/-- the bits at the first j places made 1. -/
def putTo (p : Nat → Nat) (bs : List Nat) : Nat → List Nat
  | 0 => bs
  | j + 1 => sb (putTo p bs j) (p j)
theorem putTo_len (p : Nat → Nat) (bs : List Nat) : ∀ j, (putTo p bs j).length = bs.length
  | 0 => rfl
  | j + 1 => by rw [putTo, sb_len, putTo_len p bs j]
theorem putTo_low (p : Nat → Nat) (bs : List Nat) (h : ∀ k, ct bs k < 256) : ∀ j k, ct (putTo p bs j) k < 256
  | 0, k => h k
  | j + 1, k => sb_low _ _ (putTo_low p bs h j) k
theorem bt_putTo (p : Nat → Nat) (bs : List Nat) (hp : ∀ i, p i < 8 * bs.length) : ∀ j x, bt (putTo p bs j) x = if (∃ i, i < j ∧ x = p i) then 1 else bt bs x
  | 0, x => by rw [if_neg (by rintro ⟨i, hi, _⟩; omega)]; rfl
  | j + 1, x => by
    rw [putTo, bt_sb _ _ (by rw [putTo_len]; exact hp j), bt_putTo p bs hp j x]
    by_cases e : x = p j
    · rw [if_pos e, if_pos ⟨j, by omega, e⟩]
    · rw [if_neg e]
      by_cases h : ∃ i, i < j ∧ x = p i
      · obtain ⟨i, hi, hx⟩ := h
        rw [if_pos ⟨i, hi, hx⟩, if_pos ⟨i, by omega, hx⟩]
      · rw [if_neg h, if_neg]
        rintro ⟨i, hi, hx⟩
        by_cases hij : i = j
        · subst hij; exact e hx
        · exact h ⟨i, by omega, hx⟩
/-- a key put. -/
def putB (p : Nat → Nat) (bs : List Nat) : List Nat := if hasB p bs = true then bs else putTo p bs 4
theorem putB_len (p : Nat → Nat) (bs : List Nat) : (putB p bs).length = bs.length := by
  unfold putB; split
  · rfl
  · exact putTo_len _ _ _
theorem putB_low (p : Nat → Nat) (bs : List Nat) (h : ∀ k, ct bs k < 256) (k : Nat) : ct (putB p bs) k < 256 := by
  unfold putB; split
  · exact h k
  · exact putTo_low p bs h 4 k
/-- a door lies in block S, its bytes in block G. -/
structure Dr (w : World) (S G t : Nat) (bs : List Nat) : Prop where
  head : w.heap[S]? = some (.cells #[.slice (some ⟨G, 0, none⟩) bs.length bs.length, .int .u64 (t : Int)] 80 (0, 0))
  body : w.heap[G]? = some (.cells (b8 bs).toArray 5 (0, 0))
  out : S ≠ G
  pos : 0 < bs.length
  lid : bs.length ≤ 4096
  low : ∀ k, ct bs k < 256
  turns : t < 18446744073709551616
namespace Dr
variable {w w' : World} {S G t : Nat} {bs : List Nat}
theorem keep {K : Nat → Prop} (h : Dr w S G t bs) (hk : Keep K w w') (hS : K S) (hG : K G) : Dr w' S G t bs := ⟨hk.heap h.head hS, hk.heap h.body hG, h.out, h.pos, h.lid, h.low, h.turns⟩
theorem lt (h : Dr w S G t bs) : S < w.heap.size ∧ G < w.heap.size := ⟨heap_lt h.head, heap_lt h.body⟩
theorem below (h : Dr w S G t bs) (hb : Below w.heap.size w w') : Dr w' S G t bs := h.keep (K := (· < w.heap.size)) (.of_below hb fun _ h => h) h.lt.1 h.lt.2
theorem drewN (h : Dr w S G t bs) (m : Nat) : Dr (w.drewN m) S G t bs := h.keep (K := fun _ => True) (.drewN _ _ _) trivial trivial
theorem drew (h : Dr w S G t bs) : Dr w.drew S G t bs := h.keep (K := fun _ => True) (.drew _ _) trivial trivial
theorem c0 (h : Dr w S G t bs) : w.cell? ⟨S, 0, none⟩ = some (.slice (some ⟨G, 0, none⟩) bs.length bs.length) := by rw [cell_of h.head]; rfl
theorem c1 (h : Dr w S G t bs) : w.cell? ⟨S, 1, none⟩ = some (.int .u64 (t : Int)) := by rw [cell_of h.head]; rfl
theorem at_ (h : Dr w S G t bs) (p : Nat) (hp : p < bs.length) : w.cell? ⟨G, p, none⟩ = some (.int .u8 (ct bs p : Int)) ∧ w.frozen? ⟨G, p, none⟩ = false :=
  ⟨(cell_of h.body p).trans (b8_get (by simp [ct, hp])), frozen_of h.body p⟩
/-- one bit is made 1. -/
theorem set (h : Dr w S G t bs) (i : Nat) (v : Int) (hv : v = ((ct bs (i / 8) ||| 2 ^ (i % 8) : Nat) : Int)) : Dr (w.setCell ⟨G, i / 8, none⟩ (.int .u8 v)) S G t (sb bs i) := by
  subst hv
  refine ⟨?_, ?_, h.out, by rw [sb_len]; exact h.pos, by rw [sb_len]; exact h.lid, sb_low bs i h.low, h.turns⟩
  · rw [sb_len]; exact heap_set_other h.head h.out _ _
  · rw [heap_set h.body, b8_set]; rfl
end Dr
end Go.Proofs.YtnhpcjiieagjnaaDoor.dr
