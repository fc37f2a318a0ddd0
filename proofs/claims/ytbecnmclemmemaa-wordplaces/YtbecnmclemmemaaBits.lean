/-
  Bits and Of of the reference, by their contracts: Bits makes a new row of the 64 bits of any word, Of makes a word of any row of 64 bits.
-/
import Derived.Test.YtbecnmclemmemaaWord
namespace Go.Proofs.Ytbecnmclemmemaa
open Go.ChangeShapes Go.WideShapes Go.ChangeAt Go.RowKit
theorem info22 : (Try.prog.info? 22).map (fun i => (i.zero, i.size, i.bytes)) = some (some (.int .u64 0), 1, 8) := by kernel_rfl
def vals (l : List Nat) : List Value := l.map fun n : Nat => Value.int .u64 (n : Int)
theorem vals_len (l : List Nat) : (vals l).length = l.length := by simp [vals]
def bitsTo (x k : Nat) : List Nat := (List.range k).map (bit x)
theorem bitsTo_len (x k : Nat) : (bitsTo x k).length = k := by simp [bitsTo]
theorem bitsTo_succ (x k : Nat) : bitsTo x (k + 1) = bitsTo x k ++ [bit x k] := by simp [bitsTo, List.range_succ]
set_option maxHeartbeats 1600000 in
set_option maxRecDepth 100000 in
theorem bits_any (x : Nat) (hx : x < 18446744073709551616) (w : World) :
    Calls Try.prog 19 #[.int .u64 x] w fun e w' => ∃ v, e = .returned v ∧ w'.ownsRow w.heap.size 22 1 v 64 (vals (bitsTo x 64)) ∧ Below w.heap.size w w' := by
  obtain ⟨i0, hi, hz0, hz1, hz2⟩ := info_parts info22
  go_enter Try.func19, Try.ntmps19
  go_wp2
  go_loopw [0, 3, 4] (fun y v i wr => ∃ k : Nat, k ≤ 64 ∧ i = .int .i64 k ∧ y = .int .u64 ((x / 2 ^ k : Nat) : Int) ∧ wr.ownsRow w.heap.size 22 1 v k (vals (bitsTo x k)) ∧ Below w.heap.size w wr) (fun _ _ i _ => 64 - (intOf i).toNat)
  case atStart => exact ⟨0, by omega, rfl, by simp, World.ownsRow_nil _ _ _ _, Below.refl _ _⟩
  case round =>
    obtain ⟨k, hk, rfl, rfl, hown, hnx⟩ := hrel
    obtain ⟨y, hy, hyl⟩ : ∃ y : Nat, y = x / 2 ^ k ∧ y < 18446744073709551616 := ⟨_, rfl, Nat.lt_of_le_of_lt (Nat.div_le_self _ _) hx⟩
    rw [← hy]
    have HY := Lib.hid hy
    clear hy
    by_cases hlt : k < 64
    · go_wp2_with (first | (at_builtin; refine wpList_append_own _ rfl _ _ 32 rfl w.heap.size 22 i0 (.int .u64 0) 1 8 Try.underlying32 hi hz0 hz1 hz2 rfl (by decide) _ _ _ rfl (hown.alloc _) ⟨wr.heap.size, 0, none⟩ 1 1 [.int .u64 ((y : Int) % 2)] rfl rfl ?c1 ?c2 ?c3 ?c4 ?c5 ?_))
      case c1 =>
        intro j u hj
        match j, hj with
        | 0, hj => simp at hj; subst hj; simp [Addr.add]
      case c2 => intro u hu; simp at hu; subst hu; rfl
      case c3 => unfold maxLen; omega
      case c4 => omega
      case c5 => have := hnx.size; simp; omega
      intro v' w1 hown' hgrow _
      have hb := (hnx.alloc (by have := hnx.size; omega) _).grown hgrow (by have := hnx.size; simp; omega) (fun j hj => (hown.lt j hj).1)
      clear hown hgrow hnx
      go_wp2
      go_roundw
      case rel => exact ⟨k + 1, by omega, by go_num, by rw [Nat.pow_succ, ← Nat.div_div_eq_div_mul, ← HY.out]; go_num, by
        rw [bitsTo_succ]
        have : bit x k = y % 2 := by rw [HY.out]; rfl
        rw [this]
        simpa [vals] using hown', hb⟩
      case measure => simp [intOf]; omega
    · have : k = 64 := by omega
      subst this
      go_wp2
      go_ret
      exact ⟨_, rfl, hown, hnx⟩
theorem ofBits_drop (l : List Nat) (k : Nat) (hk : k < l.length) : ofBits (l.drop k) = 2 * ofBits (l.drop (k + 1)) + l.getD k 0 := by
  rw [List.drop_eq_getElem_cons hk, ofBits]
  simp [hk]
theorem ofBits_drop_lt (l : List Nat) (k : Nat) (hl : l.length = 64) (h : ∀ b ∈ l, b < 2) (hk : 0 < k) : ofBits (l.drop k) ≤ 9223372036854775807 := by
  have h1 := ofBits_lt (l.drop k) fun b hb => h b (List.mem_of_mem_drop hb)
  rw [List.length_drop, hl] at h1
  have h2 : (2 : Nat) ^ (64 - k) ≤ 2 ^ 63 := Nat.pow_le_pow_right (by decide) (by omega)
  have h3 : (2 : Nat) ^ 63 = 9223372036854775808 := by decide
  omega
theorem getD_lt (l : List Nat) (k : Nat) (h : ∀ b ∈ l, b < 2) : l.getD k 0 < 2 := by
  rw [List.getD_eq_getElem?_getD]
  by_cases hk : k < l.length
  · rw [List.getElem?_eq_getElem hk]; exact h _ (List.getElem_mem hk)
  · rw [List.getElem?_eq_none (by omega)]; decide
/-- of: the slice's 64 cells are the numbers of l, each 0 or 1. -/
theorem of_any (g cap : Nat) (l : List Nat) (hl : l.length = 64) (hb : ∀ b ∈ l, b < 2) (w : World) (hc : ∀ i, i < 64 → w.cell? ⟨g, i, none⟩ = some (.int .u64 ((l.getD i 0 : Nat) : Int))) :
    Calls Try.prog 20 #[.slice (some ⟨g, 0, none⟩) 64 cap] w fun e w' => e = .returned (.int .u64 (ofBits l : Nat)) ∧ w = w' := by
  have HC := Lib.hid hc
  have HL := Lib.hid hl
  have HB := Lib.hid hb
  clear hc hl hb
  go_enter Try.func20, Try.ntmps20
  go_wp2
  go_loop [3, 4] (fun x i => ∃ k : Nat, k ≤ 64 ∧ i = .int .i64 ((k : Int) - 1) ∧ x = .int .u64 ((ofBits (l.drop k) : Nat) : Int)) (fun _ i => (intOf i + 1).toNat)
  case atStart => exact ⟨64, by omega, rfl, by rw [List.drop_eq_nil_of_le (by rw [HL.out]; omega)]; rfl⟩
  case round =>
    obtain ⟨k, hk, rfl, rfl⟩ := hrel
    cases k with
    | zero =>
      go_wp2
      go_ret
      exact ⟨rfl, rfl⟩
    | succ j =>
      have hlt := ofBits_drop_lt l (j + 1) HL.out HB.out (by omega)
      have hcj := HC.out j (by omega)
      have hd := ofBits_drop l j (by rw [HL.out]; omega)
      have h2 := getD_lt l j HB.out
      have HD := Lib.hid hd
      clear hd
      generalize l.getD j 0 = b at *
      generalize ofBits (l.drop (j + 1)) = y at *
      have hj : ((j + 1 : Nat) : Int) - 1 = (j : Int) := by omega
      rw [hj]
      have HJ := Lib.hid hj
      clear hj
      go_wp2
      go_round
      case rel => exact ⟨j, by omega, by go_num, by rw [HD.out]; go_num⟩
      case measure => simp [intOf]
end Go.Proofs.Ytbecnmclemmemaa
