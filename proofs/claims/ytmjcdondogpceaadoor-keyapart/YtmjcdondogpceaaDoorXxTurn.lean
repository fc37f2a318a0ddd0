/-
  Turn of package word and of its reference, Fold of package mix and of its reference, by their contracts: what each returns for every word and int; what was there stays as it was.
-/
import Derived.Test.YtmjcdondogpceaaDoorRows
import Derived.Test.YtmjcdondogpceaaDoorXxMath
import Derived.WalkKit
import Derived.ProofKit
import Derived.OpenShut
import Derived.Lib.Hide
import Derived.Laws.Bits64
import Derived.Lib.Walk
import Derived.Lib.Small
import Derived.Lib.BitFns
namespace Go.Proofs.YtmjcdondogpceaaDoor.xx
open Go.ChangeShapes Go.WideShapes Go.ChangeAt Go.RowKit
theorem wrap_mod64 (k : Int) : (IntKind.u64.wrap k).tmod 64 = k % 64 := by
  rw [IntKind.wrap_u64, tmod_of_emod]; omega
theorem turn_expr (x u : Nat) (hx : x < 18446744073709551616) : bits BinOp.or IntKind.u64 (IntKind.u64.wrap (↑x * 2 ^ u)) (↑x / 2 ^ (64 - u)) = ((turnN x u : Nat) : Int) := by
  have e1 : IntKind.u64.wrap ((x : Int) * 2 ^ u) = ((x * 2 ^ u % 18446744073709551616 : Nat) : Int) := by rw [IntKind.wrap_u64]; simp
  have e2 : ((x : Int) / 2 ^ (64 - u)) = ((x / 2 ^ (64 - u) : Nat) : Int) := by simp
  rw [e1, e2, u64_or_nat _ _ (Nat.mod_lt _ (by decide)) (Nat.lt_of_le_of_lt (Nat.div_le_self _ _) hx)]
  rfl
set_option maxHeartbeats 400000 in
theorem turn_any (x : Nat) (k : Int) (hx : x < 18446744073709551616) (w : World) :
    Calls Tryd.prog 54 #[.int .u64 x, .int .i64 k] w fun e w' => e = .returned (.int .u64 (turnN x (k % 64).toNat : Nat)) ∧ w = w' := by
  obtain ⟨u, hu, hul⟩ : ∃ u : Nat, (u : Int) = k % 64 ∧ u < 64 := ⟨(k % 64).toNat, by omega, by omega⟩
  have hw : (IntKind.u64.wrap k).tmod 64 = (u : Int) := by rw [wrap_mod64, hu]
  have H := Lib.hid hu
  clear hu
  go_enter Tryd.func54, Tryd.ntmps54
  go_wp2
  go_ret
  refine ⟨congrArg Ending.returned (congrArg (Value.int IntKind.u64) ?_), rfl⟩
  rw [turn_expr x u hx, ← H.out]
  rfl
theorem infoU : (Tryd.prog.info? 24).map (fun i => (i.zero, i.size, i.bytes)) = some (some (.int .u64 0), 1, 8) := by kernel_rfl
def vals (l : List Nat) : List Value := l.map fun n : Nat => Value.int .u64 (n : Int)
theorem vals_len (l : List Nat) : (vals l).length = l.length := by simp [vals]
def bitsTo (x k : Nat) : List Nat := (List.range k).map (bit x)
theorem bitsTo_len (x k : Nat) : (bitsTo x k).length = k := by simp [bitsTo]
theorem bitsTo_succ (x k : Nat) : bitsTo x (k + 1) = bitsTo x k ++ [bit x k] := by simp [bitsTo, List.range_succ]
set_option maxHeartbeats 1600000 in
set_option maxRecDepth 100000 in
theorem bits_any (x : Nat) (hx : x < 18446744073709551616) (w : World) :
    Calls Tryd.prog 42 #[.int .u64 x] w fun e w' => ∃ v, e = .returned v ∧ w'.ownsRow w.heap.size 24 1 v 64 (vals (bitsTo x 64)) ∧ Below w.heap.size w w' := by
  obtain ⟨i0, hi, hz0, hz1, hz2⟩ := info_parts infoU
  go_enter Tryd.func42, Tryd.ntmps42
  go_wp2
  go_loopw [0, 3, 4] (fun y v i wr => ∃ k : Nat, k ≤ 64 ∧ i = .int .i64 k ∧ y = .int .u64 ((x / 2 ^ k : Nat) : Int) ∧ wr.ownsRow w.heap.size 24 1 v k (vals (bitsTo x k)) ∧ Below w.heap.size w wr) (fun _ _ i _ => 64 - (intOf i).toNat)
  case atStart => exact ⟨0, by omega, rfl, by simp, World.ownsRow_nil _ _ _ _, Below.refl _ _⟩
  case round =>
    obtain ⟨k, hk, rfl, rfl, hown, hnx⟩ := hrel
    obtain ⟨y, hy, hyl⟩ : ∃ y : Nat, y = x / 2 ^ k ∧ y < 18446744073709551616 := ⟨_, rfl, Nat.lt_of_le_of_lt (Nat.div_le_self _ _) hx⟩
    rw [← hy]
    have HY := Lib.hid hy
    clear hy
    by_cases hlt : k < 64
    · go_wp2_with (first | (at_builtin; refine wpList_append_own _ rfl _ _ 51 rfl w.heap.size 24 i0 (.int .u64 0) 1 8 Tryd.underlying51 hi hz0 hz1 hz2 rfl (by decide) _ _ _ rfl (hown.alloc _) ⟨wr.heap.size, 0, none⟩ 1 1 [.int .u64 ((y : Int) % 2)] rfl rfl ?c1 ?c2 ?c3 ?c4 ?c5 ?_))
      case c1 =>
        intro j u hj
        match j, hj with
        | 0, hj => simp at hj; subst hj; simp [Addr.add]
      case c2 => intro u hu; simp at hu; subst hu; rfl
      case c3 => unfold maxLen; omega
      case c4 => omega
      case c5 => have := hnx.size; simp; omega
      intro v' w1 hown' hgrow _
      have hb := (hnx.alloc (by have := hnx.size; omega) _).grown hgrow (by have := hnx.size; simp; omega) (fun j hj => (hown.lt j hj).1)
      clear hown hgrow hnx
      go_wp2
      go_roundw
      case rel => exact ⟨k + 1, by omega, by go_num, by rw [Nat.pow_succ, ← Nat.div_div_eq_div_mul, ← HY.out]; go_num, by
        rw [bitsTo_succ]
        have : bit x k = y % 2 := by rw [HY.out]; rfl
        rw [this]
        simpa [vals] using hown', hb⟩
      case measure => simp [intOf]; omega
    · have : k = 64 := by omega
      subst this
      go_wp2
      go_ret
      exact ⟨_, rfl, hown, hnx⟩
theorem ofBits_drop (l : List Nat) (k : Nat) (hk : k < l.length) : ofBits (l.drop k) = 2 * ofBits (l.drop (k + 1)) + l.getD k 0 := by
  rw [List.drop_eq_getElem_cons hk, ofBits]
  simp [hk]
theorem ofBits_drop_lt (l : List Nat) (k : Nat) (hl : l.length = 64) (h : ∀ b ∈ l, b < 2) (hk : 0 < k) : ofBits (l.drop k) ≤ 9223372036854775807 := by
  have h1 := ofBits_lt (l.drop k) fun b hb => h b (List.mem_of_mem_drop hb)
  rw [List.length_drop, hl] at h1
  have h2 : (2 : Nat) ^ (64 - k) ≤ 2 ^ 63 := Nat.pow_le_pow_right (by decide) (by omega)
  have h3 : (2 : Nat) ^ 63 = 9223372036854775808 := by decide
  omega
theorem getD_lt (l : List Nat) (k : Nat) (h : ∀ b ∈ l, b < 2) : l.getD k 0 < 2 := by
  rw [List.getD_eq_getElem?_getD]
  by_cases hk : k < l.length
  · rw [List.getElem?_eq_getElem hk]; exact h _ (List.getElem_mem hk)
  · rw [List.getElem?_eq_none (by omega)]; decide
/-- of: the slice's 64 cells are the numbers of l, each 0 or 1. -/
theorem of_any (g cap : Nat) (l : List Nat) (hl : l.length = 64) (hb : ∀ b ∈ l, b < 2) (w : World) (hc : ∀ i, i < 64 → w.cell? ⟨g, i, none⟩ = some (.int .u64 ((l.getD i 0 : Nat) : Int))) :
    Calls Tryd.prog 43 #[.slice (some ⟨g, 0, none⟩) 64 cap] w fun e w' => e = .returned (.int .u64 (ofBits l : Nat)) ∧ w = w' := by
  have HC := Lib.hid hc
  have HL := Lib.hid hl
  have HB := Lib.hid hb
  clear hc hl hb
  go_enter Tryd.func43, Tryd.ntmps43
  go_wp2
  go_loop [3, 4] (fun x i => ∃ k : Nat, k ≤ 64 ∧ i = .int .i64 ((k : Int) - 1) ∧ x = .int .u64 ((ofBits (l.drop k) : Nat) : Int)) (fun _ i => (intOf i + 1).toNat)
  case atStart => exact ⟨64, by omega, rfl, by rw [List.drop_eq_nil_of_le (by rw [HL.out]; omega)]; rfl⟩
  case round =>
    obtain ⟨k, hk, rfl, rfl⟩ := hrel
    cases k with
    | zero =>
      go_wp2
      go_ret
      exact ⟨rfl, rfl⟩
    | succ j =>
      have hlt := ofBits_drop_lt l (j + 1) HL.out HB.out (by omega)
      have hcj := HC.out j (by omega)
      have hd := ofBits_drop l j (by rw [HL.out]; omega)
      have h2 := getD_lt l j HB.out
      have HD := Lib.hid hd
      clear hd
      generalize l.getD j 0 = b at *
      generalize ofBits (l.drop (j + 1)) = y at *
      have hj : ((j + 1 : Nat) : Int) - 1 = (j : Int) := by omega
      rw [hj]
      have HJ := Lib.hid hj
      clear hj
      go_wp2
      go_round
      case rel => exact ⟨j, by omega, by go_num, by rw [HD.out]; go_num⟩
      case measure => simp [intOf]
theorem vals_get (l : List Nat) (i : Nat) (h : i < l.length) : (vals l)[i]? = some (.int .u64 ((l.getD i 0 : Nat) : Int)) := by
  simp [vals, h]
theorem own_cells {w : World} {B n : Nat} {v : Value} {l : List Nat} (h : w.ownsRow B 24 1 v n (vals l)) (hn : 0 < n) :
    ∃ g cap, v = .slice (some ⟨g, 0, none⟩) n cap ∧ B ≤ g ∧ g < w.heap.size ∧ (∀ i, i < n → w.cell? ⟨g, i, none⟩ = some (.int .u64 ((l.getD i 0 : Nat) : Int))) ∧ (∀ i, w.frozen? ⟨g, i, none⟩ = false) := by
  have hlen := h.1
  rw [vals_len] at hlen
  obtain ⟨g, cap, rfl, hb, hlt⟩ : ∃ g cap, v = .slice (some ⟨g, 0, none⟩) n cap ∧ B ≤ g ∧ g < w.heap.size := by
    rcases h.2 with ⟨_, h0⟩ | ⟨g, cap, cur, hv, hb, hg, _⟩
    · omega
    · exact ⟨g, cap, hv, hb, lt_of_block hg⟩
  refine ⟨g, cap, rfl, hb, hlt, fun i hi => ?_, fun i => h.frozenAt i⟩
  rw [h.cellAt i (by omega), vals_get l i (by omega)]
def RowOf (w' : World) (B : Nat) (l : List Nat) (e : Ending) : Prop :=
  ∃ g cap, e = .returned (.slice (some ⟨g, 0, none⟩) 64 cap) ∧ B ≤ g ∧ g < w'.heap.size ∧ (∀ i, i < 64 → w'.cell? ⟨g, i, none⟩ = some (.int .u64 ((l.getD i 0 : Nat) : Int))) ∧ (∀ i, w'.frozen? ⟨g, i, none⟩ = false) ∧
    w'.ownsRow B 24 1 (.slice (some ⟨g, 0, none⟩) 64 cap) 64 (vals l)
theorem bits_row (x : Nat) (hx : x < 18446744073709551616) (w : World) :
    Calls Tryd.prog 42 #[.int .u64 x] w fun e w' => RowOf w' w.heap.size (bitsTo x 64) e ∧ Below w.heap.size w w' :=
  (bits_any x hx w).mono fun e w' ⟨v, he, hown, hb⟩ => by
    obtain ⟨g, cap, rfl, h1, h2, h3, h4⟩ := own_cells hown (by decide)
    exact ⟨⟨g, cap, he, h1, h2, h3, h4, hown⟩, hb⟩
theorem bitsTo_get (x i : Nat) (h : i < 64) : (bitsTo x 64).getD i 0 = bit x i := by simp [bitsTo, h]
def turnTo (x u j : Nat) : List Nat := (List.range j).map fun i => bit x ((i + 64 - u) % 64)
theorem turnTo_succ (x u k : Nat) : turnTo x u (k + 1) = turnTo x u k ++ [bit x ((k + 64 - u) % 64)] := by simp [turnTo, List.range_succ]
theorem one_new (w : World) (n : Int) : ∀ j u, [Value.int .u64 n][j]? = some u → (w.alloc (.cells #[.int .u64 n] 24)).cell? ((⟨w.heap.size, 0, none⟩ : Addr).add j) = some u := by
  intro j u hj
  match j, hj with
  | 0, hj => simp at hj; subst hj; simp [Addr.add]
theorem one_cell (n : Int) : ∀ u ∈ [Value.int .u64 n], u.oneCell' = true := by
  intro u hu; simp at hu; subst hu; rfl
theorem turnTo_bit (x u k : Nat) : ∀ b ∈ turnTo x u k, b < 2 := by
  intro b hb
  obtain ⟨i, _, rfl⟩ := List.mem_map.mp hb
  exact bit_lt _ _
set_option maxHeartbeats 1600000 in
set_option maxRecDepth 100000 in
theorem refturn_any (x : Nat) (k : Int) (hx : x < 18446744073709551616) (k0 : -9223372036854775808 ≤ k) (k1 : k ≤ 9223372036854775807) (w : World) :
    Calls Tryd.prog 37 #[.int .u64 x, .int .i64 k] w fun e w' => e = .returned (.int .u64 (turnN x (k % 64).toNat : Nat)) ∧ Below w.heap.size w w' := by
  obtain ⟨i0, hi, hz0, hz1, hz2⟩ := info_parts infoU
  obtain ⟨u, hu, hul⟩ : ∃ u : Nat, (u : Int) = k % 64 ∧ u < 64 := ⟨(k % 64).toNat, by omega, by omega⟩
  have key : (k.tmod 64 < 0 ∧ k.tmod 64 + 64 = (u : Int)) ∨ (0 ≤ k.tmod 64 ∧ k.tmod 64 = (u : Int)) := by
    rw [hu]
    rcases Int.lt_or_le k 0 with h | h
    · have := Int.neg_tmod (-k) 64
      rw [Int.neg_neg] at this
      have h2 : (-k).tmod 64 = (-k) % 64 := Int.tmod_eq_emod_of_nonneg (by omega)
      omega
    · rw [Int.tmod_eq_emod_of_nonneg h]; omega
  have H := Lib.hid hu
  clear hu
  generalize ht : k.tmod 64 = t at *
  rcases key with ⟨hk1, hk2⟩ | ⟨hk1, rfl⟩
  all_goals
    go_enter Tryd.func37, Tryd.ntmps37
    go_wp2_with (first | (go_at_call 42; refine (bits_row x hx _).mono ?_; rintro e w1 ⟨⟨g, cap, rfl, hg0, hg1, hc0, hf0, _⟩, hb0⟩; have HC := Lib.hid hc0; have HF := Lib.hid hf0; clear hc0 hf0))
    go_loopw [7, 8] (fun v i wr => ∃ j : Nat, j ≤ 64 ∧ i = .int .i64 j ∧ wr.ownsRow w1.heap.size 24 1 v j (vals (turnTo x u j)) ∧ Below w1.heap.size w1 wr) (fun _ i _ => 64 - (intOf i).toNat)
    case atStart => exact ⟨0, by omega, rfl, World.ownsRow_nil _ _ _ _, Below.refl _ _⟩
    case round =>
      obtain ⟨j, hj, rfl, hown, hnx⟩ := hrel
      by_cases hlt : j < 64
      · obtain ⟨q, hq, hq'⟩ : ∃ q : Nat, q = (j + 64 - u) % 64 ∧ q < 64 := ⟨_, rfl, Nat.mod_lt _ (by decide)⟩
        have hcq := (hnx.cell (p := ⟨g, q, none⟩) (by exact hg1)).trans (HC.out q hq')
        rw [bitsTo_get x q hq'] at hcq
        have hqi : ((j : Int) + 64 - u) % 64 = (q : Int) := by omega
        have HQ := Lib.hid hq
        clear hq
        go_wp2_with (first | (at_builtin; refine wpList_append_own _ rfl _ _ 51 rfl w1.heap.size 24 i0 (.int .u64 0) 1 8 Tryd.underlying51 hi hz0 hz1 hz2 rfl (by decide) _ _ _ rfl (hown.alloc _) ⟨wr.heap.size, 0, none⟩ 1 1 [.int .u64 ((bit x q : Nat) : Int)] rfl rfl (one_new _ _) (one_cell _) (by unfold maxLen; omega) (by omega) (by have := hnx.size; simp; omega) ?_))
        intro v' w2 hown' hgrow _
        have hb := (hnx.alloc (by have := hnx.size; omega) _).grown hgrow (by have := hnx.size; simp; omega) (fun j hj => (hown.lt j hj).1)
        clear hown hgrow hnx
        go_wp2
        go_roundw
        case rel => exact ⟨j + 1, by omega, by go_num, by
          rw [turnTo_succ, ← HQ.out]
          simpa [vals] using hown', hb⟩
        case measure => simp [intOf]; omega
      · have : j = 64 := by omega
        subst this
        obtain ⟨g2, cap2, rfl, h1, h2, h3, h4⟩ := own_cells hown (by decide)
        go_wp2_with (go_at_call 43; refine (of_any g2 cap2 (turnTo x u 64) (by simp [turnTo]) (turnTo_bit x u 64) _ h3).mono ?_; rintro e w2 ⟨rfl, rfl⟩)
        go_ret
        refine ⟨congrArg Ending.returned (congrArg (Value.int IntKind.u64) ?_), ?_⟩
        · rw [← H.out]; exact congrArg _ (turn_of x u hx hul)
        · exact hb0.trans (hnx.mono hb0.size)
theorem fo_expr (x u : Nat) (hx : x < 18446744073709551616) : bits BinOp.xor IntKind.u64 (x : Int) ((x : Int) / 2 ^ u) = ((fo u x : Nat) : Int) := by
  have e2 : ((x : Int) / 2 ^ u) = ((x / 2 ^ u : Nat) : Int) := by simp
  rw [e2, u64_xor_nat _ _ hx (Nat.lt_of_le_of_lt (Nat.div_le_self _ _) hx)]
  rfl
theorem fold_any (x : Nat) (k : Int) (hx : x < 18446744073709551616) (w : World) :
    Calls Tryd.prog 49 #[.int .u64 x, .int .i64 k] w fun e w' => e = .returned (.int .u64 (foZ x k : Nat)) ∧ w = w' := by
  by_cases h1 : 1 ≤ k
  · by_cases h2 : k < 64
    · obtain ⟨u, rfl⟩ : ∃ u : Nat, k = (u : Int) := ⟨k.toNat, by omega⟩
      go_enter Tryd.func49, Tryd.ntmps49
      go_wp2
      go_ret
      refine ⟨congrArg Ending.returned (congrArg (Value.int IntKind.u64) ?_), rfl⟩
      unfold foZ
      rw [if_pos (by omega), fo_expr x u hx]
      rfl
    · go_enter Tryd.func49, Tryd.ntmps49
      go_wp2
      go_ret
      refine ⟨congrArg Ending.returned (congrArg (Value.int IntKind.u64) ?_), rfl⟩
      unfold foZ
      rw [if_neg (by omega)]
  · go_enter Tryd.func49, Tryd.ntmps49
    go_wp2
    go_ret
    refine ⟨congrArg Ending.returned (congrArg (Value.int IntKind.u64) ?_), rfl⟩
    unfold foZ
    rw [if_neg (by omega)]
theorem reffold_any (x : Nat) (k : Int) (hx : x < 18446744073709551616) (w : World) :
    Calls Tryd.prog 40 #[.int .u64 x, .int .i64 k] w fun e w' => e = .returned (.int .u64 (foZ x k : Nat)) ∧ w = w' := by
  by_cases h1 : k < 1
  · go_enter Tryd.func40, Tryd.ntmps40
    go_wp2
    go_ret
    refine ⟨congrArg Ending.returned (congrArg (Value.int IntKind.u64) ?_), rfl⟩
    unfold foZ
    rw [if_neg (by omega)]
  · by_cases h2 : 63 < k
    · go_enter Tryd.func40, Tryd.ntmps40
      go_wp2
      go_ret
      refine ⟨congrArg Ending.returned (congrArg (Value.int IntKind.u64) ?_), rfl⟩
      unfold foZ
      rw [if_neg (by omega)]
    · obtain ⟨u, rfl⟩ : ∃ u : Nat, k = (u : Int) := ⟨k.toNat, by omega⟩
      go_enter Tryd.func40, Tryd.ntmps40
      go_wp2
      go_loop [5, 6] (fun y i => ∃ j : Nat, j ≤ u ∧ i = .int .i64 j ∧ y = .int .u64 ((x / 2 ^ j : Nat) : Int)) (fun _ i => u - (intOf i).toNat)
      case atStart => exact ⟨0, by omega, rfl, by simp⟩
      case round =>
        obtain ⟨j, hj, rfl, rfl⟩ := hrel
        have hy : x / 2 ^ j < 18446744073709551616 := Nat.lt_of_le_of_lt (Nat.div_le_self _ _) hx
        have hd := div_two x j
        have HD := Lib.hid hd
        clear hd
        by_cases hlt : j < u
        · generalize hy' : x / 2 ^ j = y at *
          have HY := Lib.hid hy'
          clear hy'
          go_wp2
          go_round
          case rel => exact ⟨j + 1, by omega, by go_num, by rw [← HD.out]; simp⟩
          case measure => simp [intOf]; omega
        · obtain rfl : j = u := by omega
          go_wp2
          go_ret
          refine ⟨congrArg Ending.returned (congrArg (Value.int IntKind.u64) ?_), rfl⟩
          unfold foZ
          rw [if_pos (by omega)]
          have := fo_expr x j hx
          simpa using this
end Go.Proofs.YtmjcdondogpceaaDoor.xx
