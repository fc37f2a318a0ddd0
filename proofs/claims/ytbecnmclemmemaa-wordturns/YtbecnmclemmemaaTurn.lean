/-
  Turn of the reference, by its contract: it returns the turned word for every word and every int, and leaves what was there as it was.
-/
import Derived.Test.YtbecnmclemmemaaBits
namespace Go.Proofs.Ytbecnmclemmemaa
open Go.ChangeShapes Go.WideShapes Go.ChangeAt Go.RowKit
theorem vals_get (l : List Nat) (i : Nat) (h : i < l.length) : (vals l)[i]? = some (.int .u64 ((l.getD i 0 : Nat) : Int)) := by
  simp [vals, h]
theorem own_cells {w : World} {B n : Nat} {v : Value} {l : List Nat} (h : w.ownsRow B 22 1 v n (vals l)) (hn : 0 < n) :
    ∃ g cap, v = .slice (some ⟨g, 0, none⟩) n cap ∧ B ≤ g ∧ g < w.heap.size ∧ (∀ i, i < n → w.cell? ⟨g, i, none⟩ = some (.int .u64 ((l.getD i 0 : Nat) : Int))) ∧ (∀ i, w.frozen? ⟨g, i, none⟩ = false) := by
  have hlen := h.1
  rw [vals_len] at hlen
  obtain ⟨g, cap, rfl, hb, hlt⟩ : ∃ g cap, v = .slice (some ⟨g, 0, none⟩) n cap ∧ B ≤ g ∧ g < w.heap.size := by
    rcases h.2 with ⟨_, h0⟩ | ⟨g, cap, cur, hv, hb, hg, _⟩
    · omega
    · exact ⟨g, cap, hv, hb, lt_of_block hg⟩
  refine ⟨g, cap, rfl, hb, hlt, fun i hi => ?_, fun i => h.frozenAt i⟩
  rw [h.cellAt i (by omega), vals_get l i (by omega)]
def RowOf (w' : World) (B : Nat) (l : List Nat) (e : Ending) : Prop :=
  ∃ g cap, e = .returned (.slice (some ⟨g, 0, none⟩) 64 cap) ∧ B ≤ g ∧ g < w'.heap.size ∧ (∀ i, i < 64 → w'.cell? ⟨g, i, none⟩ = some (.int .u64 ((l.getD i 0 : Nat) : Int))) ∧ (∀ i, w'.frozen? ⟨g, i, none⟩ = false) ∧
    w'.ownsRow B 22 1 (.slice (some ⟨g, 0, none⟩) 64 cap) 64 (vals l)
theorem bits_row (x : Nat) (hx : x < 18446744073709551616) (w : World) :
    Calls Try.prog 19 #[.int .u64 x] w fun e w' => RowOf w' w.heap.size (bitsTo x 64) e ∧ Below w.heap.size w w' :=
  (bits_any x hx w).mono fun e w' ⟨v, he, hown, hb⟩ => by
    obtain ⟨g, cap, rfl, h1, h2, h3, h4⟩ := own_cells hown (by decide)
    exact ⟨⟨g, cap, he, h1, h2, h3, h4, hown⟩, hb⟩
theorem bitsTo_get (x i : Nat) (h : i < 64) : (bitsTo x 64).getD i 0 = bit x i := by simp [bitsTo, h]
def turnTo (x u j : Nat) : List Nat := (List.range j).map fun i => bit x ((i + 64 - u) % 64)
theorem turnTo_succ (x u k : Nat) : turnTo x u (k + 1) = turnTo x u k ++ [bit x ((k + 64 - u) % 64)] := by simp [turnTo, List.range_succ]
theorem one_new (w : World) (n : Int) : ∀ j u, [Value.int .u64 n][j]? = some u → (w.alloc (.cells #[.int .u64 n] 22)).cell? ((⟨w.heap.size, 0, none⟩ : Addr).add j) = some u := by
  intro j u hj
  match j, hj with
  | 0, hj => simp at hj; subst hj; simp [Addr.add]
theorem one_cell (n : Int) : ∀ u ∈ [Value.int .u64 n], u.oneCell' = true := by
  intro u hu; simp at hu; subst hu; rfl
theorem turnTo_bit (x u k : Nat) : ∀ b ∈ turnTo x u k, b < 2 := by
  intro b hb
  obtain ⟨i, _, rfl⟩ := List.mem_map.mp hb
  exact bit_lt _ _
set_option maxHeartbeats 1600000 in
set_option maxRecDepth 100000 in
theorem refturn_any (x : Nat) (k : Int) (hx : x < 18446744073709551616) (k0 : -9223372036854775808 ≤ k) (k1 : k ≤ 9223372036854775807) (w : World) :
    Calls Try.prog 7 #[.int .u64 x, .int .i64 k] w fun e w' => e = .returned (.int .u64 (turnN x (k % 64).toNat : Nat)) ∧ Below w.heap.size w w' := by
  obtain ⟨i0, hi, hz0, hz1, hz2⟩ := info_parts info22
  obtain ⟨u, hu, hul⟩ : ∃ u : Nat, (u : Int) = k % 64 ∧ u < 64 := ⟨(k % 64).toNat, by omega, by omega⟩
  have key : (k.tmod 64 < 0 ∧ k.tmod 64 + 64 = (u : Int)) ∨ (0 ≤ k.tmod 64 ∧ k.tmod 64 = (u : Int)) := by
    rw [hu]
    rcases Int.lt_or_le k 0 with h | h
    · have := Int.neg_tmod (-k) 64
      rw [Int.neg_neg] at this
      have h2 : (-k).tmod 64 = (-k) % 64 := Int.tmod_eq_emod_of_nonneg (by omega)
      omega
    · rw [Int.tmod_eq_emod_of_nonneg h]; omega
  have H := Lib.hid hu
  clear hu
  generalize ht : k.tmod 64 = t at *
  rcases key with ⟨hk1, hk2⟩ | ⟨hk1, rfl⟩
  all_goals
    go_enter Try.func7, Try.ntmps7
    go_wp2_with (first | (go_at_call 19; refine (bits_row x hx _).mono ?_; rintro e w1 ⟨⟨g, cap, rfl, hg0, hg1, hc0, hf0, _⟩, hb0⟩; have HC := Lib.hid hc0; have HF := Lib.hid hf0; clear hc0 hf0))
    go_loopw [7, 8] (fun v i wr => ∃ j : Nat, j ≤ 64 ∧ i = .int .i64 j ∧ wr.ownsRow w1.heap.size 22 1 v j (vals (turnTo x u j)) ∧ Below w1.heap.size w1 wr) (fun _ i _ => 64 - (intOf i).toNat)
    case atStart => exact ⟨0, by omega, rfl, World.ownsRow_nil _ _ _ _, Below.refl _ _⟩
    case round =>
      obtain ⟨j, hj, rfl, hown, hnx⟩ := hrel
      by_cases hlt : j < 64
      · obtain ⟨q, hq, hq'⟩ : ∃ q : Nat, q = (j + 64 - u) % 64 ∧ q < 64 := ⟨_, rfl, Nat.mod_lt _ (by decide)⟩
        have hcq := (hnx.cell (p := ⟨g, q, none⟩) (by exact hg1)).trans (HC.out q hq')
        rw [bitsTo_get x q hq'] at hcq
        have hqi : ((j : Int) + 64 - u) % 64 = (q : Int) := by omega
        have HQ := Lib.hid hq
        clear hq
        go_wp2_with (first | (at_builtin; refine wpList_append_own _ rfl _ _ 32 rfl w1.heap.size 22 i0 (.int .u64 0) 1 8 Try.underlying32 hi hz0 hz1 hz2 rfl (by decide) _ _ _ rfl (hown.alloc _) ⟨wr.heap.size, 0, none⟩ 1 1 [.int .u64 ((bit x q : Nat) : Int)] rfl rfl (one_new _ _) (one_cell _) (by unfold maxLen; omega) (by omega) (by have := hnx.size; simp; omega) ?_))
        intro v' w2 hown' hgrow _
        have hb := (hnx.alloc (by have := hnx.size; omega) _).grown hgrow (by have := hnx.size; simp; omega) (fun j hj => (hown.lt j hj).1)
        clear hown hgrow hnx
        go_wp2
        go_roundw
        case rel => exact ⟨j + 1, by omega, by go_num, by
          rw [turnTo_succ, ← HQ.out]
          simpa [vals] using hown', hb⟩
        case measure => simp [intOf]; omega
      · have : j = 64 := by omega
        subst this
        obtain ⟨g2, cap2, rfl, h1, h2, h3, h4⟩ := own_cells hown (by decide)
        go_wp2_with (go_at_call 20; refine (of_any g2 cap2 (turnTo x u 64) (by simp [turnTo]) (turnTo_bit x u 64) _ h3).mono ?_; rintro e w2 ⟨rfl, rfl⟩)
        go_ret
        refine ⟨congrArg Ending.returned (congrArg (Value.int IntKind.u64) ?_), ?_⟩
        · rw [← H.out]; exact congrArg _ (turn_of x u hx hul)
        · exact hb0.trans (hnx.mono hb0.size)
end Go.Proofs.Ytbecnmclemmemaa
