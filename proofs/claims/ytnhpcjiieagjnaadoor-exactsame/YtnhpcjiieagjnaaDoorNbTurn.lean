/-
  (*Row).Halve, Clear and Bytes by their contracts: each counter is half of it, each is 0, two counters a byte; of no row nothing.
-/
import Derived.Test.YtnhpcjiieagjnaaDoorNbAsk
import Derived.Deep.AppendLies
import Derived.OwnWalk
import Derived.Lib.JoinLaws
import Derived.Laws.OwnMore
import Derived.LoopN
namespace Go.Proofs.YtnhpcjiieagjnaaDoor.nb
open Go.RowKit
variable {w : World} {r g : Nat} {cs : List Nat}
theorem halve_none (w : World) : Calls Tryd.prog 88 #[.pointer none] w fun e w' => e = .returned (.tuple #[]) ∧ w' = w := by
  go_enter Tryd.func88, Tryd.ntmps88
  go_wp2
  refine bodyPost_ret (results_none rfl _ _ _) rfl ?_
  exact ⟨rfl, rfl⟩
/-- so many bytes are halved. -/
structure Half (w : World) (r g : Nat) (cs : List Nat) (j : Nat) (W : World) : Prop where
  head : W.heap[r]? = some (.cells #[.slice (some ⟨g, 0, none⟩) ((cs.length + 1) / 2) ((cs.length + 1) / 2), .int .i64 (cs.length : Int)] 111 (0, 0))
  kept : Keep (fun k => k ≠ g) w W
  body : ∃ bs : List Nat, W.heap[g]? = some (.cells (b8 bs).toArray 5 (0, 0)) ∧ bs.length = (cs.length + 1) / 2 ∧ (∀ p, p < j → bs[p]? = some (ct cs (2 * p) / 2 + 16 * (ct cs (2 * p + 1) / 2))) ∧ ∀ p, j ≤ p → bs[p]? = (pack cs)[p]?
namespace Half
variable {W : World} {j : Nat}
theorem start (h : Nib w r g cs) : Half w r g cs 0 w := ⟨h.head, .refl _ _, pack cs, h.body, pack_len cs, fun _ h => absurd h (Nat.not_lt_zero _), fun _ _ => rfl⟩
theorem c0 (h : Half w r g cs j W) : W.cell? ⟨r, 0, none⟩ = some (.slice (some ⟨g, 0, none⟩) ((cs.length + 1) / 2) ((cs.length + 1) / 2)) := by rw [cell_of h.head]; rfl
theorem cj (h : Half w r g cs j W) (hj : j < (cs.length + 1) / 2) : W.cell? ⟨g, j, none⟩ = some (.int .u8 ((ct cs (2 * j) + 16 * ct cs (2 * j + 1) : Nat) : Int)) ∧ W.frozen? ⟨g, j, none⟩ = false := by
  obtain ⟨bs, h1, h2, h3, h4⟩ := h.body
  exact ⟨(cell_of h1 j).trans (b8_get ((h4 j (Nat.le_refl _)).trans (pack_get cs j hj))), frozen_of h1 j⟩
theorem next (h : Half w r g cs j W) (hne : r ≠ g) (hj : j < (cs.length + 1) / 2) (v : Int) (hv : v = ((ct cs (2 * j) / 2 + 16 * (ct cs (2 * j + 1) / 2) : Nat) : Int)) : Half w r g cs (j + 1) (W.setCell ⟨g, j, none⟩ (.int .u8 v)) := by
  subst hv
  obtain ⟨bs, h1, h2, h3, h4⟩ := h.body
  refine ⟨heap_set_other h.head hne _ _, h.kept.trans (Keep.setCell _ _ _ fun h => h rfl), bs.set j (ct cs (2 * j) / 2 + 16 * (ct cs (2 * j + 1) / 2)), ?_, by simpa using h2, fun p hp => ?_, fun p hp => ?_⟩
  · rw [heap_set h1, b8_set]
  · by_cases e : p = j
    · subst e; rw [List.getElem?_set_self (by omega)]
    · rw [List.getElem?_set_ne (Ne.symm e)]; exact h3 p (by omega)
  · rw [List.getElem?_set_ne (by omega)]; exact h4 p (by omega)
theorem done (h : Half w r g cs ((cs.length + 1) / 2) W) (hn : Nib w r g cs) : Nib W r g (cs.map (· / 2)) ∧ Keep (fun k => k ≠ g) w W := by
  obtain ⟨bs, h1, h2, h3, _⟩ := h.body
  have e := pack_half cs bs h2 (fun p hp => h3 p (by omega))
  refine ⟨⟨?_, ?_, hn.out, by simpa using hn.lid, fun i => ?_⟩, h.kept⟩
  · rw [List.length_map]; exact h.head
  · rw [← e]; exact h1
  · rw [ct_half]; have := hn.low i; omega
end Half
theorem half_expr (a b : Nat) (ha : a ≤ 15) (hb : b ≤ 15) : bits BinOp.and IntKind.u8 (((a + 16 * b : Nat) : Int) / 2) 119 = ((a / 2 + 16 * (b / 2) : Nat) : Int) := by
  have e : (((a + 16 * b : Nat) : Int) / (2 : Int)) = (((a + 16 * b) >>> 1 : Nat) : Int) := by rw [Nat.shiftRight_eq_div_pow]; omega
  have e2 := u8_and_nat ((a + 16 * b) >>> 1) 119 (by rw [Nat.shiftRight_eq_div_pow]; omega) (by decide)
  have e3 := byte_half ⟨a, by omega⟩ ⟨b, by omega⟩
  rw [e, show ((119 : Int)) = ((119 : Nat) : Int) from rfl, e2]
  exact congrArg _ e3
set_option maxHeartbeats 1000000 in
theorem halve_some (h : Nib w r g cs) : Calls Tryd.prog 88 #[.pointer (some ⟨r, 0, none⟩)] w fun e B => e = .returned (.tuple #[]) ∧ Nib B r g (cs.map (· / 2)) ∧ Keep (fun k => k ≠ g) w B := by
  have c0 := h.c0
  have hl : (cs.length + 1) / 2 ≤ 32768 := by have := h.lid; omega
  have S := Lib.hid (Half.start h)
  have D : Hid (∀ W, Half w r g cs ((cs.length + 1) / 2) W → Nib W r g (cs.map (· / 2)) ∧ Keep (fun k => k ≠ g) w W) := fun W hW => hW.done h
  have N : Hid (∀ j W, Half w r g cs j W → j < (cs.length + 1) / 2 → ∃ b v : Nat, W.cell? ⟨r, 0, none⟩ = some (.slice (some ⟨g, 0, none⟩) ((cs.length + 1) / 2) ((cs.length + 1) / 2)) ∧ W.cell? ⟨g, j, none⟩ = some (.int .u8 (b : Int)) ∧ W.frozen? ⟨g, j, none⟩ = false ∧ bits BinOp.and IntKind.u8 ((b : Int) / 2) 119 = (v : Int) ∧ b < 256 ∧ Hid (Half w r g cs (j + 1) (W.setCell ⟨g, j, none⟩ (.int .u8 (v : Int))))) := fun j W hW hj =>
    ⟨_, _, hW.c0, (hW.cj hj).1, (hW.cj hj).2, half_expr _ _ (h.low _) (h.low _), by have := h.low (2 * j); have := h.low (2 * j + 1); omega, hW.next h.out hj _ rfl⟩
  clear h
  generalize hn : (cs.length + 1) / 2 = n at *
  clear hn
  go_enter Tryd.func88, Tryd.ntmps88
  go_wp2_with fail
  go_loopw [11] (fun i wr => ∃ j : Nat, j ≤ n ∧ i = .int .i64 j ∧ Hid (Half w r g cs j wr)) (fun i _ => n - (intOf i).toNat)
  case atStart => exact ⟨0, Nat.zero_le _, rfl, S⟩
  case round =>
    obtain ⟨j, hj, rfl, hH⟩ := hrel
    by_cases hlt : j < n
    · obtain ⟨b, v, d0, d1, f1, hv, hb, hN⟩ := N.out j wr hH.out hlt
      go_wp2
      go_roundw
      case rel => exact ⟨j + 1, by omega, by simp, hN⟩
      case measure => simp [intOf]; omega
    · obtain rfl : j = n := by omega
      go_wp2
      go_end0
      exact ⟨rfl, D.out _ hH.out⟩
/-- what lies in a block behind stores into it. -/
theorem heap_sets (b : Nat) (t : TypeId) : ∀ (vs pre old : List Value) (w : World), w.heap[b]? = some (.cells (pre ++ old).toArray t (0, 0)) → old.length = vs.length → (w.setCells b pre.length vs).heap[b]? = some (.cells (pre ++ vs).toArray t (0, 0))
  | [], pre, old, w, h, hl => by
    obtain rfl : old = [] := List.eq_nil_of_length_eq_zero hl
    exact h
  | v :: vs, pre, [], w, h, hl => by simp at hl
  | v :: vs, pre, x :: old, w, h, hl => by
    have h1 := heap_set h pre.length v
    have e : (pre ++ x :: old).toArray.setIfInBounds pre.length v = ((pre ++ [v]) ++ old).toArray := by simp
    rw [e] at h1
    have := heap_sets b t vs (pre ++ [v]) old (w.setCell ⟨b, pre.length, none⟩ v) h1 (by simpa using hl)
    rw [List.length_append, List.length_singleton, List.append_assoc, List.singleton_append] at this
    exact this
theorem zero_b (w : World) : (zeroValue 5).run Tryd.prog w = .ok (.int .u8 0) w := by simp [Tryd.zeroValue5]
theorem clear_run (h : Nib w r g cs) (ty : TypeId) : (Builtin.clear_ #[77] ty #[.slice (some ⟨g, 0, none⟩) ((cs.length + 1) / 2) ((cs.length + 1) / 2)]).run Tryd.prog w = .ok (.tuple #[]) (w.setCells g 0 (List.replicate ((cs.length + 1) / 2) (.int .u8 0))) := by
  by_cases hn : (cs.length + 1) / 2 = 0
  · rw [hn]
    simp [Builtin.clear_, run_underlying Tryd.underlying77]
    rfl
  · exact Lib.run_clear_slice w 77 5 ty (.int .u8 0) Tryd.underlying77 zero_b rfl rfl g 0 _ _ (by omega) (fun j hj => by rw [Nat.zero_add, (h.at_ j hj).1]; rfl) (fun j hj => by rw [Nat.zero_add]; exact (h.at_ j hj).2)
theorem Nib.clear (h : Nib w r g cs) : Nib (w.setCells g 0 (List.replicate ((cs.length + 1) / 2) (.int .u8 0))) r g (List.replicate cs.length 0) ∧ Keep (fun k => k ≠ g) w (w.setCells g 0 (List.replicate ((cs.length + 1) / 2) (.int .u8 0))) := by
  have hk : Keep (fun k => k ≠ g) w (w.setCells g 0 (List.replicate ((cs.length + 1) / 2) (.int .u8 0))) := Keep.setCells g (fun h => h rfl) _ _ _
  refine ⟨⟨?_, ?_, h.out, by simpa using h.lid, fun i => by rw [ct_zeros]; omega⟩, hk⟩
  · rw [List.length_replicate]; exact hk.heap h.head h.out
  · have := heap_sets g 5 (List.replicate ((cs.length + 1) / 2) (.int .u8 0)) [] (b8 (pack cs)) w h.body (by rw [b8_len, pack_len, List.length_replicate])
    rw [pack_zeros]
    simpa [b8] using this
end Go.Proofs.YtnhpcjiieagjnaaDoor.nb
