/-
  isKind and own of package prog by their contracts: the function that own returns tells the places of a call's own numbers, in order.
-/
import Derived.Test.YtfhcgildokdppaaRg
namespace Go.Proofs.Ytfhcgildokdppaa
open Go.RowKit Go.Shelf tp
attribute [local go_sem] Oper.semAt_some
attribute [local go_sem] wide_fn wide_depth
theorem isKind26 (k : Int) (w : World) : Calls Try.prog 66 #[.int .i64 k] w fun e B => e = .returned (.bool (decide (0 ≤ k ∧ k < 8))) ∧ B = w := by
  by_cases h1 : 0 ≤ k
  · by_cases h2 : k < 8
    · rw [decide_eq_true (show 0 ≤ k ∧ k < 8 from ⟨h1, h2⟩)]
      go_enter Try.func66, Try.ntmps66
      go_wp2
      go_ret
      exact ⟨rfl, rfl⟩
    · rw [decide_eq_false (show ¬ (0 ≤ k ∧ k < 8) from fun h => h2 h.2)]
      go_enter Try.func66, Try.ntmps66
      go_wp2
      go_ret
      exact ⟨rfl, rfl⟩
  · rw [decide_eq_false (show ¬ (0 ≤ k ∧ k < 8) from fun h => h1 h.1)]
    go_enter Try.func66, Try.ntmps66
    go_wp2
    go_ret
    exact ⟨rfl, rfl⟩
theorem mk40 (b : Nat) (W : World) : (Instr.makeFunc (.func 69) #[] #[.pointer (some ⟨b, 0, none⟩)]).run Try.prog W = .ok (.func (.func 69) #[] #[.pointer (some ⟨b, 0, none⟩)]) W := by kernel_rfl
theorem own36 (p : Option Addr) (w : World) : Calls Try.prog 67 #[.pointer p] w fun e w' => e = .returned (.func (.func 69) #[] #[.pointer (some ⟨w.heap.size, 0, none⟩)]) ∧ w' = w.alloc (.cells #[.pointer p] 88) := by
  have hm := mk40 w.heap.size
  go_enter Try.func67, Try.ntmps67
  go_wp2
  go_ret
  exact ⟨rfl, rfl⟩
/-- a place of the call in block b. -/
abbrev plc (b : Nat) (f : Nat) : Array Value := #[.pointer (some ⟨b, f, none⟩)]
set_option maxRecDepth 100000 in
set_option maxHeartbeats 2000000 in
theorem own1_tells {W : World} {X b : Nat} {k : Int} (hX : W.cell? ⟨X, 0, none⟩ = some (.pointer (some ⟨b, 0, none⟩))) (hk : W.cell? ⟨b, 0, none⟩ = some (.int .i64 k)) :
    TellsAll Try.prog 69 #[.pointer (some ⟨X, 0, none⟩)] (plc b) (pls k) (fun i => i = X) W := by
  intro l J hJ hN hY h0
  have hXl := World.block_lt_of_cell? W ⟨X, 0, none⟩ hX
  have C : Hid (∀ i A, J i A → A.cell? ⟨X, 0, none⟩ = some (.pointer (some ⟨b, 0, none⟩))) := fun i A h => ((hN i A h).cell (p := ⟨X, 0, none⟩) hXl rfl).trans hX
  have Y : Hid (∀ i A f, (pls k)[i]? = some f → J i A → ∃ fn tmps assign body, (Instr.yield l #[.pointer (some ⟨b, f, none⟩)]).run Try.prog A = .ok (.round l fn tmps assign body) A ∧ Hid (RoundIn Fence.wide 0 Try.prog l fn tmps assign body A fun e B => e = .returned (.bool true) ∧ Hid (J (i + 1) B))) := fun i A f hf hj => by
    obtain ⟨fn, tmps, assign, body, hy⟩ := hY i A f hf hj
    exact ⟨fn, tmps, assign, body, (hy 0).1, (hy 0).2⟩
  have D : Hid (∀ i B, i = (pls k).length → J i B → J (pls k).length B) := fun i B e h => e ▸ h
  have H0 := Lib.hid h0
  clear hN hJ hY hXl h0
  refine callsIn_of_wp Try.func69 rfl trivial ?_ rfl
  simp only [Try.ntmps69, List.size_toArray, List.length_cons, List.length_nil, Nat.reduceAdd, Nat.reduceSub, Array.replicate_succ, Array.replicate_zero, List.push_toArray, List.append_toArray, List.nil_append, List.cons_append]
  rcases kinds k with (rfl | rfl) | rfl | rfl | hr
  · obtain ⟨fn, tmps, assign, body, hy, hR⟩ := Y.out 0 W 1 rfl H0.out
    gi_wp2_with fail
    refine hR.out.mono ?_
    rintro e B ⟨rfl, hj⟩
    gi_wp2
    go_end0
    exact ⟨⟨_, rfl⟩, D.out _ _ rfl hj.out⟩
  · obtain ⟨fn, tmps, assign, body, hy, hR⟩ := Y.out 0 W 1 rfl H0.out
    gi_wp2_with fail
    refine hR.out.mono ?_
    rintro e B ⟨rfl, hj⟩
    gi_wp2
    go_end0
    exact ⟨⟨_, rfl⟩, D.out _ _ rfl hj.out⟩
  · obtain ⟨fn, tmps, assign, body, hy, hR⟩ := Y.out 0 W 1 rfl H0.out
    gi_wp2_with fail
    refine hR.out.mono ?_
    rintro e B1 ⟨rfl, hj1⟩
    clear hX hk hy hR
    have hX := C.out _ _ hj1.out
    obtain ⟨fn, tmps, assign, body, hy, hR⟩ := Y.out 1 B1 2 rfl hj1.out
    gi_wp2_with fail
    refine hR.out.mono ?_
    rintro e B2 ⟨rfl, hj2⟩
    clear hX hy hR
    have hX := C.out _ _ hj2.out
    obtain ⟨fn, tmps, assign, body, hy, hR⟩ := Y.out 2 B2 3 rfl hj2.out
    gi_wp2_with fail
    refine hR.out.mono ?_
    rintro e B3 ⟨rfl, hj3⟩
    clear hX hy hR
    have hX := C.out _ _ hj3.out
    obtain ⟨fn, tmps, assign, body, hy, hR⟩ := Y.out 3 B3 4 rfl hj3.out
    gi_wp2_with fail
    refine hR.out.mono ?_
    rintro e B4 ⟨rfl, hj4⟩
    clear hX hy hR
    gi_wp2
    go_end0
    exact ⟨⟨_, rfl⟩, D.out _ _ rfl hj4.out⟩
  · obtain ⟨fn, tmps, assign, body, hy, hR⟩ := Y.out 0 W 3 rfl H0.out
    gi_wp2_with fail
    refine hR.out.mono ?_
    rintro e B ⟨rfl, hj⟩
    gi_wp2
    go_end0
    exact ⟨⟨_, rfl⟩, D.out _ _ rfl hj.out⟩
  · have h1 : ¬ k = 1 := by omega
    have h2 : ¬ k = 2 := by omega
    have h3 : ¬ k = 3 := by omega
    have h7 : ¬ k = 7 := by omega
    have e : pls k = [] := by unfold pls; rw [if_neg (by omega), if_neg h2, if_neg h7]
    have F := D.out 0 W (by rw [e]; rfl) H0.out
    have g1 : (k == 1) = false := by simpa using h1
    have g2 : (k == 2) = false := by simpa using h2
    have g3 : (k == 3) = false := by simpa using h3
    have g7 : (k == 7) = false := by simpa using h7
    clear hr C Y D H0 e
    gi_wp2
    go_end0
    exact ⟨⟨_, rfl⟩, F⟩
end Go.Proofs.Ytfhcgildokdppaa
