/-
  (*Exact).Clear by its contract; of no exact: 0, nothing.
-/
import Derived.Test.YtnhpcjiieagjnaaRkPush
namespace Go.Proofs.Ytnhpcjiieagjnaa.rk
open Go.RowKit
set_option maxHeartbeats 1000000 in
theorem clear_any {W : World} {X g lim : Nat} {t : Tr} {e : Ez} (h : Xg W X g t lim e) : Calls Try.prog 11 #[.pointer (some ⟨X, 0, none⟩)] W fun r B => r = .returned (.tuple #[]) ∧ Hid (∃ g', Xg B X g' .nil lim es0 ∧ Keep (fun k => k ≠ X) W B) := by
  obtain ⟨cnt, hcnt⟩ : ∃ cnt, e.cnt = cnt := ⟨_, rfl⟩
  have T : Hid (Calls Try.prog 13 #[] W fun r B => ∃ g', r = .returned (.pointer (some ⟨g', 0, none⟩)) ∧ B.cell? ⟨X, 0, none⟩ = some (.pointer (some ⟨g, 0, none⟩)) ∧ B.frozen? ⟨X, 0, none⟩ = false ∧ (B.setCell ⟨X, 0, none⟩ (.pointer (some ⟨g', 0, none⟩))).cell? ⟨X, 2, none⟩ = some (.int .i64 (cnt : Int)) ∧ (B.setCell ⟨X, 0, none⟩ (.pointer (some ⟨g', 0, none⟩))).frozen? ⟨X, 2, none⟩ = false ∧
      Hid (∃ g', Xg ((B.setCell ⟨X, 0, none⟩ (.pointer (some ⟨g', 0, none⟩))).setCell ⟨X, 2, none⟩ (.int .i64 0)) X g' .nil lim es0 ∧ Keep (fun k => k ≠ X) W ((B.setCell ⟨X, 0, none⟩ (.pointer (some ⟨g', 0, none⟩))).setCell ⟨X, 2, none⟩ (.int .i64 0))) ∧ Hid (∀ C, ((B.setCell ⟨X, 0, none⟩ (.pointer (some ⟨g', 0, none⟩))).setCell ⟨X, 2, none⟩ (.int .i64 0)) = C → ∃ g', Xg C X g' .nil lim es0 ∧ Keep (fun k => k ≠ X) W C)) :=
    (noKeys_any W).mono fun r B ⟨g', he, ho⟩ => by
      obtain ⟨q1, q2⟩ := ho.out
      have hB := h.below q2
      have h1 : Xg (B.setCell ⟨X, 0, none⟩ (.pointer (some ⟨g', 0, none⟩))) X g' .nil lim ⟨fun _ => false, fun _ => 0, e.cnt⟩ := hB.setTree q1 ⟨Rep.start.val, Rep.start.pos, Rep.start.est⟩ (fun _ => Nat.zero_le _) rfl
      have h2 := h1.setCnt 0
      have d2 := h1.c2
      rw [show ((⟨fun _ => false, fun _ => 0, e.cnt⟩ : Ez).cnt : Int) = (cnt : Int) by show (e.cnt : Int) = cnt; rw [hcnt]] at d2
      have k : Keep (fun k => k ≠ X) W ((B.setCell ⟨X, 0, none⟩ (.pointer (some ⟨g', 0, none⟩))).setCell ⟨X, 2, none⟩ (.int .i64 0)) := Keep.trans ⟨q2.os, q2.tape, q2.output, q2.size, fun k hk _ => q2.block k hk⟩ ((Xg.keepX B 0 _).trans (Xg.keepX _ 2 _))
      exact ⟨g', he, hB.c0, hB.fr 0, d2, h1.fr 2, ⟨g', h2, k⟩, fun C hC => by rw [← hC]; exact ⟨g', h2, k⟩⟩
  clear h hcnt
  go_enter Try.func11, Try.ntmps11
  go_wp2_with fail
  refine T.out.mono ?_
  rintro r w1 ⟨g', rfl, d0, f0, d2, f2, ho, hC⟩
  go_wp2
  go_end0
  exact ⟨rfl, hC.out _ rfl⟩
theorem none7 (w : World) : Calls Try.prog 7 #[.pointer none] w fun e B => e = .returned (.int .i64 0) ∧ B = w := by
  go_enter Try.func7, Try.ntmps7
  go_wp2
  go_ret
  exact ⟨rfl, rfl⟩
theorem none10 (w : World) : Calls Try.prog 10 #[.pointer none] w fun e B => e = .returned (.int .i64 0) ∧ B = w := by
  go_enter Try.func10, Try.ntmps10
  go_wp2
  go_ret
  exact ⟨rfl, rfl⟩
theorem none9 (x : Int) (w : World) : Calls Try.prog 9 #[.pointer none, .int .u64 x] w fun e B => e = .returned (.int .i64 0) ∧ B = w := by
  go_enter Try.func9, Try.ntmps9
  go_wp2
  go_ret
  exact ⟨rfl, rfl⟩
theorem none11 (w : World) : Calls Try.prog 11 #[.pointer none] w fun e B => e = .returned (.tuple #[]) ∧ B = w := by
  go_enter Try.func11, Try.ntmps11
  go_wp2
  refine bodyPost_ret (results_none rfl _ _ _) rfl ?_
  exact ⟨rfl, rfl⟩
theorem none6 (x : Int) (w : World) : Calls Try.prog 6 #[.pointer none, .int .u64 x] w fun e B => e = .returned (.tuple #[]) ∧ B = w := by
  go_enter Try.func6, Try.ntmps6
  go_wp2
  refine bodyPost_ret (results_none rfl _ _ _) rfl ?_
  exact ⟨rfl, rfl⟩
set_option maxHeartbeats 1000000 in
theorem none12 {W : World} (p : Option Addr) (cap : Nat) (l : List Nat) (hk : Ks (fun _ => True) W p l) (hl : l.length ≤ 1000000) : Calls Try.prog 12 #[.pointer none, .slice p l.length cap] W fun r B => r = .returned (.tuple #[]) ∧ B = W := by
  have G : Hid (∀ j, j < l.length → ∃ b o x, p = some ⟨b, o, none⟩ ∧ W.cell? ⟨b, o + j, none⟩ = some (.int .u64 (x : Int)) ∧ Hid (Calls Try.prog 6 #[.pointer none, .int .u64 (x : Int)] W fun e B => e = .returned (.tuple #[]) ∧ B = W)) := fun j hj => by
    obtain ⟨b, o, x, hp, hx, hlt, hcell⟩ := hk.at_ (Keep.refl _ _) j hj
    exact ⟨b, o, x, hp, hcell, none6 (x : Int) W⟩
  clear hk
  generalize l.length = len at *
  go_enter Try.func12, Try.ntmps12
  go_wp2_with fail
  go_loopw [8] (fun i wr => ∃ j : Nat, j ≤ len ∧ i = .int .i64 j ∧ wr = W) (fun i _ => len - (intOf i).toNat)
  case atStart => exact ⟨0, by omega, rfl, rfl⟩
  case round =>
    obtain ⟨j, hj, rfl, rfl⟩ := hrel
    by_cases hlt : j < len
    · obtain ⟨b, o, x, rfl, d0, P⟩ := G.out j hlt
      have h1 : (0 : Int) ≤ (j : Int) := by omega
      have h2 : (j : Int) < (len : Int) := by omega
      clear G
      go_wp2_with fail
      refine P.out.mono ?_
      rintro r w2 ⟨rfl, rfl⟩
      go_wp2
      go_roundw
      case rel => exact ⟨j + 1, by omega, by simp, trivial⟩
      case measure => simp [intOf]; omega
    · obtain rfl : j = len := by omega
      go_wp2
      go_end0
      exact ⟨rfl, rfl⟩
end Go.Proofs.Ytnhpcjiieagjnaa.rk
