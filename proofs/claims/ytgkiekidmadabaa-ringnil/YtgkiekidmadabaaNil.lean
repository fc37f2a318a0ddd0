/-
  RingNil walked: for all ints x and room it returns true; what was in memory stays.
-/
import Derived.Test.YtgkiekidmadabaaHelps
namespace Go.Proofs.Ytgkiekidmadabaa
open Go.RowKit Go.Shelf
theorem roomOf_zero (k : Int) (h : k ≤ 0) : roomOf k = 0 := by unfold roomOf; omega
set_option maxHeartbeats 3200000 in
set_option maxRecDepth 100000 in
theorem nil_walk (x room : Int) (w : World) : Calls Try.prog 5 #[.int .i64 x, .int .i64 room] w fun e B => e = .returned (.bool true) ∧ Below w.heap.size w B := by
  obtain ⟨N, hN⟩ : ∃ N, w.heap.size = N := ⟨_, rfl⟩
  have T7 : Hid (∀ k : Int, k ≤ 0 → Calls Try.prog 7 #[.int .i64 k] w fun e B => e = .returned (.pointer (some ⟨N, 0, none⟩)) ∧ Hid (Has (fun k => k < N) B N [] 0 ∧ Below N w B)) := fun k hk => (new_has k w (fun k => k < N) fun _ h => hN ▸ h).mono fun e B ⟨he, hB, hb⟩ => by
    rw [roomOf_zero k hk] at hB
    rw [hN] at he hB hb
    exact ⟨he, hB, hb⟩
  have C10 : Hid (∀ W, (Has (fun k => k < N) W N [] 0 ∧ Below N w W) → Calls Try.prog 10 #[.pointer none, .int .i64 x] W fun e B => e = .returned (.bool false) ∧ (Has (fun k => k < N) B N [] 0 ∧ Below N w B)) := fun W ⟨h, hb⟩ => (send_none W x).mono fun e B ⟨he, m, hB⟩ => ⟨he, hB ▸ h.drewN m, hB ▸ hb.trans (Keep.below (Keep.drewN (fun _ => True) W m) (fun _ _ => trivial) (hN ▸ hb.size))⟩
  have C17 : Hid (∀ W, (Has (fun k => k < N) W N [] 0 ∧ Below N w W) → Calls Try.prog 17 #[.pointer none] W fun e B => e = .returned (.int .i64 0) ∧ (Has (fun k => k < N) B N [] 0 ∧ Below N w B)) := fun W h => (len_none W).mono fun e B ⟨he, hB⟩ => ⟨he, hB ▸ h⟩
  have C18 : Hid (∀ W, (Has (fun k => k < N) W N [] 0 ∧ Below N w W) → Calls Try.prog 18 #[.pointer none] W fun e B => e = .returned (.int .i64 0) ∧ (Has (fun k => k < N) B N [] 0 ∧ Below N w B)) := fun W h => (room_none W).mono fun e B ⟨he, hB⟩ => ⟨he, hB ▸ h⟩
  have C28 : Hid (∀ W, (Has (fun k => k < N) W N [] 0 ∧ Below N w W) → Calls Try.prog 28 #[.pointer none] W fun e B => e = .returned (.pointer none) ∧ (Has (fun k => k < N) B N [] 0 ∧ Below N w B)) := fun W h => (clone_none W).mono fun e B ⟨he, hB⟩ => ⟨he, hB ▸ h⟩
  have C20 : Hid (∀ W, (Has (fun k => k < N) W N [] 0 ∧ Below N w W) → Calls Try.prog 20 #[.pointer none, .int .i64 3] W fun e B => ∃ a cap, e = .returned (.slice a 0 cap) ∧ (Has (fun k => k < N) B N [] 0 ∧ Below N w B)) := fun W ⟨h, hb⟩ => (told_none W 3 (by omega)).mono fun e B ⟨v, he, ⟨a, cap, hv, _⟩, hB⟩ => ⟨a, cap, by rw [he, hv]; rfl, h.below hB, hb.trans (hB.mono (hN ▸ hb.size))⟩
  have C16 : Hid (∀ W, (Has (fun k => k < N) W N [] 0 ∧ Below N w W) → Calls Try.prog 16 #[.pointer none, .int .i64 3] W fun e B => ∃ a cap, e = .returned (.slice a 0 cap) ∧ (Has (fun k => k < N) B N [] 0 ∧ Below N w B)) := fun W ⟨h, hb⟩ => (drained_none W 3 (by omega)).mono fun e B ⟨v, he, ⟨a, cap, hv, _⟩, hB⟩ => ⟨a, cap, by rw [he, hv]; rfl, h.below hB, hb.trans (hB.mono (hN ▸ hb.size))⟩
  have D10 : Hid (∀ W, (Has (fun k => k < N) W N [] 0 ∧ Below N w W) → Calls Try.prog 10 #[.pointer (some ⟨N, 0, none⟩), .int .i64 x] W fun e B => e = .returned (.bool false) ∧ (Has (fun k => k < N) B N [] 0 ∧ Below N w B)) := fun W ⟨h, hb⟩ => by
    have hs : N ≤ W.heap.size := hN ▸ hb.size
    exact (h.send (fun k hk => Nat.lt_of_lt_of_le hk hs) x).mono fun e B ⟨he, hB, hk⟩ => ⟨he, hB, Keep.next hb hk hs⟩
  have D17 : Hid (∀ W, (Has (fun k => k < N) W N [] 0 ∧ Below N w W) → Calls Try.prog 17 #[.pointer (some ⟨N, 0, none⟩)] W fun e B => e = .returned (.int .i64 0) ∧ (Has (fun k => k < N) B N [] 0 ∧ Below N w B)) := fun W h => h.1.len.mono fun e B ⟨he, hB⟩ => ⟨he, hB ▸ h⟩
  have D18 : Hid (∀ W, (Has (fun k => k < N) W N [] 0 ∧ Below N w W) → Calls Try.prog 18 #[.pointer (some ⟨N, 0, none⟩)] W fun e B => e = .returned (.int .i64 0) ∧ (Has (fun k => k < N) B N [] 0 ∧ Below N w B)) := fun W h => h.1.room_.mono fun e B ⟨he, hB⟩ => ⟨he, hB ▸ h⟩
  have C6 : Hid (∀ W, (Has (fun k => k < N) W N [] 0 ∧ Below N w W) → Calls Try.prog 6 #[] W fun e B => e = .returned (.bool true) ∧ (Has (fun k => k < N) B N [] 0 ∧ Below N w B)) := fun W ⟨h, hb⟩ => (awake_any W).mono fun e B ⟨he, hB⟩ => ⟨he, h.below hB, hb.trans (hB.mono (hN ▸ hb.size))⟩
  rw [hN]
  clear hN
  go_enter Try.func5, Try.ntmps5
  go_wp2_with fail
  refine (take_none w).mono ?_
  rintro e w1 ⟨rfl, e1⟩
  obtain rfl : w = w1 := e1.symm
  go_wp2_with fail
  refine (at_none w 0).mono ?_
  rintro e w1 ⟨rfl, e1⟩
  obtain rfl : w = w1 := e1.symm
  go_wp2_with fail
  all_goals (
    refine (T7.out _ (by omega)).mono ?_
    rintro e w1 ⟨rfl, h1⟩
    have K0 : Hid (Has (fun k => k < N) w1 N [] 0 ∧ Below N w w1) := ⟨h1.out.1, h1.out.2⟩
    clear h1 T7
    go_wp2_with (first
      | (go_at_call 18; refine (D18.out _ h9).mono ?_; rintro e w10 ⟨rfl, h10⟩)
      | (go_at_call 17; refine (D17.out _ h8).mono ?_; rintro e w9 ⟨rfl, h9⟩)
      | (go_at_call 10; refine (D10.out _ h7).mono ?_; rintro e w8 ⟨rfl, h8⟩)
      | (go_at_call 6; refine (C6.out _ h10).mono ?_; rintro e w11 ⟨rfl, h11⟩)
      | (go_at_call 10; refine (C10.out _ K0.out).mono ?_; rintro e w2 ⟨rfl, h2⟩)
      | (go_at_call 17; refine (C17.out _ h2).mono ?_; rintro e w3 ⟨rfl, h3⟩)
      | (go_at_call 18; refine (C18.out _ h3).mono ?_; rintro e w4 ⟨rfl, h4⟩)
      | (go_at_call 28; refine (C28.out _ h4).mono ?_; rintro e w5 ⟨rfl, h5⟩)
      | (go_at_call 20; refine (C20.out _ h5).mono ?_; rintro e w6 ⟨a6, cap6, rfl, h6⟩)
      | (go_at_call 16; refine (C16.out _ h6).mono ?_; rintro e w7 ⟨a7, cap7, rfl, h7⟩))
    go_ret
    exact ⟨rfl, h11.2⟩)
end Go.Proofs.Ytgkiekidmadabaa
