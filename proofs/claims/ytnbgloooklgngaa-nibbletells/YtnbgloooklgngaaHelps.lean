/-
  (*Row).Add and Get at whatever place, by their contracts; the law's helper awake.
-/
import Derived.Test.YtnbgloooklgngaaRefs
namespace Go.Proofs.Ytnbgloooklgngaa
open Go.RowKit
/-- the counter at whatever place. -/
def getAt (cs : List Nat) (k : Int) : Nat := if 0 ≤ k then ct cs k.toNat else 0
/-- may one add there? -/
def mayAdd (cs : List Nat) (k : Int) : Bool := decide (0 ≤ k ∧ k < cs.length ∧ ct cs k.toNat < 15)
/-- the counters behind that. -/
def addAt (cs : List Nat) (k : Int) : List Nat := if mayAdd cs k = true then cs.set k.toNat (ct cs k.toNat + 1) else cs
theorem addAt_len (cs : List Nat) (k : Int) : (addAt cs k).length = cs.length := by unfold addAt; split <;> simp
theorem getAt_add (cs : List Nat) (i k : Int) : getAt (addAt cs i) k = if k = i ∧ mayAdd cs i = true then getAt cs k + 1 else getAt cs k := by
  unfold addAt
  by_cases h : mayAdd cs i = true
  · have hm := of_decide_eq_true h
    rw [if_pos h]
    unfold getAt
    by_cases hk : 0 ≤ k
    · rw [if_pos hk, if_pos hk, ct_set cs i.toNat _ (by omega)]
      by_cases e : k = i
      · subst e; rw [if_pos rfl, if_pos ⟨rfl, h⟩]
      · rw [if_neg (by omega), if_neg (fun h' => e h'.1)]
    · rw [if_neg hk, if_neg hk, if_neg (fun h' : k = i ∧ mayAdd cs i = true => hk (h'.1 ▸ hm.1))]
  · rw [if_neg h, if_neg (fun h' => h h'.2)]
theorem getAt_zeros (n : Nat) (k : Int) : getAt (List.replicate n 0) k = 0 := by unfold getAt; rw [ct_zeros]; split <;> rfl
theorem getAt_out {cs : List Nat} {k : Int} (h : ¬ (0 ≤ k ∧ k < cs.length)) : getAt cs k = 0 := by
  unfold getAt
  split
  · exact ct_past _ _ (by omega)
  · rfl
theorem may_iff (cs : List Nat) (k : Int) : mayAdd cs k = decide (0 ≤ k ∧ k < cs.length ∧ getAt cs k < 15) := by
  unfold mayAdd getAt
  by_cases h : 0 ≤ k
  · rw [if_pos h]
  · simp [h]
theorem get_any {w : World} {r g : Nat} {cs : List Nat} (h : Nib w r g cs) (k : Int) : Calls Try.prog 11 #[.pointer (some ⟨r, 0, none⟩), .int .i64 k] w fun e w' => e = .returned (.int .i64 (getAt cs k : Int)) ∧ ∃ m, w' = w.drewN m := by
  by_cases hk : 0 ≤ k ∧ k < cs.length
  · have e : k = (k.toNat : Int) := by omega
    have := get_in h k.toNat (by omega)
    rw [← e] at this
    rwa [getAt, if_pos hk.1]
  · rw [getAt_out hk]
    exact (get_out _ _ k hk (len_some h)).mono fun e B ⟨he, hB⟩ => ⟨he, 0, hB⟩
theorem add_any {w : World} {r g : Nat} {cs : List Nat} (h : Nib w r g cs) (k : Int) : Calls Try.prog 14 #[.pointer (some ⟨r, 0, none⟩), .int .i64 k] w fun e B => e = .returned (.bool (mayAdd cs k)) ∧ Nib B r g (addAt cs k) ∧ Keep (fun k => k ≠ g) w B := by
  by_cases hk : 0 ≤ k ∧ k < cs.length
  · have e : k = (k.toNat : Int) := by omega
    by_cases hm : ct cs k.toNat < 15
    · have hmay : mayAdd cs k = true := decide_eq_true ⟨hk.1, hk.2, hm⟩
      have := add_in h k.toNat (by omega) hm
      rw [← e] at this
      rwa [addAt, if_pos hmay, hmay]
    · have hmay : mayAdd cs k = false := decide_eq_false fun h' => hm h'.2.2
      have := add_most h k.toNat (by omega) (by have := h.low k.toNat; omega)
      rw [← e] at this
      rw [addAt, hmay, if_neg (by simp)]
      exact this.mono fun e B ⟨he, m, hB⟩ => ⟨he, hB ▸ h.drewN m, hB ▸ Keep.drewN _ _ _⟩
  · have hmay : mayAdd cs k = false := decide_eq_false fun h' => hk ⟨h'.1, h'.2.1⟩
    rw [addAt, hmay, if_neg (by simp)]
    exact (add_out _ _ k hk (len_some h)).mono fun e B ⟨he, hB⟩ => ⟨he, hB ▸ h, hB ▸ Keep.refl _ _⟩
set_option maxHeartbeats 1000000 in
theorem awake_any (w : World) : Calls Try.prog 6 #[] w fun e B => e = .returned (.bool true) ∧ Hid (Below w.heap.size w B) := by
  obtain ⟨N, hN⟩ : ∃ N, w.heap.size = N := ⟨_, rfl⟩
  have T7 : Hid (Calls Try.prog 7 #[.int .i64 3] w fun e B => e = .returned (.pointer (some ⟨N + 1, 0, none⟩)) ∧ Hid (Nib B (N + 1) N (List.replicate 3 0) ∧ Below N w B ∧ N ≤ B.heap.size)) :=
    (new_any 3 3 (by decide) w).mono fun e B ⟨he, h1, h2⟩ => by
      rw [hN] at he h1 h2
      exact ⟨he, h1, h2, hN ▸ h2.size⟩
  have T14 : Hid (∀ W, Hid (Nib W (N + 1) N (List.replicate 3 0) ∧ Below N w W ∧ N ≤ W.heap.size) → Calls Try.prog 14 #[.pointer (some ⟨N + 1, 0, none⟩), .int .i64 1] W fun e B => e = .returned (.bool true) ∧ Hid (Nib B (N + 1) N [0, 1, 0] ∧ Below N w B ∧ N ≤ B.heap.size)) := fun W h =>
    (add_any h.out.1 1).mono fun e B ⟨he, h1, h2⟩ => ⟨he, h1, h.out.2.1.trans (h2.below (fun k hk => by omega) h.out.2.2), Nat.le_trans h.out.2.2 h2.size⟩
  have T11 : Hid (∀ W, Hid (Nib W (N + 1) N [0, 1, 0] ∧ Below N w W ∧ N ≤ W.heap.size) → Calls Try.prog 11 #[.pointer (some ⟨N + 1, 0, none⟩), .int .i64 1] W fun e B => e = .returned (.int .i64 1) ∧ Hid (Nib B (N + 1) N [0, 1, 0] ∧ Below N w B ∧ N ≤ B.heap.size)) := fun W h =>
    (get_any h.out.1 1).mono fun e B ⟨he, m, hB⟩ => by
      subst hB
      exact ⟨he, h.out.1.drewN m, h.out.2.1.trans ((Keep.drewN (fun _ => True) W m).below (fun _ _ => trivial) h.out.2.2), h.out.2.2⟩
  have T19 : Hid (∀ W, Hid (Nib W (N + 1) N [0, 1, 0] ∧ Below N w W ∧ N ≤ W.heap.size) → Calls Try.prog 19 #[.pointer (some ⟨N + 1, 0, none⟩)] W fun e B => (∃ a c, e = .returned (.slice a 2 c)) ∧ Hid (Below N w B)) := fun W h =>
    (bytes_some h.out.1).mono fun e B ⟨v, he, h1, h2⟩ => by
      obtain ⟨a, c, rfl, _⟩ := h1.slice
      exact ⟨⟨a, c, he⟩, h.out.2.1.trans (h2.mono h.out.2.2)⟩
  rw [hN]
  clear hN
  go_enter Try.func6, Try.ntmps6
  go_wp2_with fail
  refine T7.out.mono ?_
  rintro e w1 ⟨rfl, h1⟩
  go_wp2_with fail
  refine (T14.out _ h1).mono ?_
  rintro e w2 ⟨rfl, h2⟩
  go_wp2_with fail
  refine (T11.out _ h2).mono ?_
  rintro e w3 ⟨rfl, h3⟩
  go_wp2_with fail
  refine (T19.out _ h3).mono ?_
  rintro e w4 ⟨⟨a, c, rfl⟩, h4⟩
  go_wp2
  go_ret
  exact ⟨rfl, h4⟩
end Go.Proofs.Ytnbgloooklgngaa
