/-
  (*Row).Add and Get at whatever place, by their contracts; the law's helper awake.
-/
import Derived.Test.YtnhpcjiieagjnaaDoorNbRefs
namespace Go.Proofs.YtnhpcjiieagjnaaDoor.nb
open Go.RowKit
/-- the counter at whatever place. -/
def getAt (cs : List Nat) (k : Int) : Nat := if 0 ≤ k then ct cs k.toNat else 0
/-- may one add there? -/
def mayAdd (cs : List Nat) (k : Int) : Bool := decide (0 ≤ k ∧ k < cs.length ∧ ct cs k.toNat < 15)
/-- the counters behind that. -/
def addAt (cs : List Nat) (k : Int) : List Nat := if mayAdd cs k = true then cs.set k.toNat (ct cs k.toNat + 1) else cs
theorem addAt_len (cs : List Nat) (k : Int) : (addAt cs k).length = cs.length := by unfold addAt; split <;> simp
theorem getAt_add (cs : List Nat) (i k : Int) : getAt (addAt cs i) k = if k = i ∧ mayAdd cs i = true then getAt cs k + 1 else getAt cs k := by
  unfold addAt
  by_cases h : mayAdd cs i = true
  · have hm := of_decide_eq_true h
    rw [if_pos h]
    unfold getAt
    by_cases hk : 0 ≤ k
    · rw [if_pos hk, if_pos hk, ct_set cs i.toNat _ (by omega)]
      by_cases e : k = i
      · subst e; rw [if_pos rfl, if_pos ⟨rfl, h⟩]
      · rw [if_neg (by omega), if_neg (fun h' => e h'.1)]
    · rw [if_neg hk, if_neg hk, if_neg (fun h' : k = i ∧ mayAdd cs i = true => hk (h'.1 ▸ hm.1))]
  · rw [if_neg h, if_neg (fun h' => h h'.2)]
theorem getAt_zeros (n : Nat) (k : Int) : getAt (List.replicate n 0) k = 0 := by unfold getAt; rw [ct_zeros]; split <;> rfl
theorem getAt_out {cs : List Nat} {k : Int} (h : ¬ (0 ≤ k ∧ k < cs.length)) : getAt cs k = 0 := by
  unfold getAt
  split
  · exact ct_past _ _ (by omega)
  · rfl
theorem may_iff (cs : List Nat) (k : Int) : mayAdd cs k = decide (0 ≤ k ∧ k < cs.length ∧ getAt cs k < 15) := by
  unfold mayAdd getAt
  by_cases h : 0 ≤ k
  · rw [if_pos h]
  · simp [h]
theorem get_any {w : World} {r g : Nat} {cs : List Nat} (h : Nib w r g cs) (k : Int) : Calls Tryd.prog 77 #[.pointer (some ⟨r, 0, none⟩), .int .i64 k] w fun e w' => e = .returned (.int .i64 (getAt cs k : Int)) ∧ ∃ m, w' = w.drewN m := by
  by_cases hk : 0 ≤ k ∧ k < cs.length
  · have e : k = (k.toNat : Int) := by omega
    have := get_in h k.toNat (by omega)
    rw [← e] at this
    rwa [getAt, if_pos hk.1]
  · rw [getAt_out hk]
    exact (get_out _ _ k hk (len_some h)).mono fun e B ⟨he, hB⟩ => ⟨he, 0, hB⟩
theorem add_any {w : World} {r g : Nat} {cs : List Nat} (h : Nib w r g cs) (k : Int) : Calls Tryd.prog 70 #[.pointer (some ⟨r, 0, none⟩), .int .i64 k] w fun e B => e = .returned (.bool (mayAdd cs k)) ∧ Nib B r g (addAt cs k) ∧ Keep (fun k => k ≠ g) w B := by
  by_cases hk : 0 ≤ k ∧ k < cs.length
  · have e : k = (k.toNat : Int) := by omega
    by_cases hm : ct cs k.toNat < 15
    · have hmay : mayAdd cs k = true := decide_eq_true ⟨hk.1, hk.2, hm⟩
      have := add_in h k.toNat (by omega) hm
      rw [← e] at this
      rwa [addAt, if_pos hmay, hmay]
    · have hmay : mayAdd cs k = false := decide_eq_false fun h' => hm h'.2.2
      have := add_most h k.toNat (by omega) (by have := h.low k.toNat; omega)
      rw [← e] at this
      rw [addAt, hmay, if_neg (by simp)]
      exact this.mono fun e B ⟨he, m, hB⟩ => ⟨he, hB ▸ h.drewN m, hB ▸ Keep.drewN _ _ _⟩
  · have hmay : mayAdd cs k = false := decide_eq_false fun h' => hk ⟨h'.1, h'.2.1⟩
    rw [addAt, hmay, if_neg (by simp)]
    exact (add_out _ _ k hk (len_some h)).mono fun e B ⟨he, hB⟩ => ⟨he, hB ▸ h, hB ▸ Keep.refl _ _⟩
end Go.Proofs.YtnhpcjiieagjnaaDoor.nb
