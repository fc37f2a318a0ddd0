/-
  KeyApart walked: for all words a, b and every int it returns true, where the table of steps lies in memory as its text lays it; what was in memory stays.
-/
import Derived.Test.YtmjcdondogpceaaDoorKey
namespace Go.Proofs.YtmjcdondogpceaaDoor
open Go.ChangeShapes Go.WideShapes Go.ChangeAt Go.RowKit
/-- two pairs lie in the blocks g and g + 1, and below B all is as it was in w. -/
def Two (w : World) (g P A Q B : Nat) (w' : World) : Prop :=
  w'.cell? ⟨g, 0, none⟩ = some (.int .u64 (P : Int)) ∧ w'.cell? ⟨g, 1, none⟩ = some (.int .u64 (A : Int)) ∧ w'.cell? ⟨g + 1, 0, none⟩ = some (.int .u64 (Q : Int)) ∧ w'.cell? ⟨g + 1, 1, none⟩ = some (.int .u64 (B : Int)) ∧ g + 1 < w'.heap.size ∧ Below w.heap.size w w'
theorem two_of {w w' : World} {g P A Q B : Nat} (X : Box w' g P A) (Y : Box w' (g + 1) Q B) (hb : Below w.heap.size w w') : Two w g P A Q B w' := ⟨X.c0, X.c1, Y.c0, Y.c1, Y.lt, hb⟩
theorem Two.below {w w1 w2 : World} {g P A Q B : Nat} (h : Two w g P A Q B w1) (hb : Below w1.heap.size w1 w2) : Two w g P A Q B w2 := by
  obtain ⟨h0, h1, h2, h3, h4, h5⟩ := h
  exact ⟨(hb.cell (p := ⟨g, 0, none⟩) (Nat.lt_trans (Nat.lt_succ_self g) h4)).trans h0, (hb.cell (p := ⟨g, 1, none⟩) (Nat.lt_trans (Nat.lt_succ_self g) h4)).trans h1, (hb.cell (p := ⟨g + 1, 0, none⟩) h4).trans h2, (hb.cell (p := ⟨g + 1, 1, none⟩) h4).trans h3, Nat.lt_of_lt_of_le h4 hb.size, bnext h5 hb h5.size⟩
theorem Two.drew {w w1 : World} {g P A Q B : Nat} (h : Two w g P A Q B w1) : Two w g P A Q B w1.drew := h.below (Below.refl _ _).drew
theorem two_new {w w4 : World} {P A Q B : Nat} (hb : Below w.heap.size w w4) : Two w w4.heap.size P A Q B ((w4.alloc (.cells #[.int .u64 (P : Int), .int .u64 (A : Int)] 26)).alloc (.cells #[.int .u64 (Q : Int), .int .u64 (B : Int)] 26)) := by
  have Y := box_new (w4.alloc (.cells #[.int .u64 (P : Int), .int .u64 (A : Int)] 26)) Q B
  rw [World.size_alloc] at Y
  exact two_of ((box_new w4 P A).below ((Below.refl _ _).alloc (Nat.le_refl _) _)) Y ((hb.alloc hb.size _).alloc (Nat.le_trans hb.size (by simp)) _)
set_option maxHeartbeats 1600000 in
set_option maxRecDepth 100000 in
theorem apart_walk (a b : Nat) (k : Int) (ha : a < 18446744073709551616) (hb : b < 18446744073709551616) (w : World) (h : mx.Steps w) :
    Calls Tryd.prog 5 #[.int .u64 a, .int .u64 b, .int .i64 k] w fun e w' => e = .returned (.bool true) ∧ Below w.heap.size w w' := by
  have H := Lib.hid h
  obtain ⟨P, hP⟩ : ∃ P, low (mix a) k = P := ⟨_, rfl⟩
  obtain ⟨Q, hQ⟩ : ∃ Q, low (mix b) k = Q := ⟨_, rfl⟩
  obtain ⟨A, hA⟩ : ∃ A, twist a = A := ⟨_, rfl⟩
  obtain ⟨B, hB⟩ : ∃ B, twist b = B := ⟨_, rfl⟩
  have TN1 : Hid (∀ W, mx.Steps W → Calls Tryd.prog 10 #[.int .u64 (a : Int)] W fun e w' => e = .returned (pv (mix a) A) ∧ Below W.heap.size W w') := fun W hW => hA ▸ number_any a ha W hW
  have TN2 : Hid (∀ W, mx.Steps W → Calls Tryd.prog 10 #[.int .u64 (b : Int)] W fun e w' => e = .returned (pv (mix b) B) ∧ Below W.heap.size W w') := fun W hW => hB ▸ number_any b hb W hW
  have TC1 : Hid (∀ W, Calls Tryd.prog 13 #[pv (mix a) A, .int .i64 k] W fun e w' => e = .returned (pv P A) ∧ Below W.heap.size W w') := fun W => hP ▸ cut_any (mix a) A k (mix_lt a) W
  have TC2 : Hid (∀ W, Calls Tryd.prog 13 #[pv (mix b) B, .int .i64 k] W fun e w' => e = .returned (pv Q B) ∧ Below W.heap.size W w') := fun W => hQ ▸ cut_any (mix b) B k (mix_lt b) W
  have hcase : (a = b ∧ P = Q ∧ A = B ∧ ahead P A Q B = false ∧ ahead Q B P A = false) ∨ (¬ a = b ∧ ¬ A = B ∧ P < Q ∧ ahead P A Q B = true ∧ ahead Q B P A = false) ∨ (¬ a = b ∧ ¬ A = B ∧ Q < P ∧ ahead P A Q B = false ∧ ahead Q B P A = true) ∨ (¬ a = b ∧ ¬ A = B ∧ P = Q ∧ ahead P A Q B = true ∧ ahead Q B P A = false) ∨ (¬ a = b ∧ ¬ A = B ∧ P = Q ∧ ahead P A Q B = false ∧ ahead Q B P A = true) := by
    have hi := twist_inj a b ha hb
    rw [hA, hB] at hi
    unfold ahead
    simp only [decide_eq_true_eq, decide_eq_false_iff_not]
    by_cases he : a = b
    · subst he
      have e1 : A = B := hi.2 rfl
      have e2 : P = Q := by rw [← hP, ← hQ]
      omega
    · have : ¬ A = B := fun h => he (hi.1 h)
      omega
  have TA : Hid (∀ W, mx.Steps W → Calls Tryd.prog 6 #[] W fun e w' => e = .returned (.bool true) ∧ Below W.heap.size W w') := fun W hW => awake_any W hW
  have TL1 : Hid (∀ W, Calls Tryd.prog 18 #[pv P A, pv Q B] W fun e w' => e = .returned (.bool (ahead P A Q B)) ∧ Below W.heap.size W w') := fun W => less_any P A Q B W
  have TL2 : Hid (∀ W, Calls Tryd.prog 18 #[pv Q B, pv P A] W fun e w' => e = .returned (.bool (ahead Q B P A)) ∧ Below W.heap.size W w') := fun W => less_any Q B P A W
  have SB : Hid (∀ W W', mx.Steps W → Below W.heap.size W W' → mx.Steps W') := fun _ _ h1 h2 => steps_below h1 h2
  clear h hP hQ hA hB
  generalize mix a = ma at *
  generalize mix b = mb at *
  generalize ahead P A Q B = one at *
  generalize ahead Q B P A = other at *
  have HCASE := Lib.hid hcase
  clear hcase
  go_enter Tryd.func5, Tryd.ntmps5
  go_wp2_with fail
  refine (TN1.out _ H.out).mono ?_
  rintro e w1 ⟨rfl, b1⟩
  have B1 := Lib.hid b1
  clear b1
  go_wp2_with fail
  refine (TC1.out _).mono ?_
  rintro e w2 ⟨rfl, b2⟩
  have B2 := Lib.hid (bnext B1.out b2 B1.out.size)
  clear b2 B1
  go_wp2_with fail
  refine (TN2.out _ (SB.out _ _ H.out B2.out)).mono ?_
  rintro e w3 ⟨rfl, b3⟩
  have B3 := Lib.hid (bnext B2.out b3 B2.out.size)
  clear b3 B2
  go_wp2_with fail
  refine (TC2.out _).mono ?_
  rintro e w4 ⟨rfl, b4⟩
  have B4 := Lib.hid (bnext B3.out b4 B3.out.size)
  clear b4 B3
  have K0 : Hid (Two w w4.heap.size P A Q B ((w4.alloc (.cells #[.int .u64 (P : Int), .int .u64 (A : Int)] 26)).alloc (.cells #[.int .u64 (Q : Int), .int .u64 (B : Int)] 26)).drew) := (two_new B4.out).drew
  have T1 : Hid (∀ W, Two w w4.heap.size P A Q B W → Calls Tryd.prog 18 #[pv P A, pv Q B] W fun e w' => e = .returned (.bool one) ∧ Two w w4.heap.size P A Q B w') := fun W hW => (TL1.out W).mono fun _ _ ⟨he, hb⟩ => ⟨he, hW.below hb⟩
  have T2 : Hid (∀ W, Two w w4.heap.size P A Q B W → Calls Tryd.prog 18 #[pv Q B, pv P A] W fun e w' => e = .returned (.bool other) ∧ Two w w4.heap.size P A Q B w') := fun W hW => (TL2.out W).mono fun _ _ ⟨he, hb⟩ => ⟨he, hW.below hb⟩
  clear TN1 TN2 TC1 TC2 TL1 TL2 B4
  go_wp2_with fail
  generalize hg : w4.heap.size = g at *
  clear hg
  go_region_held3 (fun w' => w'.cell? ⟨g, 0, none⟩ = some (.int .u64 (P : Int)) ∧ w'.cell? ⟨g, 1, none⟩ = some (.int .u64 (A : Int)) ∧ w'.cell? ⟨g + 1, 0, none⟩ = some (.int .u64 (Q : Int)) ∧ w'.cell? ⟨g + 1, 1, none⟩ = some (.int .u64 (B : Int)) ∧ g + 1 < w'.heap.size ∧ Below w.heap.size w w') (first | exact K0.out | assumption) (first
    | (go_at_call 18; refine (T2.out _ hk5).mono ?_; rintro e w6 ⟨rfl, hk6⟩)
    | (go_at_call 18; refine (T1.out _ K0.out).mono ?_; rintro e w5 ⟨rfl, hk5⟩))
  obtain ⟨c0, c1, c2, c3, _, b6⟩ := hk6
  have B6 := Lib.hid b6
  clear b6 T1 T2 K0 hk5
  rcases HCASE.out with ⟨h1, h2, h3, h4, h5⟩ | ⟨h1, h2, h3, h4, h5⟩ | ⟨h1, h2, h3, h4, h5⟩ | ⟨h1, h2, h3, h4, h5⟩ | ⟨h1, h2, h3, h4, h5⟩ <;> clear HCASE
  · subst h1 h2 h3 h4 h5
    go_wp2_with fail
    refine (TA.out _ (SB.out _ _ H.out B6.out)).mono ?_
    rintro e w7 ⟨rfl, b7⟩
    go_wp2
    go_ret
    exact ⟨rfl, bnext B6.out b7 B6.out.size⟩
  · have i1 : ¬ (a : Int) = (b : Int) := by omega
    have i2 : ¬ (A : Int) = (B : Int) := by omega
    have j1 : ((a : Int) == (b : Int)) = false := by simpa using i1
    have j2 : ((a : Int) != (b : Int)) = true := by simpa using i1
    have i3 : ¬ (P : Int) = (Q : Int) := by omega
    have j3 : ((P : Int) == (Q : Int)) = false := by simpa using i3
    have i4 : (P : Int) ≤ (Q : Int) := by omega
    have i5 : ¬ (Q : Int) ≤ (P : Int) := by omega
    subst h4 h5
    go_wp2_with fail
    refine (TA.out _ (SB.out _ _ H.out B6.out)).mono ?_
    rintro e w7 ⟨rfl, b7⟩
    go_wp2
    go_ret
    exact ⟨rfl, bnext B6.out b7 B6.out.size⟩
  · have i1 : ¬ (a : Int) = (b : Int) := by omega
    have i2 : ¬ (A : Int) = (B : Int) := by omega
    have j1 : ((a : Int) == (b : Int)) = false := by simpa using i1
    have j2 : ((a : Int) != (b : Int)) = true := by simpa using i1
    have i3 : ¬ (P : Int) = (Q : Int) := by omega
    have j3 : ((P : Int) == (Q : Int)) = false := by simpa using i3
    have i4 : (Q : Int) ≤ (P : Int) := by omega
    have i5 : ¬ (P : Int) ≤ (Q : Int) := by omega
    subst h4 h5
    go_wp2_with fail
    refine (TA.out _ (SB.out _ _ H.out B6.out)).mono ?_
    rintro e w7 ⟨rfl, b7⟩
    go_wp2
    go_ret
    exact ⟨rfl, bnext B6.out b7 B6.out.size⟩
  · have i1 : ¬ (a : Int) = (b : Int) := by omega
    have i2 : ¬ (A : Int) = (B : Int) := by omega
    have j1 : ((a : Int) == (b : Int)) = false := by simpa using i1
    have j2 : ((a : Int) != (b : Int)) = true := by simpa using i1
    subst h3
    have j3 : ((A : Int) == (B : Int)) = false := by simpa using i2
    subst h4 h5
    go_wp2_with fail
    refine (TA.out _ (SB.out _ _ H.out B6.out)).mono ?_
    rintro e w7 ⟨rfl, b7⟩
    go_wp2
    go_ret
    exact ⟨rfl, bnext B6.out b7 B6.out.size⟩
  · have i1 : ¬ (a : Int) = (b : Int) := by omega
    have i2 : ¬ (A : Int) = (B : Int) := by omega
    have j1 : ((a : Int) == (b : Int)) = false := by simpa using i1
    have j2 : ((a : Int) != (b : Int)) = true := by simpa using i1
    subst h3
    have j3 : ((A : Int) == (B : Int)) = false := by simpa using i2
    subst h4 h5
    go_wp2_with fail
    refine (TA.out _ (SB.out _ _ H.out B6.out)).mono ?_
    rintro e w7 ⟨rfl, b7⟩
    go_wp2
    go_ret
    exact ⟨rfl, bnext B6.out b7 B6.out.size⟩
end Go.Proofs.YtmjcdondogpceaaDoor
