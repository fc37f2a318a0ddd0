/-
  KeyBack walked: for every pair and every word it returns true, where the table of steps lies in memory as its text lays it; what was in memory stays.
-/
import Derived.Test.YtmjcdondogpceaaDoorKey
import Derived.Deep.RegionHeld
import Derived.Deep.QuietTactic
import Derived.BigQuiet
namespace Go.Proofs.YtmjcdondogpceaaDoor
open Go.ChangeShapes Go.WideShapes Go.ChangeAt Go.RowKit
/-- a pair lies in block g, and all of w stands. -/
def One (w : World) (g h c : Nat) (w' : World) : Prop :=
  w'.cell? ⟨g, 0, none⟩ = some (.int .u64 (h : Int)) ∧ w'.cell? ⟨g, 1, none⟩ = some (.int .u64 (c : Int)) ∧ g < w'.heap.size ∧ Below w.heap.size w w'
theorem One.below {w w1 w2 : World} {g h c : Nat} (hh : One w g h c w1) (hb : Below w1.heap.size w1 w2) : One w g h c w2 := by
  obtain ⟨h0, h1, h4, h5⟩ := hh
  exact ⟨(hb.cell (p := ⟨g, 0, none⟩) h4).trans h0, (hb.cell (p := ⟨g, 1, none⟩) h4).trans h1, Nat.lt_of_lt_of_le h4 hb.size, bnext h5 hb h5.size⟩
theorem One.drew {w w1 : World} {g h c : Nat} (hh : One w g h c w1) : One w g h c w1.drew := hh.below (Below.refl _ _).drew
theorem One.drewN {w w1 : World} {g h c : Nat} (hh : One w g h c w1) (n : Nat) : One w g h c (w1.drewN n) := hh.below ⟨rfl, rfl, rfl, Nat.le_refl _, fun _ _ => rfl⟩
theorem one_new (w : World) (h c : Nat) : One w w.heap.size h c (w.alloc (.cells #[.int .u64 (h : Int), .int .u64 (c : Int)] 26)) :=
  ⟨(box_new w h c).c0, (box_new w h c).c1, (box_new w h c).lt, (Below.refl _ _).alloc (Nat.le_refl _) _⟩
/-- what Of makes of a pair. -/
theorem of_cases (h c n : Nat) (hh : h < 18446744073709551616) (hn : n < 18446744073709551616) :
    ∃ (m : Nat) (ok : Bool), (∀ W, mx.Steps W → Calls Tryd.prog 16 #[pv h c] W fun e w' => e = .returned (.tuple #[.int .u64 (m : Int), .bool ok]) ∧ Below W.heap.size W w') ∧
      (ok = true → ∀ W, Calls Tryd.prog 17 #[.int .u64 (m : Int)] W fun e w' => e = .returned (pv h c) ∧ Below W.heap.size W w') ∧
      ((ok = true ∧ m = n ∧ mix n = h ∧ twist n = c) ∨ (ok = true ∧ ¬ m = n ∧ ¬ mix n = h) ∨ (ok = false ∧ m = 0 ∧ ¬ mix n = h) ∨ (ok = false ∧ m = 0 ∧ mix n = h ∧ ¬ twist n = c)) := by
  by_cases ht : twist (unmix h) = c
  · have hm := mix_unmix h hh
    have hl := unmix_lt h
    refine ⟨unmix h, true, fun W hW => ?_, fun _ W => ?_, ?_⟩
    · have := of_some (unmix h) hl W hW
      rwa [hm, ht] at this
    · have := refnumber_any (unmix h) hl W
      rwa [hm, ht] at this
    · by_cases he : unmix h = n
      · exact .inl ⟨rfl, he, by rw [← he, hm], by rw [← he, ht]⟩
      · exact .inr (.inl ⟨rfl, he, fun e => he (by rw [← e, unmix_mix n hn])⟩)
  · refine ⟨0, false, fun W hW => of_none h c hh ht W hW, (fun e => by cases e), ?_⟩
    by_cases he : mix n = h
    · exact .inr (.inr (.inr ⟨rfl, rfl, he, fun e => ht (by rw [← he, unmix_mix n hn, e])⟩))
    · exact .inr (.inr (.inl ⟨rfl, rfl, he⟩))
set_option maxHeartbeats 1600000 in
set_option maxRecDepth 100000 in
theorem back_walk (h c n : Nat) (hh : h < 18446744073709551616) (hn : n < 18446744073709551616) (w : World) (hS : mx.Steps w) :
    Calls Tryd.prog 4 #[pv h c, .int .u64 n] w fun e w' => e = .returned (.bool true) ∧ Below w.heap.size w w' := by
  have H := Lib.hid hS
  obtain ⟨m, ok, hO, hR, hcase⟩ := of_cases h c n hh hn
  obtain ⟨N1, h1⟩ : ∃ N1, mix n = N1 := ⟨_, rfl⟩
  obtain ⟨N2, h2⟩ : ∃ N2, twist n = N2 := ⟨_, rfl⟩
  have SB : Hid (∀ W, One w w.heap.size h c W → mx.Steps W) := fun _ hW => steps_below H.out hW.2.2.2
  have TO : Hid (∀ W, One w w.heap.size h c W → Calls Tryd.prog 16 #[pv h c] W fun e w' => e = .returned (.tuple #[.int .u64 (m : Int), .bool ok]) ∧ One w w.heap.size h c w') := fun W hW => (hO W (SB.out W hW)).mono fun _ _ ⟨he, hb⟩ => ⟨he, hW.below hb⟩
  have TN : Hid (∀ W, One w w.heap.size h c W → Calls Tryd.prog 10 #[.int .u64 (n : Int)] W fun e w' => e = .returned (pv N1 N2) ∧ One w w.heap.size h c w') := fun W hW => (number_any n hn W (SB.out W hW)).mono fun _ _ ⟨he, hb⟩ => ⟨by rw [he, h1, h2], hW.below hb⟩
  have TI : Hid (∀ W, One w w.heap.size h c W → Calls Tryd.prog 16 #[pv N1 N2] W fun e w' => e = .returned (.tuple #[.int .u64 (n : Int), .bool true]) ∧ One w w.heap.size h c w') := fun W hW => (h1 ▸ h2 ▸ of_some n hn W (SB.out W hW)).mono fun _ _ ⟨he, hb⟩ => ⟨he, hW.below hb⟩
  have TR : Hid (ok = true → ∀ W, One w w.heap.size h c W → Calls Tryd.prog 17 #[.int .u64 (m : Int)] W fun e w' => e = .returned (pv h c) ∧ One w w.heap.size h c w') := fun e W hW => (hR e W).mono fun _ _ ⟨he, hb⟩ => ⟨he, hW.below hb⟩
  have TS : Hid (∀ W, One w w.heap.size h c W → Calls Tryd.prog 17 #[.int .u64 (n : Int)] W fun e w' => e = .returned (pv N1 N2) ∧ One w w.heap.size h c w') := fun W hW => (refnumber_any n hn W).mono fun _ _ ⟨he, hb⟩ => ⟨by rw [he, h1, h2], hW.below hb⟩
  have TA : Hid (∀ W, One w w.heap.size h c W → Calls Tryd.prog 6 #[] W fun e w' => e = .returned (.bool true) ∧ One w w.heap.size h c w') := fun W hW => (awake_any W (SB.out W hW)).mono fun _ _ ⟨he, hb⟩ => ⟨he, hW.below hb⟩
  rw [h1, h2] at hcase
  have HCASE := Lib.hid hcase
  have K0 := Lib.hid (one_new w h c)
  clear hcase h1 h2 hO hR hS SB
  go_enter Tryd.func4, Tryd.ntmps4
  go_wp2_with fail
  refine (TO.out _ K0.out).mono ?_
  rintro e w1 ⟨rfl, k1⟩
  have K1 := Lib.hid k1
  clear k1 K0
  go_wp2_with fail
  refine (TN.out _ K1.out).mono ?_
  rintro e w2 ⟨rfl, k2⟩
  have K2 := Lib.hid k2
  clear k2 K1
  go_wp2_with fail
  refine (TI.out _ K2.out).mono ?_
  rintro e w3 ⟨rfl, k3⟩
  have K3 : Hid (One w w.heap.size h c w3.drew) := k3.drew
  have K3' : Hid (∀ q, One w w.heap.size h c (w3.drewN q).drew) := fun q => (k3.drewN q).drew
  clear k3 K2 TO TN TI
  go_wp2_with fail
  rcases HCASE.out with ⟨h1, h2, h3, h4⟩ | ⟨h1, h2, h3⟩ | ⟨h1, h2, h3⟩ | ⟨h1, h2, h3, h4⟩ <;> clear HCASE
  · subst h1 h2 h3 h4
    first
    | go_region_held (fun w' => w'.cell? ⟨w.heap.size, 0, none⟩ = some (.int .u64 (N1 : Int)) ∧ w'.cell? ⟨w.heap.size, 1, none⟩ = some (.int .u64 (N2 : Int)) ∧ w.heap.size < w'.heap.size ∧ Below w.heap.size w w') (first | exact K3.out | assumption) (first
      | (go_at_call 17; refine (TS.out _ K3.out).mono ?_; rintro e w4 ⟨rfl, hk4⟩))
    | fail "the region of the first test"
    have K4 : Hid (One w w.heap.size N1 N2 w4.drew) := hk4.drew
    go_wp2_with fail
    go_region_held3 (fun w' => w'.cell? ⟨w.heap.size, 0, none⟩ = some (.int .u64 (N1 : Int)) ∧ w'.cell? ⟨w.heap.size, 1, none⟩ = some (.int .u64 (N2 : Int)) ∧ w.heap.size < w'.heap.size ∧ Below w.heap.size w w') (first | exact K4.out | assumption) (first
      | (go_at_call 17; refine (TS.out _ K4.out).mono ?_; rintro e w5 ⟨rfl, hk5⟩)
      | (go_at_call 6; refine (TA.out _ hk5).mono ?_; rintro e w6 ⟨rfl, hk6⟩))
    go_wp2
    go_ret
    exact ⟨rfl, hk6.2.2.2⟩
  · subst h1
    have T17 := Lib.hid (TR.out rfl)
    have i3 : ¬ (N1 : Int) = (h : Int) := by omega
    have j3 : ((N1 : Int) == (h : Int)) = false := by simpa using i3
    first
    | go_region_held (fun w' => w'.cell? ⟨w.heap.size, 0, none⟩ = some (.int .u64 (h : Int)) ∧ w'.cell? ⟨w.heap.size, 1, none⟩ = some (.int .u64 (c : Int)) ∧ w.heap.size < w'.heap.size ∧ Below w.heap.size w w') (first | exact K3.out | assumption) (first
      | (go_at_call 17; refine (T17.out _ K3.out).mono ?_; rintro e w4 ⟨rfl, hk4⟩))
    | fail "the region"
    have K4 : Hid (One w w.heap.size h c w4.drew) := hk4.drew
    go_wp2_with fail
    have hu : undef = Value.tuple #[] := rfl
    first
    | go_region_held (fun w' => w'.cell? ⟨w.heap.size, 0, none⟩ = some (.int .u64 (h : Int)) ∧ w'.cell? ⟨w.heap.size, 1, none⟩ = some (.int .u64 (c : Int)) ∧ w.heap.size < w'.heap.size ∧ Below w.heap.size w w') (first | exact K4.out | assumption) (first
      | (go_at_call 17; refine (TS.out _ K4.out).mono ?_; rintro e w5 ⟨rfl, hk5⟩)
      | (go_at_call 6; refine (TA.out _ hk5).mono ?_; rintro e w6 ⟨rfl, hk6⟩))
    | fail "the region"
    all_goals (clear hu; go_wp2; go_ret; exact ⟨rfl, hk6.2.2.2⟩)
  · subst h1 h2
    have i3 : ¬ (N1 : Int) = (h : Int) := by omega
    have j3 : ((N1 : Int) == (h : Int)) = false := by simpa using i3
    go_quiet (fail)
    go_wp2_with fail
    have hu : undef = Value.tuple #[] := rfl
    first
    | go_region_held (fun w' => w'.cell? ⟨w.heap.size, 0, none⟩ = some (.int .u64 (h : Int)) ∧ w'.cell? ⟨w.heap.size, 1, none⟩ = some (.int .u64 (c : Int)) ∧ w.heap.size < w'.heap.size ∧ Below w.heap.size w w') (first | exact K3'.out _ | assumption) (first
      | (go_at_call 17; refine (TS.out _ (K3'.out _)).mono ?_; rintro e w5 ⟨rfl, hk5⟩)
      | (go_at_call 6; refine (TA.out _ hk5).mono ?_; rintro e w6 ⟨rfl, hk6⟩))
    | fail "the region"
    all_goals (clear hu; go_wp2; go_ret; exact ⟨rfl, hk6.2.2.2⟩)
  · subst h1 h2 h3
    have i3 : ¬ (N2 : Int) = (c : Int) := by omega
    have j3 : ((N2 : Int) == (c : Int)) = false := by simpa using i3
    go_quiet (fail)
    go_wp2_with fail
    have hu : undef = Value.tuple #[] := rfl
    first
    | go_region_held (fun w' => w'.cell? ⟨w.heap.size, 0, none⟩ = some (.int .u64 (N1 : Int)) ∧ w'.cell? ⟨w.heap.size, 1, none⟩ = some (.int .u64 (c : Int)) ∧ w.heap.size < w'.heap.size ∧ Below w.heap.size w w') (first | exact K3'.out _ | assumption) (first
      | (go_at_call 17; refine (TS.out _ (K3'.out _)).mono ?_; rintro e w5 ⟨rfl, hk5⟩)
      | (go_at_call 6; refine (TA.out _ hk5).mono ?_; rintro e w6 ⟨rfl, hk6⟩))
    | fail "the region"
    all_goals (clear hu; go_wp2; go_ret; exact ⟨rfl, hk6.2.2.2⟩)
end Go.Proofs.YtmjcdondogpceaaDoor
