/-
  cost.Sum and its reference over any slice of ints (nil, empty, or any other), cost.Add and cost.Move and the reference's Move, and the law's own question whether the program answers: what each returns.
-/
import Derived.Test.YtgienoomodlfdaaCost
namespace Go.Proofs.Ytgienoomodlfdaa
open Go.ChangeShapes Go.WideShapes Go.ChangeAt Go.RowKit
/-- the slice at a, of n ints, reads as l. -/
def Row (w : World) (a : Option Addr) (n : Nat) (l : List Int) : Prop :=
  l.length = n ∧ (0 < n → ∃ b off, a = some ⟨b, off, none⟩ ∧ ∀ i, i < n → w.cell? ⟨b, off + i, none⟩ = some (.int .i64 (l.getD i 0)))
def ints (l : List Int) : Prop := ∀ n ∈ l, -9223372036854775808 ≤ n ∧ n ≤ 9223372036854775807
theorem ints_get {l : List Int} (h : ints l) (k : Nat) (hk : k < l.length) : -9223372036854775808 ≤ l.getD k 0 ∧ l.getD k 0 ≤ 9223372036854775807 := by
  have e : l.getD k 0 = l[k] := by simp [List.getD, hk]
  rw [e]
  exact h _ (List.getElem_mem hk)
def intOf : Value → Int
  | .int _ q => q
  | _ => 0
set_option maxHeartbeats 800000 in
theorem sum_any (a : Option Addr) (n cap : Nat) (l : List Int) (w : World) (hr : Row w a n l) (hn : n ≤ 9223372036854775807) (hi : ints l) :
    Calls Try.prog 13 #[.slice a n cap] w fun e w' => e = .returned (.tuple #[.int .i64 (sumV l), .bool (sumB l)]) ∧ w = w' := by
  have HR := Lib.hid hr
  have HI := Lib.hid hi
  clear hr hi
  go_enter Try.func13, Try.ntmps13
  go_wp2
  go_loop [4, 11] (fun s i => ∃ k : Nat, k ≤ n ∧ i = .int .i64 k ∧ s = .int .i64 (tot (l.take k)) ∧ Fine (l.take k)) (fun _ i => n - (intOf i).toNat)
  case atStart => exact ⟨0, by omega, rfl, rfl, by simpa using fine_nil⟩
  case round =>
    obtain ⟨k, hk, rfl, rfl, hf⟩ := hrel
    have hp := fine_pos hf
    have ht := hf.2
    have HF := Lib.hid hf
    clear hf
    by_cases hlt : k < n
    · obtain ⟨b, off, rfl, hc⟩ := HR.out.2 (by omega)
      have hcell := hc k hlt
      have hb := ints_get HI.out k (by have := HR.out.1; omega)
      have hs := fine_step l k (by have := HR.out.1; omega) HF.out
      have hx := fine_stop l k (by have := HR.out.1; omega)
      have HS := Lib.hid hs
      have HX := Lib.hid hx
      clear hc hs hx
      generalize hv : l.getD k 0 = v at *
      generalize ht : tot (l.take k) = t at *
      clear hv
      have HT := Lib.hid ht
      clear ht
      by_cases hok : 0 ≤ v ∧ t + v ≤ 4611686018427387904
      · obtain ⟨o1, o2⟩ := hok
        have o3 : v ≤ 4611686018427387904 := by omega
        have o4 : ¬ 4611686018427387904 - t < v := by omega
        go_wp2
        go_round
        case rel => exact ⟨k + 1, by omega, by go_num, by rw [(HS.out o1 o2).2], (HS.out o1 o2).1⟩
        case measure => simp [intOf]; omega
      · have hx := HX.out hok
        have eV : sumV l = 0 := by unfold sumV; rw [if_neg hx]
        have eB : sumB l = false := by unfold sumB; rw [decide_eq_false hx]
        have EV := Lib.hid eV
        have EB := Lib.hid eB
        clear eV eB hx
        by_cases o1 : 0 ≤ v
        · by_cases o3 : v ≤ 4611686018427387904
          · have o4 : 4611686018427387904 - t < v := by omega
            clear hok
            go_wp2
            go_ret2
            exact ⟨ret_pair EV.out.symm EB.out.symm, rfl⟩
          · clear hok
            go_wp2
            go_ret2
            exact ⟨ret_pair EV.out.symm EB.out.symm, rfl⟩
        · clear hok
          go_wp2
          go_ret2
          exact ⟨ret_pair EV.out.symm EB.out.symm, rfl⟩
    · have : k = n := by omega
      subst this
      have eV : sumV l = tot (l.take k) ∧ sumB l = true := by
        have hl := HR.out.1
        have hf := HF.out
        rw [List.take_of_length_le (by omega)] at *
        exact ⟨by unfold sumV; rw [if_pos hf], by unfold sumB; rw [decide_eq_true hf]⟩
      have EV := Lib.hid eV
      clear eV
      go_wp2
      go_ret2
      exact ⟨ret_pair EV.out.1.symm EV.out.2.symm, rfl⟩
theorem add_of (s v : Int) (h : 0 ≤ v ∧ s + v ≤ 4611686018427387904) (hs : 0 ≤ s) : addV s v = s + v ∧ addB s v = true := by
  unfold addV addB
  exact ⟨by rw [if_pos (by omega)], decide_eq_true (by omega)⟩
theorem add_no (s v : Int) (h : ¬ (0 ≤ v ∧ s + v ≤ 4611686018427387904)) : addV s v = 0 ∧ addB s v = false := by
  unfold addV addB
  exact ⟨by rw [if_neg (by omega)], decide_eq_false (by omega)⟩
theorem refadd_yes (a b : Int) (w : World) (h : 0 ≤ b ∧ a + b ≤ 4611686018427387904) (ha : 0 ≤ a) : Calls Try.prog 7 #[.int .i64 a, .int .i64 b] w fun e w' => e = .returned (.tuple #[.int .i64 (a + b), .bool true]) ∧ w = w' := by
  have e := add_of a b h ha
  rw [← e.1, ← e.2]
  exact refadd_any a b w
theorem refadd_no (a b : Int) (w : World) (h : ¬ (0 ≤ b ∧ a + b ≤ 4611686018427387904)) : Calls Try.prog 7 #[.int .i64 a, .int .i64 b] w fun e w' => e = .returned (.tuple #[.int .i64 0, .bool false]) ∧ w = w' := by
  have e := add_no a b h
  rw [← e.1, ← e.2]
  exact refadd_any a b w
set_option maxHeartbeats 800000 in
theorem refsum_any (a : Option Addr) (n cap : Nat) (l : List Int) (w : World) (hr : Row w a n l) (hn : n ≤ 9223372036854775807) (hi : ints l) :
    Calls Try.prog 14 #[.slice a n cap] w fun e w' => e = .returned (.tuple #[.int .i64 (sumV l), .bool (sumB l)]) ∧ w = w' := by
  have HR := Lib.hid hr
  have HI := Lib.hid hi
  clear hr hi
  go_enter Try.func14, Try.ntmps14
  go_wp2
  go_loop [4, 5] (fun s i => ∃ k : Nat, k ≤ n ∧ i = .int .i64 k ∧ s = .int .i64 (tot (l.take k)) ∧ Fine (l.take k)) (fun _ i => n - (intOf i).toNat)
  case atStart => exact ⟨0, by omega, rfl, rfl, by simpa using fine_nil⟩
  case round =>
    obtain ⟨k, hk, rfl, rfl, hf⟩ := hrel
    have hp := fine_pos hf
    have ht := hf.2
    have HF := Lib.hid hf
    clear hf
    by_cases hlt : k < n
    · obtain ⟨b, off, rfl, hc⟩ := HR.out.2 (by omega)
      have hcell := hc k hlt
      have hb := ints_get HI.out k (by have := HR.out.1; omega)
      have hs := fine_step l k (by have := HR.out.1; omega) HF.out
      have hx := fine_stop l k (by have := HR.out.1; omega)
      have HS := Lib.hid hs
      have HX := Lib.hid hx
      clear hc hs hx
      generalize hv : l.getD k 0 = v at *
      generalize ht : tot (l.take k) = t at *
      clear hv
      have HT := Lib.hid ht
      clear ht
      by_cases hok : 0 ≤ v ∧ t + v ≤ 4611686018427387904
      · have HO := Lib.hid hok
        clear hok
        go_wp2_with (go_at_call 7; refine (refadd_yes _ _ _ HO.out hp).mono ?_; rintro e w' ⟨rfl, rfl⟩)
        go_round
        case rel => exact ⟨k + 1, by omega, by go_num, by rw [(HS.out HO.out.1 HO.out.2).2], (HS.out HO.out.1 HO.out.2).1⟩
        case measure => simp [intOf]; omega
      · have hx := HX.out hok
        have eV : sumV l = 0 := by unfold sumV; rw [if_neg hx]
        have eB : sumB l = false := by unfold sumB; rw [decide_eq_false hx]
        have EV := Lib.hid eV
        have EB := Lib.hid eB
        have HO := Lib.hid hok
        clear eV eB hx hok
        go_wp2_with (go_at_call 7; refine (refadd_no _ _ _ HO.out).mono ?_; rintro e w' ⟨rfl, rfl⟩)
        go_ret2
        exact ⟨ret_pair EV.out.symm EB.out.symm, rfl⟩
    · have : k = n := by omega
      subst this
      have eV : sumV l = tot (l.take k) ∧ sumB l = true := by
        have hl := HR.out.1
        have hf := HF.out
        rw [List.take_of_length_le (by omega)] at *
        exact ⟨by unfold sumV; rw [if_pos hf], by unfold sumB; rw [decide_eq_true hf]⟩
      have EV := Lib.hid eV
      clear eV
      go_wp2
      go_ret2
      exact ⟨ret_pair EV.out.1.symm EV.out.2.symm, rfl⟩
set_option maxHeartbeats 400000 in
theorem add_any (a b : Int) (w : World) (ha : -9223372036854775808 ≤ a ∧ a ≤ 9223372036854775807) (hb : -9223372036854775808 ≤ b ∧ b ≤ 9223372036854775807) :
    Calls Try.prog 6 #[.int .i64 a, .int .i64 b] w fun e w' => e = .returned (.tuple #[.int .i64 (addV a b), .bool (addB a b)]) ∧ Below w.heap.size w w' := by
  have hi : ints [a, b] := by intro n hn; simp at hn; rcases hn with rfl | rfl <;> assumption
  have hr : ∀ o, o = Obj.cells #[.int .i64 a, .int .i64 b] 3 → Row (w.alloc o) (some ⟨w.heap.size, 0, none⟩) 2 [a, b] := by
    rintro o rfl
    refine ⟨rfl, fun _ => ⟨_, _, rfl, fun i hi => ?_⟩⟩
    rcases (show i = 0 ∨ i = 1 by omega) with rfl | rfl <;> go_simp
  have e := sum_two a b
  have HI := Lib.hid hi
  have HR := Lib.hid hr
  have E := Lib.hid e
  clear hi hr e
  go_enter Try.func6, Try.ntmps6
  go_wp2_with (go_at_call 13; refine (sum_any _ _ _ [a, b] _ (HR.out _ rfl) (by decide) HI.out).mono ?_; rintro e w' ⟨rfl, rfl⟩)
  go_ret2
  exact ⟨ret_pair E.out.2 E.out.1, (Below.refl _ _).alloc (Nat.le_refl _) _⟩
theorem room_yes (m u : Int) (w : World) (h : m ≤ 4611686018427387904 ∧ 0 ≤ u ∧ u ≤ m) : Calls Try.prog 15 #[.int .i64 m, .int .i64 u] w fun e w' => e = .returned (.tuple #[.int .i64 (m - u), .bool true]) ∧ w = w' := by
  have e : roomV m u = m - u ∧ roomB m u = true := ⟨by unfold roomV; rw [if_pos h], by unfold roomB; exact decide_eq_true h⟩
  rw [← e.1, ← e.2]
  exact room_any m u w
theorem room_no (m u : Int) (w : World) (h : ¬ (m ≤ 4611686018427387904 ∧ 0 ≤ u ∧ u ≤ m)) : Calls Try.prog 15 #[.int .i64 m, .int .i64 u] w fun e w' => e = .returned (.tuple #[.int .i64 0, .bool false]) ∧ w = w' := by
  have e : roomV m u = 0 ∧ roomB m u = false := ⟨by unfold roomV; rw [if_neg h], by unfold roomB; exact decide_eq_false h⟩
  rw [← e.1, ← e.2]
  exact room_any m u w
theorem move_of (u o n : Int) (h : u ≤ 4611686018427387904 ∧ 0 ≤ o ∧ o ≤ u) : addV (u - o) n = moveV u o n ∧ addB (u - o) n = moveB u o n := by
  unfold addV addB moveV moveB
  constructor
  · by_cases h1 : 0 ≤ u - o ∧ 0 ≤ n ∧ u - o + n ≤ 4611686018427387904
    · rw [if_pos h1, if_pos (by omega)]
    · rw [if_neg h1, if_neg (by omega)]
  · by_cases h1 : 0 ≤ u - o ∧ 0 ≤ n ∧ u - o + n ≤ 4611686018427387904
    · rw [decide_eq_true h1, decide_eq_true (by omega)]
    · rw [decide_eq_false h1, decide_eq_false (by omega)]
theorem move_no (u o n : Int) (h : ¬ (u ≤ 4611686018427387904 ∧ 0 ≤ o ∧ o ≤ u ∧ 0 ≤ n)) : moveV u o n = 0 ∧ moveB u o n = false := by
  unfold moveV moveB
  exact ⟨by rw [if_neg (by omega)], decide_eq_false (by omega)⟩
def fits (n : Int) : Prop := -9223372036854775808 ≤ n ∧ n ≤ 9223372036854775807
set_option maxHeartbeats 400000 in
theorem move_any (u o n : Int) (w : World) (hn : fits n) :
    Calls Try.prog 17 #[.int .i64 u, .int .i64 o, .int .i64 n] w fun e w' => e = .returned (.tuple #[.int .i64 (moveV u o n), .bool (moveB u o n)]) ∧ Below w.heap.size w w' := by
  by_cases h : u ≤ 4611686018427387904 ∧ 0 ≤ o ∧ o ≤ u
  · have e := move_of u o n h
    have h' : 0 ≤ u - o ∧ u - o ≤ 4611686018427387904 := by omega
    have E := Lib.hid e
    have H := Lib.hid h
    have HN := Lib.hid hn
    have H' := Lib.hid h'
    clear e h hn h'
    go_enter Try.func17, Try.ntmps17
    go_wp2_with (first | (go_at_call 15; refine (room_yes _ _ _ H.out).mono ?_; rintro e w' ⟨rfl, rfl⟩) | (go_at_call 6; refine (add_any _ _ _ (by have := H'.out; omega) HN.out).mono ?_; rintro e w' ⟨rfl, hb⟩))
    go_ret2
    exact ⟨ret_pair E.out.1 E.out.2, by assumption⟩
  · have e := move_no u o n (by omega)
    have E := Lib.hid e
    have H := Lib.hid h
    clear e h
    go_enter Try.func17, Try.ntmps17
    go_wp2_with (go_at_call 15; refine (room_no _ _ _ H.out).mono ?_; rintro e w' ⟨rfl, rfl⟩)
    go_ret2
    exact ⟨ret_pair E.out.1.symm E.out.2.symm, Below.refl _ _⟩
theorem refright_yes (n : Int) (w : World) (h : 0 ≤ n ∧ n ≤ 4611686018427387904) : Calls Try.prog 9 #[.int .i64 n] w fun e w' => e = .returned (.bool true) ∧ w = w' := by
  rw [← (okC_iff n).mpr h]; exact refright_any n w
theorem refright_no (n : Int) (w : World) (h : ¬ (0 ≤ n ∧ n ≤ 4611686018427387904)) : Calls Try.prog 9 #[.int .i64 n] w fun e w' => e = .returned (.bool false) ∧ w = w' := by
  rw [← (okC_no n).mpr h]; exact refright_any n w
set_option maxHeartbeats 800000 in
theorem refmove_any (u o n : Int) (w : World) :
    Calls Try.prog 18 #[.int .i64 u, .int .i64 o, .int .i64 n] w fun e w' => e = .returned (.tuple #[.int .i64 (moveV u o n), .bool (moveB u o n)]) ∧ w = w' := by
  by_cases h : (0 ≤ u ∧ u ≤ 4611686018427387904) ∧ (0 ≤ o ∧ o ≤ 4611686018427387904) ∧ (0 ≤ n ∧ n ≤ 4611686018427387904) ∧ o ≤ u
  · obtain ⟨⟨h1, h2⟩, ⟨h3, h4⟩, ⟨h5, h6⟩, h7⟩ := h
    have e := move_of u o n (by omega)
    have E := Lib.hid e
    clear e
    go_enter Try.func18, Try.ntmps18
    go_wp2_with (first | (go_at_call 9; refine (refright_yes _ _ (by omega)).mono ?_; rintro e w' ⟨rfl, rfl⟩) | (go_at_call 7; refine (refadd_any _ _ _).mono ?_; rintro e w' ⟨rfl, rfl⟩))
    go_ret2
    exact ⟨ret_pair E.out.1 E.out.2, rfl⟩
  · by_cases h1 : 0 ≤ u ∧ u ≤ 4611686018427387904
    · by_cases h2 : 0 ≤ o ∧ o ≤ 4611686018427387904
      · by_cases h3 : 0 ≤ n ∧ n ≤ 4611686018427387904
        · have h4 : u < o := by omega
          have e := move_no u o n (by omega)
          have E := Lib.hid e
          have H := Lib.hid h1
          have H' := Lib.hid h2
          have H'' := Lib.hid h3
          clear e h h1 h2 h3
          go_enter Try.func18, Try.ntmps18
          go_wp2_with (go_at_call 9; refine (refright_yes _ _ (by first | exact H.out | exact H'.out | exact H''.out)).mono ?_; rintro e w' ⟨rfl, rfl⟩)
          go_ret2
          exact ⟨ret_pair E.out.1.symm E.out.2.symm, rfl⟩
        · have e : moveV u o n = 0 ∧ moveB u o n = false := by
            unfold moveV moveB
            exact ⟨by rw [if_neg (by omega)], decide_eq_false (by omega)⟩
          have E := Lib.hid e
          have H := Lib.hid h1
          have H' := Lib.hid h2
          have H'' := Lib.hid h3
          clear e h h1 h2 h3
          go_enter Try.func18, Try.ntmps18
          go_wp2_with (go_at_call 9; first | (refine (refright_yes _ _ (by first | exact H.out | exact H'.out)).mono ?_; rintro e w' ⟨rfl, rfl⟩) | (refine (refright_no _ _ H''.out).mono ?_; rintro e w' ⟨rfl, rfl⟩))
          go_ret2
          exact ⟨ret_pair E.out.1.symm E.out.2.symm, rfl⟩
      · have e := move_no u o n (by omega)
        have E := Lib.hid e
        have H := Lib.hid h1
        have H' := Lib.hid h2
        clear e h h1 h2
        go_enter Try.func18, Try.ntmps18
        go_wp2_with (go_at_call 9; first | (refine (refright_yes _ _ H.out).mono ?_; rintro e w' ⟨rfl, rfl⟩) | (refine (refright_no _ _ H'.out).mono ?_; rintro e w' ⟨rfl, rfl⟩))
        go_ret2
        exact ⟨ret_pair E.out.1.symm E.out.2.symm, rfl⟩
    · have e := move_no u o n (by omega)
      have E := Lib.hid e
      have H := Lib.hid h1
      clear e h h1
      go_enter Try.func18, Try.ntmps18
      go_wp2_with (go_at_call 9; refine (refright_no _ _ H.out).mono ?_; rintro e w' ⟨rfl, rfl⟩)
      go_ret2
      exact ⟨ret_pair E.out.1.symm E.out.2.symm, rfl⟩
theorem add_34 (w : World) : Calls Try.prog 6 #[.int .i64 3, .int .i64 4] w fun e w' => e = .returned (.tuple #[.int .i64 7, .bool true]) ∧ Below w.heap.size w w' :=
  add_any 3 4 w (by decide) (by decide)
theorem right_0 (w : World) : Calls Try.prog 8 #[.int .i64 0] w fun e w' => e = .returned (.bool true) ∧ w = w' := right_any 0 w
set_option maxHeartbeats 400000 in
theorem awake_any (w : World) : Calls Try.prog 12 #[] w fun e w' => e = .returned (.bool true) ∧ Below w.heap.size w w' := by
  go_enter Try.func12, Try.ntmps12
  go_wp2_with (first | (go_at_call 6; refine (add_34 _).mono ?_; rintro e w' ⟨rfl, hb⟩) | (go_at_call 8; refine (right_0 _).mono ?_; rintro e w' ⟨rfl, rfl⟩))
  go_ret
  exact ⟨rfl, by assumption⟩
end Go.Proofs.Ytgienoomodlfdaa
