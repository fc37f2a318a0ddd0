/-
  The document's pool (cortadoref09) by contracts: New, Take, Give; and the law's helper awake.
-/
import Derived.Test.YtkobbilcpgffeaaHas
namespace Go.Proofs.Ytkobbilcpgffeaa
open Go.RowKit
/-- the document's pool as a value. -/
abbrev pv (room spare made n : Nat) : Value := .agg #[.int .i64 (room : Int), .int .i64 (spare : Int), .int .i64 (made : Int), .int .i64 (n : Int)]
theorem below2 (w : World) (o o' : Obj) : Below w.heap.size w ((w.alloc o).alloc o') := Keep.below (K := fun _ => True) ((Keep.alloc _ _ _).trans (Keep.alloc _ _ _)) (fun _ _ => trivial) (Nat.le_refl _)
theorem refnew_any (k s : Int) (rm sp : Nat) (h1 : max 1 (min k 1024) = (rm : Int)) (h2 : max 0 (min s 1024) = (sp : Int)) (w : World) : Calls Try.prog 7 #[.int .i64 k, .int .i64 s] w fun e B => e = .returned (.agg #[.int .i64 (rm : Int), .int .i64 (sp : Int), .int .i64 0, .int .i64 0]) ∧ Below w.heap.size w B := by
  go_enter Try.func7, Try.ntmps7
  go_wp2
  exact bodyPost_ret (v := .agg #[.int .i64 (rm : Int), .int .i64 (sp : Int), .int .i64 0, .int .i64 0]) (by simp [results, Try.results7, go_sem]) rfl ⟨rfl, (Below.refl _ _).alloc (Nat.le_refl _) _⟩
theorem reftake_any (room spare made n : Nat) (hm : made ≤ 1000000) (hn : n ≤ 1000000) (w : World) : Calls Try.prog 9 #[pv room spare made n] w fun e B => e = .returned (pv room spare (tm made n) (n - 1)) ∧ Below w.heap.size w B := by
  by_cases h : n = 0
  · subst h
    have e1 : ((tm made 0 : Nat) : Int) = (made : Int) + 1 := by simp [tm]
    simp only [pv, e1]
    go_enter Try.func9, Try.ntmps9
    go_wp2
    exact bodyPost_ret (v := .agg #[.int .i64 (room : Int), .int .i64 (spare : Int), .int .i64 ((made : Int) + 1), .int .i64 0]) (by simp [results, Try.results9, go_sem]) rfl ⟨rfl, below2 _ _ _⟩
  · have e1 : ((tm made n : Nat) : Int) = (made : Int) := by simp [tm, h]
    have e2 : ((n - 1 : Nat) : Int) = (n : Int) - 1 := by omega
    have h0 : (0 : Int) < (n : Int) := by omega
    have h1 : 0 < n := by omega
    simp only [pv, e1, e2]
    clear e1 e2 h
    go_enter Try.func9, Try.ntmps9
    go_wp2
    exact bodyPost_ret (v := .agg #[.int .i64 (room : Int), .int .i64 (spare : Int), .int .i64 (made : Int), .int .i64 ((n : Int) - 1)]) (by simp [results, Try.results9, go_sem]) rfl ⟨rfl, below2 _ _ _⟩
theorem refgive_no (room spare made n q : Nat) (h : ¬ (n < spare ∧ q = room)) (w : World) : Calls Try.prog 10 #[pv room spare made n, .int .i64 (q : Int)] w fun e B => e = .returned (.tuple #[pv room spare made n, .bool false]) ∧ Below w.heap.size w B := by
  by_cases h1 : spare ≤ n
  · have h2 : (spare : Int) ≤ (n : Int) := by omega
    have hd : decide ((spare : Int) ≤ (n : Int)) = true := by simpa using h1
    simp only [pv]
    clear h
    go_enter Try.func10, Try.ntmps10
    go_wp2
    exact bodyPost_ret (v := .tuple #[.agg #[.int .i64 (room : Int), .int .i64 (spare : Int), .int .i64 (made : Int), .int .i64 (n : Int)], .bool false]) (by simp [results, Try.results10, go_sem]) rfl ⟨rfl, below2 _ _ _⟩
  · have h2 : ¬ (spare : Int) ≤ (n : Int) := by omega
    have hd : decide ((spare : Int) ≤ (n : Int)) = false := by simpa using h1
    have h3 : ¬ (q : Int) = (room : Int) := by omega
    have h4 : ((q : Int) != (room : Int)) = true := by simpa using h3
    simp only [pv]
    clear h
    go_enter Try.func10, Try.ntmps10
    go_wp2
    exact bodyPost_ret (v := .tuple #[.agg #[.int .i64 (room : Int), .int .i64 (spare : Int), .int .i64 (made : Int), .int .i64 (n : Int)], .bool false]) (by simp [results, Try.results10, go_sem]) rfl ⟨rfl, below2 _ _ _⟩
theorem refgive_ok (room spare made n : Nat) (h : n < spare) (hn : n ≤ 1000000) (w : World) : Calls Try.prog 10 #[pv room spare made n, .int .i64 (room : Int)] w fun e B => e = .returned (.tuple #[pv room spare made (n + 1), .bool true]) ∧ Below w.heap.size w B := by
  have h1 : ¬ spare ≤ n := by omega
  have h2 : ¬ (spare : Int) ≤ (n : Int) := by omega
  have hd : decide ((spare : Int) ≤ (n : Int)) = false := by simpa using h1
  have e1 : ((n + 1 : Nat) : Int) = (n : Int) + 1 := by omega
  simp only [pv, e1]
  clear e1
  go_enter Try.func10, Try.ntmps10
  go_wp2
  exact bodyPost_ret (v := .tuple #[.agg #[.int .i64 (room : Int), .int .i64 (spare : Int), .int .i64 (made : Int), .int .i64 ((n : Int) + 1)], .bool true]) (by simp [results, Try.results10, go_sem]) rfl ⟨rfl, below2 _ _ _⟩
/-- Give of the document, of a buffer of the pool's own room. -/
theorem refgive_own (room spare made n : Nat) (hn : n ≤ 1000000) (w : World) : Calls Try.prog 10 #[pv room spare made n, .int .i64 (room : Int)] w fun e B => e = .returned (.tuple #[pv room spare made (gn n spare), .bool (decide (n < spare))]) ∧ Below w.heap.size w B := by
  by_cases h : n < spare
  · rw [decide_eq_true h, show gn n spare = n + 1 by simp [gn, h]]
    exact refgive_ok room spare made n h hn w
  · rw [decide_eq_false h, show gn n spare = n by simp [gn, h]]
    exact refgive_no room spare made n room (fun h' => h h'.1) w
set_option maxHeartbeats 1000000 in
theorem awake_any (w : World) : Calls Try.prog 5 #[] w fun e B => e = .returned (.bool true) ∧ Hid (Below w.heap.size w B) := by
  obtain ⟨N, hN⟩ : ∃ N, w.heap.size = N := ⟨_, rfl⟩
  have T6 : Hid (Calls Try.prog 6 #[.int .i64 3, .int .i64 2] w fun e B => e = .returned (.pointer (some ⟨N, 0, none⟩)) ∧ Hid (Has (fun k => k < N) B N 3 2 0 0 ∧ Below N w B ∧ N ≤ B.heap.size)) :=
    (new_has 3 2 3 2 (by decide) (by decide) w (fun k => k < N) fun _ h => hN ▸ h).mono fun e B ⟨he, hB, hb⟩ => by
      rw [hN] at he hB hb
      exact ⟨he, hB, hb, hN ▸ hb.size⟩
  have T8 : Hid (∀ W, Hid (Has (fun k => k < N) W N 3 2 0 0 ∧ Below N w W ∧ N ≤ W.heap.size) → Calls Try.prog 8 #[.pointer (some ⟨N, 0, none⟩)] W fun e B => ∃ g, e = .returned (.slice (some ⟨g, 0, none⟩) 0 3) ∧ Hid (Has (fun k => k < N ∨ k = g) B N 3 2 1 0 ∧ ¬ g < N ∧ BufI B g 3 ∧ Below N w B ∧ N ≤ B.heap.size)) := fun W h =>
    (h.out.1.take (fun k hk => Nat.lt_of_lt_of_le hk h.out.2.2) (by decide)).mono fun e B ⟨g, he, h1, h2, h3, h4⟩ => ⟨g, he, h1, h2, h3, h.out.2.1.trans (h4.below (fun _ h => h) h.out.2.2), Nat.le_trans h.out.2.2 h4.size⟩
  have T14 : Hid (∀ W g, Hid (Has (fun k => k < N ∨ k = g) W N 3 2 1 0 ∧ ¬ g < N ∧ BufI W g 3 ∧ Below N w W ∧ N ≤ W.heap.size) → Calls Try.prog 14 #[.pointer (some ⟨N, 0, none⟩)] W fun e B => e = .returned (.int .i64 3) ∧ B = W) := fun W g h => h.out.1.room_
  have T11 : Hid (∀ W g, Hid (Has (fun k => k < N ∨ k = g) W N 3 2 1 0 ∧ ¬ g < N ∧ BufI W g 3 ∧ Below N w W ∧ N ≤ W.heap.size) → Calls Try.prog 11 #[.pointer (some ⟨N, 0, none⟩), .slice (some ⟨g, 0, none⟩) 0 3] W fun e B => e = .returned (.bool true) ∧ Hid (Has (fun k => k < N) B N 3 2 1 1 ∧ Below N w B ∧ N ≤ B.heap.size)) := fun W g h =>
    (h.out.1.give h.out.2.2.1 h.out.2.1 (fun k hk => Nat.lt_of_lt_of_le hk h.out.2.2.2.2) 0).mono fun e B ⟨he, h1, h2⟩ => ⟨he, h1, h.out.2.2.2.1.trans (h2.below (fun _ h => h) h.out.2.2.2.2), Nat.le_trans h.out.2.2.2.2 h2.size⟩
  have T8b : Hid (∀ W, Hid (Has (fun k => k < N) W N 3 2 1 1 ∧ Below N w W ∧ N ≤ W.heap.size) → Calls Try.prog 8 #[.pointer (some ⟨N, 0, none⟩)] W fun e B => ∃ g, e = .returned (.slice (some ⟨g, 0, none⟩) 0 3) ∧ Hid (Has (fun k => k < N ∨ k = g) B N 3 2 1 0 ∧ Below N w B)) := fun W h =>
    (h.out.1.take (fun k hk => Nat.lt_of_lt_of_le hk h.out.2.2) (by decide)).mono fun e B ⟨g, he, h1, h2, h3, h4⟩ => ⟨g, he, h1, h.out.2.1.trans (h4.below (fun _ h => h) h.out.2.2)⟩
  have T12 : Hid (∀ W g, Hid (Has (fun k => k < N ∨ k = g) W N 3 2 1 0 ∧ Below N w W) → Calls Try.prog 12 #[.pointer (some ⟨N, 0, none⟩)] W fun e B => e = .returned (.int .i64 1) ∧ B = W) := fun W g h => h.out.1.made_
  rw [hN]
  clear hN
  go_enter Try.func5, Try.ntmps5
  go_wp2_with fail
  refine T6.out.mono ?_
  rintro e w1 ⟨rfl, h1⟩
  go_wp2_with fail
  refine (T8.out _ h1).mono ?_
  rintro e w2 ⟨g, rfl, h2⟩
  go_wp2_with fail
  refine (T14.out _ _ h2).mono ?_
  rintro e w3 ⟨rfl, rfl⟩
  go_wp2_with fail
  refine (T11.out _ _ h2).mono ?_
  rintro e w4 ⟨rfl, h4⟩
  go_wp2_with fail
  refine (T8b.out _ h4).mono ?_
  rintro e w5 ⟨g5, rfl, h5⟩
  go_wp2_with fail
  refine (T12.out _ _ h5).mono ?_
  rintro e w6 ⟨rfl, rfl⟩
  go_wp2
  go_ret
  exact ⟨rfl, h5.out.2⟩
end Go.Proofs.Ytkobbilcpgffeaa
