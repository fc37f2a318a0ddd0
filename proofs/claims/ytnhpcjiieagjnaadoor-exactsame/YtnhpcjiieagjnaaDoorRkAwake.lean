/-
  The laws' helper awake by its contract; a state of an exact since the law began ('Tst').
-/
import Derived.Test.YtnhpcjiieagjnaaDoorRkMany
namespace Go.Proofs.YtnhpcjiieagjnaaDoor.rk
open Go.RowKit
open Xg (Added)
theorem three_seven : estE 7 (pushE 4 [7, 7, 7] es0) = 3 ∧ (pushE 4 [7, 7, 7] es0).cnt = 3 := by decide
theorem keep_below {N : Nat} {X : Nat} {A B : World} (h : Keep (fun k => k ≠ X) A B) (hX : N ≤ X) (hN : N ≤ A.heap.size) : Below N A B := h.below (fun k hk => by show k ≠ X; omega) hN
set_option maxHeartbeats 1000000 in
theorem awake_any (w : World) : Calls Tryd.prog 5 #[] w fun e B => e = .returned (.bool true) ∧ Hid (Below w.heap.size w B) := by
  obtain ⟨e1, e2⟩ := three_seven
  have T5 : Hid (Calls Tryd.prog 7 #[.int .i64 4] w fun e B => ∃ X, e = .returned (.pointer (some ⟨X, 0, none⟩)) ∧ Hid (Calls Tryd.prog 17 #[.pointer (some ⟨X, 0, none⟩), .slice (some ⟨B.heap.size, 0, none⟩) 3 3] (B.alloc (.cells #[.int .u64 7, .int .u64 7, .int .u64 7] 22)) fun e B2 => e = .returned (.tuple #[]) ∧ Hid (Calls Tryd.prog 11 #[.pointer (some ⟨X, 0, none⟩), .int .u64 7] B2 fun e B3 => e = .returned (.int .i64 3) ∧ Hid (Calls Tryd.prog 13 #[.pointer (some ⟨X, 0, none⟩)] B3 fun e B4 => e = .returned (.int .i64 3) ∧ B4 = B3) ∧ Hid (Calls Tryd.prog 18 #[.pointer (some ⟨X, 0, none⟩)] B3 fun e B4 => e = .returned (.int .i64 1) ∧ B4 = B3) ∧ Hid (Below w.heap.size w B3)))) :=
    (new_exact 4 w).mono fun e B ⟨X, he, ho⟩ => ⟨X, he, by
      obtain ⟨g, h1, h2, h3⟩ := ho.out
      have h1' : Xg B X g .nil 4 es0 := h1
      have hb : (B.alloc (.cells #[.int .u64 7, .int .u64 7, .int .u64 7] 22)).heap[B.heap.size]? = some (.cells #[.int .u64 7, .int .u64 7, .int .u64 7] 22 (0, 0)) := heap_next rfl _
      have hXl := h1.lt
      have hK : Ks (fun k => k ≠ X) (B.alloc (.cells #[.int .u64 7, .int .u64 7, .int .u64 7] 22)) (some ⟨B.heap.size, 0, none⟩) [7, 7, 7] := fun _ => ⟨B.heap.size, 0, rfl, by omega, fun i hi => by
        simp at hi
        rw [cell_of hb]
        rcases (show i = 0 ∨ i = 1 ∨ i = 2 by omega) with rfl | rfl | rfl <;> exact ⟨rfl, by simp⟩⟩
      have hbb : Below B.heap.size B (B.alloc (.cells #[.int .u64 7, .int .u64 7, .int .u64 7] 22)) := (Below.refl _ _).alloc (Nat.le_refl _) _
      refine (push_any (h1'.below hbb) (by omega) (by decide) _ 3 [7, 7, 7] hK (by simp [Tr.list])).mono fun e B2 ⟨he2, ho2⟩ => ⟨he2, ?_⟩
      obtain ⟨g2, t2, q1, q2, _⟩ := ho2.out
      have hB2 : Below w.heap.size w B2 := (h2.trans (hbb.mono h2.size)).trans (keep_below q2 h3 (Nat.le_trans h2.size hbb.size))
      have hE := q1.est_any 7
      rw [e1] at hE
      refine hE.mono fun e B3 ⟨he3, hb3⟩ => ⟨he3, ?_, ?_, hB2.trans (hb3.mono hB2.size)⟩
      · have := (q1.below hb3).count_any
        rw [e2] at this
        exact this
      · have := (q1.below hb3).len_any
        rw [len_many q1.tree.up q1.rep [7, 7, 7] (fun k hk => run_mem 4 [7, 7, 7] k hk)] at this
        have e3 : (fs (fun k => decide (0 < estE k (pushE 4 [7, 7, 7] es0))) [7, 7, 7]).length = 1 := by decide
        rw [e3] at this
        exact this⟩
  clear e1 e2
  go_enter Tryd.func5, Tryd.ntmps5
  go_wp2_with fail
  refine T5.out.mono ?_
  rintro e w1 ⟨X, rfl, T12⟩
  go_wp2_with fail
  refine T12.out.mono ?_
  rintro e w2 ⟨rfl, T9⟩
  go_wp2_with fail
  refine T9.out.mono ?_
  rintro e w3 ⟨rfl, T7, T10, hb⟩
  go_wp2_with (first
    | (go_at_call 13; refine T7.out.mono ?_; rintro e w4 ⟨rfl, e4⟩; obtain rfl : w3 = w4 := e4.symm)
    | (go_at_call 18; refine T10.out.mono ?_; rintro e w4 ⟨rfl, e4⟩; obtain rfl : w3 = w4 := e4.symm))
  go_ret
  exact ⟨rfl, hb⟩
/-- an exact in X, made since w, to which the first i keys came. -/
structure Tst (w : World) (X lim : Nat) (l : List Nat) (i : Nat) (V : World) : Prop where
  ex : ∃ g t, Xg V X g t lim (runE lim (l.take i)) ∧ t.list.length ≤ i
  old : Below w.heap.size w V
namespace Tst
variable {w V B : World} {X lim i : Nat} {l : List Nat}
theorem below (h : Tst w X lim l i V) (hb : Below V.heap.size V B) : Tst w X lim l i B := by
  obtain ⟨⟨g, t, h1, h2⟩, h3⟩ := h
  exact ⟨⟨g, t, h1.below hb, h2⟩, h3.trans (hb.mono h3.size)⟩
theorem drewN (h : Tst w X lim l i V) (q : Nat) : Tst w X lim l i (V.drewN q) := h.below ⟨rfl, rfl, rfl, Nat.le_refl _, fun _ _ => rfl⟩
theorem cnt (hl : 0 < lim) (hi : i ≤ l.length) : (runE lim (l.take i)).cnt = i % lim := run_cnt lim hl l i hi
theorem add6 (h : Tst w X lim l i V) (hX : w.heap.size ≤ X) (hlim : 0 < lim ∧ lim ≤ 4096) (hl : l.length ≤ 1000000) (x : Nat) (hx : l[i]? = some x) : Calls Tryd.prog 9 #[.pointer (some ⟨X, 0, none⟩), .int .u64 (x : Int)] V fun e B => e = .returned (.tuple #[]) ∧ Hid (Tst w X lim l (i + 1) B) := by
  obtain ⟨⟨g, t, h1, h2⟩, h3⟩ := h
  have hi := (List.getElem?_eq_some_iff.1 hx).1
  have hc : (runE lim (l.take i)).cnt < lim := by rw [cnt hlim.1 (Nat.le_of_lt hi)]; exact Nat.mod_lt _ hlim.1
  refine (h1.add_any x hlim.2 hc (by omega)).mono fun e B ⟨he, ho⟩ => ⟨he, ?_⟩
  obtain ⟨g2, t2, q1, q2, q3⟩ := ho.out
  exact ⟨⟨g2, t2, by rw [run_next lim l i x hx]; exact q1, by omega⟩, h3.trans (keep_below q2 hX h3.size)⟩
theorem count7 (h : Tst w X lim l i V) (hl : 0 < lim) (hi : i ≤ l.length) : Calls Tryd.prog 13 #[.pointer (some ⟨X, 0, none⟩)] V fun e B => e = .returned (.int .i64 ((i % lim : Nat) : Int)) ∧ B = V := by
  obtain ⟨⟨g, t, h1, h2⟩, h3⟩ := h
  have := h1.count_any
  rw [cnt hl hi] at this
  exact this
theorem est9 (h : Tst w X lim l i V) (x : Nat) : Calls Tryd.prog 11 #[.pointer (some ⟨X, 0, none⟩), .int .u64 (x : Int)] V fun e B => e = .returned (.int .i64 (estE x (runE lim (l.take i)) : Int)) ∧ Hid (Tst w X lim l i B) := by
  have h0 := h
  obtain ⟨⟨g, t, h1, h2⟩, h3⟩ := h
  exact (h1.est_any x).mono fun e B ⟨he, hb⟩ => ⟨he, h0.below hb⟩
theorem len10 (h : Tst w X lim l i V) : Calls Tryd.prog 18 #[.pointer (some ⟨X, 0, none⟩)] V fun e B => e = .returned (.int .i64 ((fs (fun k => decide (0 < estE k (runE lim (l.take i)))) l).length : Int)) ∧ B = V := by
  obtain ⟨⟨g, t, h1, h2⟩, h3⟩ := h
  have := h1.len_any
  rw [len_many h1.tree.up h1.rep l (fun k hk => List.mem_of_mem_take (run_mem lim (l.take i) k hk))] at this
  exact this
end Tst
theorem new_tst (c : Int) (w : World) (l : List Nat) : Calls Tryd.prog 7 #[.int .i64 c] w fun e B => ∃ X, e = .returned (.pointer (some ⟨X, 0, none⟩)) ∧ Hid (w.heap.size ≤ X ∧ Tst w X (min (max c 1) 4096).toNat l 0 B) :=
  (new_exact c w).mono fun e B ⟨X, he, ho⟩ => ⟨X, he, by
    obtain ⟨g, h1, h2, h3⟩ := ho.out
    exact ⟨h3, ⟨⟨g, .nil, h1, Nat.le_refl _⟩, h2⟩⟩⟩
end Go.Proofs.YtnhpcjiieagjnaaDoor.rk
