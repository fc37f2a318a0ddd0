/-
  A sketch as it lies in memory ('Sk'), a key's place ('plN'); (*Sketch).Width and Place by their contracts.
-/
import Derived.Test.YtnhpcjiieagjnaaDoorMxWalks
import Derived.Test.YtnhpcjiieagjnaaDoorWdWord
import Derived.Test.YtnhpcjiieagjnaaDoorNbHelps
import Derived.Test.YtnhpcjiieagjnaaDoorNbLoops
import Derived.Deep.RegionHeld3
namespace Go.Proofs.YtnhpcjiieagjnaaDoor.sk
open Go.RowKit
open nb (Keep Nib ct cell_of frozen_of heap_set heap_set_other heap_old heap_next heap_lt getAt mayAdd addAt)
/-- a word mixed: known by its equation alone. -/
theorem mix_ex : ∃ f : Nat → Nat, ∀ x, f x = mx.mixN x := ⟨_, fun _ => rfl⟩
noncomputable def mixF : Nat → Nat := mix_ex.choose
theorem mixF_eq (x : Nat) : mixF x = mx.mixN x := mix_ex.choose_spec x
theorem mixF_lt (x : Nat) : mixF x < 18446744073709551616 := by rw [mixF_eq]; exact mx.mixN_lt x
/-- a key's place in a row. -/
theorem pl_ex : ∃ f : Nat → Nat → Nat → Nat → Nat, ∀ seed n h i, f seed n h i = mixF (h ^^^ mixF ((seed + i + 1) % 18446744073709551616)) % n := ⟨_, fun _ _ _ _ => rfl⟩
noncomputable def plN : Nat → Nat → Nat → Nat → Nat := pl_ex.choose
theorem plN_eq (seed n h i : Nat) : plN seed n h i = mixF (h ^^^ mixF ((seed + i + 1) % 18446744073709551616)) % n := pl_ex.choose_spec seed n h i
theorem plN_lt (seed n h i : Nat) (hn : 0 < n) : plN seed n h i < n := by rw [plN_eq]; exact Nat.mod_lt _ hn
theorem xor_lt (x y : Nat) (hx : x < 18446744073709551616) (hy : y < 18446744073709551616) : x ^^^ y < 18446744073709551616 := Nat.xor_lt_two_pow (n := 64) hx hy
/-- what is not of the sketch in the blocks from S on. -/
abbrev out (S k : Nat) : Prop := k < S ∨ S + 9 ≤ k
/-- a sketch lies in the blocks from S on: n counters a row, the rows f 0 to f 3. -/
structure Sk (w : World) (S seed n : Nat) (f : Nat → List Nat) : Prop where
  head : w.heap[S]? = some (.cells #[.pointer (some ⟨S + 2, 0, none⟩), .pointer (some ⟨S + 4, 0, none⟩), .pointer (some ⟨S + 6, 0, none⟩), .pointer (some ⟨S + 8, 0, none⟩), .int .u64 (seed : Int)] 74 (0, 0))
  row : ∀ i, i < 4 → Nib w (S + 2 + 2 * i) (S + 1 + 2 * i) (f i)
  len : ∀ i, i < 4 → (f i).length = n
  pos : 0 < n
  lid : n ≤ 4096
  low : seed < 18446744073709551616
namespace Sk
variable {w w' : World} {S seed n : Nat} {f : Nat → List Nat}
theorem keep {K : Nat → Prop} (h : Sk w S seed n f) (hk : Keep K w w') (hK : ∀ k, S ≤ k → k < S + 9 → K k) : Sk w' S seed n f :=
  ⟨hk.heap h.head (hK _ (by omega) (by omega)), fun i hi => (h.row i hi).keep hk (hK _ (by omega) (by omega)) (hK _ (by omega) (by omega)), h.len, h.pos, h.lid, h.low⟩
theorem lt (h : Sk w S seed n f) : S + 9 ≤ w.heap.size := by have := (h.row 3 (by decide)).lt.1; omega
theorem below (h : Sk w S seed n f) (hb : Below w.heap.size w w') : Sk w' S seed n f := h.keep (K := (· < w.heap.size)) (.of_below hb fun _ h => h) (fun k _ hk => by have := h.lt; show k < _; omega)
theorem drewN (h : Sk w S seed n f) (q : Nat) : Sk (w.drewN q) S seed n f := h.keep (K := fun _ => True) (.drewN _ _ _) (fun _ _ _ => trivial)
theorem cr (h : Sk w S seed n f) (i : Nat) (hi : i < 4) : w.cell? ⟨S, i, none⟩ = some (.pointer (some ⟨S + 2 + 2 * i, 0, none⟩)) := by
  rw [cell_of h.head]
  rcases (show i = 0 ∨ i = 1 ∨ i = 2 ∨ i = 3 by omega) with rfl | rfl | rfl | rfl <;> rfl
theorem c4 (h : Sk w S seed n f) : w.cell? ⟨S, 4, none⟩ = some (.int .u64 (seed : Int)) := by rw [cell_of h.head]; rfl
end Sk
variable {w : World} {S seed n : Nat} {f : Nat → List Nat}
theorem width_some (h : Sk w S seed n f) : Calls Tryd.prog 55 #[.pointer (some ⟨S, 0, none⟩)] w fun e w' => e = .returned (.int .i64 (n : Int)) ∧ w' = w := by
  have c0 := h.cr 0 (by decide)
  have T := nb.len_some (h.row 0 (by decide))
  rw [h.len 0 (by decide)] at T
  have T := Lib.hid T
  clear h
  go_enter Tryd.func55, Tryd.ntmps55
  go_wp2_with (go_at_call 78; refine T.out.mono ?_; rintro e w1 ⟨rfl, e1⟩; obtain rfl : w = w1 := e1.symm)
  go_ret
  exact ⟨rfl, rfl⟩
theorem width_none (w : World) : Calls Tryd.prog 55 #[.pointer none] w fun e w' => e = .returned (.int .i64 0) ∧ w' = w := by
  go_enter Tryd.func55, Tryd.ntmps55
  go_wp2
  go_ret
  exact ⟨rfl, rfl⟩
theorem mix_f (x : Nat) (hx : x < 18446744073709551616) (w0 w : World) (h : mx.Since w0 w) : Calls Tryd.prog 42 #[.int .u64 (x : Int)] w fun e w' => e = .returned (.int .u64 (mixF x : Int)) ∧ Below w.heap.size w w' := by
  rw [mixF_eq]
  exact (mx.mix_any x hx w w ⟨⟨h.pos, fun i hi => h.cell i hi⟩, Below.refl _ _⟩).mono fun e B ⟨he, hB⟩ => ⟨he, hB.2⟩
theorem refmix_f (x : Nat) (hx : x < 18446744073709551616) (w : World) : Calls Tryd.prog 82 #[.int .u64 (x : Int)] w fun e w' => e = .returned (.int .u64 (mixF x : Int)) ∧ w' = w := by
  rw [mixF_eq]
  exact (mx.refmix_any x hx w).mono fun e B ⟨he, hB⟩ => ⟨he, hB.symm⟩
theorem place_none (hash : Int) (row : Int) (w : World) : Calls Tryd.prog 56 #[.pointer none, .int .u64 hash, .int .i64 row] w fun e w' => e = .returned (.int .i64 0) ∧ w' = w := by
  go_enter Tryd.func56, Tryd.ntmps56
  go_wp2
  go_ret
  exact ⟨rfl, rfl⟩
theorem place_out (hash : Int) (row : Int) (hr : ¬ (0 ≤ row ∧ row < 4)) (w : World) : Calls Tryd.prog 56 #[.pointer (some ⟨S, 0, none⟩), .int .u64 hash, .int .i64 row] w fun e w' => e = .returned (.int .i64 0) ∧ w' = w := by
  by_cases h0 : row < 0
  · have hd : decide (row < 0) = true := by simpa using h0
    clear hr
    go_enter Tryd.func56, Tryd.ntmps56
    go_wp2
    go_ret
    exact ⟨rfl, rfl⟩
  · have h1 : 4 ≤ row := by omega
    have hd : decide (row < 0) = false := by simpa using h0
    clear hr
    go_enter Tryd.func56, Tryd.ntmps56
    go_wp2
    go_ret
    exact ⟨rfl, rfl⟩
theorem place_some (w0 : World) (h : Sk w S seed n f) (hs : mx.Since w0 w) (x i : Nat) (hx : x < 18446744073709551616) (hi : i < 4) : Calls Tryd.prog 56 #[.pointer (some ⟨S, 0, none⟩), .int .u64 (x : Int), .int .i64 (i : Int)] w fun e w' => e = .returned (.int .i64 (plN seed n x i : Int)) ∧ Below w.heap.size w w' := by
  have c4 := h.c4
  have hd : decide ((i : Int) < 0) = false := by simp
  have hd1 : ¬ (4 : Int) ≤ (i : Int) := by omega
  obtain ⟨a, ha, ha'⟩ : ∃ a : Nat, (seed + i + 1) % 18446744073709551616 = a ∧ IntKind.u64.wrap (IntKind.u64.wrap ((seed : Int) + (i : Int)) + 1) = (a : Int) := ⟨_, rfl, by simp only [IntKind.wrap_u64]; omega⟩
  have hal : a < 18446744073709551616 := by omega
  have X1 := Lib.hid (mix_f a hal w0 w hs)
  have hal2 := mixF_lt a
  have hx2 : bits BinOp.xor IntKind.u64 (x : Int) (mixF a : Int) = ((x ^^^ mixF a : Nat) : Int) := u64_xor_nat _ _ hx hal2
  have hx3 := xor_lt x (mixF a) hx hal2
  have R : Hid (∀ W, Below w.heap.size w W → Calls Tryd.prog 42 #[.int .u64 ((x ^^^ mixF a : Nat) : Int)] W fun e w' => e = .returned (.int .u64 (mixF (x ^^^ mixF a) : Int)) ∧ Below w.heap.size w w') := fun W hW =>
    (mix_f _ hx3 w0 W (hs.next hW)).mono fun e B ⟨he, hB⟩ => ⟨he, hW.trans (hB.mono hW.size)⟩
  have T : Hid (∀ W, Below w.heap.size w W → Calls Tryd.prog 55 #[.pointer (some ⟨S, 0, none⟩)] W fun e w' => e = .returned (.int .i64 (n : Int)) ∧ w' = W) := fun W hW => width_some (h.below hW)
  have hm2 := mixF_lt (x ^^^ mixF a)
  have hp := h.pos
  have hl := h.lid
  have E := Lib.hid (plN_eq seed n x i)
  rw [ha] at E
  have HA := Lib.hid ha
  clear h ha hs
  generalize plN seed n x i = p at *
  generalize x ^^^ mixF a = y at *
  generalize mixF y = z at *
  generalize mixF a = m at *
  have hz : wrap64 ((z : Int) % (n : Int)) = (p : Int) := by
    have e1 : (z : Int) % (n : Int) = ((z % n : Nat) : Int) := by simp
    have e2 := Nat.mod_lt z hp
    rw [E.out, e1]
    unfold wrap64
    omega
  clear E
  go_enter Tryd.func56, Tryd.ntmps56
  go_wp2_with fail
  refine X1.out.mono ?_
  rintro e w1 ⟨rfl, b1⟩
  have B1 := Lib.hid b1
  clear b1
  go_wp2_with fail
  refine (R.out w1 B1.out).mono ?_
  rintro e w2 ⟨rfl, b2⟩
  have B2 := Lib.hid b2
  have T2 := Lib.hid (T.out w2 b2)
  clear b2 B1 T R
  go_wp2_with (go_at_call 55; refine T2.out.mono ?_; rintro e w3 ⟨rfl, e3⟩; obtain rfl : w2 = w3 := e3.symm)
  go_ret
  exact ⟨congrArg (fun t => Ending.returned (Value.int IntKind.i64 t)) hz, B2.out⟩
end Go.Proofs.YtnhpcjiieagjnaaDoor.sk
