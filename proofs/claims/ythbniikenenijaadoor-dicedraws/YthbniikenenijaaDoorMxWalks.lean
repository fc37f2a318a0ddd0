/-
  Mix, Unmix, Twist and the references of Mix and Twist by their contracts: what each returns for every word, where the table's twelve cells lie in memory as its text lays them; what was in memory stays.
-/
import Derived.Test.YthbniikenenijaaDoorMxDo
namespace Go.Proofs.YthbniikenenijaaDoor.mx
open Go.ChangeShapes Go.WideShapes Go.ChangeAt Go.RowKit
theorem u64_nat {n : Int} (h : (Lit.int .u64 n).wf = true) : ∃ m : Nat, n = (m : Int) ∧ m < 18446744073709551616 := by
  have := Go.bounds_u64 h
  exact ⟨n.toNat, by omega, by omega⟩
theorem ret_nat {a b : Nat} (h : a = b) : Ending.returned (.int .u64 (a : Int)) = .returned (.int .u64 (b : Int)) := by rw [h]
/-- the table's cells, in order. -/
def tab : List Value := [.int .i64 30, .int .u64 13787848793156543929, .int .i64 27, .int .u64 10723151780598845931, .int .i64 31, .int .u64 1, .int .i64 33, .int .u64 18397679294719823053, .int .i64 33, .int .u64 14181476777654086739, .int .i64 33, .int .u64 1]
def Steps (w : World) : Prop := 0 < w.heap.size ∧ ∀ i, i < 12 → w.cell? ⟨0, i, none⟩ = tab[i]?
/-- w' came out of w, in which the table lay: it lies there still, and all of w stands. -/
def Since (w w' : World) : Prop := Steps w ∧ Below w.heap.size w w'
theorem Since.start {w : World} (h : Steps w) : Since w w := ⟨h, Below.refl _ _⟩
theorem Since.pos {w w' : World} (h : Since w w') : 0 < w'.heap.size := Nat.lt_of_lt_of_le h.1.1 h.2.size
theorem Since.cell {w w' : World} (h : Since w w') (i : Nat) (hi : i < 12) : w'.cell? ⟨0, i, none⟩ = tab[i]? := (h.2.cell (p := ⟨0, i, none⟩) h.1.1).trans (h.1.2 i hi)
theorem Since.next {w w1 w2 : World} (h : Since w w1) (hb : Below w1.heap.size w1 w2) : Since w w2 := ⟨h.1, h.2.trans (hb.mono h.2.size)⟩
theorem mix_any (x : Nat) (hx : x < 18446744073709551616) (w0 w : World) (h : Since w0 w) :
    Calls Tryd.prog 19 #[.int .u64 x] w fun e w' => e = .returned (.int .u64 (mixN x : Nat)) ∧ Since w0 w' := by
  have H := Lib.hid h
  clear h
  go_enter Tryd.func19, Tryd.ntmps19
  go_wp2_with fail
  refine (do_0 x hx 30 27 31 13787848793156543929 10723151780598845931 1 (by decide) (by decide) (by decide) _ (H.out.cell 0 (by decide)) (H.out.cell 1 (by decide)) (H.out.cell 2 (by decide)) (H.out.cell 3 (by decide)) (H.out.cell 4 (by decide)) (H.out.cell 5 (by decide))).mono ?_
  rintro e w1 ⟨rfl, hb⟩
  go_wp2
  go_ret
  exact ⟨rfl, H.out.next hb⟩
theorem foZ_fo (x k : Nat) (h : 1 ≤ k ∧ k < 64) : foZ x (k : Int) = fo k x := by
  unfold foZ
  rw [if_pos (by omega)]
  rfl
set_option maxRecDepth 100000 in
theorem refmix_any (x : Nat) (hx : x < 18446744073709551616) (w : World) :
    Calls Tryd.prog 17 #[.int .u64 x] w fun e w' => e = .returned (.int .u64 (mixN x : Nat)) ∧ w = w' := by
  have h1 : IntKind.u64.wrap (((foZ x 30 : Nat) : Int) * 13787848793156543929) = ((st 30 13787848793156543929 x : Nat) : Int) := fold_st 30 x 13787848793156543929 (by decide) (by decide)
  have h2 : IntKind.u64.wrap (((foZ (st 30 13787848793156543929 x) 27 : Nat) : Int) * 10723151780598845931) = ((st 27 10723151780598845931 (st 30 13787848793156543929 x) : Nat) : Int) := fold_st 27 _ 10723151780598845931 (by decide) (by decide)
  have h3 : foZ (st 27 10723151780598845931 (st 30 13787848793156543929 x)) 31 = mixN x := by
    unfold mixN
    rw [st_one 31 _ (st_lt _ _ _)]
    exact foZ_fo _ 31 (by decide)
  have l1 := st_lt 30 13787848793156543929 x
  have l2 := st_lt 27 10723151780598845931 (st 30 13787848793156543929 x)
  generalize st 27 10723151780598845931 (st 30 13787848793156543929 x) = u at *
  generalize st 30 13787848793156543929 x = v at *
  have H3 := Lib.hid h3
  clear h3
  go_enter Tryd.func17, Tryd.ntmps17
  go_wp2_with fail
  refine (reffold_any _ _ hx _).mono ?_
  rintro e w1 ⟨rfl, rfl⟩
  go_wp2_with fail
  refine (reffold_any _ _ l1 _).mono ?_
  rintro e w1 ⟨rfl, rfl⟩
  go_wp2_with fail
  refine (reffold_any _ _ l2 _).mono ?_
  rintro e w1 ⟨rfl, rfl⟩
  rw [H3.out]
  go_wp2
  go_ret
  exact ⟨rfl, rfl⟩
end Go.Proofs.YthbniikenenijaaDoor.mx
