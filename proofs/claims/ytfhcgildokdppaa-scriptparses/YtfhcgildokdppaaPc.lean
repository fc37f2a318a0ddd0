/-
  Parse's closure by its contract: one byte of the tape, modulo a number, stored where it is asked to.
-/
import Derived.Test.YtfhcgildokdppaaPf
namespace Go.Proofs.Ytfhcgildokdppaa
open Go.RowKit Go.Shelf tp
theorem mk35 (b : Nat) (W : World) : (Instr.makeFunc (.func 35) #[] #[.pointer (some ⟨b, 0, none⟩)]).run Try.prog W = .ok (.func (.func 35) #[] #[.pointer (some ⟨b, 0, none⟩)]) W := by kernel_rfl
/-- what is read modulo n. -/
abbrev rm (bs : List Nat) (a : Nat) (lo n : Int) : Int := lo + (bt bs a : Int) % n
/-- what the closure leaves. -/
def Rd (cap : Nat) (V : World) (D : Nat) (q : Option Addr) (bs : List Nat) (a b o : Nat) (x : Int) (B : World) : Prop := ∃ A, Go1 76 cap V D q bs a A ∧ B = A.setCell ⟨b, o, none⟩ (.int .i64 x)
theorem below_one {cap : Nat} {V : World} {D : Nat} {q : Option Addr} {bs : List Nat} {a : Nat} (h : Tp 76 cap V D q bs a) (n : Int) (hn : 1 ≤ n) (hn2 : n ≤ 256) : Calls Try.prog 36 #[.pointer (some ⟨D, 0, none⟩), .int .i64 n] V fun e B => e = .returned (.int .i64 ((bt bs a : Int) % n)) ∧ Hid (Go1 76 cap V D q bs (nx bs a) B) :=
  (below11 h n (by omega)).mono fun e B ⟨he, g⟩ => by
    unfold bv at he
    unfold ba at g
    rw [if_neg (by omega)] at he g
    exact ⟨he, g⟩
theorem below_two {cap : Nat} {V : World} {D : Nat} {q : Option Addr} {bs : List Nat} {a : Nat} (h : Tp 63 cap V D q bs a) (n : Int) (hn : 1 ≤ n) (hn2 : n ≤ 256) : Calls Try.prog 42 #[.pointer (some ⟨D, 0, none⟩), .int .i64 n] V fun e B => e = .returned (.int .i64 ((bt bs a : Int) % n)) ∧ Hid (Go1 63 cap V D q bs (nx bs a) B) :=
  (below12 h n (by omega)).mono fun e B ⟨he, g⟩ => by
    unfold bv at he
    unfold ba at g
    rw [if_neg (by omega)] at he g
    exact ⟨he, g⟩
theorem read35 {cap : Nat} {V : World} {D : Nat} {q : Option Addr} {bs : List Nat} {a : Nat} (h : Tp 76 cap V D q bs a) {X : Nat} (hX : V.cell? ⟨X, 0, none⟩ = some (.pointer (some ⟨D, 0, none⟩))) {b o : Nat} {arr : Array Value} {ty : TypeId} (hb : V.heap[b]? = some (.cells arr ty (0, 0))) (hne : b ≠ D) {u : Value} (ho : arr[o]? = some u) (lo n : Int) (h0 : 0 ≤ lo) (h1 : lo ≤ 1) (hn : 1 ≤ n) (hn2 : n ≤ 256) :
    Calls Try.prog 35 #[.pointer (some ⟨b, o, none⟩), .int .i64 lo, .int .i64 n, .pointer (some ⟨X, 0, none⟩)] V fun e B => e = .returned (.tuple #[]) ∧ Hid (Rd cap V D q bs (nx bs a) b o (rm bs a lo n) B) := by
  have T : Hid (Calls Try.prog 36 #[.pointer (some ⟨D, 0, none⟩), .int .i64 n] V fun e A => ∃ x : Int, e = .returned (.int .i64 x) ∧ 0 ≤ x ∧ x < 256 ∧ A.cell? ⟨b, o, none⟩ = some u ∧ A.frozen? ⟨b, o, none⟩ = false ∧ Hid (∀ B, B = A.setCell ⟨b, o, none⟩ (.int .i64 (lo + x)) → Hid (Rd cap V D q bs (nx bs a) b o (rm bs a lo n) B))) :=
    (below_one h n hn hn2).mono fun e A ⟨he, g⟩ => by
      have hA : A.heap[b]? = some (.cells arr ty (0, 0)) := g.out.2.heap hb hne
      have m0 := Int.emod_nonneg (bt bs a : Int) (b := n) (by omega)
      have m1 := Int.emod_lt_of_pos (bt bs a : Int) (b := n) (by omega)
      exact ⟨_, he, m0, by omega, (cell_of hA o).trans ho, frozen_of hA o, fun B hB => ⟨A, g.out, hB⟩⟩
  clear h hb ho hne
  go_enter Try.func35, Try.ntmps35
  go_wp2_with fail
  refine T.out.mono ?_
  rintro e w1 ⟨x, rfl, x0, x1, c1, f1, F⟩
  go_wp2
  refine bodyPost_end (results_none rfl _ _ _) rfl ?_
  exact ⟨rfl, F.out _ rfl⟩
end Go.Proofs.Ytfhcgildokdppaa
