/-
  Byte of package tape and the document's Byte by their contracts, for every tape.
-/
import Derived.Test.YtfhcgildokdppaaTpTp
namespace Go.Proofs.Ytfhcgildokdppaa.tp
open Go.RowKit
set_option maxHeartbeats 1000000 in
theorem byte9 {w : World} {D cap : Nat} {q : Option Addr} {bs : List Nat} {a : Nat} (h : Tp 76 cap w D q bs a) :
    Calls Try.prog 40 #[.pointer (some ⟨D, 0, none⟩)] w fun e B => e = .returned (.int .i64 (bt bs a : Int)) ∧ Hid (Go1 76 cap w D q bs (nx bs a) B) := by
  have T := Lib.hid (left14 h)
  have hlen := h.len
  by_cases hlt : a < bs.length
  · obtain ⟨b, o, rfl, hi⟩ := h.lst (by omega)
    have hy := bt_lt h.bys a
    have e1 := bt_in hlt
    have e2 := nx_in hlt
    have hc := hi a hlt
    rw [← e1] at hc
    clear hi
    rw [e2]
    have hcp := h.cp
    have S : Hid (∀ j, ∃ W, w.drewN j = W ∧ W.cell? ⟨D, 0, none⟩ = some (.slice (some ⟨b, o, none⟩) bs.length cap) ∧ W.cell? ⟨D, 1, none⟩ = some (.int .i64 (a : Int)) ∧ W.frozen? ⟨D, 1, none⟩ = false ∧ W.cell? ⟨b, o + a, none⟩ = some (.int .u8 (bt bs a : Int)) ∧
        Hid (∀ n, Go1 76 cap w D (some ⟨b, o, none⟩) bs (a + 1) ((W.drewN n).setCell ⟨D, 1, none⟩ (.int .i64 ((a : Int) + 1))))) := fun j =>
      ⟨_, rfl, (h.drewN j).c0, (h.drewN j).c1, (h.drewN j).f1, hc, fun n => Go1.next (a' := a + 1) h ((below_drewN w j).trans (below_drewN (w.drewN j) n)) (by omega)⟩
    clear h e1 e2 hc
    generalize bt bs a = y at *
    generalize bs.length = n at *
    have z : ((n - a : Nat) : Int) = (n : Int) - (a : Int) := by omega
    rw [z] at T
    have z1 : ¬ (n : Int) - (a : Int) = 0 := by omega
    have z1' : ((n : Int) - (a : Int) == 0) = false := by simpa using z1
    have z2 : (a : Int) < (n : Int) := by omega
    have z3 : (0 : Int) ≤ (a : Int) := by omega
    clear z
    go_enter Try.func40, Try.ntmps40
    go_wp2_with fail
    refine T.out.mono ?_
    rintro e w1 ⟨rfl, j, rfl⟩
    obtain ⟨W, hW, d0, d1, f1, dc, E⟩ := S.out j
    rw [hW]
    clear T S hW
    go_wp2
    go_quiet (fail)
    go_wp2
    go_ret
    exact ⟨rfl, E.out _⟩
  · obtain rfl : a = bs.length := by have := h.le; omega
    have S : Hid (∀ j, Go1 76 cap w D q bs (nx bs bs.length) (w.drewN j)) := fun j => by rw [nx_out (Nat.le_refl _)]; exact Go1.still h (below_drewN w j)
    rw [bt_out (Nat.le_refl _)]
    rw [Nat.sub_self] at T
    clear h
    generalize bs.length = n at *
    go_enter Try.func40, Try.ntmps40
    go_wp2_with fail
    refine T.out.mono ?_
    rintro e w1 ⟨rfl, j, rfl⟩
    go_wp2
    go_ret
    exact ⟨rfl, S.out _⟩
set_option maxHeartbeats 1000000 in
theorem byte10 {w : World} {D cap : Nat} {q : Option Addr} {bs : List Nat} {a : Nat} (h : Tp 63 cap w D q bs a) :
    Calls Try.prog 44 #[.pointer (some ⟨D, 0, none⟩)] w fun e B => e = .returned (.int .i64 (bt bs a : Int)) ∧ Hid (Go1 63 cap w D q bs (nx bs a) B) := by
  have hlen := h.len
  have c0 := h.c0
  have c1 := h.c1
  have f1 := h.f1
  by_cases hlt : a < bs.length
  · obtain ⟨b, o, rfl, hi⟩ := h.lst (by omega)
    have hne : ¬ b = D := h.off b o rfl (by omega)
    have hy := bt_lt h.bys a
    have e1 := bt_in hlt
    have e2 := nx_in hlt
    have hc := hi a hlt
    rw [← e1] at hc
    clear hi
    rw [e2]
    have hcp := h.cp
    have E : Hid (∀ n m, Go1 63 cap w D (some ⟨b, o, none⟩) bs (a + 1) (((w.drewN n).setCell ⟨D, 1, none⟩ (.int .i64 ((a : Int) + 1))).drewN m)) := fun n m =>
      (Go1.next (a' := a + 1) h (below_drewN w n) (by omega)).trans (Go1.still (Go1.next (a' := a + 1) h (below_drewN w n) (by omega)).1 (below_drewN _ m))
    have E0 : ∀ n, ((w.drewN n).setCell ⟨D, 1, none⟩ (.int .i64 ((a : Int) + 1))).cell? ⟨D, 0, none⟩ = some (.slice (some ⟨b, o, none⟩) bs.length cap) := fun n => (Go1.next (a' := a + 1) h (below_drewN w n) (by omega)).1.c0
    have E1 : ∀ n, ((w.drewN n).setCell ⟨D, 1, none⟩ (.int .i64 ((a : Int) + 1))).cell? ⟨D, 1, none⟩ = some (.int .i64 ((a : Int) + 1)) := fun n => (Go1.next (a' := a + 1) h (below_drewN w n) (by omega)).1.c1
    have E2 : ∀ n, ((w.drewN n).setCell ⟨D, 1, none⟩ (.int .i64 ((a : Int) + 1))).cell? ⟨b, o + a, none⟩ = some (.int .u8 (bt bs a : Int)) := fun n => by
      rw [World.cell?_setCell_other _ _ _ _ (by simp; omega)]
      exact hc
    clear h e1 e2
    generalize bt bs a = y at *
    generalize bs.length = n at *
    have z1 : ¬ (n : Int) ≤ (a : Int) := by omega
    have z2 : (a : Int) < (n : Int) := by omega
    have z3 : (0 : Int) ≤ (a : Int) := by omega
    have z4 : (a : Int) + 1 - 1 = (a : Int) := by omega
    go_enter Try.func44, Try.ntmps44
    go_wp2
    go_quiet (fail)
    go_wp2
    go_quiet (fail)
    go_wp2
    go_ret
    exact ⟨rfl, E.out _ _⟩
  · obtain rfl : a = bs.length := by have := h.le; omega
    have S : Hid (∀ j, Go1 63 cap w D q bs (nx bs bs.length) (w.drewN j)) := fun j => by rw [nx_out (Nat.le_refl _)]; exact Go1.still h (below_drewN w j)
    rw [bt_out (Nat.le_refl _)]
    clear h
    generalize bs.length = n at *
    have z1 : (n : Int) ≤ (n : Int) := by omega
    go_enter Try.func44, Try.ntmps44
    go_wp2
    go_quiet (fail)
    go_wp2
    go_ret
    exact ⟨rfl, S.out _⟩
end Go.Proofs.Ytfhcgildokdppaa.tp
