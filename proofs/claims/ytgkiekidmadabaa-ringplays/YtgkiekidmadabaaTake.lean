/-
  (*Ring[int]).Take by its contract: the front, which is gone then; nothing of an empty ring, and of none.
-/
import Derived.Test.YtgkiekidmadabaaSend
import Derived.Lib.SliceRun
namespace Go.Proofs.Ytgkiekidmadabaa
open Go.RowKit Go.Shelf
theorem take_none (w : World) : Calls Try.prog 12 #[.pointer none] w fun e w' => e = .returned (.tuple #[.int .i64 0, .bool false]) ∧ w' = w := by
  go_enter Try.func12, Try.ntmps12
  go_wp2_with fail
  refine (at_none w 0).mono ?_
  rintro e w1 ⟨rfl, rfl⟩
  go_wp2
  go_ret2
  exact ⟨rfl, rfl⟩
theorem take_empty {w : World} {r s n f : Nat} {a : Option Addr} {room : Nat} (h : RingI w r s n f a [] room) : Calls Try.prog 12 #[.pointer (some ⟨r, 0, none⟩)] w fun e w' => e = .returned (.tuple #[.int .i64 0, .bool false]) ∧ w' = w := by
  have H := Lib.hid (at_out h 0 (by simp))
  clear h
  go_enter Try.func12, Try.ntmps12
  go_wp2_with fail
  refine H.out.mono ?_
  rintro e w1 ⟨rfl, rfl⟩
  go_wp2
  go_ret2
  exact ⟨rfl, rfl⟩
/-- what is left when the front is gone. -/
theorem Ring.shift {w : World} {r s n f : Nat} {a : Option Addr} {x : Int} {ys : List Int} {room : Nat} (h : RingI w r s n f a (x :: ys) room) (z : Value) (W : World) (hW : W = ((w.setCell ⟨s, f, none⟩ z).setCell ⟨r, 1, none⟩ (.int .i64 (((f + 1) % n : Nat) : Int))).setCell ⟨r, 2, none⟩ (.int .i64 (ys.length : Int))) :
    RingI W r s n ((f + 1) % n) a ys room ∧ Keep (fun k => ¬ foot r s n k) w W := by
  subst hW
  have hx := h.fits
  simp only [List.length_cons] at hx
  have hn : 0 < n := by omega
  obtain ⟨h1, h2, h3, arr, h4, h5, h6⟩ := h.full hn
  refine ⟨⟨?_, by omega, h.most, h.lid, fun e => by omega, fun _ => ⟨Nat.mod_lt _ hn, h2, h3, _, heap_set_other (heap_set_other (heap_set h4 _ _) h3 _ _) h3 _ _, by simp [h5], fun i hi => ?_⟩⟩, ((Keep.setCell _ _ _ fun hk => hk (.inr ⟨hn, rfl⟩)).trans (Keep.setCell _ _ _ fun hk => hk (.inl rfl))).trans (Keep.setCell _ _ _ fun hk => hk (.inl rfl))⟩
  · rw [heap_set (heap_set (heap_set_other h.head (fun e => h3 e.symm) _ _) 1 _) 2 _]
    simp
  · have e1 : ((f + 1) % n + i) % n = (f + (i + 1)) % n := by rw [Nat.mod_add_mod]; congr 1; omega
    rw [Array.getElem?_setIfInBounds, if_neg, e1, h6 (i + 1) (by simp; omega)]
    · simp
    · intro e
      have e2 : (f + 0) % n = (f + (i + 1)) % n := by rw [← e1, ← e, Nat.add_zero, Nat.mod_eq_of_lt h1]
      have := mod_inj hn (by omega) e2
      omega
theorem zero_el (w : World) : (zeroValue 3).run Try.prog w = .ok (.int .i64 0) w := by simp [Try.zeroValue3]
set_option maxHeartbeats 2000000 in
theorem take_some {w : World} {r s n f : Nat} {a : Option Addr} {x : Int} {ys : List Int} {room : Nat} (h : RingI w r s n f a (x :: ys) room) :
    Calls Try.prog 12 #[.pointer (some ⟨r, 0, none⟩)] w fun e B => e = .returned (.tuple #[.int .i64 x, .bool true]) ∧ RingI B r s n ((f + 1) % n) a ys room ∧ Keep (fun k => ¬ foot r s n k) w B := by
  have hx := h.fits
  have hl : n ≤ 65536 := Nat.le_trans h.most h.lid
  simp only [List.length_cons] at hx
  have hn : 0 < n := by omega
  have c0 := h.c0
  have c1 := h.c1
  have c2 := h.c2
  simp only [List.length_cons] at c2
  have hsr : ¬ s = r := (h.full hn).2.2.1
  obtain ⟨hfn, rfl⟩ : f < n ∧ a = some ⟨s, 0, none⟩ := ⟨(h.full hn).1, (h.full hn).2.1⟩
  have A : Hid (Calls Try.prog 14 #[.pointer (some ⟨r, 0, none⟩), .int .i64 0] w fun e w' => e = .returned (.tuple #[.int .i64 x, .bool true]) ∧ ∃ m, w' = w.drewN m) := at_in h 0 (by simp)
  obtain ⟨z, cz⟩ := h.slotz hn hfn
  have fz := h.slotf hn f
  have hcl : ∀ q ty, (Builtin.clear_ #[26] ty #[.slice (some ⟨s, f, none⟩) 1 (n - f)]).run Try.prog (w.drewN q) = .ok (.tuple #[]) ((w.drewN q).setCell ⟨s, f, none⟩ (.int .i64 0)) := fun q ty => by
    rw [Lib.run_clear_slice (w.drewN q) 26 3 ty (.int .i64 0) Try.underlying26 zero_el rfl rfl s f 1 (n - f) (by omega) (fun j hj => by obtain rfl : j = 0 := (by omega); simp [cz]) (fun j hj => by obtain rfl : j = 0 := (by omega); simpa using fz)]
    rfl
  have hne : ∀ i : Nat, (⟨r, i, none⟩ : Addr) ≠ ⟨s, f, none⟩ := fun i e => by injection e with e; exact hsr e.symm
  have D0 : ∀ q, ((w.drewN q).setCell ⟨s, f, none⟩ (.int .i64 0)).cell? ⟨r, 0, none⟩ = some (.slice (some ⟨s, 0, none⟩) n n) := fun q => (World.cell?_setCell_other _ _ _ _ (hne 0).symm).trans c0
  have D1 : ∀ q, ((w.drewN q).setCell ⟨s, f, none⟩ (.int .i64 0)).cell? ⟨r, 1, none⟩ = some (.int .i64 (f : Int)) := fun q => (World.cell?_setCell_other _ _ _ _ (hne 1).symm).trans c1
  have D2 : ∀ q, ((w.drewN q).setCell ⟨s, f, none⟩ (.int .i64 0)).cell? ⟨r, 2, none⟩ = some (.int .i64 ((ys.length + 1 : Nat) : Int)) := fun q => (World.cell?_setCell_other _ _ _ _ (hne 2).symm).trans c2
  have f1 := h.fr 1
  have f2 := h.fr 2
  have P := Lib.hid fun q => (h.drewN q).shift (.int .i64 0) _ rfl
  have SL : Hid (∀ q, Calls Try.prog 30 #[.pointer (some ⟨r, 0, none⟩), .int .i64 1] ((w.drewN q).setCell ⟨s, f, none⟩ (.int .i64 0)) fun e w' => e = .returned (.int .i64 (((f + 1) % n : Nat) : Int)) ∧ ∃ m, w' = (w.drewN (q + m)).setCell ⟨s, f, none⟩ (.int .i64 0)) :=
    fun q => (slot_raw (D0 q) (D1 q) hfn hl 1 (by omega)).mono fun e B ⟨he, m, hm⟩ => ⟨he, m, by rw [hm, ← World.drewN_drewN]; rfl⟩
  have i1 : (0 : Int) ≤ (f : Int) := by omega
  have i2 : (f : Int) + 1 ≤ (n : Int) := by omega
  have i3 : (f : Int) ≤ (f : Int) + 1 := by omega
  clear h cz fz
  generalize (f + 1) % n = k at *
  go_enter Try.func12, Try.ntmps12
  go_wp2_with fail
  refine A.out.mono ?_
  rintro e w1 ⟨rfl, m1, rfl⟩
  go_wp2_with fail
  go_region
  go_wp2_with fail
  refine (SL.out _).mono ?_
  rintro e w2 ⟨rfl, m2, rfl⟩
  go_wp2
  go_ret2
  exact ⟨rfl, (P.out _).1, (Keep.drewN _ _ _).trans (P.out _).2⟩
end Go.Proofs.Ytgkiekidmadabaa
