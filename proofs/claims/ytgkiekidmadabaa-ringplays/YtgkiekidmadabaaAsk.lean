/-
  (*Ring[int]).Len, Room, slot and At by their contracts, of a ring and of none: what each returns; memory stays.
-/
import Derived.Test.YtgkiekidmadabaaRows
import Derived.Test.YtgkiekidmadabaaMath
import Derived.WalkKit
import Derived.BigQuiet
import Derived.Deep.RegionWith
namespace Go.Proofs.Ytgkiekidmadabaa
open Go.RowKit
abbrev RingI := Ring (α := Int) (fun x => .int .i64 x) 62 3
variable {w : World} {r s n f : Nat} {a : Option Addr} {xs : List Int} {room : Nat}
theorem len_some (h : RingI w r s n f a xs room) : Calls Try.prog 17 #[.pointer (some ⟨r, 0, none⟩)] w fun e w' => e = .returned (.int .i64 (xs.length : Int)) ∧ w' = w := by
  have c2 := h.c2
  clear h
  generalize xs.length = c at *
  go_enter Try.func17, Try.ntmps17
  go_wp2
  go_ret
  exact ⟨rfl, rfl⟩
theorem len_none (w : World) : Calls Try.prog 17 #[.pointer none] w fun e w' => e = .returned (.int .i64 0) ∧ w' = w := by
  go_enter Try.func17, Try.ntmps17
  go_wp2
  go_ret
  exact ⟨rfl, rfl⟩
theorem room_some (h : RingI w r s n f a xs room) : Calls Try.prog 18 #[.pointer (some ⟨r, 0, none⟩)] w fun e w' => e = .returned (.int .i64 (room : Int)) ∧ w' = w := by
  have c3 := h.c3
  clear h
  go_enter Try.func18, Try.ntmps18
  go_wp2
  go_ret
  exact ⟨rfl, rfl⟩
theorem room_none (w : World) : Calls Try.prog 18 #[.pointer none] w fun e w' => e = .returned (.int .i64 0) ∧ w' = w := by
  go_enter Try.func18, Try.ntmps18
  go_wp2
  go_ret
  exact ⟨rfl, rfl⟩
theorem slot_raw (c0 : w.cell? ⟨r, 0, none⟩ = some (.slice a n n)) (c1 : w.cell? ⟨r, 1, none⟩ = some (.int .i64 (f : Int))) (hf : f < n) (hn : n ≤ 65536) (i : Nat) (hi : i ≤ 65536) : Calls Try.prog 30 #[.pointer (some ⟨r, 0, none⟩), .int .i64 (i : Int)] w fun e w' => e = .returned (.int .i64 (((f + i) % n : Nat) : Int)) ∧ ∃ m, w' = w.drewN m := by
  have hp : 0 < n := by omega
  go_enter Try.func30, Try.ntmps30
  go_wp2_with fail
  go_quiet (fail)
  go_wp2
  go_ret
  exact ⟨by simp, _, rfl⟩
theorem slot_any (h : RingI w r s n f a xs room) (hn : 0 < n) (i : Nat) (hi : i ≤ 65536) : Calls Try.prog 30 #[.pointer (some ⟨r, 0, none⟩), .int .i64 (i : Int)] w fun e w' => e = .returned (.int .i64 (((f + i) % n : Nat) : Int)) ∧ ∃ m, w' = w.drewN m :=
  slot_raw h.c0 h.c1 (h.full hn).1 (Nat.le_trans h.most h.lid) i hi
theorem at_in (h : RingI w r s n f a xs room) (i : Nat) (hi : i < xs.length) : Calls Try.prog 14 #[.pointer (some ⟨r, 0, none⟩), .int .i64 (i : Int)] w fun e w' => e = .returned (.tuple #[.int .i64 xs[i], .bool true]) ∧ ∃ m, w' = w.drewN m := by
  have c0 := h.c0
  have hm := h.most
  have hl := h.lid
  have hc := h.fits
  obtain ⟨hn, hf, rfl, hk, cs, _⟩ := h.at_ i hi
  have HL := Lib.hid (len_some h)
  have HS : Hid (∀ q, Calls Try.prog 30 #[.pointer (some ⟨r, 0, none⟩), .int .i64 (i : Int)] (w.drewN q) fun e w' => e = .returned (.int .i64 (((f + i) % n : Nat) : Int)) ∧ ∃ m, w' = (w.drewN q).drewN m) := fun q => slot_any (h.drewN q) hn i (by omega)
  clear h
  generalize xs[i] = x at *
  generalize xs.length = c at *
  generalize (f + i) % n = k at *
  go_enter Try.func14, Try.ntmps14
  go_wp2_with fail
  refine HL.out.mono ?_
  rintro e w1 ⟨rfl, rfl⟩
  go_wp2_with fail
  go_quiet (first | (go_at_call 30; exact Calls.quiet_of (HS.out _)))
  go_wp2
  go_ret2
  exact ⟨rfl, _, rfl⟩
theorem at_out (h : RingI w r s n f a xs room) (i : Int) (hi : i < 0 ∨ (xs.length : Int) ≤ i) : Calls Try.prog 14 #[.pointer (some ⟨r, 0, none⟩), .int .i64 i] w fun e w' => e = .returned (.tuple #[.int .i64 0, .bool false]) ∧ w' = w := by
  have HL := Lib.hid (len_some h)
  clear h
  generalize xs.length = c at *
  by_cases h0 : i < 0
  · go_enter Try.func14, Try.ntmps14
    go_wp2
    go_ret2
    exact ⟨rfl, rfl⟩
  · have h1 : (c : Int) ≤ i := by omega
    clear hi
    go_enter Try.func14, Try.ntmps14
    go_wp2_with fail
    refine HL.out.mono ?_
    rintro e w1 ⟨rfl, rfl⟩
    go_wp2
    go_ret2
    exact ⟨rfl, rfl⟩
theorem at_none (w : World) (i : Int) : Calls Try.prog 14 #[.pointer none, .int .i64 i] w fun e w' => e = .returned (.tuple #[.int .i64 0, .bool false]) ∧ w' = w := by
  by_cases h0 : i < 0
  · go_enter Try.func14, Try.ntmps14
    go_wp2
    go_ret2
    exact ⟨rfl, rfl⟩
  · have h1 : (0 : Int) ≤ i := by omega
    go_enter Try.func14, Try.ntmps14
    go_wp2_with fail
    refine (len_none _).mono ?_
    rintro e w1 ⟨rfl, rfl⟩
    go_wp2
    go_ret2
    exact ⟨rfl, rfl⟩
end Go.Proofs.Ytgkiekidmadabaa
