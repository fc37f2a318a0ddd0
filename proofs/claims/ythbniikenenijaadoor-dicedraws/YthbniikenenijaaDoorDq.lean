/-
  The document's Next and Below, Clone of package dice, and what both laws ask behind all ('awake'), by their contracts.
-/
import Derived.Test.YthbniikenenijaaDoorDp
namespace Go.Proofs.YthbniikenenijaaDoor
open Go.RowKit
theorem below_drewN (w : World) (n : Nat) : Below w.heap.size w (w.drewN n) := ⟨rfl, rfl, rfl, Nat.le_refl _, fun _ _ => rfl⟩
set_option maxHeartbeats 1000000 in
theorem next8 {w : World} {D cap : Nat} {q : Option Addr} {xs : List Int} {s u : Nat} (h : Dc 29 cap w D q xs s u) (hu : u ≤ 1000000) :
    Calls Tryd.prog 8 #[.pointer (some ⟨D, 0, none⟩)] w fun e B => e = .returned (.int .u64 (dr xs s u : Nat)) ∧ Hid (Go1 29 cap w D q xs s (u + 1) B) := by
  have T : Hid (∀ n, Calls Tryd.prog 13 #[.slice q xs.length cap, .int .u64 (s : Int), .int .i64 (u : Int)] (w.drewN n) fun e B => e = .returned (.int .u64 (dr xs s u : Nat)) ∧ w.drewN n = B) := fun n =>
    at13 q xs cap s u (w.drewN n) (h.lst.below (below_drewN w n)) h.len h.s64 (by omega)
  have c0 := h.c0
  have c1 := h.c1
  have c2 := h.c2
  have E : Hid (∀ n, Go1 29 cap w D q xs s (u + 1) ((w.drewN n).setCell ⟨D, 2, none⟩ (.int .i64 ((u : Int) + 1)))) := fun n => h.next (below_drewN w n)
  have f2 := h.f2
  clear h
  generalize dr xs s u = y at *
  generalize xs.length = n at *
  go_enter Tryd.func8, Tryd.ntmps8
  go_wp2
  go_quiet ((go_at_call 13; exact mx.quiet_still (T.out _)))
  go_wp2
  go_ret
  exact ⟨rfl, E.out _⟩
set_option maxHeartbeats 1000000 in
theorem below10 {w : World} {D cap : Nat} {q : Option Addr} {xs : List Int} {s u : Nat} (h : Dc 29 cap w D q xs s u) (hu : u ≤ 1000000) (n : Int) (hn : n < 9223372036854775808) :
    Calls Tryd.prog 10 #[.pointer (some ⟨D, 0, none⟩), .int .i64 n] w fun e B => e = .returned (.int .i64 (vlx xs s u n)) ∧ Hid (Go1 29 cap w D q xs s (unx u n) B) := by
  by_cases h1 : n < 1
  · have E : Hid (Go1 29 cap w D q xs s (unx u n) w) := ⟨by unfold unx; rw [if_pos h1]; exact h, Keep.refl _ _⟩
    have e : vlx xs s u n = 0 := by unfold vlx; rw [if_pos h1]
    rw [e]
    clear h e
    go_enter Tryd.func10, Tryd.ntmps10
    go_wp2
    go_ret
    exact ⟨rfl, E⟩
  · have T := Lib.hid (next8 h hu)
    have e : vlx xs s u n = ((dr xs s u % n.toNat : Nat) : Int) := by unfold vlx; rw [if_neg h1]
    have e2 : unx u n = u + 1 := by unfold unx; rw [if_neg h1]
    rw [e, e2]
    obtain ⟨m, rfl⟩ : ∃ m : Nat, n = (m : Int) := ⟨n.toNat, by omega⟩
    have hm : 0 < m ∧ m < 9223372036854775808 := by omega
    rw [Int.toNat_natCast]
    have hy := dr_lt xs s u
    have hr := Nat.mod_lt (dr xs s u) hm.1
    have w1 : IntKind.u64.wrap (m : Int) = (m : Int) := by rw [IntKind.wrap_u64]; omega
    generalize dr xs s u = y at *
    have w2 : IntKind.i64.wrap ((y : Int) % (m : Int)) = ((y % m : Nat) : Int) := by rw [IntKind.wrap_i64]; omega
    clear h e e2
    go_enter Tryd.func10, Tryd.ntmps10
    go_wp2_with fail
    refine T.out.mono ?_
    rintro e w3 ⟨rfl, E⟩
    clear T
    go_wp2
    go_ret
    exact ⟨rfl, E⟩
set_option maxHeartbeats 4000000 in
theorem clone14 {w : World} {D cap : Nat} {q : Option Addr} {xs : List Int} {s u : Nat} (h : Dc 39 cap w D q xs s u) (hl : xs.length ≤ 17592186044415) (hn : q = none → xs = []) :
    Calls Tryd.prog 14 #[.pointer (some ⟨D, 0, none⟩)] w fun e B => ∃ C r, e = .returned (.pointer (some ⟨C, 0, none⟩)) ∧ Hid (Nw w C r xs s u B) := by
  have T := Lib.hid (kept15 q xs cap w.drew hn hl (h.lst.below (below_drewN w 1)))
  have E : Hid (∀ r B, Hid (Kp w.drew r xs B) → (B.cell? ⟨D, 0, none⟩ = some (.slice q xs.length cap) ∧ B.cell? ⟨D, 1, none⟩ = some (.int .u64 (s : Int)) ∧ B.cell? ⟨D, 2, none⟩ = some (.int .i64 (u : Int))) ∧
      ((B.alloc (.cells #[.slice r xs.length xs.length, .int .u64 (s : Int), .int .i64 (u : Int)] 39)).cell? ⟨D, 0, none⟩ = some (.slice q xs.length cap) ∧ (B.alloc (.cells #[.slice r xs.length xs.length, .int .u64 (s : Int), .int .i64 (u : Int)] 39)).cell? ⟨D, 1, none⟩ = some (.int .u64 (s : Int)) ∧ (B.alloc (.cells #[.slice r xs.length xs.length, .int .u64 (s : Int), .int .i64 (u : Int)] 39)).cell? ⟨D, 2, none⟩ = some (.int .i64 (u : Int))) ∧
      Hid (Nw w B.heap.size r xs s u (B.alloc (.cells #[.slice r xs.length xs.length, .int .u64 (s : Int), .int .i64 (u : Int)] 39)))) := fun r B k => by
    have hb : Below w.heap.size w B := (below_drewN w 1).trans k.out.2.2
    have k' : Kp w r xs B := ⟨k.out.1, k.out.2.1, hb⟩
    have h1 := h.below hb
    have h2 := h1.below (Below.alloc (Below.refl B.heap.size B) (Nat.le_refl _) (.cells #[.slice r xs.length xs.length, .int .u64 (s : Int), .int .i64 (u : Int)] 39))
    exact ⟨⟨h1.c0, h1.c1, h1.c2⟩, ⟨h2.c0, h2.c1, h2.c2⟩, k'.box (u := u) (by omega) h.s64⟩
  have c0 := h.c0
  have c1 := h.c1
  have c2 := h.c2
  have K0 : Hid (w.drew.cell? ⟨D, 0, none⟩ = some (.slice q xs.length cap) ∧ w.drew.cell? ⟨D, 1, none⟩ = some (.int .u64 (s : Int)) ∧ w.drew.cell? ⟨D, 2, none⟩ = some (.int .i64 (u : Int))) := ⟨c0, c1, c2⟩
  clear h hn hl
  generalize xs.length = n at *
  go_enter Tryd.func14, Tryd.ntmps14
  go_wp2
  go_region_held3 (fun V => V.cell? ⟨D, 0, none⟩ = some (.slice q n cap) ∧ V.cell? ⟨D, 1, none⟩ = some (.int .u64 (s : Int)) ∧ V.cell? ⟨D, 2, none⟩ = some (.int .i64 (u : Int))) (first | exact K0.out | assumption) (first | (go_at_call 15; refine T.out.mono ?_; rintro e w1 ⟨r, rfl, K⟩; obtain ⟨k0, k1, N⟩ := E.out r _ K))
  go_wp2
  go_ret
  exact ⟨_, r, rfl, N⟩
set_option maxHeartbeats 2000000 in
theorem awake5 (w : World) (ht : mx.Steps w) : Calls Tryd.prog 5 #[] w fun e B => e = .returned (.bool true) ∧ Hid (Below w.heap.size w B) := by
  have hb0 : Below w.heap.size w (w.alloc (.cells #[.int .i64 5, .int .i64 9] 3)) := (Below.refl _ _).alloc (Nat.le_refl _) _
  have T6 := Lib.hid (new6 (some ⟨w.heap.size, 0, none⟩) [5, 9] 2 0 (w.alloc (.cells #[.int .i64 5, .int .i64 9] 3)) (fun h => by cases h) (by decide) (fun _ => ⟨_, _, rfl, fun i hi => by
    rw [cell_of (heap_next rfl _)]
    have : i = 0 ∨ i = 1 := by simp at hi; omega
    rcases this with rfl | rfl <;> rfl⟩) (by decide))
  have S : Hid (∀ D q B, Hid (Nw (w.alloc (.cells #[.int .i64 5, .int .i64 9] 3)) D q [5, 9] 0 0 B) → Dc 39 2 B D q [5, 9] 0 0 ∧ mx.Steps B ∧ Below w.heap.size w B ∧ w.heap.size ≤ D) := fun D q B h => by
    have hs : w.heap.size ≤ (w.alloc (.cells #[.int .i64 5, .int .i64 9] 3)).heap.size := hb0.size
    have hb : Below w.heap.size w B := hb0.trans (h.out.2.2.2.mono hs)
    exact ⟨h.out.1, ht.below hb, hb, Nat.le_trans hs h.out.2.1⟩
  have G : Hid (∀ (D : Nat) (q : Option Addr) (B C : World) (v : Nat), Below w.heap.size w B → w.heap.size ≤ D → Hid (Go1 39 2 B D q [5, 9] 0 v C) → mx.Steps C ∧ Below w.heap.size w C ∧ Dc 39 2 C D q [5, 9] 0 v ) := fun D q B C v hb hD h => by
    have hb' : Below w.heap.size w C := hb.trans (h.out.2.below (fun k hk => by omega) hb.size)
    exact ⟨ht.below hb', hb', h.out.1⟩
  clear hb0 ht
  go_enter Tryd.func5, Tryd.ntmps5
  go_wp2_with fail
  refine T6.out.mono ?_
  rintro e w1 ⟨D, q, rfl, N⟩
  obtain ⟨d1, t1, b1, hD⟩ := S.out D q w1 N
  have T9 : Hid (Calls Tryd.prog 9 #[.pointer (some ⟨D, 0, none⟩), .int .i64 4] w1 fun e B => e = .returned (.int .i64 1) ∧ Hid (Go1 39 2 w1 D q [5, 9] 0 1 B)) := below9 d1 t1 (by omega) 4 (by decide)
  clear T6 S N d1 t1
  go_wp2_with fail
  refine T9.out.mono ?_
  rintro e w2 ⟨rfl, g⟩
  obtain ⟨t2, b2, d2⟩ := G.out D q w1 w2 1 b1 hD g
  have T9' : Hid (Calls Tryd.prog 9 #[.pointer (some ⟨D, 0, none⟩), .int .i64 4] w2 fun e B => e = .returned (.int .i64 1) ∧ Hid (Go1 39 2 w2 D q [5, 9] 0 2 B)) := below9 d2 t2 (by omega) 4 (by decide)
  clear T9 g d2 t2
  go_wp2_with fail
  refine T9'.out.mono ?_
  rintro e w3 ⟨rfl, g⟩
  obtain ⟨t3, b3, d3⟩ := G.out D q w2 w3 2 b2 hD g
  have T11 : Hid (Calls Tryd.prog 11 #[.pointer (some ⟨D, 0, none⟩)] w3 fun e B => e = .returned (.int .i64 2) ∧ B = w3) := used11 d3
  have B3 := Lib.hid b3
  clear T9' g d3 t3 b3
  go_wp2_with fail
  refine T11.out.mono ?_
  rintro e w4 ⟨rfl, h4⟩
  obtain rfl := h4
  go_wp2
  go_ret
  exact ⟨rfl, B3⟩
end Go.Proofs.YthbniikenenijaaDoor
