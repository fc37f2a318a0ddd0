/-
  count, deep, whole, join, move, lean, turnUp, turnDown of package rank (keys and things are ints) by their contracts.
-/
import Derived.Test.YtnhpcjiieagjnaaDoorRows
import Derived.Test.YtnhpcjiieagjnaaDoorRkMath
import Derived.Test.YtnhpcjiieagjnaaDoorRkKeep
import Derived.WalkKit
import Derived.BigQuiet
import Derived.Deep.RegionWith
import Derived.Deep.RegionHeld3
import Derived.Lib.MinMax
namespace Go.Proofs.YtnhpcjiieagjnaaDoor.rk
open Go.RowKit
open Tr (node)
theorem count_any {t : Tr} {w : World} (h : t.Lies w) : Calls Tryd.prog 65 #[.pointer t.addr] w fun e w' => e = .returned (.int .i64 (t.list.length : Int)) ∧ w' = w := by
  cases t with
  | nil =>
    show Calls Tryd.prog 65 #[.pointer none] w _
    go_enter Tryd.func65, Tryd.ntmps65
    go_wp2
    go_ret
    exact ⟨rfl, rfl⟩
  | node b k v l r =>
    have c4 := h.c4
    rw [Tr.len_node]
    clear h
    show Calls Tryd.prog 65 #[.pointer (some ⟨b, 0, none⟩)] w _
    generalize l.list.length + 1 + r.list.length = c at *
    go_enter Tryd.func65, Tryd.ntmps65
    go_wp2
    go_ret
    exact ⟨rfl, rfl⟩
theorem deep_any {t : Tr} {w : World} (h : t.Lies w) : Calls Tryd.prog 89 #[.pointer t.addr] w fun e w' => e = .returned (.int .i64 (t.deep : Int)) ∧ w' = w := by
  cases t with
  | nil =>
    show Calls Tryd.prog 89 #[.pointer none] w _
    go_enter Tryd.func89, Tryd.ntmps89
    go_wp2
    go_ret
    exact ⟨rfl, rfl⟩
  | node b k v l r =>
    have c5 := h.c5
    rw [Tr.deep_node]
    clear h
    show Calls Tryd.prog 89 #[.pointer (some ⟨b, 0, none⟩)] w _
    generalize max l.deep r.deep + 1 = c at *
    go_enter Tryd.func89, Tryd.ntmps89
    go_wp2
    go_ret
    exact ⟨rfl, rfl⟩
theorem whole_none (w : World) : Calls Tryd.prog 66 #[.pointer none] w fun e w' => e = .returned (.pointer none) ∧ w' = w := by
  go_enter Tryd.func66, Tryd.ntmps66
  go_wp2
  go_ret
  exact ⟨rfl, rfl⟩
theorem whole_some {w : World} {g : Nat} {p : Option Addr} (c1 : w.cell? ⟨g, 1, none⟩ = some (.pointer p)) : Calls Tryd.prog 66 #[.pointer (some ⟨g, 0, none⟩)] w fun e w' => e = .returned (.pointer p) ∧ w' = w := by
  go_enter Tryd.func66, Tryd.ntmps66
  go_wp2
  go_ret
  exact ⟨rfl, rfl⟩
theorem max_nat (a b : Nat) : max (a : Int) (b : Int) = ((max a b : Nat) : Int) := by omega
/-- a struct that is handed over lies in a new block. -/
theorem kn_box {w W1 : World} {v : Kn} (h : w.alloc (.cells #[.int .i64 (v.n : Int), .bool v.c] 58) = W1) : W1.cell? ⟨w.heap.size, 0, none⟩ = some (.int .i64 (v.n : Int)) ∧ W1.cell? ⟨w.heap.size, 1, none⟩ = some (.bool v.c) ∧ Below w.heap.size w W1 := by
  have hx : W1.heap[w.heap.size]? = some (.cells #[.int .i64 (v.n : Int), .bool v.c] 58 (0, 0)) := by rw [← h]; exact heap_next rfl _
  exact ⟨by rw [cell_of hx]; rfl, by rw [cell_of hx]; rfl, by rw [← h]; exact (Below.refl _ _).alloc (Nat.le_refl _) _⟩
set_option maxHeartbeats 1000000 in
theorem join_any {l r : Tr} {w : World} (k : Int) (v : Kn) (hl : l.Lies w) (hr : r.Lies w) (hn : l.list.length + r.list.length < 4611686018427387904) :
    Calls Tryd.prog 73 #[.int .u64 k, kn v, .pointer l.addr, .pointer r.addr] w fun e w' => ∃ b, e = .returned (.pointer (some ⟨b, 0, none⟩)) ∧ (node b k v l r).Lies w' ∧ Below w.heap.size w w' := by
  obtain ⟨W1, hW1⟩ : ∃ W1, w.alloc (.cells #[.int .i64 (v.n : Int), .bool v.c] 58) = W1 := ⟨_, rfl⟩
  obtain ⟨x0, x1, hb1⟩ := kn_box hW1
  obtain ⟨N, hN⟩ : ∃ N, w.heap.size = N := ⟨_, rfl⟩
  rw [hN] at x0 x1
  have K0 : Hid (W1.drew.cell? ⟨N, 0, none⟩ = some (.int .i64 (v.n : Int)) ∧ W1.drew.cell? ⟨N, 1, none⟩ = some (.bool v.c)) := ⟨x0, x1⟩

  have hl1 := (hl.below hb1).drewN 1
  have hr1 := (hr.below hb1).drewN 1
  have C1 : Hid (∀ W, Hid (W = W1.drew) → Calls Tryd.prog 65 #[.pointer l.addr] W fun e w' => e = .returned (.int .i64 (l.list.length : Int)) ∧ (w'.cell? ⟨N, 0, none⟩ = some (.int .i64 (v.n : Int)) ∧ w'.cell? ⟨N, 1, none⟩ = some (.bool v.c)) ∧ Hid (w' = W1.drew)) := fun W hW => by
    rw [hW.out]; exact (count_any hl1).mono fun e w' ⟨he, hw⟩ => ⟨he, by rw [hw]; exact K0.out, hw⟩
  have C2 : Hid (∀ W, Hid (W = W1.drew) → Calls Tryd.prog 65 #[.pointer r.addr] W fun e w' => e = .returned (.int .i64 (r.list.length : Int)) ∧ (w'.cell? ⟨N, 0, none⟩ = some (.int .i64 (v.n : Int)) ∧ w'.cell? ⟨N, 1, none⟩ = some (.bool v.c)) ∧ Hid (w' = W1.drew)) := fun W hW => by
    rw [hW.out]; exact (count_any hr1).mono fun e w' ⟨he, hw⟩ => ⟨he, by rw [hw]; exact K0.out, hw⟩
  have D1 : Hid (∀ W, Hid (W = W1.drew) → Calls Tryd.prog 89 #[.pointer l.addr] W fun e w' => e = .returned (.int .i64 (l.deep : Int)) ∧ (w'.cell? ⟨N, 0, none⟩ = some (.int .i64 (v.n : Int)) ∧ w'.cell? ⟨N, 1, none⟩ = some (.bool v.c)) ∧ Hid (w' = W1.drew)) := fun W hW => by
    rw [hW.out]; exact (deep_any hl1).mono fun e w' ⟨he, hw⟩ => ⟨he, by rw [hw]; exact K0.out, hw⟩
  have D2 : Hid (∀ W, Hid (W = W1.drew) → Calls Tryd.prog 89 #[.pointer r.addr] W fun e w' => e = .returned (.int .i64 (r.deep : Int)) ∧ (w'.cell? ⟨N, 0, none⟩ = some (.int .i64 (v.n : Int)) ∧ w'.cell? ⟨N, 1, none⟩ = some (.bool v.c)) ∧ Hid (w' = W1.drew)) := fun W hW => by
    rw [hW.out]; exact (deep_any hr1).mono fun e w' ⟨he, hw⟩ => ⟨he, by rw [hw]; exact K0.out, hw⟩
  have h1 := l.deep_le
  have h2 := r.deep_le
  have hm := max_nat l.deep r.deep
  have hm2 : max l.deep r.deep < 4611686018427387904 := by omega
  have F : Hid (∀ W2, Hid (W2 = W1.drew) → (W2.alloc (.cells (Tr.part k v l r) 88)).heap[W2.heap.size]? = some (.cells (Tr.part k v l r) 88 (0, 0)) ∧ l.Lies (W2.alloc (.cells (Tr.part k v l r) 88)) ∧ r.Lies (W2.alloc (.cells (Tr.part k v l r) 88)) ∧ Below w.heap.size w (W2.alloc (.cells (Tr.part k v l r) 88))) := fun W2 hW2 => by
    rw [hW2.out]
    exact ⟨World.alloc_heap_new _ _, hl1.alloc _, hr1.alloc _, hb1.drew.alloc hb1.size _⟩
  simp only [Tr.Lies]
  rw [Tr.part] at *
  clear hl hr hl1 hr1 hb1 x0 x1
  rw [hN] at F ⊢
  generalize l.addr = la at *
  generalize r.addr = ra at *
  generalize l.deep = ld at *
  generalize r.deep = rd at *
  generalize l.list.length = ln at *
  generalize r.list.length = rn at *
  clear h1 h2
  generalize max ld rd = md at *
  go_enter Tryd.func73, Tryd.ntmps73
  go_wp2_with fail
  go_region_held3 (fun w' => w'.cell? ⟨N, 0, none⟩ = some (.int .i64 (v.n : Int)) ∧ w'.cell? ⟨N, 1, none⟩ = some (.bool v.c)) (first | exact K0.out | assumption | exact ⟨cell_past hk5.1, cell_past hk5.2⟩) (first
    | (go_at_call_of 89 (Value.pointer ra); refine (D2.out _ o3).mono ?_; rintro e w5 ⟨rfl, hk5, o4⟩)
    | (go_at_call_of 89 (Value.pointer la); refine (D1.out _ o2).mono ?_; rintro e w4 ⟨rfl, hk4, o3⟩)
    | (go_at_call_of 65 (Value.pointer ra); refine (C2.out _ o1).mono ?_; rintro e w3 ⟨rfl, hk3, o2⟩)
    | (go_at_call_of 65 (Value.pointer la); refine (C1.out _ (Lib.hid rfl)).mono ?_; rintro e w2 ⟨rfl, hk2, o1⟩))
  go_wp2
  go_ret
  have e1 : IntKind.i64.wrap ((ln : Int) + 1) = (ln : Int) + 1 := by simp only [IntKind.wrap_i64]; omega
  have e2 : IntKind.i64.wrap ((ln : Int) + 1 + (rn : Int)) = (ln : Int) + 1 + (rn : Int) := by simp only [IntKind.wrap_i64]; omega
  have e3 : IntKind.i64.wrap ((md : Int) + 1) = (md : Int) + 1 := by simp only [IntKind.wrap_i64]; omega
  refine ⟨_, rfl, ?_⟩
  simpa [e1, e2, e3, and_assoc] using F.out _ o4
set_option maxHeartbeats 1000000 in
theorem move_any {b0 : Nat} {k : Int} {v : Kn} {l0 r0 l r : Tr} {w : World} (hp : (node b0 k v l0 r0).Lies w) (hl : l.Lies w) (hr : r.Lies w) (hn : l.list.length + r.list.length < 4611686018427387904) :
    Calls Tryd.prog 75 #[.pointer (some ⟨b0, 0, none⟩), .pointer l.addr, .pointer r.addr] w fun e w' => ∃ b, e = .returned (.pointer (some ⟨b, 0, none⟩)) ∧ (node b k v l r).Lies w' ∧ Below w.heap.size w w' := by
  have K0 : Hid (w.drew.cell? ⟨b0, 0, none⟩ = some (.int .u64 k) ∧ w.drew.cell? ⟨b0, 1, none⟩ = some (.int .i64 (v.n : Int)) ∧ w.drew.cell? ⟨b0, 2, none⟩ = some (.bool v.c)) := ⟨hp.c0, hp.c1, hp.c1b⟩
  have T : Hid (Calls Tryd.prog 73 #[.int .u64 k, kn v, .pointer l.addr, .pointer r.addr] w.drew fun e w' => ∃ b, e = .returned (.pointer (some ⟨b, 0, none⟩)) ∧ (w'.cell? ⟨b0, 0, none⟩ = some (.int .u64 k) ∧ w'.cell? ⟨b0, 1, none⟩ = some (.int .i64 (v.n : Int)) ∧ w'.cell? ⟨b0, 2, none⟩ = some (.bool v.c)) ∧ Hid ((node b k v l r).Lies w' ∧ Below w.heap.size w w')) :=
    (join_any (w := w.drew) k v (hl.drewN 1) (hr.drewN 1) hn).mono fun e w' ⟨b, he, h1, h2⟩ => ⟨b, he, ⟨((hp.drewN 1).below h2).c0, ((hp.drewN 1).below h2).c1, ((hp.drewN 1).below h2).c1b⟩, h1, (Below.refl _ w).drew.trans h2⟩
  clear hp hl hr hn
  generalize l.addr = la at *
  generalize r.addr = ra at *
  go_enter Tryd.func75, Tryd.ntmps75
  go_wp2_with fail
  go_region_held3 (fun w' => w'.cell? ⟨b0, 0, none⟩ = some (.int .u64 k) ∧ w'.cell? ⟨b0, 1, none⟩ = some (.int .i64 (v.n : Int)) ∧ w'.cell? ⟨b0, 2, none⟩ = some (.bool v.c)) (first | exact K0.out | assumption) (first
    | (go_at_call 73; refine T.out.mono ?_; rintro e w2 ⟨b, rfl, hk2, ho⟩))
  go_wp2
  go_ret
  exact ⟨_, rfl, ho.out⟩
theorem lean_any {b : Nat} {k : Int} {v : Kn} {l r : Tr} {w : World} (h : (node b k v l r).Lies w) (hn : l.list.length + r.list.length < 4611686018427387904) :
    Calls Tryd.prog 90 #[.pointer (some ⟨b, 0, none⟩)] w fun e w' => e = .returned (.int .i64 ((r.deep : Int) - (l.deep : Int))) ∧ ∃ m, w' = w.drewN m := by
  have c2 := h.c2
  have c3 := h.c3
  have D1 : Hid (∀ q, Calls Tryd.prog 89 #[.pointer l.addr] (w.drewN q) fun e w' => e = .returned (.int .i64 (l.deep : Int)) ∧ ∃ m, w' = (w.drewN q).drewN m) := fun q => (deep_any (h.2.1.drewN q)).mono fun e w' ⟨h1, h2⟩ => ⟨h1, 0, h2⟩
  have D2 : Hid (∀ q, Calls Tryd.prog 89 #[.pointer r.addr] (w.drewN q) fun e w' => e = .returned (.int .i64 (r.deep : Int)) ∧ ∃ m, w' = (w.drewN q).drewN m) := fun q => (deep_any (h.2.2.drewN q)).mono fun e w' ⟨h1, h2⟩ => ⟨h1, 0, h2⟩
  have h1 := l.deep_le
  have h2 := r.deep_le
  clear h
  generalize l.addr = la at *
  generalize r.addr = ra at *
  generalize l.deep = ld at *
  generalize r.deep = rd at *
  generalize l.list.length = ln at *
  generalize r.list.length = rn at *
  go_enter Tryd.func90, Tryd.ntmps90
  go_wp2_with fail
  go_quiet (first
    | (go_at_call_of 89 (Value.pointer la); exact Calls.quiet_of (D1.out _))
    | (go_at_call_of 89 (Value.pointer ra); exact Calls.quiet_of (D2.out _)))
  go_wp2
  go_ret
  exact ⟨by simp, _, rfl⟩
end Go.Proofs.YtnhpcjiieagjnaaDoor.rk
