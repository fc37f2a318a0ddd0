/-
  count, deep, whole, join, move, lean, turnUp, turnDown of package rank (keys and things are ints) by their contracts.
-/
import Derived.Test.YtaoiadejafaleaaRows
import Derived.Test.YtaoiadejafaleaaMath
import Derived.Test.YtaoiadejafaleaaKeep
import Derived.WalkKit
import Derived.BigQuiet
import Derived.Deep.RegionWith
import Derived.Deep.RegionHeld3
import Derived.Lib.MinMax
namespace Go.Proofs.Ytaoiadejafaleaa
open Go.RowKit
open Tr (node)
theorem count_any {t : Tr} {w : World} (h : t.Lies w) : Calls Try.prog 33 #[.pointer t.addr] w fun e w' => e = .returned (.int .i64 (t.list.length : Int)) ∧ w' = w := by
  cases t with
  | nil =>
    show Calls Try.prog 33 #[.pointer none] w _
    go_enter Try.func33, Try.ntmps33
    go_wp2
    go_ret
    exact ⟨rfl, rfl⟩
  | node b k v l r =>
    have c4 := h.c4
    rw [Tr.len_node]
    clear h
    show Calls Try.prog 33 #[.pointer (some ⟨b, 0, none⟩)] w _
    generalize l.list.length + 1 + r.list.length = c at *
    go_enter Try.func33, Try.ntmps33
    go_wp2
    go_ret
    exact ⟨rfl, rfl⟩
theorem deep_any {t : Tr} {w : World} (h : t.Lies w) : Calls Try.prog 29 #[.pointer t.addr] w fun e w' => e = .returned (.int .i64 (t.deep : Int)) ∧ w' = w := by
  cases t with
  | nil =>
    show Calls Try.prog 29 #[.pointer none] w _
    go_enter Try.func29, Try.ntmps29
    go_wp2
    go_ret
    exact ⟨rfl, rfl⟩
  | node b k v l r =>
    have c5 := h.c5
    rw [Tr.deep_node]
    clear h
    show Calls Try.prog 29 #[.pointer (some ⟨b, 0, none⟩)] w _
    generalize max l.deep r.deep + 1 = c at *
    go_enter Try.func29, Try.ntmps29
    go_wp2
    go_ret
    exact ⟨rfl, rfl⟩
theorem whole_none (w : World) : Calls Try.prog 30 #[.pointer none] w fun e w' => e = .returned (.pointer none) ∧ w' = w := by
  go_enter Try.func30, Try.ntmps30
  go_wp2
  go_ret
  exact ⟨rfl, rfl⟩
theorem whole_some {w : World} {g : Nat} {p : Option Addr} (c1 : w.cell? ⟨g, 1, none⟩ = some (.pointer p)) : Calls Try.prog 30 #[.pointer (some ⟨g, 0, none⟩)] w fun e w' => e = .returned (.pointer p) ∧ w' = w := by
  go_enter Try.func30, Try.ntmps30
  go_wp2
  go_ret
  exact ⟨rfl, rfl⟩
theorem max_nat (a b : Nat) : max (a : Int) (b : Int) = ((max a b : Nat) : Int) := by omega
set_option maxHeartbeats 1000000 in
theorem join_any {l r : Tr} {w : World} (k v : Int) (hl : l.Lies w) (hr : r.Lies w) (hn : l.list.length + r.list.length < 4611686018427387904) :
    Calls Try.prog 34 #[.int .i64 k, .int .i64 v, .pointer l.addr, .pointer r.addr] w fun e w' => ∃ b, e = .returned (.pointer (some ⟨b, 0, none⟩)) ∧ (node b k v l r).Lies w' ∧ Below w.heap.size w w' := by
  have C1 := Lib.hid (count_any hl)
  have C2 := Lib.hid (count_any hr)
  have D1 := Lib.hid (deep_any hl)
  have D2 := Lib.hid (deep_any hr)
  have h1 := l.deep_le
  have h2 := r.deep_le
  have hm := max_nat l.deep r.deep
  have hm2 : max l.deep r.deep < 4611686018427387904 := by omega
  have F : Hid ((w.alloc (.cells (Tr.part k v l r) 64)).heap[w.heap.size]? = some (.cells (Tr.part k v l r) 64 (0, 0)) ∧ l.Lies (w.alloc (.cells (Tr.part k v l r) 64)) ∧ r.Lies (w.alloc (.cells (Tr.part k v l r) 64))) := ⟨World.alloc_heap_new _ _, hl.alloc _, hr.alloc _⟩
  simp only [Tr.Lies]
  rw [Tr.part] at *
  clear hl hr
  generalize l.addr = la at *
  generalize r.addr = ra at *
  generalize l.deep = ld at *
  generalize r.deep = rd at *
  generalize l.list.length = ln at *
  generalize r.list.length = rn at *
  clear h1 h2
  generalize max ld rd = md at *
  go_enter Try.func34, Try.ntmps34
  go_wp2_with fail
  refine C1.out.mono ?_
  rintro e w1 ⟨rfl, rfl⟩
  go_wp2_with fail
  refine C2.out.mono ?_
  rintro e w1 ⟨rfl, rfl⟩
  go_wp2_with fail
  refine D1.out.mono ?_
  rintro e w1 ⟨rfl, rfl⟩
  go_wp2_with fail
  refine D2.out.mono ?_
  rintro e w1 ⟨rfl, rfl⟩
  go_wp2
  go_ret
  refine ⟨_, rfl, ?_, (Below.refl _ _).alloc (Nat.le_refl _) _⟩
  simpa using F.out
set_option maxHeartbeats 1000000 in
theorem move_any {b0 : Nat} {k v : Int} {l0 r0 l r : Tr} {w : World} (hp : (node b0 k v l0 r0).Lies w) (hl : l.Lies w) (hr : r.Lies w) (hn : l.list.length + r.list.length < 4611686018427387904) :
    Calls Try.prog 36 #[.pointer (some ⟨b0, 0, none⟩), .pointer l.addr, .pointer r.addr] w fun e w' => ∃ b, e = .returned (.pointer (some ⟨b, 0, none⟩)) ∧ (node b k v l r).Lies w' ∧ Below w.heap.size w w' := by
  have K0 : Hid (w.drew.cell? ⟨b0, 0, none⟩ = some (.int .i64 k) ∧ w.drew.cell? ⟨b0, 1, none⟩ = some (.int .i64 v)) := ⟨hp.c0, hp.c1⟩
  have T : Hid (Calls Try.prog 34 #[.int .i64 k, .int .i64 v, .pointer l.addr, .pointer r.addr] w.drew fun e w' => ∃ b, e = .returned (.pointer (some ⟨b, 0, none⟩)) ∧ (w'.cell? ⟨b0, 0, none⟩ = some (.int .i64 k) ∧ w'.cell? ⟨b0, 1, none⟩ = some (.int .i64 v)) ∧ Hid ((node b k v l r).Lies w' ∧ Below w.heap.size w w')) :=
    (join_any (w := w.drew) k v (hl.drewN 1) (hr.drewN 1) hn).mono fun e w' ⟨b, he, h1, h2⟩ => ⟨b, he, ⟨((hp.drewN 1).below h2).c0, ((hp.drewN 1).below h2).c1⟩, h1, (Below.refl _ w).drew.trans h2⟩
  clear hp hl hr hn
  generalize l.addr = la at *
  generalize r.addr = ra at *
  go_enter Try.func36, Try.ntmps36
  go_wp2_with fail
  go_region_held3 (fun w' => w'.cell? ⟨b0, 0, none⟩ = some (.int .i64 k) ∧ w'.cell? ⟨b0, 1, none⟩ = some (.int .i64 v)) (first | exact K0.out | assumption) (first
    | (go_at_call 34; refine T.out.mono ?_; rintro e w2 ⟨b, rfl, hk2, ho⟩))
  go_wp2
  go_ret
  exact ⟨_, rfl, ho.out⟩
theorem lean_any {b : Nat} {k v : Int} {l r : Tr} {w : World} (h : (node b k v l r).Lies w) (hn : l.list.length + r.list.length < 4611686018427387904) :
    Calls Try.prog 41 #[.pointer (some ⟨b, 0, none⟩)] w fun e w' => e = .returned (.int .i64 ((r.deep : Int) - (l.deep : Int))) ∧ ∃ m, w' = w.drewN m := by
  have c2 := h.c2
  have c3 := h.c3
  have D1 : Hid (∀ q, Calls Try.prog 29 #[.pointer l.addr] (w.drewN q) fun e w' => e = .returned (.int .i64 (l.deep : Int)) ∧ ∃ m, w' = (w.drewN q).drewN m) := fun q => (deep_any (h.2.1.drewN q)).mono fun e w' ⟨h1, h2⟩ => ⟨h1, 0, h2⟩
  have D2 : Hid (∀ q, Calls Try.prog 29 #[.pointer r.addr] (w.drewN q) fun e w' => e = .returned (.int .i64 (r.deep : Int)) ∧ ∃ m, w' = (w.drewN q).drewN m) := fun q => (deep_any (h.2.2.drewN q)).mono fun e w' ⟨h1, h2⟩ => ⟨h1, 0, h2⟩
  have h1 := l.deep_le
  have h2 := r.deep_le
  clear h
  generalize l.addr = la at *
  generalize r.addr = ra at *
  generalize l.deep = ld at *
  generalize r.deep = rd at *
  generalize l.list.length = ln at *
  generalize r.list.length = rn at *
  go_enter Try.func41, Try.ntmps41
  go_wp2_with fail
  go_quiet (first
    | (go_at_call_of 29 (Value.pointer la); exact Calls.quiet_of (D1.out _))
    | (go_at_call_of 29 (Value.pointer ra); exact Calls.quiet_of (D2.out _)))
  go_wp2
  go_ret
  exact ⟨by simp, _, rfl⟩
end Go.Proofs.Ytaoiadejafaleaa
