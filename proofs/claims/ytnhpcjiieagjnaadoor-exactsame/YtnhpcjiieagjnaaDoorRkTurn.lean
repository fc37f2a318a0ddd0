/-
  turnUp, turnDown and even of package rank (keys and things are ints) by their contracts: the same keys and things, even sides.
-/
import Derived.Test.YtnhpcjiieagjnaaDoorRkParts
namespace Go.Proofs.YtnhpcjiieagjnaaDoor.rk
open Go.RowKit
open Tr (node)
set_option maxHeartbeats 2000000 in
theorem turnUp_any {b b1 : Nat} {k k1 : Int} {v v1 : Kn} {a c r : Tr} {w : World} (h : (node b k v (node b1 k1 v1 a c) r).Lies w) (hn : a.list.length + c.list.length + r.list.length < 4611686018427387900) :
    Calls Tryd.prog 92 #[.pointer (some ⟨b, 0, none⟩)] w fun e w' => ∃ b2 b3, e = .returned (.pointer (some ⟨b2, 0, none⟩)) ∧ (node b2 k1 v1 a (node b3 k v c r)).Lies w' ∧ Below w.heap.size w w' := by
  have ht := h.2.1
  have c2 := h.c2
  have K0 : Hid (w.drew.cell? ⟨b1, 3, none⟩ = some (.pointer a.addr) ∧ w.drew.cell? ⟨b1, 4, none⟩ = some (.pointer c.addr) ∧ w.drew.cell? ⟨b, 4, none⟩ = some (.pointer r.addr)) := ⟨ht.c2, ht.c3, h.c3⟩
  have T1 : Hid (Calls Tryd.prog 75 #[.pointer (some ⟨b, 0, none⟩), .pointer c.addr, .pointer r.addr] w.drew fun e w' => ∃ b3, e = .returned (.pointer (some ⟨b3, 0, none⟩)) ∧ (w'.cell? ⟨b1, 3, none⟩ = some (.pointer a.addr) ∧ w'.cell? ⟨b1, 4, none⟩ = some (.pointer c.addr) ∧ w'.cell? ⟨b, 4, none⟩ = some (.pointer r.addr)) ∧
      Hid ((node b3 k v c r).Lies w' ∧ Below w.heap.size w w')) :=
    (move_any (w := w.drew) (h.drewN 1) (ht.2.2.drewN 1) (h.2.2.drewN 1) (by omega)).mono fun e w' ⟨b3, he, h1, h2⟩ =>
      ⟨b3, he, ⟨((ht.drewN 1).below h2).c2, ((ht.drewN 1).below h2).c3, ((h.drewN 1).below h2).c3⟩, h1, (Below.refl _ w).drew.trans h2⟩
  have T2 : Hid (∀ b3 w2, Hid ((node b3 k v c r).Lies w2 ∧ Below w.heap.size w w2) → Calls Tryd.prog 75 #[.pointer (some ⟨b1, 0, none⟩), .pointer a.addr, .pointer (some ⟨b3, 0, none⟩)] w2 fun e w' => ∃ b2, e = .returned (.pointer (some ⟨b2, 0, none⟩)) ∧ (w'.cell? ⟨b1, 3, none⟩ = some (.pointer a.addr) ∧ w'.cell? ⟨b1, 4, none⟩ = some (.pointer c.addr) ∧ w'.cell? ⟨b, 4, none⟩ = some (.pointer r.addr)) ∧
      Hid ((node b2 k1 v1 a (node b3 k v c r)).Lies w' ∧ Below w.heap.size w w')) := fun b3 w2 hq =>
    (move_any (w := w2) (r := node b3 k v c r) (ht.below hq.out.2) ((ht.2.1).below hq.out.2) hq.out.1 (by rw [Tr.len_node]; omega)).mono fun e w' ⟨b2, he, h1, h2⟩ =>
      have hb := hq.out.2.trans (h2.mono hq.out.2.size)
      ⟨b2, he, ⟨(ht.below hb).c2, (ht.below hb).c3, (h.below hb).c3⟩, h1, hb⟩
  clear h ht hn
  generalize a.addr = aa at *
  generalize c.addr = ca at *
  generalize r.addr = ra at *
  rw [show (node b1 k1 v1 a c).addr = some ⟨b1, 0, none⟩ from rfl] at c2
  go_enter Tryd.func92, Tryd.ntmps92
  go_wp2_with fail
  go_region_held3 (fun w' => w'.cell? ⟨b1, 3, none⟩ = some (.pointer aa) ∧ w'.cell? ⟨b1, 4, none⟩ = some (.pointer ca) ∧ w'.cell? ⟨b, 4, none⟩ = some (.pointer ra)) (first | exact K0.out | assumption) (first
    | (go_at_call 75; refine (T2.out _ _ ho1).mono ?_; rintro e w3 ⟨b2, rfl, hk3, ho⟩)
    | (go_at_call 75; refine T1.out.mono ?_; rintro e w2 ⟨b3, rfl, hk2, ho1⟩))
  go_wp2
  go_ret
  exact ⟨_, _, rfl, ho.out⟩
set_option maxHeartbeats 2000000 in
theorem turnDown_any {b b1 : Nat} {k k1 : Int} {v v1 : Kn} {l c d : Tr} {w : World} (h : (node b k v l (node b1 k1 v1 c d)).Lies w) (hn : l.list.length + c.list.length + d.list.length < 4611686018427387900) :
    Calls Tryd.prog 91 #[.pointer (some ⟨b, 0, none⟩)] w fun e w' => ∃ b2 b3, e = .returned (.pointer (some ⟨b2, 0, none⟩)) ∧ (node b2 k1 v1 (node b3 k v l c) d).Lies w' ∧ Below w.heap.size w w' := by
  have ht := h.2.2
  have c3 := h.c3
  have K0 : Hid (w.drew.cell? ⟨b, 3, none⟩ = some (.pointer l.addr) ∧ w.drew.cell? ⟨b1, 3, none⟩ = some (.pointer c.addr) ∧ w.drew.cell? ⟨b1, 4, none⟩ = some (.pointer d.addr)) := ⟨h.c2, ht.c2, ht.c3⟩
  have T1 : Hid (Calls Tryd.prog 75 #[.pointer (some ⟨b, 0, none⟩), .pointer l.addr, .pointer c.addr] w.drew fun e w' => ∃ b3, e = .returned (.pointer (some ⟨b3, 0, none⟩)) ∧ (w'.cell? ⟨b, 3, none⟩ = some (.pointer l.addr) ∧ w'.cell? ⟨b1, 3, none⟩ = some (.pointer c.addr) ∧ w'.cell? ⟨b1, 4, none⟩ = some (.pointer d.addr)) ∧
      Hid ((node b3 k v l c).Lies w' ∧ Below w.heap.size w w')) :=
    (move_any (w := w.drew) (h.drewN 1) (h.2.1.drewN 1) (ht.2.1.drewN 1) (by omega)).mono fun e w' ⟨b3, he, h1, h2⟩ =>
      ⟨b3, he, ⟨((h.drewN 1).below h2).c2, ((ht.drewN 1).below h2).c2, ((ht.drewN 1).below h2).c3⟩, h1, (Below.refl _ w).drew.trans h2⟩
  have T2 : Hid (∀ b3 w2, Hid ((node b3 k v l c).Lies w2 ∧ Below w.heap.size w w2) → Calls Tryd.prog 75 #[.pointer (some ⟨b1, 0, none⟩), .pointer (some ⟨b3, 0, none⟩), .pointer d.addr] w2 fun e w' => ∃ b2, e = .returned (.pointer (some ⟨b2, 0, none⟩)) ∧ (w'.cell? ⟨b, 3, none⟩ = some (.pointer l.addr) ∧ w'.cell? ⟨b1, 3, none⟩ = some (.pointer c.addr) ∧ w'.cell? ⟨b1, 4, none⟩ = some (.pointer d.addr)) ∧
      Hid ((node b2 k1 v1 (node b3 k v l c) d).Lies w' ∧ Below w.heap.size w w')) := fun b3 w2 hq =>
    (move_any (w := w2) (l := node b3 k v l c) (ht.below hq.out.2) hq.out.1 ((ht.2.2).below hq.out.2) (by rw [Tr.len_node]; omega)).mono fun e w' ⟨b2, he, h1, h2⟩ =>
      have hb := hq.out.2.trans (h2.mono hq.out.2.size)
      ⟨b2, he, ⟨(h.below hb).c2, (ht.below hb).c2, (ht.below hb).c3⟩, h1, hb⟩
  clear h ht hn
  generalize l.addr = la at *
  generalize c.addr = ca at *
  generalize d.addr = da at *
  rw [show (node b1 k1 v1 c d).addr = some ⟨b1, 0, none⟩ from rfl] at c3
  go_enter Tryd.func91, Tryd.ntmps91
  go_wp2_with fail
  go_region_held3 (fun w' => w'.cell? ⟨b, 3, none⟩ = some (.pointer la) ∧ w'.cell? ⟨b1, 3, none⟩ = some (.pointer ca) ∧ w'.cell? ⟨b1, 4, none⟩ = some (.pointer da)) (first | exact K0.out | assumption) (first
    | (go_at_call 75; refine (T2.out _ _ ho1).mono ?_; rintro e w3 ⟨b2, rfl, hk3, ho⟩)
    | (go_at_call 75; refine T1.out.mono ?_; rintro e w2 ⟨b3, rfl, hk2, ho1⟩))
  go_wp2
  go_ret
  exact ⟨_, _, rfl, ho.out⟩
end Go.Proofs.YtnhpcjiieagjnaaDoor.rk
