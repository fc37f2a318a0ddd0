/-
  even of package rank (keys and things are ints) by its contract: the same keys and things, and no two sides differ by more than 1.
-/
import Derived.Test.YtnhpcjiieagjnaaDoorRkTurn
namespace Go.Proofs.YtnhpcjiieagjnaaDoor.rk
open Go.RowKit
open Tr (node)
theorem below_drewN (w : World) (m : Nat) : Below w.heap.size w (w.drewN m) := ⟨rfl, rfl, rfl, Nat.le_refl _, fun _ _ => rfl⟩
theorem lean_b {b : Nat} {k : Int} {v : Kn} {l r : Tr} {w W : World} (h : (node b k v l r).Lies w) (hW : Below w.heap.size w W) (hn : l.list.length + r.list.length < 4611686018427387904) :
    Calls Tryd.prog 90 #[.pointer (some ⟨b, 0, none⟩)] W fun e w' => e = .returned (.int .i64 ((r.deep : Int) - (l.deep : Int))) ∧ Hid (Below w.heap.size w w') :=
  (lean_any (h.below hW) hn).mono fun _ _ ⟨he, m, hw⟩ => ⟨he, by rw [hw]; exact hW.trans ((below_drewN _ m).mono hW.size)⟩
set_option maxHeartbeats 1000000 in
theorem even_still {b : Nat} {k : Int} {v : Kn} {l r : Tr} {w : World} (h : (node b k v l r).Lies w) (hn : l.list.length + r.list.length < 4611686018427387900) (h1 : l.deep ≤ r.deep + 1) (h2 : r.deep ≤ l.deep + 1) :
    Calls Tryd.prog 74 #[.pointer (some ⟨b, 0, none⟩)] w fun e w' => e = .returned (.pointer (some ⟨b, 0, none⟩)) ∧ ∃ m, w' = w.drewN m := by
  obtain ⟨d, hd, n1, n2⟩ : ∃ d : Int, (r.deep : Int) - (l.deep : Int) = d ∧ ¬ d = -2 ∧ ¬ d = 2 := ⟨_, rfl, by omega, by omega⟩
  have L := lean_any h (by omega)
  rw [hd] at L
  have HL := Lib.hid L
  clear h hn h1 h2 hd L
  go_enter Tryd.func74, Tryd.ntmps74
  go_wp2_with fail
  refine HL.out.mono ?_
  rintro e w1 ⟨rfl, m, rfl⟩
  go_wp2
  go_ret
  exact ⟨rfl, _, rfl⟩
set_option maxHeartbeats 1000000 in
/-- too deep below, on its outer side. -/
theorem even_up {b b1 : Nat} {k k1 : Int} {v v1 : Kn} {a c r : Tr} {w : World} (h : (node b k v (node b1 k1 v1 a c) r).Lies w) (hn : a.list.length + c.list.length + r.list.length < 4611686018427387000) (h1 : (node b1 k1 v1 a c).deep = r.deep + 2) (h2 : c.deep ≤ a.deep) :
    Calls Tryd.prog 74 #[.pointer (some ⟨b, 0, none⟩)] w fun e w' => ∃ b2 b3, e = .returned (.pointer (some ⟨b2, 0, none⟩)) ∧ (node b2 k1 v1 a (node b3 k v c r)).Lies w' ∧ Below w.heap.size w w' := by
  have L := lean_b h (Below.refl _ w) (by rw [Tr.len_node]; omega)
  rw [show (r.deep : Int) - ((node b1 k1 v1 a c).deep : Int) = -2 by omega] at L
  obtain ⟨d, hd, n1⟩ : ∃ d : Int, (c.deep : Int) - (a.deep : Int) = d ∧ d ≤ 0 := ⟨_, rfl, by omega⟩
  have M : Hid (∀ W, Hid (Below w.heap.size w W) → Calls Tryd.prog 90 #[.pointer (some ⟨b1, 0, none⟩)] W fun e w' => e = .returned (.int .i64 d) ∧ Hid (Below w.heap.size w w')) := fun W hW => by rw [← hd]; exact lean_b h.2.1 hW.out (by omega)
  have U : Hid (∀ W, Hid (Below w.heap.size w W) → Calls Tryd.prog 92 #[.pointer (some ⟨b, 0, none⟩)] W fun e w' => ∃ b2 b3, e = .returned (.pointer (some ⟨b2, 0, none⟩)) ∧ Hid ((node b2 k1 v1 a (node b3 k v c r)).Lies w' ∧ Below w.heap.size w w')) := fun W hW =>
    (turnUp_any (h.below hW.out) (by omega)).mono fun e w' ⟨b2, b3, he, h3, h4⟩ => ⟨b2, b3, he, h3, hW.out.trans (h4.mono hW.out.size)⟩
  have c2 : ∀ W, Hid (Below w.heap.size w W) → W.cell? ⟨b, 3, none⟩ = some (.pointer (some ⟨b1, 0, none⟩)) := fun W hW => (h.below hW.out).c2
  have C2 := Lib.hid c2
  have HL := Lib.hid L
  clear h hn h1 h2 hd L c2
  go_enter Tryd.func74, Tryd.ntmps74
  go_wp2_with fail
  refine HL.out.mono ?_
  rintro e w1 ⟨rfl, hb1⟩
  have c2 := C2.out _ hb1
  go_wp2_with fail
  refine (M.out _ hb1).mono ?_
  rintro e w2 ⟨rfl, hb2⟩
  go_wp2_with fail
  refine (U.out _ hb2).mono ?_
  rintro e w1 ⟨b2, b3, rfl, ho⟩
  go_wp2
  go_ret
  exact ⟨_, _, rfl, ho.out⟩
set_option maxHeartbeats 2000000 in
/-- too deep below, on its inner side. -/
theorem even_up2 {b b1 b2 : Nat} {k k1 k2 : Int} {v v1 v2 : Kn} {a c d r : Tr} {w : World} (h : (node b k v (node b1 k1 v1 a (node b2 k2 v2 c d)) r).Lies w) (hn : a.list.length + c.list.length + d.list.length + r.list.length < 4611686018427387000)
    (h1 : (node b1 k1 v1 a (node b2 k2 v2 c d)).deep = r.deep + 2) (h2 : a.deep < (node b2 k2 v2 c d).deep) :
    Calls Tryd.prog 74 #[.pointer (some ⟨b, 0, none⟩)] w fun e w' => ∃ x y z, e = .returned (.pointer (some ⟨x, 0, none⟩)) ∧ (node x k2 v2 (node y k1 v1 a c) (node z k v d r)).Lies w' ∧ Below w.heap.size w w' := by
  have L := lean_b h (Below.refl _ w) (by rw [Tr.len_node, Tr.len_node]; omega)
  rw [show (r.deep : Int) - ((node b1 k1 v1 a (node b2 k2 v2 c d)).deep : Int) = -2 by omega] at L
  obtain ⟨dd, hd, n1⟩ : ∃ dd : Int, ((node b2 k2 v2 c d).deep : Int) - (a.deep : Int) = dd ∧ 0 < dd := ⟨_, rfl, by omega⟩
  have M : Hid (∀ W, Hid (Below w.heap.size w W) → Calls Tryd.prog 90 #[.pointer (some ⟨b1, 0, none⟩)] W fun e w' => e = .returned (.int .i64 dd) ∧ Hid (Below w.heap.size w w')) := fun W hW => by rw [← hd]; exact lean_b h.2.1 hW.out (by rw [Tr.len_node]; omega)
  have T1 : Hid (∀ W : World, Below w.heap.size w W → Calls Tryd.prog 91 #[.pointer (some ⟨b1, 0, none⟩)] W fun e w' => ∃ x y, e = .returned (.pointer (some ⟨x, 0, none⟩)) ∧ (w'.cell? ⟨b, 3, none⟩ = some (.pointer (some ⟨b1, 0, none⟩)) ∧ w'.cell? ⟨b, 4, none⟩ = some (.pointer r.addr)) ∧ Hid ((node x k2 v2 (node y k1 v1 a c) d).Lies w' ∧ Below w.heap.size w w')) := fun W hW =>
    (turnDown_any ((h.below hW).2.1) (by omega)).mono fun e w' ⟨x, y, he, h3, h4⟩ =>
      have hb := hW.trans (h4.mono hW.size)
      ⟨x, y, he, ⟨(h.below hb).c2, (h.below hb).c3⟩, h3, hb⟩
  have T2 : Hid (∀ x y W, Hid ((node x k2 v2 (node y k1 v1 a c) d).Lies W ∧ Below w.heap.size w W) → Calls Tryd.prog 75 #[.pointer (some ⟨b, 0, none⟩), .pointer (some ⟨x, 0, none⟩), .pointer r.addr] W fun e w' => ∃ z, e = .returned (.pointer (some ⟨z, 0, none⟩)) ∧ (w'.cell? ⟨b, 3, none⟩ = some (.pointer (some ⟨b1, 0, none⟩)) ∧ w'.cell? ⟨b, 4, none⟩ = some (.pointer r.addr)) ∧ Hid ((node z k v (node x k2 v2 (node y k1 v1 a c) d) r).Lies w' ∧ Below w.heap.size w w')) := fun x y W hq =>
    (move_any (w := W) (l := node x k2 v2 (node y k1 v1 a c) d) (h.below hq.out.2) hq.out.1 ((h.below hq.out.2).2.2) (by rw [Tr.len_node, Tr.len_node]; omega)).mono fun e w' ⟨z, he, h3, h4⟩ =>
      have hb := hq.out.2.trans (h4.mono hq.out.2.size)
      ⟨z, he, ⟨(h.below hb).c2, (h.below hb).c3⟩, h3, hb⟩
  have U : Hid (∀ x y z W, Hid ((node z k v (node x k2 v2 (node y k1 v1 a c) d) r).Lies W ∧ Below w.heap.size w W) → Calls Tryd.prog 92 #[.pointer (some ⟨z, 0, none⟩)] W fun e w' => ∃ x1 z1, e = .returned (.pointer (some ⟨x1, 0, none⟩)) ∧ Hid ((node x1 k2 v2 (node y k1 v1 a c) (node z1 k v d r)).Lies w' ∧ Below w.heap.size w w')) := fun x y z W hq =>
    (turnUp_any hq.out.1 (by rw [Tr.len_node]; omega)).mono fun e w' ⟨x1, z1, he, h3, h4⟩ => ⟨x1, z1, he, h3, hq.out.2.trans (h4.mono hq.out.2.size)⟩
  have K0 : Hid (∀ W : World, Below w.heap.size w W → W.cell? ⟨b, 3, none⟩ = some (.pointer (some ⟨b1, 0, none⟩)) ∧ W.cell? ⟨b, 4, none⟩ = some (.pointer r.addr)) := fun W hW => ⟨(h.below hW).c2, (h.below hW).c3⟩
  have HL := Lib.hid L
  clear h hn h1 h2 hd L
  generalize r.addr = ra at *
  go_enter Tryd.func74, Tryd.ntmps74
  go_wp2_with fail
  refine HL.out.mono ?_
  rintro e w1 ⟨rfl, hb1⟩
  have c2 := (K0.out _ hb1.out).1
  go_wp2_with fail
  refine (M.out _ hb1).mono ?_
  rintro e w2 ⟨rfl, hb2⟩
  have HB : Hid (Below w.heap.size w w2.drew) := hb2.out.drew
  go_wp2_with fail
  clear c2
  have HK := Lib.hid (K0.out _ HB.out)
  go_region_held3 (fun w' => w'.cell? ⟨b, 3, none⟩ = some (.pointer (some ⟨b1, 0, none⟩)) ∧ w'.cell? ⟨b, 4, none⟩ = some (.pointer ra)) (first | exact HK.out | assumption) (first
    | (go_at_call 91; refine (T1.out _ HB.out).mono ?_; rintro e w4 ⟨x, y, rfl, hk2, ho1⟩)
    | (go_at_call 75; refine (T2.out _ _ _ ho1).mono ?_; rintro e w5 ⟨z, rfl, hk3, ho2⟩))
  go_wp2_with fail
  refine (U.out _ _ _ _ ho2).mono ?_
  rintro e w1 ⟨x1, z1, rfl, ho⟩
  go_wp2
  go_ret
  exact ⟨_, _, _, rfl, ho.out⟩
set_option maxHeartbeats 1000000 in
/-- too deep above, on its outer side. -/
theorem even_down {b b1 : Nat} {k k1 : Int} {v v1 : Kn} {l c d : Tr} {w : World} (h : (node b k v l (node b1 k1 v1 c d)).Lies w) (hn : l.list.length + c.list.length + d.list.length < 4611686018427387000) (h1 : (node b1 k1 v1 c d).deep = l.deep + 2) (h2 : c.deep ≤ d.deep) :
    Calls Tryd.prog 74 #[.pointer (some ⟨b, 0, none⟩)] w fun e w' => ∃ b2 b3, e = .returned (.pointer (some ⟨b2, 0, none⟩)) ∧ (node b2 k1 v1 (node b3 k v l c) d).Lies w' ∧ Below w.heap.size w w' := by
  have L := lean_b h (Below.refl _ w) (by rw [Tr.len_node]; omega)
  rw [show ((node b1 k1 v1 c d).deep : Int) - (l.deep : Int) = 2 by omega] at L
  obtain ⟨dd, hd, n1⟩ : ∃ dd : Int, (d.deep : Int) - (c.deep : Int) = dd ∧ 0 ≤ dd := ⟨_, rfl, by omega⟩
  have M : Hid (∀ W, Hid (Below w.heap.size w W) → Calls Tryd.prog 90 #[.pointer (some ⟨b1, 0, none⟩)] W fun e w' => e = .returned (.int .i64 dd) ∧ Hid (Below w.heap.size w w')) := fun W hW => by rw [← hd]; exact lean_b h.2.2 hW.out (by omega)
  have U : Hid (∀ W, Hid (Below w.heap.size w W) → Calls Tryd.prog 91 #[.pointer (some ⟨b, 0, none⟩)] W fun e w' => ∃ b2 b3, e = .returned (.pointer (some ⟨b2, 0, none⟩)) ∧ Hid ((node b2 k1 v1 (node b3 k v l c) d).Lies w' ∧ Below w.heap.size w w')) := fun W hW =>
    (turnDown_any (h.below hW.out) (by omega)).mono fun e w' ⟨b2, b3, he, h3, h4⟩ => ⟨b2, b3, he, h3, hW.out.trans (h4.mono hW.out.size)⟩
  have c3 : ∀ W, Hid (Below w.heap.size w W) → W.cell? ⟨b, 4, none⟩ = some (.pointer (some ⟨b1, 0, none⟩)) := fun W hW => (h.below hW.out).c3
  have C3 := Lib.hid c3
  have HL := Lib.hid L
  clear h hn h1 h2 hd L c3
  go_enter Tryd.func74, Tryd.ntmps74
  go_wp2_with fail
  refine HL.out.mono ?_
  rintro e w1 ⟨rfl, hb1⟩
  have c3 := C3.out _ hb1
  go_wp2_with fail
  refine (M.out _ hb1).mono ?_
  rintro e w2 ⟨rfl, hb2⟩
  go_wp2_with fail
  refine (U.out _ hb2).mono ?_
  rintro e w1 ⟨b2, b3, rfl, ho⟩
  go_wp2
  go_ret
  exact ⟨_, _, rfl, ho.out⟩
set_option maxHeartbeats 2000000 in
/-- too deep above, on its inner side. -/
theorem even_down2 {b b1 b2 : Nat} {k k1 k2 : Int} {v v1 v2 : Kn} {l a c d : Tr} {w : World} (h : (node b k v l (node b1 k1 v1 (node b2 k2 v2 a c) d)).Lies w) (hn : l.list.length + a.list.length + c.list.length + d.list.length < 4611686018427387000)
    (h1 : (node b1 k1 v1 (node b2 k2 v2 a c) d).deep = l.deep + 2) (h2 : d.deep < (node b2 k2 v2 a c).deep) :
    Calls Tryd.prog 74 #[.pointer (some ⟨b, 0, none⟩)] w fun e w' => ∃ x y z, e = .returned (.pointer (some ⟨x, 0, none⟩)) ∧ (node x k2 v2 (node y k v l a) (node z k1 v1 c d)).Lies w' ∧ Below w.heap.size w w' := by
  have L := lean_b h (Below.refl _ w) (by rw [Tr.len_node, Tr.len_node]; omega)
  rw [show ((node b1 k1 v1 (node b2 k2 v2 a c) d).deep : Int) - (l.deep : Int) = 2 by omega] at L
  obtain ⟨dd, hd, n1⟩ : ∃ dd : Int, (d.deep : Int) - ((node b2 k2 v2 a c).deep : Int) = dd ∧ dd < 0 := ⟨_, rfl, by omega⟩
  have M : Hid (∀ W, Hid (Below w.heap.size w W) → Calls Tryd.prog 90 #[.pointer (some ⟨b1, 0, none⟩)] W fun e w' => e = .returned (.int .i64 dd) ∧ Hid (Below w.heap.size w w')) := fun W hW => by rw [← hd]; exact lean_b h.2.2 hW.out (by rw [Tr.len_node]; omega)
  have T1 : Hid (∀ W : World, Below w.heap.size w W → Calls Tryd.prog 92 #[.pointer (some ⟨b1, 0, none⟩)] W fun e w' => ∃ x y, e = .returned (.pointer (some ⟨x, 0, none⟩)) ∧ (w'.cell? ⟨b, 3, none⟩ = some (.pointer l.addr) ∧ w'.cell? ⟨b, 4, none⟩ = some (.pointer (some ⟨b1, 0, none⟩))) ∧ Hid ((node x k2 v2 a (node y k1 v1 c d)).Lies w' ∧ Below w.heap.size w w')) := fun W hW =>
    (turnUp_any ((h.below hW).2.2) (by omega)).mono fun e w' ⟨x, y, he, h3, h4⟩ =>
      have hb := hW.trans (h4.mono hW.size)
      ⟨x, y, he, ⟨(h.below hb).c2, (h.below hb).c3⟩, h3, hb⟩
  have T2 : Hid (∀ x y W, Hid ((node x k2 v2 a (node y k1 v1 c d)).Lies W ∧ Below w.heap.size w W) → Calls Tryd.prog 75 #[.pointer (some ⟨b, 0, none⟩), .pointer l.addr, .pointer (some ⟨x, 0, none⟩)] W fun e w' => ∃ z, e = .returned (.pointer (some ⟨z, 0, none⟩)) ∧ (w'.cell? ⟨b, 3, none⟩ = some (.pointer l.addr) ∧ w'.cell? ⟨b, 4, none⟩ = some (.pointer (some ⟨b1, 0, none⟩))) ∧ Hid ((node z k v l (node x k2 v2 a (node y k1 v1 c d))).Lies w' ∧ Below w.heap.size w w')) := fun x y W hq =>
    (move_any (w := W) (r := node x k2 v2 a (node y k1 v1 c d)) (h.below hq.out.2) ((h.below hq.out.2).2.1) hq.out.1 (by rw [Tr.len_node, Tr.len_node]; omega)).mono fun e w' ⟨z, he, h3, h4⟩ =>
      have hb := hq.out.2.trans (h4.mono hq.out.2.size)
      ⟨z, he, ⟨(h.below hb).c2, (h.below hb).c3⟩, h3, hb⟩
  have U : Hid (∀ x y z W, Hid ((node z k v l (node x k2 v2 a (node y k1 v1 c d))).Lies W ∧ Below w.heap.size w W) → Calls Tryd.prog 91 #[.pointer (some ⟨z, 0, none⟩)] W fun e w' => ∃ x1 z1, e = .returned (.pointer (some ⟨x1, 0, none⟩)) ∧ Hid ((node x1 k2 v2 (node z1 k v l a) (node y k1 v1 c d)).Lies w' ∧ Below w.heap.size w w')) := fun x y z W hq =>
    (turnDown_any hq.out.1 (by rw [Tr.len_node]; omega)).mono fun e w' ⟨x1, z1, he, h3, h4⟩ => ⟨x1, z1, he, h3, hq.out.2.trans (h4.mono hq.out.2.size)⟩
  have K0 : Hid (∀ W : World, Below w.heap.size w W → W.cell? ⟨b, 3, none⟩ = some (.pointer l.addr) ∧ W.cell? ⟨b, 4, none⟩ = some (.pointer (some ⟨b1, 0, none⟩))) := fun W hW => ⟨(h.below hW).c2, (h.below hW).c3⟩
  have HL := Lib.hid L
  clear h hn h1 h2 hd L
  generalize l.addr = la at *
  go_enter Tryd.func74, Tryd.ntmps74
  go_wp2_with fail
  refine HL.out.mono ?_
  rintro e w1 ⟨rfl, hb1⟩
  have c3 := (K0.out _ hb1.out).2
  go_wp2_with fail
  refine (M.out _ hb1).mono ?_
  rintro e w2 ⟨rfl, hb2⟩
  have HB : Hid (Below w.heap.size w w2.drew) := hb2.out.drew
  go_wp2_with fail
  clear c3
  have HK := Lib.hid (K0.out _ HB.out)
  go_region_held3 (fun w' => w'.cell? ⟨b, 3, none⟩ = some (.pointer la) ∧ w'.cell? ⟨b, 4, none⟩ = some (.pointer (some ⟨b1, 0, none⟩))) (first | exact HK.out | assumption) (first
    | (go_at_call 92; refine (T1.out _ HB.out).mono ?_; rintro e w4 ⟨x, y, rfl, hk2, ho1⟩)
    | (go_at_call 75; refine (T2.out _ _ _ ho1).mono ?_; rintro e w5 ⟨z, rfl, hk3, ho2⟩))
  go_wp2_with fail
  refine (U.out _ _ _ _ ho2).mono ?_
  rintro e w1 ⟨x1, z1, rfl, ho⟩
  go_wp2
  go_ret
  exact ⟨_, _, _, rfl, ho.out⟩
/-- what even makes of a part. -/
theorem even_any {b : Nat} {k : Int} {v : Kn} {l r : Tr} {w : World} (h : (node b k v l r).Lies w) (hn : l.list.length + r.list.length < 4611686018427380000) (hl : l.Bal) (hr : r.Bal) (h1 : l.deep ≤ r.deep + 2) (h2 : r.deep ≤ l.deep + 2) :
    Calls Tryd.prog 74 #[.pointer (some ⟨b, 0, none⟩)] w fun e w' => ∃ t : Tr, e = .returned (.pointer t.addr) ∧ Hid (t.Lies w' ∧ t.list = l.list ++ (k, v) :: r.list ∧ t.Bal ∧ t.deep ≤ max l.deep r.deep + 1 ∧ max l.deep r.deep ≤ t.deep ∧ (l.deep ≤ r.deep + 1 → r.deep ≤ l.deep + 1 → t.deep = max l.deep r.deep + 1) ∧ Below w.heap.size w w') := by
  by_cases ha : l.deep ≤ r.deep + 1
  · by_cases hb : r.deep ≤ l.deep + 1
    · refine (even_still h (by omega) ha hb).mono ?_
      rintro e w' ⟨rfl, m, rfl⟩
      refine ⟨node b k v l r, rfl, h.drewN m, rfl, ⟨ha, hb, hl, hr⟩, ?_, ?_, fun _ _ => rfl, below_drewN w m⟩ <;> rw [Tr.deep_node] <;> omega
    · have hd : r.deep = l.deep + 2 := by omega
      cases r with
      | nil => simp [Tr.deep] at hd
      | node b1 k1 v1 c d =>
        obtain ⟨g1, g2, hc, hd'⟩ := hr
        rw [Tr.len_node] at hn
        by_cases hcd : c.deep ≤ d.deep
        · refine (even_down h (by omega) hd hcd).mono ?_
          rintro e w' ⟨x, y, rfl, h3, h4⟩
          rw [Tr.deep_node] at hd
          refine ⟨node x k1 v1 (node y k v l c) d, rfl, h3, by simp [Tr.list], ⟨?_, ?_, ⟨?_, ?_, hl, hc⟩, hd'⟩, ?_, ?_, ?_, h4⟩ <;> (try simp only [Tr.deep_node]) <;> omega
        · cases c with
          | nil => simp [Tr.deep] at hcd
          | node b2 k2 v2 c1 c2 =>
            obtain ⟨g3, g4, hc1, hc2⟩ := hc
            rw [Tr.len_node] at hn
            refine (even_down2 h (by omega) hd (by omega)).mono ?_
            rintro e w' ⟨x, y, z, rfl, h3, h4⟩
            rw [Tr.deep_node, Tr.deep_node] at hd
            rw [Tr.deep_node] at hcd g1 g2
            refine ⟨node x k2 v2 (node y k v l c1) (node z k1 v1 c2 d), rfl, h3, by simp [Tr.list], ⟨?_, ?_, ⟨?_, ?_, hl, hc1⟩, ⟨?_, ?_, hc2, hd'⟩⟩, ?_, ?_, ?_, h4⟩ <;> (try simp only [Tr.deep_node]) <;> omega
  · have hd : l.deep = r.deep + 2 := by omega
    cases l with
    | nil => simp [Tr.deep] at hd
    | node b1 k1 v1 a c =>
      obtain ⟨g1, g2, ha', hc⟩ := hl
      rw [Tr.len_node] at hn
      by_cases hcd : c.deep ≤ a.deep
      · refine (even_up h (by omega) hd hcd).mono ?_
        rintro e w' ⟨x, y, rfl, h3, h4⟩
        rw [Tr.deep_node] at hd
        refine ⟨node x k1 v1 a (node y k v c r), rfl, h3, by simp [Tr.list], ⟨?_, ?_, ha', ⟨?_, ?_, hc, hr⟩⟩, ?_, ?_, ?_, h4⟩ <;> (try simp only [Tr.deep_node]) <;> omega
      · cases c with
        | nil => simp [Tr.deep] at hcd
        | node b2 k2 v2 c d =>
          obtain ⟨g3, g4, hc1, hc2⟩ := hc
          rw [Tr.len_node] at hn
          refine (even_up2 h (by omega) hd (by omega)).mono ?_
          rintro e w' ⟨x, y, z, rfl, h3, h4⟩
          rw [Tr.deep_node, Tr.deep_node] at hd
          rw [Tr.deep_node] at hcd g1 g2
          refine ⟨node x k2 v2 (node y k1 v1 a c) (node z k v d r), rfl, h3, by simp [Tr.list], ⟨?_, ?_, ⟨?_, ?_, ha', hc1⟩, ⟨?_, ?_, hc2, hr⟩⟩, ?_, ?_, ?_, h4⟩ <;> (try simp only [Tr.deep_node]) <;> omega
end Go.Proofs.YtnhpcjiieagjnaaDoor.rk
