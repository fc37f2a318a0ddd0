/-
  order (the law's), and put, least, dropLeast and drop of package rank (keys and things are ints) by their contracts: what stands in a tree behind them.
-/
import Derived.Test.YtnhpcjiieagjnaaDoorRkEven
namespace Go.Proofs.YtnhpcjiieagjnaaDoor.rk
open Go.RowKit
open Tr (node)
/-- the order as a value. -/
abbrev ordV : Value := .func (.func 44) #[] #[]
theorem nan_any (a : Int) (w : World) : Calls Tryd.prog 69 #[.int .u64 a] w fun e w' => e = .returned (.bool false) ∧ w' = w := by
  have h : (a != a) = false := by simp
  go_enter Tryd.func69, Tryd.ntmps69
  go_wp2
  go_ret
  exact ⟨by simp, rfl⟩
theorem order_lt {a b : Int} (h : a < b) (w : World) : Calls Tryd.prog 44 #[.int .u64 a, .int .u64 b] w fun e w' => e = .returned (.int .i64 (-1)) ∧ w' = w := by
  go_enter Tryd.func44, Tryd.ntmps44
  go_wp2_with fail
  refine (nan_any a w).mono ?_
  rintro e w1 ⟨rfl, rfl⟩
  go_wp2_with fail
  refine (nan_any b w1).mono ?_
  rintro e w1 ⟨rfl, rfl⟩
  go_wp2
  go_ret
  exact ⟨rfl, rfl⟩
theorem order_gt {a b : Int} (h : b < a) (w : World) : Calls Tryd.prog 44 #[.int .u64 a, .int .u64 b] w fun e w' => e = .returned (.int .i64 1) ∧ w' = w := by
  have h2 : ¬ a < b := by omega
  go_enter Tryd.func44, Tryd.ntmps44
  go_wp2_with fail
  refine (nan_any a w).mono ?_
  rintro e w1 ⟨rfl, rfl⟩
  go_wp2_with fail
  refine (nan_any b w1).mono ?_
  rintro e w1 ⟨rfl, rfl⟩
  go_wp2
  go_ret
  exact ⟨rfl, rfl⟩
theorem order_eq (a : Int) (w : World) : Calls Tryd.prog 44 #[.int .u64 a, .int .u64 a] w fun e w' => e = .returned (.int .i64 0) ∧ w' = w := by
  go_enter Tryd.func44, Tryd.ntmps44
  go_wp2_with fail
  refine (nan_any a w).mono ?_
  rintro e w1 ⟨rfl, rfl⟩
  go_wp2_with fail
  refine (nan_any a w1).mono ?_
  rintro e w1 ⟨rfl, rfl⟩
  go_wp2
  go_ret
  exact ⟨rfl, rfl⟩
/-- what put owes. -/
def Puts (k : Int) (v : Kn) (t : Tr) (w : World) (t' : Tr) (w' : World) : Prop := t'.Lies w' ∧ t'.list = ins k v t.list ∧ t'.Bal ∧ t.deep ≤ t'.deep ∧ t'.deep ≤ t.deep + 1 ∧ Below w.heap.size w w'
theorem put_nil (k : Int) (v : Kn) (w : World) : Calls Tryd.prog 49 #[.pointer none, ordV, .int .u64 k, kn v] w fun e w' => ∃ t' : Tr, e = .returned (.pointer t'.addr) ∧ Hid (Puts k v .nil w t' w') := by
  obtain ⟨W1, hW1⟩ : ∃ W1, w.alloc (.cells #[.int .i64 (v.n : Int), .bool v.c] 58) = W1 := ⟨_, rfl⟩
  obtain ⟨x0, x1, hb1⟩ := kn_box hW1
  have J : Hid (Calls Tryd.prog 73 #[.int .u64 k, kn v, .pointer none, .pointer none] W1 fun e w' => ∃ b, e = .returned (.pointer (some ⟨b, 0, none⟩)) ∧ Hid ((node b k v .nil .nil).Lies w' ∧ Below w.heap.size w w')) := (join_any (l := .nil) (r := .nil) k v trivial trivial (by simp [Tr.list])).mono fun e w' ⟨b, he, h1, h2⟩ => ⟨b, he, h1, hb1.trans (h2.mono hb1.size)⟩
  go_enter Tryd.func49, Tryd.ntmps49
  go_wp2_with fail
  refine J.out.mono ?_
  rintro e w1 ⟨b, rfl, ho⟩
  go_wp2
  go_ret
  exact ⟨node b k v .nil .nil, rfl, ho.out.1, by simp [Tr.list, ins, lo, hi], ⟨by simp [Tr.deep], by simp [Tr.deep], trivial, trivial⟩, by simp [Tr.deep], by simp [Tr.deep], ho.out.2⟩
set_option maxHeartbeats 2000000 in
theorem put_below {b : Nat} {k k0 : Int} {v v0 : Kn} {l r : Tr} {w : World} (h : (node b k0 v0 l r).Lies w) (hu : Up (node b k0 v0 l r).list) (hb : (node b k0 v0 l r).Bal) (hn : (node b k0 v0 l r).list.length < 4000000000000000000) (hk : k < k0)
    (ih : ∀ W : World, l.Lies W → Calls Tryd.prog 49 #[.pointer l.addr, ordV, .int .u64 k, kn v] W fun e w' => ∃ t' : Tr, e = .returned (.pointer t'.addr) ∧ Hid (Puts k v l W t' w')) :
    Calls Tryd.prog 49 #[.pointer (some ⟨b, 0, none⟩), ordV, .int .u64 k, kn v] w fun e w' => ∃ t' : Tr, e = .returned (.pointer t'.addr) ∧ Hid (Puts k v (node b k0 v0 l r) w t' w') := by
  obtain ⟨b1, b2, bl, br⟩ := hb
  rw [Tr.len_node] at hn
  obtain ⟨W1, hW1⟩ : ∃ W1, w.alloc (.cells #[.int .i64 (v.n : Int), .bool v.c] 58) = W1 := ⟨_, rfl⟩
  obtain ⟨x0, x1, hb1⟩ := kn_box hW1
  have h1 := h.below hb1
  have c0 := h1.c0
  have XB : ∀ w', Below W1.heap.size W1 w' → w'.cell? ⟨w.heap.size, 0, none⟩ = some (.int .i64 (v.n : Int)) ∧ w'.cell? ⟨w.heap.size, 1, none⟩ = some (.bool v.c) := fun w' hb => ⟨(hb.cell (p := ⟨w.heap.size, 0, none⟩) (World.block_lt_of_cell? W1 ⟨w.heap.size, 0, none⟩ x0)).trans x0, (hb.cell (p := ⟨w.heap.size, 1, none⟩) (World.block_lt_of_cell? W1 ⟨w.heap.size, 1, none⟩ x1)).trans x1⟩
  have K0 : Hid (W1.drew.cell? ⟨b, 3, none⟩ = some (.pointer l.addr) ∧ W1.drew.cell? ⟨b, 4, none⟩ = some (.pointer r.addr) ∧ W1.drew.cell? ⟨w.heap.size, 0, none⟩ = some (.int .i64 (v.n : Int)) ∧ W1.drew.cell? ⟨w.heap.size, 1, none⟩ = some (.bool v.c)) := ⟨h1.c2, h1.c3, x0, x1⟩
  have T1 : Hid (Calls Tryd.prog 49 #[.pointer l.addr, ordV, .int .u64 k, kn v] W1.drew fun e w' => ∃ t' : Tr, e = .returned (.pointer t'.addr) ∧ (w'.cell? ⟨b, 3, none⟩ = some (.pointer l.addr) ∧ w'.cell? ⟨b, 4, none⟩ = some (.pointer r.addr) ∧ w'.cell? ⟨w.heap.size, 0, none⟩ = some (.int .i64 (v.n : Int)) ∧ w'.cell? ⟨w.heap.size, 1, none⟩ = some (.bool v.c)) ∧ Hid (Puts k v l W1 t' w')) :=
    (ih W1.drew (h1.2.1.drewN 1)).mono fun e w' ⟨t', he, ho⟩ =>
      have hB : Below W1.heap.size W1 w' := (Below.refl _ W1).drew.trans ho.out.2.2.2.2.2
      ⟨t', he, ⟨(h1.below hB).c2, (h1.below hB).c3, XB _ hB⟩, ho.out.1, ho.out.2.1, ho.out.2.2.1, ho.out.2.2.2.1, ho.out.2.2.2.2.1, hB⟩
  have T2 : Hid (∀ t' W, Hid (Puts k v l W1 t' W) → Calls Tryd.prog 75 #[.pointer (some ⟨b, 0, none⟩), .pointer t'.addr, .pointer r.addr] W fun e w' => ∃ b', e = .returned (.pointer (some ⟨b', 0, none⟩)) ∧ (w'.cell? ⟨b, 3, none⟩ = some (.pointer l.addr) ∧ w'.cell? ⟨b, 4, none⟩ = some (.pointer r.addr) ∧ w'.cell? ⟨w.heap.size, 0, none⟩ = some (.int .i64 (v.n : Int)) ∧ w'.cell? ⟨w.heap.size, 1, none⟩ = some (.bool v.c)) ∧ Hid (Puts k v l W1 t' w' ∧ (node b' k0 v0 t' r).Lies w')) := fun t' W hq => by
    obtain ⟨q1, q2, q3, q4, q5, q6⟩ := hq.out
    have hlen : t'.list.length ≤ l.list.length + 1 := by rw [q2]; exact ins_len v
    refine (move_any (w := W) (h1.below q6) q1 ((h1.below q6).2.2) (by omega)).mono fun e w' ⟨b', he, h3, h4⟩ => ?_
    have hB := q6.trans (h4.mono q6.size)
    exact ⟨b', he, ⟨(h1.below hB).c2, (h1.below hB).c3, XB _ hB⟩, ⟨q1.below h4, q2, q3, q4, q5, hB⟩, h3⟩
  have T3 : Hid (∀ t' b' W, Hid (Puts k v l W1 t' W ∧ (node b' k0 v0 t' r).Lies W) → Calls Tryd.prog 74 #[.pointer (some ⟨b', 0, none⟩)] W fun e w' => ∃ t2 : Tr, e = .returned (.pointer t2.addr) ∧ (w'.cell? ⟨b, 3, none⟩ = some (.pointer l.addr) ∧ w'.cell? ⟨b, 4, none⟩ = some (.pointer r.addr) ∧ w'.cell? ⟨w.heap.size, 0, none⟩ = some (.int .i64 (v.n : Int)) ∧ w'.cell? ⟨w.heap.size, 1, none⟩ = some (.bool v.c)) ∧ Hid (Puts k v (node b k0 v0 l r) w t2 w')) := fun t' b' W hq => by
    obtain ⟨⟨q1, q2, q3, q4, q5, q6⟩, q7⟩ := hq.out
    have hlen : t'.list.length ≤ l.list.length + 1 := by rw [q2]; exact ins_len v
    refine (even_any q7 (by omega) q3 br (by omega) (by omega)).mono fun e w' ⟨t2, he, ho⟩ => ?_
    obtain ⟨e1, e2, e3, e4, e5, e6, e7⟩ := ho.out
    have hB := q6.trans (e7.mono q6.size)
    refine ⟨t2, he, ⟨(h1.below hB).c2, (h1.below hB).c3, XB _ hB⟩, e1, ?_, e3, ?_, ?_, hb1.trans (hB.mono hb1.size)⟩
    · rw [e2, q2, Tr.list_node, ins_below hu hk]
    · rw [Tr.deep_node]; omega
    · rw [Tr.deep_node]; omega
  have O := Lib.hid (order_lt hk W1)
  clear XB x0 x1 hb1 h1
  clear h hu hn hk ih b1 b2 bl br
  generalize l.addr = la at *
  generalize r.addr = ra at *
  go_enter Tryd.func49, Tryd.ntmps49
  go_wp2_with fail
  refine O.out.mono ?_
  rintro e w1 ⟨rfl, rfl⟩
  go_wp2_with fail
  go_region_held3 (fun w' => w'.cell? ⟨b, 3, none⟩ = some (.pointer la) ∧ w'.cell? ⟨b, 4, none⟩ = some (.pointer ra) ∧ w'.cell? ⟨w.heap.size, 0, none⟩ = some (.int .i64 (v.n : Int)) ∧ w'.cell? ⟨w.heap.size, 1, none⟩ = some (.bool v.c)) (first | exact K0.out | assumption) (first
    | (go_at_call 49; refine T1.out.mono ?_; rintro e w2 ⟨t1, rfl, hk2, ho1⟩)
    | (go_at_call 75; refine (T2.out _ _ ho1).mono ?_; rintro e w3 ⟨b3, rfl, hk3, ho2⟩)
    | (go_at_call 74; refine (T3.out _ _ _ ho2).mono ?_; rintro e w4 ⟨t4, rfl, hk4, ho3⟩))
  go_wp2
  go_ret
  exact ⟨_, rfl, ho3⟩
set_option maxHeartbeats 2000000 in
theorem put_above {b : Nat} {k k0 : Int} {v v0 : Kn} {l r : Tr} {w : World} (h : (node b k0 v0 l r).Lies w) (hu : Up (node b k0 v0 l r).list) (hb : (node b k0 v0 l r).Bal) (hn : (node b k0 v0 l r).list.length < 4000000000000000000) (hk : k0 < k)
    (ih : ∀ W : World, r.Lies W → Calls Tryd.prog 49 #[.pointer r.addr, ordV, .int .u64 k, kn v] W fun e w' => ∃ t' : Tr, e = .returned (.pointer t'.addr) ∧ Hid (Puts k v r W t' w')) :
    Calls Tryd.prog 49 #[.pointer (some ⟨b, 0, none⟩), ordV, .int .u64 k, kn v] w fun e w' => ∃ t' : Tr, e = .returned (.pointer t'.addr) ∧ Hid (Puts k v (node b k0 v0 l r) w t' w') := by
  obtain ⟨b1, b2, bl, br⟩ := hb
  rw [Tr.len_node] at hn
  obtain ⟨W1, hW1⟩ : ∃ W1, w.alloc (.cells #[.int .i64 (v.n : Int), .bool v.c] 58) = W1 := ⟨_, rfl⟩
  obtain ⟨x0, x1, hb1⟩ := kn_box hW1
  have h1 := h.below hb1
  have c0 := h1.c0
  have XB : ∀ w', Below W1.heap.size W1 w' → w'.cell? ⟨w.heap.size, 0, none⟩ = some (.int .i64 (v.n : Int)) ∧ w'.cell? ⟨w.heap.size, 1, none⟩ = some (.bool v.c) := fun w' hb => ⟨(hb.cell (p := ⟨w.heap.size, 0, none⟩) (World.block_lt_of_cell? W1 ⟨w.heap.size, 0, none⟩ x0)).trans x0, (hb.cell (p := ⟨w.heap.size, 1, none⟩) (World.block_lt_of_cell? W1 ⟨w.heap.size, 1, none⟩ x1)).trans x1⟩
  have K0 : Hid (W1.drew.cell? ⟨b, 3, none⟩ = some (.pointer l.addr) ∧ W1.drew.cell? ⟨b, 4, none⟩ = some (.pointer r.addr) ∧ W1.drew.cell? ⟨w.heap.size, 0, none⟩ = some (.int .i64 (v.n : Int)) ∧ W1.drew.cell? ⟨w.heap.size, 1, none⟩ = some (.bool v.c)) := ⟨h1.c2, h1.c3, x0, x1⟩
  have T1 : Hid (Calls Tryd.prog 49 #[.pointer r.addr, ordV, .int .u64 k, kn v] W1.drew fun e w' => ∃ t' : Tr, e = .returned (.pointer t'.addr) ∧ (w'.cell? ⟨b, 3, none⟩ = some (.pointer l.addr) ∧ w'.cell? ⟨b, 4, none⟩ = some (.pointer r.addr) ∧ w'.cell? ⟨w.heap.size, 0, none⟩ = some (.int .i64 (v.n : Int)) ∧ w'.cell? ⟨w.heap.size, 1, none⟩ = some (.bool v.c)) ∧ Hid (Puts k v r W1 t' w')) :=
    (ih W1.drew (h1.2.2.drewN 1)).mono fun e w' ⟨t', he, ho⟩ =>
      have hB : Below W1.heap.size W1 w' := (Below.refl _ W1).drew.trans ho.out.2.2.2.2.2
      ⟨t', he, ⟨(h1.below hB).c2, (h1.below hB).c3, XB _ hB⟩, ho.out.1, ho.out.2.1, ho.out.2.2.1, ho.out.2.2.2.1, ho.out.2.2.2.2.1, hB⟩
  have T2 : Hid (∀ t' W, Hid (Puts k v r W1 t' W) → Calls Tryd.prog 75 #[.pointer (some ⟨b, 0, none⟩), .pointer l.addr, .pointer t'.addr] W fun e w' => ∃ b', e = .returned (.pointer (some ⟨b', 0, none⟩)) ∧ (w'.cell? ⟨b, 3, none⟩ = some (.pointer l.addr) ∧ w'.cell? ⟨b, 4, none⟩ = some (.pointer r.addr) ∧ w'.cell? ⟨w.heap.size, 0, none⟩ = some (.int .i64 (v.n : Int)) ∧ w'.cell? ⟨w.heap.size, 1, none⟩ = some (.bool v.c)) ∧ Hid (Puts k v r W1 t' w' ∧ (node b' k0 v0 l t').Lies w')) := fun t' W hq => by
    obtain ⟨q1, q2, q3, q4, q5, q6⟩ := hq.out
    have hlen : t'.list.length ≤ r.list.length + 1 := by rw [q2]; exact ins_len v
    refine (move_any (w := W) (h1.below q6) ((h1.below q6).2.1) q1 (by omega)).mono fun e w' ⟨b', he, h3, h4⟩ => ?_
    have hB := q6.trans (h4.mono q6.size)
    exact ⟨b', he, ⟨(h1.below hB).c2, (h1.below hB).c3, XB _ hB⟩, ⟨q1.below h4, q2, q3, q4, q5, hB⟩, h3⟩
  have T3 : Hid (∀ t' b' W, Hid (Puts k v r W1 t' W ∧ (node b' k0 v0 l t').Lies W) → Calls Tryd.prog 74 #[.pointer (some ⟨b', 0, none⟩)] W fun e w' => ∃ t2 : Tr, e = .returned (.pointer t2.addr) ∧ (w'.cell? ⟨b, 3, none⟩ = some (.pointer l.addr) ∧ w'.cell? ⟨b, 4, none⟩ = some (.pointer r.addr) ∧ w'.cell? ⟨w.heap.size, 0, none⟩ = some (.int .i64 (v.n : Int)) ∧ w'.cell? ⟨w.heap.size, 1, none⟩ = some (.bool v.c)) ∧ Hid (Puts k v (node b k0 v0 l r) w t2 w')) := fun t' b' W hq => by
    obtain ⟨⟨q1, q2, q3, q4, q5, q6⟩, q7⟩ := hq.out
    have hlen : t'.list.length ≤ r.list.length + 1 := by rw [q2]; exact ins_len v
    refine (even_any q7 (by omega) bl q3 (by omega) (by omega)).mono fun e w' ⟨t2, he, ho⟩ => ?_
    obtain ⟨e1, e2, e3, e4, e5, e6, e7⟩ := ho.out
    have hB := q6.trans (e7.mono q6.size)
    refine ⟨t2, he, ⟨(h1.below hB).c2, (h1.below hB).c3, XB _ hB⟩, e1, ?_, e3, ?_, ?_, hb1.trans (hB.mono hb1.size)⟩
    · rw [e2, q2, Tr.list_node, ins_above hu hk]
    · rw [Tr.deep_node]; omega
    · rw [Tr.deep_node]; omega
  have O := Lib.hid (order_gt hk W1)
  clear XB x0 x1 hb1 h1
  clear h hu hn hk ih b1 b2 bl br
  generalize l.addr = la at *
  generalize r.addr = ra at *
  go_enter Tryd.func49, Tryd.ntmps49
  go_wp2_with fail
  refine O.out.mono ?_
  rintro e w1 ⟨rfl, rfl⟩
  go_wp2_with fail
  go_region_held3 (fun w' => w'.cell? ⟨b, 3, none⟩ = some (.pointer la) ∧ w'.cell? ⟨b, 4, none⟩ = some (.pointer ra) ∧ w'.cell? ⟨w.heap.size, 0, none⟩ = some (.int .i64 (v.n : Int)) ∧ w'.cell? ⟨w.heap.size, 1, none⟩ = some (.bool v.c)) (first | exact K0.out | assumption) (first
    | (go_at_call 49; refine T1.out.mono ?_; rintro e w2 ⟨t1, rfl, hk2, ho1⟩)
    | (go_at_call 75; refine (T2.out _ _ ho1).mono ?_; rintro e w3 ⟨b3, rfl, hk3, ho2⟩)
    | (go_at_call 74; refine (T3.out _ _ _ ho2).mono ?_; rintro e w4 ⟨t4, rfl, hk4, ho3⟩))
  go_wp2
  go_ret
  exact ⟨_, rfl, ho3⟩
set_option maxHeartbeats 2000000 in
theorem put_at {b : Nat} {k : Int} {v v0 : Kn} {l r : Tr} {w : World} (h : (node b k v0 l r).Lies w) (hu : Up (node b k v0 l r).list) (hb : (node b k v0 l r).Bal) (hn : (node b k v0 l r).list.length < 4000000000000000000) :
    Calls Tryd.prog 49 #[.pointer (some ⟨b, 0, none⟩), ordV, .int .u64 k, kn v] w fun e w' => ∃ t' : Tr, e = .returned (.pointer t'.addr) ∧ Hid (Puts k v (node b k v0 l r) w t' w') := by
  rw [Tr.len_node] at hn
  obtain ⟨W1, hW1⟩ : ∃ W1, w.alloc (.cells #[.int .i64 (v.n : Int), .bool v.c] 58) = W1 := ⟨_, rfl⟩
  obtain ⟨x0, x1, hb1⟩ := kn_box hW1
  have h1 := h.below hb1
  have c0 := h1.c0
  have XB : ∀ w', Below W1.heap.size W1 w' → w'.cell? ⟨w.heap.size, 0, none⟩ = some (.int .i64 (v.n : Int)) ∧ w'.cell? ⟨w.heap.size, 1, none⟩ = some (.bool v.c) := fun w' hb => ⟨(hb.cell (p := ⟨w.heap.size, 0, none⟩) (World.block_lt_of_cell? W1 ⟨w.heap.size, 0, none⟩ x0)).trans x0, (hb.cell (p := ⟨w.heap.size, 1, none⟩) (World.block_lt_of_cell? W1 ⟨w.heap.size, 1, none⟩ x1)).trans x1⟩
  have K0 : Hid (W1.drew.cell? ⟨b, 3, none⟩ = some (.pointer l.addr) ∧ W1.drew.cell? ⟨b, 4, none⟩ = some (.pointer r.addr) ∧ W1.drew.cell? ⟨w.heap.size, 0, none⟩ = some (.int .i64 (v.n : Int)) ∧ W1.drew.cell? ⟨w.heap.size, 1, none⟩ = some (.bool v.c)) := ⟨h1.c2, h1.c3, x0, x1⟩
  have T : Hid (Calls Tryd.prog 73 #[.int .u64 k, kn v, .pointer l.addr, .pointer r.addr] W1.drew fun e w' => ∃ b', e = .returned (.pointer (some ⟨b', 0, none⟩)) ∧ (w'.cell? ⟨b, 3, none⟩ = some (.pointer l.addr) ∧ w'.cell? ⟨b, 4, none⟩ = some (.pointer r.addr) ∧ w'.cell? ⟨w.heap.size, 0, none⟩ = some (.int .i64 (v.n : Int)) ∧ w'.cell? ⟨w.heap.size, 1, none⟩ = some (.bool v.c)) ∧ Hid (Puts k v (node b k v0 l r) w (node b' k v l r) w')) :=
    (join_any (w := W1.drew) k v (h1.2.1.drewN 1) (h1.2.2.drewN 1) (by omega)).mono fun e w' ⟨b', he, h3, h4⟩ =>
      have hB : Below W1.heap.size W1 w' := (Below.refl _ W1).drew.trans h4
      ⟨b', he, ⟨(h1.below hB).c2, (h1.below hB).c3, XB _ hB⟩, h3, (ins_at hu v).symm, hb, by rw [Tr.deep_node, Tr.deep_node]; omega, by rw [Tr.deep_node, Tr.deep_node]; omega, hb1.trans (hB.mono hb1.size)⟩
  have O := Lib.hid (order_eq k W1)
  clear XB x0 x1 hb1 h1
  clear h hu hn hb
  generalize l.addr = la at *
  generalize r.addr = ra at *
  go_enter Tryd.func49, Tryd.ntmps49
  go_wp2_with fail
  refine O.out.mono ?_
  rintro e w1 ⟨rfl, rfl⟩
  go_wp2_with fail
  go_region_held3 (fun w' => w'.cell? ⟨b, 3, none⟩ = some (.pointer la) ∧ w'.cell? ⟨b, 4, none⟩ = some (.pointer ra) ∧ w'.cell? ⟨w.heap.size, 0, none⟩ = some (.int .i64 (v.n : Int)) ∧ w'.cell? ⟨w.heap.size, 1, none⟩ = some (.bool v.c)) (first | exact K0.out | assumption) (first
    | (go_at_call 73; refine T.out.mono ?_; rintro e w2 ⟨b2, rfl, hk2, ho1⟩))
  go_wp2
  go_ret
  exact ⟨node b2 k v l r, rfl, ho1⟩
theorem put_any (k : Int) (v : Kn) (t : Tr) : ∀ w : World, t.Lies w → Up t.list → t.Bal → t.list.length < 4000000000000000000 →
    Calls Tryd.prog 49 #[.pointer t.addr, ordV, .int .u64 k, kn v] w fun e w' => ∃ t' : Tr, e = .returned (.pointer t'.addr) ∧ Hid (Puts k v t w t' w') := by
  induction t with
  | nil => exact fun w _ _ _ _ => put_nil k v w
  | node b k0 v0 l r ihl ihr =>
    intro w h hu hb hn
    have hp := Up.parts hu
    have hn' := hn
    rw [Tr.len_node] at hn'
    rcases Int.lt_trichotomy k k0 with hk | rfl | hk
    · exact put_below h hu hb hn hk (fun W hW => ihl W hW hp.1 hb.2.2.1 (by omega))
    · exact put_at h hu hb hn
    · exact put_above h hu hb hn hk (fun W hW => ihr W hW hp.2.1 hb.2.2.2 (by omega))
end Go.Proofs.YtnhpcjiieagjnaaDoor.rk
