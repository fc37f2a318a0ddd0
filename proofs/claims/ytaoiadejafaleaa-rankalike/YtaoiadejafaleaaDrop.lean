/-
  drop of package rank (keys and things are ints) by its contract: all but the key stands there, and the sides are even.
-/
import Derived.Test.YtaoiadejafaleaaPut
import Derived.Test.YtaoiadejafaleaaLeast
namespace Go.Proofs.Ytaoiadejafaleaa
open Go.RowKit
open Tr (node)
theorem drop_nil (k : Int) (w : World) : Calls Try.prog 27 #[.pointer none, ordV, .int .i64 k] w fun e w' => ∃ t' : Tr, e = .returned (.pointer t'.addr) ∧ Hid (Drops (del k Tr.nil.list) .nil w t' w') := by
  go_enter Try.func27, Try.ntmps27
  go_wp2
  go_ret
  exact ⟨.nil, rfl, Lib.hid ⟨trivial, by simp [Tr.list, del, lo, hi], trivial, Nat.le_refl _, by simp [Tr.deep], Below.refl _ _⟩⟩
set_option maxHeartbeats 2000000 in
theorem drop_below {b : Nat} {k k0 v0 : Int} {l r : Tr} {w : World} (h : (node b k0 v0 l r).Lies w) (hu : Up (node b k0 v0 l r).list) (hb : (node b k0 v0 l r).Bal) (hn : (node b k0 v0 l r).list.length < 4000000000000000000) (hk : k < k0)
    (ih : Calls Try.prog 27 #[.pointer l.addr, ordV, .int .i64 k] w.drew fun e w' => ∃ t' : Tr, e = .returned (.pointer t'.addr) ∧ Hid (Drops (del k l.list) l w.drew t' w')) :
    Calls Try.prog 27 #[.pointer (some ⟨b, 0, none⟩), ordV, .int .i64 k] w fun e w' => ∃ t' : Tr, e = .returned (.pointer t'.addr) ∧ Hid (Drops (del k (node b k0 v0 l r).list) (node b k0 v0 l r) w t' w') := by
  obtain ⟨b1, b2, bl, br⟩ := hb
  rw [Tr.len_node] at hn
  have c0 := h.c0
  have hlt : (del k l.list).length ≤ l.list.length := del_len
  have K0 : Hid (w.drew.cell? ⟨b, 2, none⟩ = some (.pointer l.addr) ∧ w.drew.cell? ⟨b, 3, none⟩ = some (.pointer r.addr)) := ⟨h.c2, h.c3⟩
  have T1 : Hid (Calls Try.prog 27 #[.pointer l.addr, ordV, .int .i64 k] w.drew fun e w' => ∃ t' : Tr, e = .returned (.pointer t'.addr) ∧ (w'.cell? ⟨b, 2, none⟩ = some (.pointer l.addr) ∧ w'.cell? ⟨b, 3, none⟩ = some (.pointer r.addr)) ∧ Hid (Drops (del k l.list) l w t' w')) :=
    ih.mono fun e w' ⟨t', he, ho⟩ =>
      have hB : Below w.heap.size w w' := (Below.refl _ w).drew.trans ho.out.2.2.2.2.2
      ⟨t', he, ⟨(h.below hB).c2, (h.below hB).c3⟩, ho.out.1, ho.out.2.1, ho.out.2.2.1, ho.out.2.2.2.1, ho.out.2.2.2.2.1, hB⟩
  have T2 : Hid (∀ t' W, Hid (Drops (del k l.list) l w t' W) → Calls Try.prog 36 #[.pointer (some ⟨b, 0, none⟩), .pointer t'.addr, .pointer r.addr] W fun e w' => ∃ b', e = .returned (.pointer (some ⟨b', 0, none⟩)) ∧ (w'.cell? ⟨b, 2, none⟩ = some (.pointer l.addr) ∧ w'.cell? ⟨b, 3, none⟩ = some (.pointer r.addr)) ∧ Hid (Drops (del k l.list) l w t' w' ∧ (node b' k0 v0 t' r).Lies w')) := fun t' W hq => by
    obtain ⟨q1, q2, q3, q4, q5, q6⟩ := hq.out
    refine (move_any (w := W) (h.below q6) q1 ((h.below q6).2.2) (by rw [q2]; omega)).mono fun e w' ⟨b', he, h3, h4⟩ => ?_
    have hB := q6.trans (h4.mono q6.size)
    exact ⟨b', he, ⟨(h.below hB).c2, (h.below hB).c3⟩, ⟨q1.below h4, q2, q3, q4, q5, hB⟩, h3⟩
  have T3 : Hid (∀ t' b' W, Hid (Drops (del k l.list) l w t' W ∧ (node b' k0 v0 t' r).Lies W) → Calls Try.prog 35 #[.pointer (some ⟨b', 0, none⟩)] W fun e w' => ∃ t2 : Tr, e = .returned (.pointer t2.addr) ∧ (w'.cell? ⟨b, 2, none⟩ = some (.pointer l.addr) ∧ w'.cell? ⟨b, 3, none⟩ = some (.pointer r.addr)) ∧ Hid (Drops (del k (node b k0 v0 l r).list) (node b k0 v0 l r) w t2 w')) := fun t' b' W hq => by
    obtain ⟨⟨q1, q2, q3, q4, q5, q6⟩, q7⟩ := hq.out
    refine (even_any q7 (by rw [q2]; omega) q3 br (by omega) (by omega)).mono fun e w' ⟨t2, he, ho⟩ => ?_
    obtain ⟨e1, e2, e3, e4, e5, e6, e7⟩ := ho.out
    have hB := q6.trans (e7.mono q6.size)
    refine ⟨t2, he, ⟨(h.below hB).c2, (h.below hB).c3⟩, e1, ?_, e3, ?_, ?_, hB⟩
    · rw [e2, q2, Tr.list_node, del_below hu hk]
    · rw [Tr.deep_node]; omega
    · rw [Tr.deep_node]; omega
  have O := Lib.hid (order_lt hk w)
  clear h hu hn hk ih b1 b2 bl br hlt
  generalize l.addr = la at *
  generalize r.addr = ra at *
  go_enter Try.func27, Try.ntmps27
  go_wp2_with fail
  refine O.out.mono ?_
  rintro e w1 ⟨rfl, rfl⟩
  go_wp2_with fail
  go_region_held3 (fun w' => w'.cell? ⟨b, 2, none⟩ = some (.pointer la) ∧ w'.cell? ⟨b, 3, none⟩ = some (.pointer ra)) (first | exact K0.out | assumption) (first
    | (go_at_call 27; refine T1.out.mono ?_; rintro e w2 ⟨t1, rfl, hk2, ho1⟩)
    | (go_at_call 36; refine (T2.out _ _ ho1).mono ?_; rintro e w3 ⟨b3, rfl, hk3, ho2⟩)
    | (go_at_call 35; refine (T3.out _ _ _ ho2).mono ?_; rintro e w4 ⟨t4, rfl, hk4, ho3⟩))
  go_wp2
  go_ret
  exact ⟨_, rfl, ho3⟩
set_option maxHeartbeats 2000000 in
theorem drop_above {b : Nat} {k k0 v0 : Int} {l r : Tr} {w : World} (h : (node b k0 v0 l r).Lies w) (hu : Up (node b k0 v0 l r).list) (hb : (node b k0 v0 l r).Bal) (hn : (node b k0 v0 l r).list.length < 4000000000000000000) (hk : k0 < k)
    (ih : Calls Try.prog 27 #[.pointer r.addr, ordV, .int .i64 k] w.drew fun e w' => ∃ t' : Tr, e = .returned (.pointer t'.addr) ∧ Hid (Drops (del k r.list) r w.drew t' w')) :
    Calls Try.prog 27 #[.pointer (some ⟨b, 0, none⟩), ordV, .int .i64 k] w fun e w' => ∃ t' : Tr, e = .returned (.pointer t'.addr) ∧ Hid (Drops (del k (node b k0 v0 l r).list) (node b k0 v0 l r) w t' w') := by
  obtain ⟨b1, b2, bl, br⟩ := hb
  rw [Tr.len_node] at hn
  have c0 := h.c0
  have hlt : (del k r.list).length ≤ r.list.length := del_len
  have K0 : Hid (w.drew.cell? ⟨b, 2, none⟩ = some (.pointer l.addr) ∧ w.drew.cell? ⟨b, 3, none⟩ = some (.pointer r.addr)) := ⟨h.c2, h.c3⟩
  have T1 : Hid (Calls Try.prog 27 #[.pointer r.addr, ordV, .int .i64 k] w.drew fun e w' => ∃ t' : Tr, e = .returned (.pointer t'.addr) ∧ (w'.cell? ⟨b, 2, none⟩ = some (.pointer l.addr) ∧ w'.cell? ⟨b, 3, none⟩ = some (.pointer r.addr)) ∧ Hid (Drops (del k r.list) r w t' w')) :=
    ih.mono fun e w' ⟨t', he, ho⟩ =>
      have hB : Below w.heap.size w w' := (Below.refl _ w).drew.trans ho.out.2.2.2.2.2
      ⟨t', he, ⟨(h.below hB).c2, (h.below hB).c3⟩, ho.out.1, ho.out.2.1, ho.out.2.2.1, ho.out.2.2.2.1, ho.out.2.2.2.2.1, hB⟩
  have T2 : Hid (∀ t' W, Hid (Drops (del k r.list) r w t' W) → Calls Try.prog 36 #[.pointer (some ⟨b, 0, none⟩), .pointer l.addr, .pointer t'.addr] W fun e w' => ∃ b', e = .returned (.pointer (some ⟨b', 0, none⟩)) ∧ (w'.cell? ⟨b, 2, none⟩ = some (.pointer l.addr) ∧ w'.cell? ⟨b, 3, none⟩ = some (.pointer r.addr)) ∧ Hid (Drops (del k r.list) r w t' w' ∧ (node b' k0 v0 l t').Lies w')) := fun t' W hq => by
    obtain ⟨q1, q2, q3, q4, q5, q6⟩ := hq.out
    refine (move_any (w := W) (h.below q6) ((h.below q6).2.1) q1 (by rw [q2]; omega)).mono fun e w' ⟨b', he, h3, h4⟩ => ?_
    have hB := q6.trans (h4.mono q6.size)
    exact ⟨b', he, ⟨(h.below hB).c2, (h.below hB).c3⟩, ⟨q1.below h4, q2, q3, q4, q5, hB⟩, h3⟩
  have T3 : Hid (∀ t' b' W, Hid (Drops (del k r.list) r w t' W ∧ (node b' k0 v0 l t').Lies W) → Calls Try.prog 35 #[.pointer (some ⟨b', 0, none⟩)] W fun e w' => ∃ t2 : Tr, e = .returned (.pointer t2.addr) ∧ (w'.cell? ⟨b, 2, none⟩ = some (.pointer l.addr) ∧ w'.cell? ⟨b, 3, none⟩ = some (.pointer r.addr)) ∧ Hid (Drops (del k (node b k0 v0 l r).list) (node b k0 v0 l r) w t2 w')) := fun t' b' W hq => by
    obtain ⟨⟨q1, q2, q3, q4, q5, q6⟩, q7⟩ := hq.out
    refine (even_any q7 (by rw [q2]; omega) bl q3 (by omega) (by omega)).mono fun e w' ⟨t2, he, ho⟩ => ?_
    obtain ⟨e1, e2, e3, e4, e5, e6, e7⟩ := ho.out
    have hB := q6.trans (e7.mono q6.size)
    refine ⟨t2, he, ⟨(h.below hB).c2, (h.below hB).c3⟩, e1, ?_, e3, ?_, ?_, hB⟩
    · rw [e2, q2, Tr.list_node, del_above hu hk]
    · rw [Tr.deep_node]; omega
    · rw [Tr.deep_node]; omega
  have O := Lib.hid (order_gt hk w)
  clear h hu hn hk ih b1 b2 bl br hlt
  generalize l.addr = la at *
  generalize r.addr = ra at *
  go_enter Try.func27, Try.ntmps27
  go_wp2_with fail
  refine O.out.mono ?_
  rintro e w1 ⟨rfl, rfl⟩
  go_wp2_with fail
  go_region_held3 (fun w' => w'.cell? ⟨b, 2, none⟩ = some (.pointer la) ∧ w'.cell? ⟨b, 3, none⟩ = some (.pointer ra)) (first | exact K0.out | assumption) (first
    | (go_at_call 27; refine T1.out.mono ?_; rintro e w2 ⟨t1, rfl, hk2, ho1⟩)
    | (go_at_call 36; refine (T2.out _ _ ho1).mono ?_; rintro e w3 ⟨b3, rfl, hk3, ho2⟩)
    | (go_at_call 35; refine (T3.out _ _ _ ho2).mono ?_; rintro e w4 ⟨t4, rfl, hk4, ho3⟩))
  go_wp2
  go_ret
  exact ⟨_, rfl, ho3⟩
theorem drop_bare {b : Nat} {k v0 : Int} {l : Tr} {w : World} (h : (node b k v0 l .nil).Lies w) (hu : Up (node b k v0 l .nil).list) (hb : (node b k v0 l .nil).Bal) :
    Calls Try.prog 27 #[.pointer (some ⟨b, 0, none⟩), ordV, .int .i64 k] w fun e w' => ∃ t' : Tr, e = .returned (.pointer t'.addr) ∧ Hid (Drops (del k (node b k v0 l .nil).list) (node b k v0 l .nil) w t' w') := by
  have c0 := h.c0
  have c2 := h.c2
  have c3 := h.c3
  have O := Lib.hid (order_eq k w)
  have X := Lib.hid (show Drops (del k (node b k v0 l .nil).list) (node b k v0 l .nil) w l w from ⟨h.2.1, ((del_at (e := (k, v0)) hu).trans (by simp [Tr.list])).symm, hb.2.2.1, by rw [Tr.deep_node]; omega, by rw [Tr.deep_node]; simp [Tr.deep], Below.refl _ _⟩)
  clear h hb hu
  simp only [Tr.addr] at c3
  obtain ⟨la, hr⟩ : ∃ la, la = l.addr := ⟨_, rfl⟩
  rw [← hr] at c2
  have HR := Lib.hid hr
  clear hr
  go_enter Try.func27, Try.ntmps27
  go_wp2_with fail
  refine O.out.mono ?_
  rintro e w1 ⟨rfl, rfl⟩
  go_wp2
  go_ret
  exact ⟨l, congrArg (fun p => Ending.returned (.pointer p)) HR.out, X⟩
set_option maxHeartbeats 4000000 in
theorem drop_full {b b1 : Nat} {k v0 k1 v1 : Int} {l r1 r2 : Tr} {w : World} (h : (node b k v0 l (node b1 k1 v1 r1 r2)).Lies w) (hu : Up (node b k v0 l (node b1 k1 v1 r1 r2)).list) (hb : (node b k v0 l (node b1 k1 v1 r1 r2)).Bal) (hn : (node b k v0 l (node b1 k1 v1 r1 r2)).list.length < 4000000000000000000) :
    Calls Try.prog 27 #[.pointer (some ⟨b, 0, none⟩), ordV, .int .i64 k] w fun e w' => ∃ t' : Tr, e = .returned (.pointer t'.addr) ∧ Hid (Drops (del k (node b k v0 l (node b1 k1 v1 r1 r2)).list) (node b k v0 l (node b1 k1 v1 r1 r2)) w t' w') := by
  obtain ⟨g1, g2, bl, br⟩ := hb
  rw [Tr.len_node] at hn
  have c0 := h.c0
  have c3 := h.c3
  obtain ⟨b2, k2, v2, q, hf, hfl, hrl⟩ := first_of h.2.2 Tr.noConfusion
  have hlen : (node b1 k1 v1 r1 r2).list.tail.length ≤ (node b1 k1 v1 r1 r2).list.length := by simp
  have K0 : Hid (w.drew.cell? ⟨b, 2, none⟩ = some (.pointer l.addr) ∧ w.drew.cell? ⟨b, 3, none⟩ = some (.pointer (some ⟨b1, 0, none⟩))) := ⟨h.c2, h.c3⟩
  have L : Hid (∀ W, Below w.heap.size w W → Calls Try.prog 37 #[.pointer (some ⟨b1, 0, none⟩)] W fun e w' => e = .returned (.pointer (some ⟨b2, 0, none⟩)) ∧ w' = W) := fun W hW => by
    have := least_any (h.below hW).2.2 Tr.noConfusion
    rw [hf] at this
    exact this
  have T1 : Hid (Calls Try.prog 38 #[.pointer (some ⟨b1, 0, none⟩)] w.drew fun e w' => ∃ t' : Tr, e = .returned (.pointer t'.addr) ∧ (w'.cell? ⟨b, 2, none⟩ = some (.pointer l.addr) ∧ w'.cell? ⟨b, 3, none⟩ = some (.pointer (some ⟨b1, 0, none⟩))) ∧ Hid (Drops (node b1 k1 v1 r1 r2).list.tail (node b1 k1 v1 r1 r2) w t' w')) :=
    (dropLeast_any (node b1 k1 v1 r1 r2) w.drew (h.2.2.drewN 1) br (by omega) Tr.noConfusion).mono fun e w' ⟨t', he, ho⟩ =>
      have hB : Below w.heap.size w w' := (Below.refl _ w).drew.trans ho.out.2.2.2.2.2
      ⟨t', he, ⟨(h.below hB).c2, (h.below hB).c3⟩, ho.out.1, ho.out.2.1, ho.out.2.2.1, ho.out.2.2.2.1, ho.out.2.2.2.2.1, hB⟩
  have T2 : Hid (∀ t' W, Hid (Drops (node b1 k1 v1 r1 r2).list.tail (node b1 k1 v1 r1 r2) w t' W) → Calls Try.prog 36 #[.pointer (some ⟨b2, 0, none⟩), .pointer l.addr, .pointer t'.addr] W fun e w' => ∃ b', e = .returned (.pointer (some ⟨b', 0, none⟩)) ∧ (w'.cell? ⟨b, 2, none⟩ = some (.pointer l.addr) ∧ w'.cell? ⟨b, 3, none⟩ = some (.pointer (some ⟨b1, 0, none⟩))) ∧ Hid (Drops (node b1 k1 v1 r1 r2).list.tail (node b1 k1 v1 r1 r2) w t' w' ∧ (node b' k2 v2 l t').Lies w')) := fun t' W hq => by
    obtain ⟨q1, q2, q3, q4, q5, q6⟩ := hq.out
    refine (move_any (w := W) (hfl.below q6) ((h.below q6).2.1) q1 (by rw [q2]; omega)).mono fun e w' ⟨b', he, h3, h4⟩ => ?_
    have hB := q6.trans (h4.mono q6.size)
    exact ⟨b', he, ⟨(h.below hB).c2, (h.below hB).c3⟩, ⟨q1.below h4, q2, q3, q4, q5, hB⟩, h3⟩
  have T3 : Hid (∀ t' b' W, Hid (Drops (node b1 k1 v1 r1 r2).list.tail (node b1 k1 v1 r1 r2) w t' W ∧ (node b' k2 v2 l t').Lies W) → Calls Try.prog 35 #[.pointer (some ⟨b', 0, none⟩)] W fun e w' => ∃ t2 : Tr, e = .returned (.pointer t2.addr) ∧ (w'.cell? ⟨b, 2, none⟩ = some (.pointer l.addr) ∧ w'.cell? ⟨b, 3, none⟩ = some (.pointer (some ⟨b1, 0, none⟩))) ∧ Hid (Drops (del k (node b k v0 l (node b1 k1 v1 r1 r2)).list) (node b k v0 l (node b1 k1 v1 r1 r2)) w t2 w')) := fun t' b' W hq => by
    obtain ⟨⟨q1, q2, q3, q4, q5, q6⟩, q7⟩ := hq.out
    refine (even_any q7 (by rw [q2]; omega) bl q3 (by omega) (by omega)).mono fun e w' ⟨t2, he, ho⟩ => ?_
    obtain ⟨e1, e2, e3, e4, e5, e6, e7⟩ := ho.out
    have hB := q6.trans (e7.mono q6.size)
    refine ⟨t2, he, ⟨(h.below hB).c2, (h.below hB).c3⟩, e1, ?_, e3, ?_, ?_, hB⟩
    · rw [e2, q2, ← hrl, Tr.list_node b k v0, del_at (e := (k, v0)) hu]
    · rw [Tr.deep_node b k v0]; omega
    · rw [Tr.deep_node b k v0]; omega
  have O := Lib.hid (order_eq k w)
  have HB : Hid (Below w.heap.size w w.drew) := (Below.refl _ w).drew
  have hBD : Hid (∀ t' W, Hid (Drops (node b1 k1 v1 r1 r2).list.tail (node b1 k1 v1 r1 r2) w t' W) → Below w.heap.size w W) := fun t' W hq => hq.out.2.2.2.2.2
  rw [show (node b1 k1 v1 r1 r2).addr = some ⟨b1, 0, none⟩ from rfl] at c3
  clear h hu hn g1 g2 bl br hf hfl hrl hlen
  generalize l.addr = la at *
  go_enter Try.func27, Try.ntmps27
  go_wp2_with fail
  refine O.out.mono ?_
  rintro e w1 ⟨rfl, rfl⟩
  go_wp2_with fail
  clear c3
  go_region_held3 (fun w' => w'.cell? ⟨b, 2, none⟩ = some (.pointer la) ∧ w'.cell? ⟨b, 3, none⟩ = some (.pointer (some ⟨b1, 0, none⟩))) (first | exact K0.out | assumption) (first
    | (go_at_call 37; refine (L.out _ (hBD.out _ _ ho1)).mono ?_; rintro e w5 ⟨rfl, rfl⟩)
    | (go_at_call 37; refine (L.out _ HB.out).mono ?_; rintro e w5 ⟨rfl, rfl⟩)
    | (go_at_call 38; refine T1.out.mono ?_; rintro e w2 ⟨t1, rfl, hk2, ho1⟩)
    | (go_at_call 36; refine (T2.out _ _ ho1).mono ?_; rintro e w3 ⟨b3, rfl, hk3, ho2⟩)
    | (go_at_call 35; refine (T3.out _ _ _ ho2).mono ?_; rintro e w4 ⟨t4, rfl, hk4, ho3⟩))
  all_goals (
    go_wp2
    go_ret
    exact ⟨_, rfl, ho3⟩)
theorem drop_any (k : Int) (t : Tr) : ∀ w : World, t.Lies w → Up t.list → t.Bal → t.list.length < 4000000000000000000 →
    Calls Try.prog 27 #[.pointer t.addr, ordV, .int .i64 k] w fun e w' => ∃ t' : Tr, e = .returned (.pointer t'.addr) ∧ Hid (Drops (del k t.list) t w t' w') := by
  induction t with
  | nil => exact fun w _ _ _ _ => drop_nil k w
  | node b k0 v0 l r ihl ihr =>
    intro w h hu hb hn
    have hp := Up.parts hu
    have hn' := hn
    rw [Tr.len_node] at hn'
    rcases Int.lt_trichotomy k k0 with hk | rfl | hk
    · exact drop_below h hu hb hn hk (ihl w.drew (h.2.1.drewN 1) hp.1 hb.2.2.1 (by omega))
    · cases r with
      | nil => exact drop_bare h hu hb
      | node b1 k1 v1 r1 r2 => exact drop_full h hu hb hn
    · exact drop_above h hu hb hn hk (ihr w.drew (h.2.2.drewN 1) hp.2.1 hb.2.2.2 (by omega))
end Go.Proofs.Ytaoiadejafaleaa
