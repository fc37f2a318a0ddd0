/-
  order (the law's), and put, least, dropLeast and drop of package rank (keys and things are ints) by their contracts: what stands in a tree behind them.
-/
import Derived.Test.YtaoiadejafaleaaEven
namespace Go.Proofs.Ytaoiadejafaleaa
open Go.RowKit
open Tr (node)
/-- the order as a value. -/
abbrev ordV : Value := .func (.func 8) #[] #[]
theorem order_lt {a b : Int} (h : a < b) (w : World) : Calls Try.prog 8 #[.int .i64 a, .int .i64 b] w fun e w' => e = .returned (.int .i64 (-1)) ∧ w' = w := by
  go_enter Try.func8, Try.ntmps8
  go_wp2
  go_ret
  exact ⟨rfl, rfl⟩
theorem order_gt {a b : Int} (h : b < a) (w : World) : Calls Try.prog 8 #[.int .i64 a, .int .i64 b] w fun e w' => e = .returned (.int .i64 1) ∧ w' = w := by
  have h2 : ¬ a < b := by omega
  go_enter Try.func8, Try.ntmps8
  go_wp2
  go_ret
  exact ⟨rfl, rfl⟩
theorem order_eq (a : Int) (w : World) : Calls Try.prog 8 #[.int .i64 a, .int .i64 a] w fun e w' => e = .returned (.int .i64 0) ∧ w' = w := by
  go_enter Try.func8, Try.ntmps8
  go_wp2
  go_ret
  exact ⟨rfl, rfl⟩
/-- what put owes. -/
def Puts (k v : Int) (t : Tr) (w : World) (t' : Tr) (w' : World) : Prop := t'.Lies w' ∧ t'.list = ins k v t.list ∧ t'.Bal ∧ t.deep ≤ t'.deep ∧ t'.deep ≤ t.deep + 1 ∧ Below w.heap.size w w'
theorem put_nil (k v : Int) (w : World) : Calls Try.prog 26 #[.pointer none, ordV, .int .i64 k, .int .i64 v] w fun e w' => ∃ t' : Tr, e = .returned (.pointer t'.addr) ∧ Hid (Puts k v .nil w t' w') := by
  have J : Hid (Calls Try.prog 34 #[.int .i64 k, .int .i64 v, .pointer none, .pointer none] w fun e w' => ∃ b, e = .returned (.pointer (some ⟨b, 0, none⟩)) ∧ Hid ((node b k v .nil .nil).Lies w' ∧ Below w.heap.size w w')) := join_any (l := .nil) (r := .nil) k v trivial trivial (by simp [Tr.list])
  go_enter Try.func26, Try.ntmps26
  go_wp2_with fail
  refine J.out.mono ?_
  rintro e w1 ⟨b, rfl, ho⟩
  go_wp2
  go_ret
  exact ⟨node b k v .nil .nil, rfl, ho.out.1, by simp [Tr.list, ins, lo, hi], ⟨by simp [Tr.deep], by simp [Tr.deep], trivial, trivial⟩, by simp [Tr.deep], by simp [Tr.deep], ho.out.2⟩
set_option maxHeartbeats 2000000 in
theorem put_below {b : Nat} {k v k0 v0 : Int} {l r : Tr} {w : World} (h : (node b k0 v0 l r).Lies w) (hu : Up (node b k0 v0 l r).list) (hb : (node b k0 v0 l r).Bal) (hn : (node b k0 v0 l r).list.length < 4000000000000000000) (hk : k < k0)
    (ih : Calls Try.prog 26 #[.pointer l.addr, ordV, .int .i64 k, .int .i64 v] w.drew fun e w' => ∃ t' : Tr, e = .returned (.pointer t'.addr) ∧ Hid (Puts k v l w.drew t' w')) :
    Calls Try.prog 26 #[.pointer (some ⟨b, 0, none⟩), ordV, .int .i64 k, .int .i64 v] w fun e w' => ∃ t' : Tr, e = .returned (.pointer t'.addr) ∧ Hid (Puts k v (node b k0 v0 l r) w t' w') := by
  obtain ⟨b1, b2, bl, br⟩ := hb
  rw [Tr.len_node] at hn
  have c0 := h.c0
  have K0 : Hid (w.drew.cell? ⟨b, 2, none⟩ = some (.pointer l.addr) ∧ w.drew.cell? ⟨b, 3, none⟩ = some (.pointer r.addr)) := ⟨h.c2, h.c3⟩
  have T1 : Hid (Calls Try.prog 26 #[.pointer l.addr, ordV, .int .i64 k, .int .i64 v] w.drew fun e w' => ∃ t' : Tr, e = .returned (.pointer t'.addr) ∧ (w'.cell? ⟨b, 2, none⟩ = some (.pointer l.addr) ∧ w'.cell? ⟨b, 3, none⟩ = some (.pointer r.addr)) ∧ Hid (Puts k v l w t' w')) :=
    ih.mono fun e w' ⟨t', he, ho⟩ =>
      have hB : Below w.heap.size w w' := (Below.refl _ w).drew.trans ho.out.2.2.2.2.2
      ⟨t', he, ⟨(h.below hB).c2, (h.below hB).c3⟩, ho.out.1, ho.out.2.1, ho.out.2.2.1, ho.out.2.2.2.1, ho.out.2.2.2.2.1, hB⟩
  have T2 : Hid (∀ t' W, Hid (Puts k v l w t' W) → Calls Try.prog 36 #[.pointer (some ⟨b, 0, none⟩), .pointer t'.addr, .pointer r.addr] W fun e w' => ∃ b', e = .returned (.pointer (some ⟨b', 0, none⟩)) ∧ (w'.cell? ⟨b, 2, none⟩ = some (.pointer l.addr) ∧ w'.cell? ⟨b, 3, none⟩ = some (.pointer r.addr)) ∧ Hid (Puts k v l w t' w' ∧ (node b' k0 v0 t' r).Lies w')) := fun t' W hq => by
    obtain ⟨q1, q2, q3, q4, q5, q6⟩ := hq.out
    have hlen : t'.list.length ≤ l.list.length + 1 := by rw [q2]; exact ins_len v
    refine (move_any (w := W) (h.below q6) q1 ((h.below q6).2.2) (by omega)).mono fun e w' ⟨b', he, h3, h4⟩ => ?_
    have hB := q6.trans (h4.mono q6.size)
    exact ⟨b', he, ⟨(h.below hB).c2, (h.below hB).c3⟩, ⟨q1.below h4, q2, q3, q4, q5, hB⟩, h3⟩
  have T3 : Hid (∀ t' b' W, Hid (Puts k v l w t' W ∧ (node b' k0 v0 t' r).Lies W) → Calls Try.prog 35 #[.pointer (some ⟨b', 0, none⟩)] W fun e w' => ∃ t2 : Tr, e = .returned (.pointer t2.addr) ∧ (w'.cell? ⟨b, 2, none⟩ = some (.pointer l.addr) ∧ w'.cell? ⟨b, 3, none⟩ = some (.pointer r.addr)) ∧ Hid (Puts k v (node b k0 v0 l r) w t2 w')) := fun t' b' W hq => by
    obtain ⟨⟨q1, q2, q3, q4, q5, q6⟩, q7⟩ := hq.out
    have hlen : t'.list.length ≤ l.list.length + 1 := by rw [q2]; exact ins_len v
    refine (even_any q7 (by omega) q3 br (by omega) (by omega)).mono fun e w' ⟨t2, he, ho⟩ => ?_
    obtain ⟨e1, e2, e3, e4, e5, e6, e7⟩ := ho.out
    have hB := q6.trans (e7.mono q6.size)
    refine ⟨t2, he, ⟨(h.below hB).c2, (h.below hB).c3⟩, e1, ?_, e3, ?_, ?_, hB⟩
    · rw [e2, q2, Tr.list_node, ins_below hu hk]
    · rw [Tr.deep_node]; omega
    · rw [Tr.deep_node]; omega
  have O := Lib.hid (order_lt hk w)
  clear h hu hn hk ih b1 b2 bl br
  generalize l.addr = la at *
  generalize r.addr = ra at *
  go_enter Try.func26, Try.ntmps26
  go_wp2_with fail
  refine O.out.mono ?_
  rintro e w1 ⟨rfl, rfl⟩
  go_wp2_with fail
  go_region_held3 (fun w' => w'.cell? ⟨b, 2, none⟩ = some (.pointer la) ∧ w'.cell? ⟨b, 3, none⟩ = some (.pointer ra)) (first | exact K0.out | assumption) (first
    | (go_at_call 26; refine T1.out.mono ?_; rintro e w2 ⟨t1, rfl, hk2, ho1⟩)
    | (go_at_call 36; refine (T2.out _ _ ho1).mono ?_; rintro e w3 ⟨b3, rfl, hk3, ho2⟩)
    | (go_at_call 35; refine (T3.out _ _ _ ho2).mono ?_; rintro e w4 ⟨t4, rfl, hk4, ho3⟩))
  go_wp2
  go_ret
  exact ⟨_, rfl, ho3⟩
set_option maxHeartbeats 2000000 in
theorem put_above {b : Nat} {k v k0 v0 : Int} {l r : Tr} {w : World} (h : (node b k0 v0 l r).Lies w) (hu : Up (node b k0 v0 l r).list) (hb : (node b k0 v0 l r).Bal) (hn : (node b k0 v0 l r).list.length < 4000000000000000000) (hk : k0 < k)
    (ih : Calls Try.prog 26 #[.pointer r.addr, ordV, .int .i64 k, .int .i64 v] w.drew fun e w' => ∃ t' : Tr, e = .returned (.pointer t'.addr) ∧ Hid (Puts k v r w.drew t' w')) :
    Calls Try.prog 26 #[.pointer (some ⟨b, 0, none⟩), ordV, .int .i64 k, .int .i64 v] w fun e w' => ∃ t' : Tr, e = .returned (.pointer t'.addr) ∧ Hid (Puts k v (node b k0 v0 l r) w t' w') := by
  obtain ⟨b1, b2, bl, br⟩ := hb
  rw [Tr.len_node] at hn
  have c0 := h.c0
  have K0 : Hid (w.drew.cell? ⟨b, 2, none⟩ = some (.pointer l.addr) ∧ w.drew.cell? ⟨b, 3, none⟩ = some (.pointer r.addr)) := ⟨h.c2, h.c3⟩
  have T1 : Hid (Calls Try.prog 26 #[.pointer r.addr, ordV, .int .i64 k, .int .i64 v] w.drew fun e w' => ∃ t' : Tr, e = .returned (.pointer t'.addr) ∧ (w'.cell? ⟨b, 2, none⟩ = some (.pointer l.addr) ∧ w'.cell? ⟨b, 3, none⟩ = some (.pointer r.addr)) ∧ Hid (Puts k v r w t' w')) :=
    ih.mono fun e w' ⟨t', he, ho⟩ =>
      have hB : Below w.heap.size w w' := (Below.refl _ w).drew.trans ho.out.2.2.2.2.2
      ⟨t', he, ⟨(h.below hB).c2, (h.below hB).c3⟩, ho.out.1, ho.out.2.1, ho.out.2.2.1, ho.out.2.2.2.1, ho.out.2.2.2.2.1, hB⟩
  have T2 : Hid (∀ t' W, Hid (Puts k v r w t' W) → Calls Try.prog 36 #[.pointer (some ⟨b, 0, none⟩), .pointer l.addr, .pointer t'.addr] W fun e w' => ∃ b', e = .returned (.pointer (some ⟨b', 0, none⟩)) ∧ (w'.cell? ⟨b, 2, none⟩ = some (.pointer l.addr) ∧ w'.cell? ⟨b, 3, none⟩ = some (.pointer r.addr)) ∧ Hid (Puts k v r w t' w' ∧ (node b' k0 v0 l t').Lies w')) := fun t' W hq => by
    obtain ⟨q1, q2, q3, q4, q5, q6⟩ := hq.out
    have hlen : t'.list.length ≤ r.list.length + 1 := by rw [q2]; exact ins_len v
    refine (move_any (w := W) (h.below q6) ((h.below q6).2.1) q1 (by omega)).mono fun e w' ⟨b', he, h3, h4⟩ => ?_
    have hB := q6.trans (h4.mono q6.size)
    exact ⟨b', he, ⟨(h.below hB).c2, (h.below hB).c3⟩, ⟨q1.below h4, q2, q3, q4, q5, hB⟩, h3⟩
  have T3 : Hid (∀ t' b' W, Hid (Puts k v r w t' W ∧ (node b' k0 v0 l t').Lies W) → Calls Try.prog 35 #[.pointer (some ⟨b', 0, none⟩)] W fun e w' => ∃ t2 : Tr, e = .returned (.pointer t2.addr) ∧ (w'.cell? ⟨b, 2, none⟩ = some (.pointer l.addr) ∧ w'.cell? ⟨b, 3, none⟩ = some (.pointer r.addr)) ∧ Hid (Puts k v (node b k0 v0 l r) w t2 w')) := fun t' b' W hq => by
    obtain ⟨⟨q1, q2, q3, q4, q5, q6⟩, q7⟩ := hq.out
    have hlen : t'.list.length ≤ r.list.length + 1 := by rw [q2]; exact ins_len v
    refine (even_any q7 (by omega) bl q3 (by omega) (by omega)).mono fun e w' ⟨t2, he, ho⟩ => ?_
    obtain ⟨e1, e2, e3, e4, e5, e6, e7⟩ := ho.out
    have hB := q6.trans (e7.mono q6.size)
    refine ⟨t2, he, ⟨(h.below hB).c2, (h.below hB).c3⟩, e1, ?_, e3, ?_, ?_, hB⟩
    · rw [e2, q2, Tr.list_node, ins_above hu hk]
    · rw [Tr.deep_node]; omega
    · rw [Tr.deep_node]; omega
  have O := Lib.hid (order_gt hk w)
  clear h hu hn hk ih b1 b2 bl br
  generalize l.addr = la at *
  generalize r.addr = ra at *
  go_enter Try.func26, Try.ntmps26
  go_wp2_with fail
  refine O.out.mono ?_
  rintro e w1 ⟨rfl, rfl⟩
  go_wp2_with fail
  go_region_held3 (fun w' => w'.cell? ⟨b, 2, none⟩ = some (.pointer la) ∧ w'.cell? ⟨b, 3, none⟩ = some (.pointer ra)) (first | exact K0.out | assumption) (first
    | (go_at_call 26; refine T1.out.mono ?_; rintro e w2 ⟨t1, rfl, hk2, ho1⟩)
    | (go_at_call 36; refine (T2.out _ _ ho1).mono ?_; rintro e w3 ⟨b3, rfl, hk3, ho2⟩)
    | (go_at_call 35; refine (T3.out _ _ _ ho2).mono ?_; rintro e w4 ⟨t4, rfl, hk4, ho3⟩))
  go_wp2
  go_ret
  exact ⟨_, rfl, ho3⟩
set_option maxHeartbeats 2000000 in
theorem put_at {b : Nat} {k v v0 : Int} {l r : Tr} {w : World} (h : (node b k v0 l r).Lies w) (hu : Up (node b k v0 l r).list) (hb : (node b k v0 l r).Bal) (hn : (node b k v0 l r).list.length < 4000000000000000000) :
    Calls Try.prog 26 #[.pointer (some ⟨b, 0, none⟩), ordV, .int .i64 k, .int .i64 v] w fun e w' => ∃ t' : Tr, e = .returned (.pointer t'.addr) ∧ Hid (Puts k v (node b k v0 l r) w t' w') := by
  rw [Tr.len_node] at hn
  have c0 := h.c0
  have K0 : Hid (w.drew.cell? ⟨b, 2, none⟩ = some (.pointer l.addr) ∧ w.drew.cell? ⟨b, 3, none⟩ = some (.pointer r.addr)) := ⟨h.c2, h.c3⟩
  have T : Hid (Calls Try.prog 34 #[.int .i64 k, .int .i64 v, .pointer l.addr, .pointer r.addr] w.drew fun e w' => ∃ b', e = .returned (.pointer (some ⟨b', 0, none⟩)) ∧ (w'.cell? ⟨b, 2, none⟩ = some (.pointer l.addr) ∧ w'.cell? ⟨b, 3, none⟩ = some (.pointer r.addr)) ∧ Hid (Puts k v (node b k v0 l r) w (node b' k v l r) w')) :=
    (join_any (w := w.drew) k v (h.2.1.drewN 1) (h.2.2.drewN 1) (by omega)).mono fun e w' ⟨b', he, h3, h4⟩ =>
      have hB : Below w.heap.size w w' := (Below.refl _ w).drew.trans h4
      ⟨b', he, ⟨(h.below hB).c2, (h.below hB).c3⟩, h3, (ins_at hu v).symm, hb, by rw [Tr.deep_node, Tr.deep_node]; omega, by rw [Tr.deep_node, Tr.deep_node]; omega, hB⟩
  have O := Lib.hid (order_eq k w)
  clear h hu hn hb
  generalize l.addr = la at *
  generalize r.addr = ra at *
  go_enter Try.func26, Try.ntmps26
  go_wp2_with fail
  refine O.out.mono ?_
  rintro e w1 ⟨rfl, rfl⟩
  go_wp2_with fail
  go_region_held3 (fun w' => w'.cell? ⟨b, 2, none⟩ = some (.pointer la) ∧ w'.cell? ⟨b, 3, none⟩ = some (.pointer ra)) (first | exact K0.out | assumption) (first
    | (go_at_call 34; refine T.out.mono ?_; rintro e w2 ⟨b2, rfl, hk2, ho1⟩))
  go_wp2
  go_ret
  exact ⟨node b2 k v l r, rfl, ho1⟩
theorem put_any (k v : Int) (t : Tr) : ∀ w : World, t.Lies w → Up t.list → t.Bal → t.list.length < 4000000000000000000 →
    Calls Try.prog 26 #[.pointer t.addr, ordV, .int .i64 k, .int .i64 v] w fun e w' => ∃ t' : Tr, e = .returned (.pointer t'.addr) ∧ Hid (Puts k v t w t' w') := by
  induction t with
  | nil => exact fun w _ _ _ _ => put_nil k v w
  | node b k0 v0 l r ihl ihr =>
    intro w h hu hb hn
    have hp := Up.parts hu
    have hn' := hn
    rw [Tr.len_node] at hn'
    rcases Int.lt_trichotomy k k0 with hk | rfl | hk
    · exact put_below h hu hb hn hk (ihl w.drew (h.2.1.drewN 1) hp.1 hb.2.2.1 (by omega))
    · exact put_at h hu hb hn
    · exact put_above h hu hb hn hk (ihr w.drew (h.2.2.drewN 1) hp.2.1 hb.2.2.2 (by omega))
end Go.Proofs.Ytaoiadejafaleaa
