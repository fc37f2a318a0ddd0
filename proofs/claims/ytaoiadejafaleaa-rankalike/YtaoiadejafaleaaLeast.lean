/-
  least and dropLeast of package rank (keys and things are ints) by their contracts: the part of the least key; all but it.
-/
import Derived.Test.YtaoiadejafaleaaEven
namespace Go.Proofs.Ytaoiadejafaleaa
open Go.RowKit
open Tr (node)
/-- the part at which the least key stands. -/
def Tr.first : Tr → Tr
  | .nil => .nil
  | .node b k v .nil r => .node b k v .nil r
  | .node _ _ _ (.node b k v l r) _ => (Tr.node b k v l r).first
theorem first_of {t : Tr} {w : World} (h : t.Lies w) (hn : t ≠ .nil) : ∃ b k v r, t.first = node b k v .nil r ∧ (node b k v .nil r).Lies w ∧ t.list = (k, v) :: t.list.tail := by
  induction t with
  | nil => exact absurd rfl hn
  | node b k v l r ihl _ =>
    cases l with
    | nil => exact ⟨b, k, v, r, rfl, h, rfl⟩
    | node b1 k1 v1 l1 r1 =>
      obtain ⟨b2, k2, v2, r2, h1, h2, h3⟩ := ihl h.2.1 (fun h => by cases h)
      refine ⟨b2, k2, v2, r2, h1, h2, ?_⟩
      rw [Tr.list_node, h3]
      rfl
set_option maxHeartbeats 1000000 in
theorem least_any {t : Tr} {w : World} (h : t.Lies w) (hn : t ≠ .nil) : Calls Try.prog 37 #[.pointer t.addr] w fun e w' => e = .returned (.pointer t.first.addr) ∧ w' = w := by
  go_enter Try.func37, Try.ntmps37
  go_wp2_with fail
  go_loopw [0] (fun i wr => wr = w ∧ ∃ p : Tr, i = .pointer p.addr ∧ Hid (p.Lies w ∧ p ≠ .nil ∧ p.first = t.first)) (fun i _ => Tr.many i w)
  case atStart => exact ⟨rfl, t, rfl, h, hn, rfl⟩
  case round =>
    obtain ⟨rfl, p, rfl, hp⟩ := hrel
    obtain ⟨h1, h2, h3⟩ := hp.out
    clear hp
    cases p with
    | nil => exact absurd rfl h2
    | node b k v l r =>
      have c2 := h1.c2
      have X1 := Lib.hid h1
      have X3 := Lib.hid h3
      clear h h1 h2 h3
      cases l with
      | nil =>
        simp only [Tr.addr] at c2 ⊢
        go_wp2
        go_ret
        exact ⟨by rw [← X3.out]; rfl, rfl⟩
      | node b1 k1 v1 l1 r1 =>
        simp only [Tr.addr] at c2 ⊢
        go_wp2
        go_roundw
        case rel => exact ⟨trivial, node b1 k1 v1 l1 r1, rfl, Lib.hid ⟨X1.out.2.1, Tr.noConfusion, X3.out⟩⟩
        case measure =>
          have e1 := X1.out.many
          have e2 := X1.out.2.1.many
          simp only [Tr.addr] at e1 e2
          rw [e1, e2, Tr.len_node b k v]; omega
/-- what is dropped: the row behind, as even as it was. -/
def Drops (xs : List (Int × Int)) (t : Tr) (w : World) (t' : Tr) (w' : World) : Prop := t'.Lies w' ∧ t'.list = xs ∧ t'.Bal ∧ t'.deep ≤ t.deep ∧ t.deep ≤ t'.deep + 1 ∧ Below w.heap.size w w'
theorem dropLeast_top {b : Nat} {k v : Int} {r : Tr} {w : World} (h : (node b k v .nil r).Lies w) (hb : (node b k v .nil r).Bal) :
    Calls Try.prog 38 #[.pointer (some ⟨b, 0, none⟩)] w fun e w' => ∃ t' : Tr, e = .returned (.pointer t'.addr) ∧ Hid (Drops (node b k v .nil r).list.tail (node b k v .nil r) w t' w') := by
  have c2 := h.c2
  have c3 := h.c3
  have X := Lib.hid (show Drops (node b k v .nil r).list.tail (node b k v .nil r) w r w from ⟨h.2.2, rfl, hb.2.2.2, by rw [Tr.deep_node]; omega, by rw [Tr.deep_node]; simp [Tr.deep], Below.refl _ _⟩)
  clear h hb
  simp only [Tr.addr] at c2
  have hr : ∃ ra, ra = r.addr := ⟨_, rfl⟩
  obtain ⟨ra, hr⟩ := hr
  rw [← hr] at c3
  have HR := Lib.hid hr
  clear hr
  go_enter Try.func38, Try.ntmps38
  go_wp2
  go_ret
  exact ⟨r, congrArg (fun p => Ending.returned (.pointer p)) HR.out, X⟩
set_option maxHeartbeats 2000000 in
theorem dropLeast_more {b : Nat} {k v : Int} {l r : Tr} {w : World} (h : (node b k v l r).Lies w) (hb : (node b k v l r).Bal) (hn : (node b k v l r).list.length < 4000000000000000000) {bl : Nat} (hl : l.addr = some ⟨bl, 0, none⟩) (hc : l.list ≠ [])
    (ih : Calls Try.prog 38 #[.pointer l.addr] w.drew fun e w' => ∃ t' : Tr, e = .returned (.pointer t'.addr) ∧ Hid (Drops l.list.tail l w.drew t' w')) :
    Calls Try.prog 38 #[.pointer (some ⟨b, 0, none⟩)] w fun e w' => ∃ t' : Tr, e = .returned (.pointer t'.addr) ∧ Hid (Drops (node b k v l r).list.tail (node b k v l r) w t' w') := by
  obtain ⟨b1, b2, bl', br⟩ := hb
  rw [Tr.len_node] at hn
  have c2 := h.c2
  rw [hl] at c2
  have K0 : Hid (w.drew.cell? ⟨b, 2, none⟩ = some (.pointer (some ⟨bl, 0, none⟩)) ∧ w.drew.cell? ⟨b, 3, none⟩ = some (.pointer r.addr)) := ⟨c2, h.c3⟩
  have hlt : l.list.tail.length < l.list.length := by
    cases hx : l.list with
    | nil => exact absurd hx hc
    | cons a x => simp
  rw [hl] at ih
  have T1 : Hid (Calls Try.prog 38 #[.pointer (some ⟨bl, 0, none⟩)] w.drew fun e w' => ∃ t' : Tr, e = .returned (.pointer t'.addr) ∧ (w'.cell? ⟨b, 2, none⟩ = some (.pointer (some ⟨bl, 0, none⟩)) ∧ w'.cell? ⟨b, 3, none⟩ = some (.pointer r.addr)) ∧ Hid (Drops l.list.tail l w t' w')) :=
    ih.mono fun e w' ⟨t', he, ho⟩ =>
      have hB : Below w.heap.size w w' := (Below.refl _ w).drew.trans ho.out.2.2.2.2.2
      ⟨t', he, ⟨hl ▸ (h.below hB).c2, (h.below hB).c3⟩, ho.out.1, ho.out.2.1, ho.out.2.2.1, ho.out.2.2.2.1, ho.out.2.2.2.2.1, hB⟩
  have T2 : Hid (∀ t' W, Hid (Drops l.list.tail l w t' W) → Calls Try.prog 36 #[.pointer (some ⟨b, 0, none⟩), .pointer t'.addr, .pointer r.addr] W fun e w' => ∃ b', e = .returned (.pointer (some ⟨b', 0, none⟩)) ∧ (w'.cell? ⟨b, 2, none⟩ = some (.pointer (some ⟨bl, 0, none⟩)) ∧ w'.cell? ⟨b, 3, none⟩ = some (.pointer r.addr)) ∧ Hid (Drops l.list.tail l w t' w' ∧ (node b' k v t' r).Lies w')) := fun t' W hq => by
    obtain ⟨q1, q2, q3, q4, q5, q6⟩ := hq.out
    refine (move_any (w := W) (h.below q6) q1 ((h.below q6).2.2) (by rw [q2]; omega)).mono fun e w' ⟨b', he, h3, h4⟩ => ?_
    have hB := q6.trans (h4.mono q6.size)
    exact ⟨b', he, ⟨hl ▸ (h.below hB).c2, (h.below hB).c3⟩, ⟨q1.below h4, q2, q3, q4, q5, hB⟩, h3⟩
  have T3 : Hid (∀ t' b' W, Hid (Drops l.list.tail l w t' W ∧ (node b' k v t' r).Lies W) → Calls Try.prog 35 #[.pointer (some ⟨b', 0, none⟩)] W fun e w' => ∃ t2 : Tr, e = .returned (.pointer t2.addr) ∧ (w'.cell? ⟨b, 2, none⟩ = some (.pointer (some ⟨bl, 0, none⟩)) ∧ w'.cell? ⟨b, 3, none⟩ = some (.pointer r.addr)) ∧ Hid (Drops (node b k v l r).list.tail (node b k v l r) w t2 w')) := fun t' b' W hq => by
    obtain ⟨⟨q1, q2, q3, q4, q5, q6⟩, q7⟩ := hq.out
    refine (even_any q7 (by rw [q2]; omega) q3 br (by omega) (by omega)).mono fun e w' ⟨t2, he, ho⟩ => ?_
    obtain ⟨e1, e2, e3, e4, e5, e6, e7⟩ := ho.out
    have hB := q6.trans (e7.mono q6.size)
    refine ⟨t2, he, ⟨hl ▸ (h.below hB).c2, (h.below hB).c3⟩, e1, ?_, e3, ?_, ?_, hB⟩
    · rw [e2, q2, Tr.list_node, List.tail_append_of_ne_nil hc]
    · rw [Tr.deep_node]; omega
    · rw [Tr.deep_node]; omega
  clear h hn hl ih b1 b2 bl' br hc hlt
  generalize r.addr = ra at *
  go_enter Try.func38, Try.ntmps38
  go_wp2_with fail
  clear c2
  go_region_held3 (fun w' => w'.cell? ⟨b, 2, none⟩ = some (.pointer (some ⟨bl, 0, none⟩)) ∧ w'.cell? ⟨b, 3, none⟩ = some (.pointer ra)) (first | exact K0.out | assumption) (first
    | (go_at_call 38; refine T1.out.mono ?_; rintro e w2 ⟨t1, rfl, hk2, ho1⟩)
    | (go_at_call 36; refine (T2.out _ _ ho1).mono ?_; rintro e w3 ⟨b3, rfl, hk3, ho2⟩)
    | (go_at_call 35; refine (T3.out _ _ _ ho2).mono ?_; rintro e w4 ⟨t4, rfl, hk4, ho3⟩))
  go_wp2
  go_ret
  exact ⟨_, rfl, ho3⟩
theorem dropLeast_any (t : Tr) : ∀ w : World, t.Lies w → t.Bal → t.list.length < 4000000000000000000 → t ≠ .nil →
    Calls Try.prog 38 #[.pointer t.addr] w fun e w' => ∃ t' : Tr, e = .returned (.pointer t'.addr) ∧ Hid (Drops t.list.tail t w t' w') := by
  induction t with
  | nil => exact fun w _ _ _ h => absurd rfl h
  | node b k v l r ihl _ =>
    intro w h hb hn _
    cases l with
    | nil => exact dropLeast_top h hb
    | node b1 k1 v1 l1 r1 =>
      have hn' := hn
      rw [Tr.len_node] at hn'
      exact dropLeast_more h hb hn rfl (by simp [Tr.list]) (ihl w.drew (h.2.1.drewN 1) hb.2.2.1 (by omega) Tr.noConfusion)
end Go.Proofs.Ytaoiadejafaleaa
