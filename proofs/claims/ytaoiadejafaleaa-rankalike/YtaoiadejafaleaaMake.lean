/-
  New, Put and Drop of a tree of ints by their contracts; what is asked of no tree.
-/
import Derived.Test.YtaoiadejafaleaaSeek
import Derived.Test.YtaoiadejafaleaaDrop
import Derived.OwnWalk
namespace Go.Proofs.Ytaoiadejafaleaa
open Go.RowKit
open Tr (node)
theorem ord_not_nil (W : World) : (binOp .eql 26 (.func (.func 8) #[] #[]) .nilFunc).run Try.prog W = .ok (.bool false) W := by kernel_rfl
theorem nil_is_nil (W : World) : (binOp .eql 26 .nilFunc .nilFunc).run Try.prog W = .ok (.bool true) W := by kernel_rfl
theorem new_any (w : World) : Calls Try.prog 7 #[ordV] w fun e w' => e = .returned (.pointer (some ⟨w.heap.size, 0, none⟩)) ∧ w' = w.alloc (.cells #[ordV, .pointer none] 58) := by
  have nn := ord_not_nil
  go_enter Try.func7, Try.ntmps7
  go_wp2
  go_ret
  exact ⟨rfl, rfl⟩
theorem new_at (w : World) : Calls Try.prog 7 #[ordV] w fun e w' => ∃ g, e = .returned (.pointer (some ⟨g, 0, none⟩)) ∧ Hid (At w' g .nil ∧ Below w.heap.size w w') :=
  (new_any w).mono fun _ _ ⟨he, hw⟩ => ⟨_, he, by rw [hw]; exact ⟨⟨heap_next rfl _, trivial, List.Pairwise.nil, trivial, by simp [Tr.list]⟩, (Below.refl _ _).alloc (Nat.le_refl _) _⟩⟩
theorem new_nil (w : World) : Calls Try.prog 7 #[.nilFunc] w fun e w' => e = .returned (.pointer none) ∧ w' = w := by
  have nn := nil_is_nil
  go_enter Try.func7, Try.ntmps7
  go_wp2
  go_ret
  exact ⟨rfl, rfl⟩
theorem tput_none (w : World) (k v : Int) : Calls Try.prog 9 #[.pointer none, .int .i64 k, .int .i64 v] w fun e w' => e = .returned (.pointer none) ∧ w' = w := by
  go_enter Try.func9, Try.ntmps9
  go_wp2
  go_ret
  exact ⟨rfl, rfl⟩
theorem tdrop_none (w : World) (k : Int) : Calls Try.prog 11 #[.pointer none, .int .i64 k] w fun e w' => e = .returned (.pointer none) ∧ w' = w := by
  go_enter Try.func11, Try.ntmps11
  go_wp2
  go_ret
  exact ⟨rfl, rfl⟩
theorem len_none (w : World) : Calls Try.prog 25 #[.pointer none] w fun e w' => e = .returned (.int .i64 0) ∧ w' = w := by
  go_enter Try.func25, Try.ntmps25
  go_wp2_with fail
  refine (whole_none w).mono ?_
  rintro e w1 ⟨rfl, rfl⟩
  go_wp2_with fail
  refine (count_any (t := .nil) (w := w1) trivial).mono ?_
  rintro e w1 ⟨rfl, rfl⟩
  go_wp2
  go_ret
  exact ⟨rfl, rfl⟩
theorem deepof_none (w : World) : Calls Try.prog 18 #[.pointer none] w fun e w' => e = .returned (.int .i64 0) ∧ w' = w := by
  go_enter Try.func18, Try.ntmps18
  go_wp2_with fail
  refine (whole_none w).mono ?_
  rintro e w1 ⟨rfl, rfl⟩
  go_wp2_with fail
  refine (deep_any (t := .nil) (w := w1) trivial).mono ?_
  rintro e w1 ⟨rfl, rfl⟩
  go_wp2
  go_ret
  exact ⟨rfl, rfl⟩
theorem at_none (w : World) (i : Int) : Calls Try.prog 24 #[.pointer none, .int .i64 i] w fun e w' => e = .returned (.tuple #[.int .i64 0, .int .i64 0, .bool false]) ∧ w' = w := by
  go_enter Try.func24, Try.ntmps24
  go_wp2_with fail
  refine (whole_none w).mono ?_
  rintro e w1 ⟨rfl, rfl⟩
  go_wp2_with fail
  go_loopw [1, 7] (fun x p wr => x = .int .i64 i ∧ p = .pointer none ∧ wr = w1) (fun _ _ _ => 0)
  case atStart => exact ⟨rfl, rfl, rfl⟩
  case round =>
    obtain ⟨rfl, rfl, rfl⟩ := hrel
    go_wp2
    go_ret3
    exact ⟨rfl, rfl⟩
/-- how a tree is made of a row of parts. -/
theorem At.of_parts {w2 : World} {t : Tr} (hl : t.Lies w2) (hu : Up t.list) (hb : t.Bal) (hn : t.list.length < 1000000000000000000) : At (w2.alloc (.cells #[ordV, .pointer t.addr] 58)) w2.heap.size t := ⟨heap_next rfl _, hl.alloc _, hu, hb, hn⟩
set_option maxHeartbeats 2000000 in
theorem tput_some {w : World} {g : Nat} {t : Tr} (h : At w g t) (hn : t.list.length + 1 < 1000000000000000000) (k v : Int) :
    Calls Try.prog 9 #[.pointer (some ⟨g, 0, none⟩), .int .i64 k, .int .i64 v] w fun e w' => ∃ g' t', e = .returned (.pointer (some ⟨g', 0, none⟩)) ∧ Hid (At w' g' t' ∧ t'.list = ins k v t.list ∧ Below w.heap.size w w') := by
  have K0 : Hid (w.drew.cell? ⟨g, 0, none⟩ = some ordV ∧ w.drew.cell? ⟨g, 1, none⟩ = some (.pointer t.addr)) := ⟨h.c0, h.c1⟩
  have T : Hid (Calls Try.prog 26 #[.pointer t.addr, ordV, .int .i64 k, .int .i64 v] w.drew fun e w' => ∃ t' : Tr, e = .returned (.pointer t'.addr) ∧ (w'.cell? ⟨g, 0, none⟩ = some ordV ∧ w'.cell? ⟨g, 1, none⟩ = some (.pointer t.addr)) ∧ Hid (At (w'.alloc (.cells #[ordV, .pointer t'.addr] 58)) w'.heap.size t' ∧ t'.list = ins k v t.list ∧ Below w.heap.size w w')) :=
    (put_any k v t w.drew (h.lies.drewN 1) h.up h.bal (by have := h.fits; omega)).mono fun e w' ⟨t', he, ho⟩ => by
      obtain ⟨q1, q2, q3, q4, q5, q6⟩ := ho.out
      have hB : Below w.heap.size w w' := (Below.refl _ w).drew.trans q6
      refine ⟨t', he, ⟨(h.below hB).c0, (h.below hB).c1⟩, At.of_parts q1 (by rw [q2]; exact h.up.ins v) q3 ?_, q2, hB⟩
      have := ins_len (k := k) (xs := t.list) v
      rw [q2]; omega
  clear h hn
  generalize t.addr = ta at *
  go_enter Try.func9, Try.ntmps9
  go_wp2_with fail
  go_region_held3 (fun w' => w'.cell? ⟨g, 0, none⟩ = some ordV ∧ w'.cell? ⟨g, 1, none⟩ = some (.pointer ta)) (first | exact K0.out | assumption | exact ⟨cell_past hk2.1, cell_past hk2.2⟩) (first
    | (go_at_call 26; refine T.out.mono ?_; rintro e w2 ⟨t2, rfl, hk2, ho⟩))
  go_wp2
  go_ret
  exact ⟨_, t2, rfl, Lib.hid ⟨ho.out.1, ho.out.2.1, ho.out.2.2.alloc ho.out.2.2.size _⟩⟩
set_option maxHeartbeats 2000000 in
theorem tdrop_some {w : World} {g : Nat} {t : Tr} (h : At w g t) (k : Int) :
    Calls Try.prog 11 #[.pointer (some ⟨g, 0, none⟩), .int .i64 k] w fun e w' => ∃ g' t', e = .returned (.pointer (some ⟨g', 0, none⟩)) ∧ Hid (At w' g' t' ∧ t'.list = del k t.list ∧ Below w.heap.size w w') := by
  have K0 : Hid (w.drew.cell? ⟨g, 0, none⟩ = some ordV ∧ w.drew.cell? ⟨g, 1, none⟩ = some (.pointer t.addr)) := ⟨h.c0, h.c1⟩
  have T : Hid (Calls Try.prog 27 #[.pointer t.addr, ordV, .int .i64 k] w.drew fun e w' => ∃ t' : Tr, e = .returned (.pointer t'.addr) ∧ (w'.cell? ⟨g, 0, none⟩ = some ordV ∧ w'.cell? ⟨g, 1, none⟩ = some (.pointer t.addr)) ∧ Hid (At (w'.alloc (.cells #[ordV, .pointer t'.addr] 58)) w'.heap.size t' ∧ t'.list = del k t.list ∧ Below w.heap.size w w')) :=
    (drop_any k t w.drew (h.lies.drewN 1) h.up h.bal (by have := h.fits; omega)).mono fun e w' ⟨t', he, ho⟩ => by
      obtain ⟨q1, q2, q3, q4, q5, q6⟩ := ho.out
      have hB : Below w.heap.size w w' := (Below.refl _ w).drew.trans q6
      refine ⟨t', he, ⟨(h.below hB).c0, (h.below hB).c1⟩, At.of_parts q1 (by rw [q2]; exact h.up.del) q3 ?_, q2, hB⟩
      have := del_len (k := k) (xs := t.list)
      have := h.fits
      rw [q2]; omega
  clear h
  generalize t.addr = ta at *
  go_enter Try.func11, Try.ntmps11
  go_wp2_with fail
  go_region_held3 (fun w' => w'.cell? ⟨g, 0, none⟩ = some ordV ∧ w'.cell? ⟨g, 1, none⟩ = some (.pointer ta)) (first | exact K0.out | assumption | exact ⟨cell_past hk2.1, cell_past hk2.2⟩) (first
    | (go_at_call 27; refine T.out.mono ?_; rintro e w2 ⟨t2, rfl, hk2, ho⟩))
  go_wp2
  go_ret
  exact ⟨_, t2, rfl, Lib.hid ⟨ho.out.1, ho.out.2.1, ho.out.2.2.alloc ho.out.2.2.size _⟩⟩
end Go.Proofs.Ytaoiadejafaleaa
