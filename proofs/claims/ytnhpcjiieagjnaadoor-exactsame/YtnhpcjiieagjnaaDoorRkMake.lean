/-
  New, Put and Drop of a tree of ints by their contracts; what is asked of no tree.
-/
import Derived.Test.YtnhpcjiieagjnaaDoorRkAsk
import Derived.OwnWalk
namespace Go.Proofs.YtnhpcjiieagjnaaDoor.rk
open Go.RowKit
open Tr (node)
theorem ord_not_nil (W : World) : (binOp .eql 82 (.func (.func 44) #[] #[]) .nilFunc).run Tryd.prog W = .ok (.bool false) W := by kernel_rfl
theorem new_any (w : World) : Calls Tryd.prog 43 #[ordV] w fun e w' => e = .returned (.pointer (some ⟨w.heap.size, 0, none⟩)) ∧ w' = w.alloc (.cells #[ordV, .pointer none] 90) := by
  have nn := ord_not_nil
  go_enter Tryd.func43, Tryd.ntmps43
  go_wp2
  go_ret
  exact ⟨rfl, rfl⟩
theorem new_at (w : World) : Calls Tryd.prog 43 #[ordV] w fun e w' => ∃ g, e = .returned (.pointer (some ⟨g, 0, none⟩)) ∧ Hid (At w' g .nil ∧ Below w.heap.size w w') :=
  (new_any w).mono fun _ _ ⟨he, hw⟩ => ⟨_, he, by rw [hw]; exact ⟨⟨heap_next rfl _, trivial, List.Pairwise.nil, trivial, by simp [Tr.list]⟩, (Below.refl _ _).alloc (Nat.le_refl _) _⟩⟩
/-- how a tree is made of a row of parts. -/
theorem At.of_parts {w2 : World} {t : Tr} (hl : t.Lies w2) (hu : Up t.list) (hb : t.Bal) (hn : t.list.length < 1000000000000000000) : At (w2.alloc (.cells #[ordV, .pointer t.addr] 90)) w2.heap.size t := ⟨heap_next rfl _, hl.alloc _, hu, hb, hn⟩
theorem cell_past4 {w : World} {o : Obj} {p q r t : Addr} {a b c d : Value} (h : w.cell? p = some a ∧ w.cell? q = some b ∧ w.cell? r = some c ∧ w.cell? t = some d) : (w.alloc o).cell? p = some a ∧ (w.alloc o).cell? q = some b ∧ (w.alloc o).cell? r = some c ∧ (w.alloc o).cell? t = some d := ⟨cell_past h.1, cell_past h.2.1, cell_past h.2.2.1, cell_past h.2.2.2⟩
set_option maxHeartbeats 2000000 in
theorem tput_some {w : World} {g : Nat} {t : Tr} (h : At w g t) (hn : t.list.length + 1 < 1000000000000000000) (k : Int) (v : Kn) :
    Calls Tryd.prog 25 #[.pointer (some ⟨g, 0, none⟩), .int .u64 k, kn v] w fun e w' => ∃ g' t', e = .returned (.pointer (some ⟨g', 0, none⟩)) ∧ Hid (At w' g' t' ∧ t'.list = ins k v t.list ∧ Below w.heap.size w w' ∧ w.heap.size ≤ g') := by
  obtain ⟨W1, hW1⟩ : ∃ W1, w.alloc (.cells #[.int .i64 (v.n : Int), .bool v.c] 58) = W1 := ⟨_, rfl⟩
  obtain ⟨x0, x1, hb1⟩ := kn_box hW1
  have h1 := h.below hb1
  have XB : ∀ w', Below W1.heap.size W1 w' → w'.cell? ⟨w.heap.size, 0, none⟩ = some (.int .i64 (v.n : Int)) ∧ w'.cell? ⟨w.heap.size, 1, none⟩ = some (.bool v.c) := fun w' hb => ⟨(hb.cell (p := ⟨w.heap.size, 0, none⟩) (World.block_lt_of_cell? W1 ⟨w.heap.size, 0, none⟩ x0)).trans x0, (hb.cell (p := ⟨w.heap.size, 1, none⟩) (World.block_lt_of_cell? W1 ⟨w.heap.size, 1, none⟩ x1)).trans x1⟩
  have K0 : Hid (W1.drew.cell? ⟨g, 0, none⟩ = some ordV ∧ W1.drew.cell? ⟨g, 1, none⟩ = some (.pointer t.addr) ∧ W1.drew.cell? ⟨w.heap.size, 0, none⟩ = some (.int .i64 (v.n : Int)) ∧ W1.drew.cell? ⟨w.heap.size, 1, none⟩ = some (.bool v.c)) := ⟨h1.c0, h1.c1, x0, x1⟩
  have T : Hid (Calls Tryd.prog 49 #[.pointer t.addr, ordV, .int .u64 k, kn v] W1.drew fun e w' => ∃ t' : Tr, e = .returned (.pointer t'.addr) ∧ (w'.cell? ⟨g, 0, none⟩ = some ordV ∧ w'.cell? ⟨g, 1, none⟩ = some (.pointer t.addr) ∧ w'.cell? ⟨w.heap.size, 0, none⟩ = some (.int .i64 (v.n : Int)) ∧ w'.cell? ⟨w.heap.size, 1, none⟩ = some (.bool v.c)) ∧ Hid (At (w'.alloc (.cells #[ordV, .pointer t'.addr] 90)) w'.heap.size t' ∧ t'.list = ins k v t.list ∧ Below w.heap.size w w' ∧ w.heap.size ≤ w'.heap.size)) :=
    (put_any k v t W1.drew (h1.lies.drewN 1) h1.up h1.bal (by have := h.fits; omega)).mono fun e w' ⟨t', he, ho⟩ => by
      obtain ⟨q1, q2, q3, q4, q5, q6⟩ := ho.out
      have hB : Below W1.heap.size W1 w' := (Below.refl _ W1).drew.trans q6
      have hB2 : Below w.heap.size w w' := hb1.trans (hB.mono hb1.size)
      refine ⟨t', he, ⟨(h1.below hB).c0, (h1.below hB).c1, XB _ hB⟩, At.of_parts q1 (by rw [q2]; exact h.up.ins v) q3 ?_, q2, hB2, hB2.size⟩
      have := ins_len (k := k) (xs := t.list) v
      rw [q2]; omega
  clear XB x0 x1 hb1 h1
  clear h hn
  generalize t.addr = ta at *
  go_enter Tryd.func25, Tryd.ntmps25
  go_wp2_with fail
  go_region_held3 (fun w' => w'.cell? ⟨g, 0, none⟩ = some ordV ∧ w'.cell? ⟨g, 1, none⟩ = some (.pointer ta) ∧ w'.cell? ⟨w.heap.size, 0, none⟩ = some (.int .i64 (v.n : Int)) ∧ w'.cell? ⟨w.heap.size, 1, none⟩ = some (.bool v.c)) (first | exact K0.out | assumption | exact cell_past4 hk2) (first
    | (go_at_call 49; refine T.out.mono ?_; rintro e w2 ⟨t2, rfl, hk2, ho⟩))
  go_wp2
  go_ret
  exact ⟨_, t2, rfl, Lib.hid ⟨ho.out.1, ho.out.2.1, ho.out.2.2.1.alloc ho.out.2.2.2 _, ho.out.2.2.2⟩⟩
end Go.Proofs.YtnhpcjiieagjnaaDoor.rk
