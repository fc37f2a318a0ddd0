/-
  awake, the law's helper: it answers true, and what was in memory stays.
-/
import Derived.Test.YtaoiadejafaleaaAsk
import Derived.Test.YtaoiadejafaleaaMake
namespace Go.Proofs.Ytaoiadejafaleaa
open Go.RowKit
theorem awake_list : ins 20 3 (ins 10 2 (ins 30 1 ([] : List (Int × Int)))) = [(10, 2), (20, 3), (30, 1)] := by decide
set_option maxHeartbeats 2000000 in
theorem awake_any (w : World) : Calls Try.prog 6 #[] w fun e B => e = .returned (.bool true) ∧ Hid (Below w.heap.size w B) := by
  have T0 : Hid (Calls Try.prog 7 #[ordV] w fun e w' => ∃ g, e = .returned (.pointer (some ⟨g, 0, none⟩)) ∧ Hid (At w' g .nil ∧ Below w.heap.size w w')) := new_at w
  have T1 : Hid (∀ W g, Hid (At W g .nil ∧ Below w.heap.size w W) → Calls Try.prog 9 #[.pointer (some ⟨g, 0, none⟩), .int .i64 30, .int .i64 1] W fun e w' => ∃ g', e = .returned (.pointer (some ⟨g', 0, none⟩)) ∧ Hid (∃ t, At w' g' t ∧ t.list = ins 30 1 [] ∧ Below w.heap.size w w')) := fun W g h =>
    (tput_some h.out.1 (by simp [Tr.list]) 30 1).mono fun e w' ⟨g', t', he, ho⟩ => ⟨g', he, t', ho.out.1, ho.out.2.1, h.out.2.trans (ho.out.2.2.mono h.out.2.size)⟩
  have T2 : Hid (∀ W g, Hid (∃ t, At W g t ∧ t.list = ins 30 1 [] ∧ Below w.heap.size w W) → Calls Try.prog 9 #[.pointer (some ⟨g, 0, none⟩), .int .i64 10, .int .i64 2] W fun e w' => ∃ g', e = .returned (.pointer (some ⟨g', 0, none⟩)) ∧ Hid (∃ t, At w' g' t ∧ t.list = ins 10 2 (ins 30 1 []) ∧ Below w.heap.size w w')) := fun W g h => by
    obtain ⟨t, h1, h2, h3⟩ := h.out
    exact (tput_some h1 (by rw [h2]; decide) 10 2).mono fun e w' ⟨g', t', he, ho⟩ => ⟨g', he, t', ho.out.1, by rw [ho.out.2.1, h2], h3.trans (ho.out.2.2.mono h3.size)⟩
  have T3 : Hid (∀ W g, Hid (∃ t, At W g t ∧ t.list = ins 10 2 (ins 30 1 []) ∧ Below w.heap.size w W) → Calls Try.prog 9 #[.pointer (some ⟨g, 0, none⟩), .int .i64 20, .int .i64 3] W fun e w' => ∃ g', e = .returned (.pointer (some ⟨g', 0, none⟩)) ∧ Hid (∃ t, At w' g' t ∧ t.list = [(10, 2), (20, 3), (30, 1)] ∧ Below w.heap.size w w')) := fun W g h => by
    obtain ⟨t, h1, h2, h3⟩ := h.out
    exact (tput_some h1 (by rw [h2]; decide) 20 3).mono fun e w' ⟨g', t', he, ho⟩ => ⟨g', he, t', ho.out.1, by rw [ho.out.2.1, h2, awake_list], h3.trans (ho.out.2.2.mono h3.size)⟩
  have T4 : Hid (∀ W g, Hid (∃ t, At W g t ∧ t.list = [(10, 2), (20, 3), (30, 1)] ∧ Below w.heap.size w W) → Calls Try.prog 24 #[.pointer (some ⟨g, 0, none⟩), .int .i64 1] W fun e w' => e = .returned (.tuple #[.int .i64 20, .int .i64 3, .bool true]) ∧ Hid (∃ t, At w' g t ∧ t.list = [(10, 2), (20, 3), (30, 1)] ∧ Below w.heap.size w w')) := fun W g h => by
    obtain ⟨t, h1, h2, h3⟩ := h.out
    refine (at_in h1 1 (by rw [h2]; decide)).mono fun e w' ⟨he, m, hm⟩ => ⟨?_, t, hm ▸ h1.drewN m, h2, hm ▸ h3.trans ((below_drewN W m).mono h3.size)⟩
    rw [he]; simp only [h2]; rfl
  have T5 : Hid (∀ W g, Hid (∃ t, At W g t ∧ t.list = [(10, 2), (20, 3), (30, 1)] ∧ Below w.heap.size w W) → Calls Try.prog 15 #[.pointer (some ⟨g, 0, none⟩), .int .i64 15] W fun e w' => e = .returned (.tuple #[.int .i64 1, .bool false]) ∧ Hid (Below w.heap.size w w')) := fun W g h => by
    obtain ⟨t, h1, h2, h3⟩ := h.out
    refine (rank_some h1 15).mono fun e w' ⟨he, m, hm⟩ => ⟨?_, hm ▸ h3.trans ((below_drewN W m).mono h3.size)⟩
    rw [he, h2]; rfl
  go_enter Try.func6, Try.ntmps6
  go_wp2_with fail
  refine T0.out.mono ?_
  rintro e w1 ⟨g, rfl, h⟩
  go_wp2_with fail
  refine (T1.out _ _ h).mono ?_
  rintro e w2 ⟨g2, rfl, h2⟩
  go_wp2_with fail
  refine (T2.out _ _ h2).mono ?_
  rintro e w3 ⟨g3, rfl, h3⟩
  go_wp2_with fail
  refine (T3.out _ _ h3).mono ?_
  rintro e w4 ⟨g4, rfl, h4⟩
  go_wp2_with fail
  refine (T4.out _ _ h4).mono ?_
  rintro e w5 ⟨rfl, h5⟩
  go_wp2_with fail
  refine (T5.out _ _ h5).mono ?_
  rintro e w6 ⟨rfl, h6⟩
  go_wp2
  go_ret
  exact ⟨rfl, h6⟩
end Go.Proofs.Ytaoiadejafaleaa
