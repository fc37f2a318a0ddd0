/-
  What KeyPairs's proof reads off the call's start: the table of steps and the table of turns, where the package variables read as they were laid.
-/
import Derived.Test.YtmjcdondogpceaaDoorOpen
import Derived.Test.YtmjcdondogpceaaDoorXxSum
namespace Go.Proofs.YtmjcdondogpceaaDoor
open Go.ChangeShapes Go.WideShapes Go.ChangeAt Go.RowKit
theorem gTurns : Tryd.prog.globalNamed "cortado/xx.turns" = some 1 := by kernel_rfl
theorem tTurns : (Tryd.prog.globals[1]?).map (·.type) = some 65 := by kernel_rfl
def laid2 : List (String × DataW Unit) := [("cortado/mix.steps", Rows.laid_cortado_mix_steps), ("cortado/xx.turns", Rows.laid_cortado_xx_turns)]
theorem int_cell {W : World} {enc : TypeId × Value → Unit} {sp : Nat → Bool} {held : Bool} {n : Nat} {cs : List Value} {a : Int} {x : DataW Unit × List MemPlace} (h : DataW.trod enc Tryd.prog W 0 sp held n 3 cs = some x) (hx : x.1 = .lit (.int .i64 a)) : cs[0]? = some (.int .i64 a) := by
  obtain ⟨k0, f0, rfl, _⟩ := DataW.trod_int Tryd.underlying3 h
  simp only [DataW.lit.injEq, Lit.int.injEq, true_and] at hx
  subst hx
  simp [f0]
theorem cell_lt {w : World} {a : Addr} {v : Value} (h : w.cell? a = some v) : a.block < w.heap.size := by
  rcases Nat.lt_or_ge a.block w.heap.size with h' | h'
  · exact h'
  · have : w.heap[a.block]? = none := by simp [h']
    simp [World.cell?, this] at h
theorem turns_of {W : World} {fuel : Nat} {p : List MemPlace} {cs : Array Value} (hv : W.var? Tryd.prog "cortado/xx.turns" = some cs) (hd : DataW.trod (fun _ => ()) Tryd.prog W 0 (fun _ => true) false fuel 65 cs.toList = some (Rows.laid_cortado_xx_turns, p)) : xx.Turns W := by
  obtain ⟨xs, m, _, ex, _, hl, hel⟩ := DataW.trod_array Tryd.underlying65 hd
  have hcell := World.var?_cell gTurns hv
  match xs, hl with
  | [x0, x1, x2, x3], _ =>
    simp only [Rows.laid_cortado_xx_turns, List.map_cons, List.map_nil, Prod.mk.injEq, DataW.agg.injEq, List.cons.injEq, and_true] at ex
    have e0 := hel 0 (by decide)
    have e1 := hel 1 (by decide)
    have e2 := hel 2 (by decide)
    have e3 := hel 3 (by decide)
    rw [cells3] at e0 e1 e2 e3
    have a0 := int_cell e0 ex.1.1.symm
    have a1 := int_cell e1 ex.1.2.1.symm
    have a2 := int_cell e2 ex.1.2.2.1.symm
    have a3 := int_cell e3 ex.1.2.2.2.symm
    simp at a0 a1 a2 a3
    have h0 : W.cell? ⟨1, 0, none⟩ = some (.int .i64 1) := by rw [hcell 0]; simp [a0]
    have h1 : W.cell? ⟨1, 1, none⟩ = some (.int .i64 7) := by rw [hcell 1]; simp [a1]
    have h2 : W.cell? ⟨1, 2, none⟩ = some (.int .i64 12) := by rw [hcell 2]; simp [a2]
    have h3 : W.cell? ⟨1, 3, none⟩ = some (.int .i64 18) := by rw [hcell 3]; simp [a3]
    exact ⟨cell_lt h0, h0, h1, h2, h3⟩
theorem laid2_of {W : World} (h : laidMetH Tryd.prog laid2 W) : mx.Steps W ∧ xx.Turns W := by
  rw [MakeChecks.laidMetH_plain _ _ _ (by kernel_rfl)] at h
  obtain ⟨ps, ⟨g, t, cs, fuel, p, q, hg, ht, hv, hd, ⟨g', t', cs', fuel', p', q', hg', ht', hv', hd', _, _⟩, _⟩, _, _⟩ := h
  obtain rfl := Option.some.inj (gSteps.symm.trans hg)
  obtain rfl := Option.some.inj (tSteps.symm.trans ht)
  obtain rfl := Option.some.inj (gTurns.symm.trans hg')
  obtain rfl := Option.some.inj (tTurns.symm.trans ht')
  exact ⟨steps_of hv hd, turns_of hv' hd'⟩
theorem door_met2 (os : Os) (args : Array Value) : laidMetH Tryd.prog laid2 ((World.doorLaid Tryd.prog 400 os).forCall (fun _ _ => 0) ⟨#[], args, []⟩).memory :=
  laidMetH_of_parts3 (fuel := 8) (laidMet_of_run' 8 (by kernel_rfl) (by kernel_rfl)) (by kernel_rfl) (by kernel_rfl)
end Go.Proofs.YtmjcdondogpceaaDoor
