/-
  What the laws' proofs read off the call's start: the table of turns where the package variable reads as it was laid, and a slice of bytes that came in.
-/
import Derived.Test.YtamimgcgimffgaaDoorWalks
import Derived.WalkKit
import Derived.ProofKit
import Derived.OpenShut
import Derived.LaidMore
import Derived.SevenTiedAt
import Derived.Stop.Joined
namespace Go.Proofs.YtamimgcgimffgaaDoor
open Go.ChangeShapes Go.WideShapes Go.ChangeAt Go.RowKit
theorem gTurns : Tryd.prog.globalNamed "cortado/xx.turns" = some 0 := by kernel_rfl
theorem tTurns : (Tryd.prog.globals[0]?).map (·.type) = some 48 := by kernel_rfl
theorem cells3 : Tryd.prog.cellsOf 3 = 1 := by kernel_rfl
def laid : List (String × DataW Unit) := [("cortado/xx.turns", Rows.laid_cortado_xx_turns)]
theorem int_cell {W : World} {enc : TypeId × Value → Unit} {sp : Nat → Bool} {held : Bool} {n : Nat} {cs : List Value} {a : Int} {x : DataW Unit × List MemPlace} (h : DataW.trod enc Tryd.prog W 0 sp held n 3 cs = some x) (hx : x.1 = .lit (.int .i64 a)) : cs[0]? = some (.int .i64 a) := by
  obtain ⟨k0, f0, rfl, _⟩ := DataW.trod_int Tryd.underlying3 h
  simp only [DataW.lit.injEq, Lit.int.injEq, true_and] at hx
  subst hx
  simp [f0]
/-- where the variable reads as it was laid, its cells are the table's. -/
theorem turns_of_laid {W : World} (h : laidMetH Tryd.prog laid W) : Turns W := by
  rw [MakeChecks.laidMetH_plain _ _ _ (by kernel_rfl)] at h
  obtain ⟨ps, ⟨g, t, cs, fuel, p, q, hg, ht, hv, hd, _, _⟩, _, _⟩ := h
  obtain rfl := Option.some.inj (gTurns.symm.trans hg)
  obtain rfl := Option.some.inj (tTurns.symm.trans ht)
  obtain ⟨xs, m, _, ex, _, hl, hel⟩ := DataW.trod_array Tryd.underlying48 hd
  have hcell := World.var?_cell hg hv
  match xs, hl with
  | [x0, x1, x2, x3], _ =>
    simp only [Rows.laid_cortado_xx_turns, List.map_cons, List.map_nil, Prod.mk.injEq, DataW.agg.injEq, List.cons.injEq, and_true] at ex
    have e0 := hel 0 (by decide)
    have e1 := hel 1 (by decide)
    have e2 := hel 2 (by decide)
    have e3 := hel 3 (by decide)
    rw [cells3] at e0 e1 e2 e3
    have a0 := int_cell e0 ex.1.1.symm
    have a1 := int_cell e1 ex.1.2.1.symm
    have a2 := int_cell e2 ex.1.2.2.1.symm
    have a3 := int_cell e3 ex.1.2.2.2.symm
    simp at a0 a1 a2 a3
    have h0 : W.cell? ⟨0, 0, none⟩ = some (.int .i64 1) := by rw [hcell 0]; simp [a0]
    have h1 : W.cell? ⟨0, 1, none⟩ = some (.int .i64 7) := by rw [hcell 1]; simp [a1]
    have h2 : W.cell? ⟨0, 2, none⟩ = some (.int .i64 12) := by rw [hcell 2]; simp [a2]
    have h3 : W.cell? ⟨0, 3, none⟩ = some (.int .i64 18) := by rw [hcell 3]; simp [a3]
    exact ⟨cell_lt h0, h0, h1, h2, h3⟩
theorem door_met (os : Os) (args : Array Value) : laidMetH Tryd.prog laid ((World.doorLaid Tryd.prog 400 os).forCall (fun _ _ => 0) ⟨#[], args, []⟩).memory :=
  laidMetH_of_parts3 (fuel := 8) (laidMet_of_run' 8 (by kernel_rfl) (by kernel_rfl)) (by kernel_rfl) (by kernel_rfl)
theorem bytes_row {w : World} {x : Addr} {len cap : Nat} {zs : List Int} (hl : len ≤ cap) (hz : zs.length = cap) (hc : ∀ i, i < zs.length → w.cell? (x.add i) = some (.int .u8 (zs.getD i 0))) (hw : ∀ n ∈ zs, (Lit.int .u8 n).wf = true) :
    ∃ l, Row w (some x) len l ∧ bytes l ∧ len ≤ cap := by
  refine ⟨(zs.take len).map Int.toNat, ⟨by rw [List.length_map, List.length_take]; omega, fun h0 => ?_⟩, fun b hb => ?_, hl⟩
  · obtain ⟨b, off, rfl, hc'⟩ := ints_at hc (by omega)
    refine ⟨b, off, rfl, fun i hi => ?_⟩
    have hi' : i < zs.length := by omega
    rw [hc' i hi']
    have e1 : zs.getD i 0 = zs[i] := by simp [List.getD, hi']
    have e2 : ((zs.take len).map Int.toNat).getD i 0 = zs[i].toNat := by simp [List.getD, hi, hi']
    have h3 := Go.bounds_u8 (hw zs[i] (List.getElem_mem hi'))
    rw [e1, e2, Int.toNat_of_nonneg h3.1]
  · obtain ⟨n, hn, rfl⟩ := List.mem_map.mp hb
    have h3 := Go.bounds_u8 (hw n (List.mem_of_mem_take hn))
    omega
end Go.Proofs.YtamimgcgimffgaaDoor
