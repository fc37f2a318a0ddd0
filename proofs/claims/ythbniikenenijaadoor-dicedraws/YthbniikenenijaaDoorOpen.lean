/-
  What the laws' proofs read off the call's start: the table of steps, where the package variable reads as it was laid; a slice of ints.
-/
import Derived.Test.YthbniikenenijaaDoorDc
import Derived.WalkKit
import Derived.ProofKit
import Derived.OpenShut
import Derived.LaidMore
import Derived.SevenTiedAt
import Derived.SizedLaws
import Derived.Stop.Joined
namespace Go.Proofs.YthbniikenenijaaDoor
open Go.ChangeShapes Go.WideShapes Go.ChangeAt Go.RowKit
theorem own : ownKnob Tryd.prog.godebug = none := by kernel_rfl
theorem laidOut : laidOutB Tryd.prog = true := by kernel_rfl
theorem gSteps : Tryd.prog.globalNamed "cortado/mix.steps" = some 0 := by kernel_rfl
theorem tSteps : (Tryd.prog.globals[0]?).map (·.type) = some 46 := by kernel_rfl
theorem cells45 : Tryd.prog.cellsOf 45 = 6 := by kernel_rfl
theorem cells44 : Tryd.prog.cellsOf 44 = 2 := by kernel_rfl
theorem cells3 : Tryd.prog.cellsOf 3 = 1 := by kernel_rfl
theorem bytes3 : Tryd.prog.bytesOf 3 = 8 := by kernel_rfl
theorem cells23 : Tryd.prog.cellsOf 23 = 1 := by kernel_rfl
def laid1 : List (String × DataW Unit) := [("cortado/mix.steps", Rows.laid_cortado_mix_steps)]
set_option maxRecDepth 100000 in
/-- a step of the table that reads as two numbers holds them in its two cells. -/
theorem step_cells {W : World} {enc : TypeId × Value → Unit} {sp : Nat → Bool} {held : Bool} {n : Nat} {cs : List Value} {a b : Int} {x : DataW Unit × List MemPlace} (h : DataW.trod enc Tryd.prog W 0 sp held n 44 cs = some x) (hx : x.1 = .agg [.lit (.int .i64 a), .lit (.int .u64 b)]) :
    cs[0]? = some (.int .i64 a) ∧ cs[1]? = some (.int .u64 b) := by
  obtain ⟨y0, y1, m, rfl, hl, e0, e1⟩ := trod_struct2 Tryd.underlying44 h
  simp only [DataW.agg.injEq, List.cons.injEq, and_true] at hx
  obtain ⟨k0, f0, rfl, _⟩ := DataW.trod_int Tryd.underlying3 e0
  obtain ⟨k1, f1, rfl, _⟩ := DataW.trod_int Tryd.underlying23 e1
  simp only [DataW.lit.injEq, Lit.int.injEq, true_and] at hx
  obtain ⟨rfl, rfl⟩ := hx
  rw [show Tryd.prog.cellsOf (_ : Field).type = 1 from cells3] at f0
  rw [show Tryd.prog.cellsOf (_ : Field).type = 1 from cells23] at f1
  constructor
  · have := congrArg (·[0]?) f0
    simpa using this
  · have := congrArg (·[0]?) f1
    simpa using this
set_option maxRecDepth 100000 in
/-- .. and a row of three. -/
theorem row_cells {W : World} {enc : TypeId × Value → Unit} {sp : Nat → Bool} {held : Bool} {n : Nat} {cs : List Value} {a b c d e f : Int} {x : DataW Unit × List MemPlace} (h : DataW.trod enc Tryd.prog W 0 sp held n 45 cs = some x)
    (hx : x.1 = .agg [.agg [.lit (.int .i64 a), .lit (.int .u64 b)], .agg [.lit (.int .i64 c), .lit (.int .u64 d)], .agg [.lit (.int .i64 e), .lit (.int .u64 f)]]) :
    cs[0]? = some (.int .i64 a) ∧ cs[1]? = some (.int .u64 b) ∧ cs[2]? = some (.int .i64 c) ∧ cs[3]? = some (.int .u64 d) ∧ cs[4]? = some (.int .i64 e) ∧ cs[5]? = some (.int .u64 f) := by
  obtain ⟨xs, m, _, rfl, _, hl, hel⟩ := DataW.trod_array Tryd.underlying45 h
  match xs, hl with
  | [x0, x1, x2], _ =>
    simp only [List.map_cons, List.map_nil, DataW.agg.injEq, List.cons.injEq, and_true] at hx
    have e0 := hel 0 (by decide)
    have e1 := hel 1 (by decide)
    have e2 := hel 2 (by decide)
    rw [cells44] at e0 e1 e2
    obtain ⟨a0, a1⟩ := step_cells e0 hx.1
    obtain ⟨b0, b1⟩ := step_cells e1 hx.2.1
    obtain ⟨c0, c1⟩ := step_cells e2 hx.2.2
    simp at a0 a1 b0 b1 c0 c1
    exact ⟨a0, a1, b0, b1, c0, c1⟩
set_option maxRecDepth 100000 in
theorem tab_of {W : World} {fuel : Nat} {p : List MemPlace} {cs : Array Value} (hv : W.var? Tryd.prog "cortado/mix.steps" = some cs) (hd : DataW.trod (fun _ => ()) Tryd.prog W 0 (fun _ => true) false fuel 46 cs.toList = some (Rows.laid_cortado_mix_steps, p)) : mx.Steps W := by
  obtain ⟨xs, m, _, ex, _, hl, hel⟩ := DataW.trod_array Tryd.underlying46 hd
  have hcell := World.var?_cell gSteps hv
  match xs, hl with
  | [x0, x1], _ =>
    simp only [Rows.laid_cortado_mix_steps, List.map_cons, List.map_nil, Prod.mk.injEq, DataW.agg.injEq, List.cons.injEq, and_true] at ex
    have e0 := hel 0 (by decide)
    have e1 := hel 1 (by decide)
    rw [cells45] at e0 e1
    obtain ⟨a0, a1, a2, a3, a4, a5⟩ := row_cells e0 ex.1.1.symm
    obtain ⟨b0, b1, b2, b3, b4, b5⟩ := row_cells e1 ex.1.2.symm
    simp at a0 a1 a2 a3 a4 a5 b0 b1 b2 b3 b4 b5
    have hall : ∀ i, i < 12 → W.cell? ⟨0, i, none⟩ = mx.tab[i]? := by
      intro i hi
      rw [hcell i]
      rcases (show i = 0 ∨ i = 1 ∨ i = 2 ∨ i = 3 ∨ i = 4 ∨ i = 5 ∨ i = 6 ∨ i = 7 ∨ i = 8 ∨ i = 9 ∨ i = 10 ∨ i = 11 from by omega) with h | h | h | h | h | h | h | h | h | h | h | h <;> subst h <;> simp [mx.tab, a0, a1, a2, a3, a4, a5, b0, b1, b2, b3, b4, b5]
    refine ⟨?_, hall⟩
    rcases Nat.eq_zero_or_pos W.heap.size with h0 | h0
    · have := hall 0 (by decide)
      have hn : W.heap[0]? = none := by simp [h0]
      simp [World.cell?, hn, mx.tab] at this
    · exact h0
/-- where the variables read as they were laid, their cells are the tables'. -/
theorem laid1_of {W : World} (h : laidMetH Tryd.prog laid1 W) : mx.Steps W := by
  rw [MakeChecks.laidMetH_plain _ _ _ (by kernel_rfl)] at h
  obtain ⟨ps, ⟨g, t, cs, fuel, p, q, hg, ht, hv, hd, _, _⟩, _, _⟩ := h
  obtain rfl := Option.some.inj (gSteps.symm.trans hg)
  obtain rfl := Option.some.inj (tSteps.symm.trans ht)
  exact tab_of hv hd
theorem door_met1 (os : Os) (args : Array Value) : laidMetH Tryd.prog laid1 ((World.doorLaid Tryd.prog 400 os).forCall (fun _ _ => 0) ⟨#[], args, []⟩).memory :=
  laidMetH_of_parts3 (fuel := 8) (laidMet_of_run' 8 (by kernel_rfl) (by kernel_rfl)) (by kernel_rfl) (by kernel_rfl)

theorem add_plain (b o i : Nat) : (⟨b, o, none⟩ : Addr).add i = ⟨b, o + i, none⟩ := by simp [Addr.add]
theorem u64_nat {v : Int} (h : (Lit.int .u64 v).wf = true) : ∃ n : Nat, v = (n : Int) ∧ n < 18446744073709551616 := by
  have hb := Go.bounds_u64 h
  exact ⟨v.toNat, by omega, by omega⟩
/-- a slice of ints that can be read. -/
theorem ints_of {H : Type} {enc : TypeId × Value → H} {W : World} {held : Bool} {fuel : Nat} {a : Option Addr} {len cap : Nat} {x : DataW H × List MemPlace} (hf : DataW.trod enc Tryd.prog W 0 (fun _ => true) held fuel 22 (Value.slice a len cap).cells.toList = some x) :
    ∃ xs : List Int, xs.length = len ∧ La W a xs ∧ (a = none → xs = []) ∧ (∀ y ∈ xs, y < 9223372036854775808) ∧ (xs = [] ∨ ∃ e sp, x.1 = .slice e sp ∧ len ≤ e.length + sp.length) := by
  rcases open_ints Tryd.underlying22 Tryd.underlying3 cells3 hf with ⟨hcs, _⟩ | ⟨p, l, c, zs, hcs, _, hl, hm, hz, hx, hcell, hwz⟩
  · simp [Value.cells] at hcs
    obtain ⟨rfl, rfl, rfl⟩ := hcs
    exact ⟨[], rfl, fun h => absurd h (by simp), fun _ => rfl, by simp, .inl rfl⟩
  · simp [Value.cells] at hcs
    obtain ⟨rfl, rfl, rfl⟩ := hcs
    have hzl : len ≤ zs.length := by split at hz <;> omega
    have htl : (zs.take len).length = len := by simp [hzl]
    refine ⟨zs.take len, htl, fun h0 => ?_, (fun h => by cases h), fun y hy => ?_, .inr ⟨_, _, by rw [hx], ?_⟩⟩
    · obtain ⟨b, off, spot⟩ := p
      have hspot : spot = none := by
        have := hcell 0 (by omega)
        simpa [Addr.add] using World.cell?_spot this
      subst hspot
      refine ⟨b, off, rfl, fun i hi => ?_⟩
      have h1 := hcell i (by omega)
      rw [add_plain] at h1
      rw [h1, List.getElem_take, List.getD_eq_getElem?_getD, List.getElem?_eq_getElem (by omega)]
      rfl
    · have := Go.bounds_i64 (hwz y (List.mem_of_mem_take hy))
      omega
    · simp [lits]
      omega
end Go.Proofs.YthbniikenenijaaDoor
