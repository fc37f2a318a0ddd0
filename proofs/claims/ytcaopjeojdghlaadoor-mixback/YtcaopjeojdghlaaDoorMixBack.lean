/-
  For all words x and y the call cortadolaw03.MixBack(x, y) returns true, and its arguments read as they did, where the package variable cortado/mix.steps reads as the program's own text lays it, which is tied to that text (Rows.MixBackCardSaid). No other condition but the parameters' own types. The tie speaks of the pruned copy of the project (the packages that this law loads).
-/
import Derived.Test.YtcaopjeojdghlaaDoorRows
import Derived.Test.YtcaopjeojdghlaaDoorTie
import Derived.Test.YtcaopjeojdghlaaDoorCards
import Derived.Test.YtcaopjeojdghlaaDoorWalks
import Derived.WalkKit
import Derived.ProofKit
import Derived.OpenShut
import Derived.LaidMore
import Derived.SevenTiedAt
import Derived.Stop.Joined
namespace Go.Proofs.YtcaopjeojdghlaaDoor.mixBack
open Go.ChangeShapes Go.WideShapes Go.ChangeAt Go.RowKit
set_option linter.unusedVariables false      -- a walk need not use every 'w<i>' (that an integer argument fits its kind)

theorem own : ownKnob Tryd.prog.godebug = none := by kernel_rfl
theorem gSteps : Tryd.prog.globalNamed "cortado/mix.steps" = some 0 := by kernel_rfl
theorem tSteps : (Tryd.prog.globals[0]?).map (·.type) = some 31 := by kernel_rfl
theorem cells30 : Tryd.prog.cellsOf 30 = 6 := by kernel_rfl
theorem cells29 : Tryd.prog.cellsOf 29 = 2 := by kernel_rfl
theorem cells3 : Tryd.prog.cellsOf 3 = 1 := by kernel_rfl
theorem cells22 : Tryd.prog.cellsOf 22 = 1 := by kernel_rfl
def laid : List (String × DataW Unit) := [("cortado/mix.steps", Rows.laid_cortado_mix_steps)]
/-- a step of the table that reads as two numbers holds them in its two cells. -/
theorem step_cells {W : World} {enc : TypeId × Value → Unit} {sp : Nat → Bool} {held : Bool} {n : Nat} {cs : List Value} {a b : Int} {x : DataW Unit × List MemPlace} (h : DataW.trod enc Tryd.prog W 0 sp held n 29 cs = some x) (hx : x.1 = .agg [.lit (.int .i64 a), .lit (.int .u64 b)]) :
    cs[0]? = some (.int .i64 a) ∧ cs[1]? = some (.int .u64 b) := by
  obtain ⟨y0, y1, m, rfl, hl, e0, e1⟩ := trod_struct2 Tryd.underlying29 h
  simp only [DataW.agg.injEq, List.cons.injEq, and_true] at hx
  obtain ⟨k0, f0, rfl, _⟩ := DataW.trod_int Tryd.underlying3 e0
  obtain ⟨k1, f1, rfl, _⟩ := DataW.trod_int Tryd.underlying22 e1
  simp only [DataW.lit.injEq, Lit.int.injEq, true_and] at hx
  obtain ⟨rfl, rfl⟩ := hx
  rw [show Tryd.prog.cellsOf (_ : Field).type = 1 from cells3] at f0
  rw [show Tryd.prog.cellsOf (_ : Field).type = 1 from cells22] at f1
  constructor
  · have := congrArg (·[0]?) f0
    simpa using this
  · have := congrArg (·[0]?) f1
    simpa using this
/-- .. and a row of three. -/
theorem row_cells {W : World} {enc : TypeId × Value → Unit} {sp : Nat → Bool} {held : Bool} {n : Nat} {cs : List Value} {a b c d e f : Int} {x : DataW Unit × List MemPlace} (h : DataW.trod enc Tryd.prog W 0 sp held n 30 cs = some x)
    (hx : x.1 = .agg [.agg [.lit (.int .i64 a), .lit (.int .u64 b)], .agg [.lit (.int .i64 c), .lit (.int .u64 d)], .agg [.lit (.int .i64 e), .lit (.int .u64 f)]]) :
    cs[0]? = some (.int .i64 a) ∧ cs[1]? = some (.int .u64 b) ∧ cs[2]? = some (.int .i64 c) ∧ cs[3]? = some (.int .u64 d) ∧ cs[4]? = some (.int .i64 e) ∧ cs[5]? = some (.int .u64 f) := by
  obtain ⟨xs, m, _, rfl, _, hl, hel⟩ := DataW.trod_array Tryd.underlying30 h
  match xs, hl with
  | [x0, x1, x2], _ =>
    simp only [List.map_cons, List.map_nil, DataW.agg.injEq, List.cons.injEq, and_true] at hx
    have e0 := hel 0 (by decide)
    have e1 := hel 1 (by decide)
    have e2 := hel 2 (by decide)
    rw [cells29] at e0 e1 e2
    obtain ⟨a0, a1⟩ := step_cells e0 hx.1
    obtain ⟨b0, b1⟩ := step_cells e1 hx.2.1
    obtain ⟨c0, c1⟩ := step_cells e2 hx.2.2
    simp at a0 a1 b0 b1 c0 c1
    exact ⟨a0, a1, b0, b1, c0, c1⟩
/-- where the variable reads as it was laid, its cells are the table's. -/
theorem steps_of_laid {W : World} (h : laidMetH Tryd.prog laid W) : Steps W := by
  rw [MakeChecks.laidMetH_plain _ _ _ (by kernel_rfl)] at h
  obtain ⟨ps, ⟨g, t, cs, fuel, p, q, hg, ht, hv, hd, _, _⟩, _, _⟩ := h
  obtain rfl := Option.some.inj (gSteps.symm.trans hg)
  obtain rfl := Option.some.inj (tSteps.symm.trans ht)
  obtain ⟨xs, m, _, ex, _, hl, hel⟩ := DataW.trod_array Tryd.underlying31 hd
  have hcell := World.var?_cell hg hv
  match xs, hl with
  | [x0, x1], _ =>
    simp only [Rows.laid_cortado_mix_steps, List.map_cons, List.map_nil, Prod.mk.injEq, DataW.agg.injEq, List.cons.injEq, and_true] at ex
    have e0 := hel 0 (by decide)
    have e1 := hel 1 (by decide)
    rw [cells30] at e0 e1
    obtain ⟨a0, a1, a2, a3, a4, a5⟩ := row_cells e0 ex.1.1.symm
    obtain ⟨b0, b1, b2, b3, b4, b5⟩ := row_cells e1 ex.1.2.symm
    simp at a0 a1 a2 a3 a4 a5 b0 b1 b2 b3 b4 b5
    have hall : ∀ i, i < 12 → W.cell? ⟨0, i, none⟩ = tab[i]? := by
      intro i hi
      rw [hcell i]
      rcases (show i = 0 ∨ i = 1 ∨ i = 2 ∨ i = 3 ∨ i = 4 ∨ i = 5 ∨ i = 6 ∨ i = 7 ∨ i = 8 ∨ i = 9 ∨ i = 10 ∨ i = 11 from by omega) with h | h | h | h | h | h | h | h | h | h | h | h <;> subst h <;> simp [tab, a0, a1, a2, a3, a4, a5, b0, b1, b2, b3, b4, b5]
    refine ⟨?_, hall⟩
    rcases Nat.eq_zero_or_pos W.heap.size with h0 | h0
    · have := hall 0 (by decide)
      have hn : W.heap[0]? = none := by simp [h0]
      simp [World.cell?, hn, tab] at this
    · exact h0
theorem door_met (os : Os) (args : Array Value) : laidMetH Tryd.prog laid ((World.doorLaid Tryd.prog 400 os).forCall (fun _ _ => 0) ⟨#[], args, []⟩).memory :=
  laidMetH_of_parts3 (fuel := 8) (laidMet_of_run' 8 (by kernel_rfl) (by kernel_rfl)) (by kernel_rfl) (by kernel_rfl)
set_option maxRecDepth 100000 in
theorem lifted (os : Os) (started : os.Started) (H : Type) (enc : TypeId × Value → H) :
    ReturnsInHanded {} Tryd.checked os 3 .any (fun w args => (Rows.mixBackSpec.pre enc Tryd.prog Tryd.f3 [] false w args ∧ laidMetH Tryd.prog laid w) ∧ sizedMet enc Tryd.prog Tryd.f3 (OpenSpec.ofChange Rows.mixBackSpec) false w args)
      (Rows.mixBackSpec.post enc Tryd.prog Tryd.f3 false true false false) := by
  refine returnsInHanded_of_change_and (C := Tryd.checked) (X := fun w _ => laidMetH Tryd.prog laid w) (fun _ _ _ hh h => h.of_heap hh) own started (by kernel_rfl) Tryd.func3
    (ChangeSpec.witness_shaped (enc := enc) (C := Tryd.checked) (os := os) (X := fun w _ => laidMetH Tryd.prog laid w) false (World.doorLaid Tryd.prog 400 os) #[.int .u64 0, .int .u64 0] 8 rfl (World.shaped_of_RefB (by kernel_rfl) (by kernel_rfl)) (by kernel_rfl) (by kernel_rfl) (by kernel_rfl) (door_met os _)) ?_
  intro W base args ds gs before hval0 hW _ _ hL _
  have hval : ∀ (j : Nat) t v, Tryd.f3.params[j]? = some t → args[j]? = some v → Value.okWide Tryd.prog W .any base t v := hval0
  have hW' := hW
  obtain ⟨p, q, hA0, hV, rfl, hfz, hnd⟩ := hW
  have hA : DataW.TrodAll enc Tryd.prog W 0 (fun _ => true) true Tryd.f3.params.toList args.toList ds p := hA0
  rw [Tryd.params3] at hA hval
  obtain ⟨v0, vs0, d0, ds0, p0, q0, hargs, rfl, rfl, h0, r0⟩ := trodAll_cons hA
  obtain ⟨v1, vs1, d1, ds1, p1, q1, rfl, rfl, rfl, h1, r1⟩ := trodAll_cons r0
  obtain ⟨rfl, rfl, rfl⟩ := trodAll_nil r1
  obtain rfl : args = #[v0, v1] := by cases args; simp_all
  obtain ⟨rfl, rfl⟩ := trodVars_none hV
  obtain ⟨a0, rfl, rfl, rfl, w0⟩ := open_int Tryd.underlying22 (hval 0 22 v0 rfl rfl) h0
  obtain ⟨a1, rfl, rfl, rfl, w1⟩ := open_int Tryd.underlying22 (hval 1 22 v1 rfl rfl) h1
  have hS := steps_of_laid hL
  clear hA0 hval0
  simp only [List.append_nil] at hW'
  obtain ⟨x, rfl, hx⟩ := u64_nat w0
  obtain ⟨y, rfl, hy⟩ := u64_nat w1
  refine (back_walk x y hx hy W hS).mono fun e W' ⟨he, hg⟩ => ?_
  subst he
  exact ⟨_, rfl, _, _, _, [], [], [], hW', (trodAll_cons_mk (shut_bool Tryd.underlying4 _) trodAll_mk0), (trodAll_cons_mk (shut_int Tryd.underlying22 w0) (trodAll_cons_mk (shut_int Tryd.underlying22 w1) trodAll_mk0)), rfl, hg.frame _, fun h => by cases h⟩
theorem over : Rows.MixBackSaid :=
  OpenClaim.holds_of_wide 3 Tryd.f3 rfl rfl rfl rfl rfl rfl rfl ⟨rfl, rfl, rfl, rfl, rfl⟩ rfl rfl rfl rfl rfl (by kernel_rfl) Tryd.func3 (by kernel_rfl)
    (of_decide_eq_true (by kernel_rfl)) (by unfold Func.isWrapper; first | (rw [if_pos (by decide +kernel)]; kernel_rfl) | (rw [if_neg (by decide +kernel)]; exact ⟨rfl, rfl⟩))
    (fun os started H enc _ => lifted os started H enc)
/-- ████ THE STATEMENT ████ -/
theorem proved : Rows.MixBackCardSaid :=
  Claim7.holds_tied_plain_at .later [] [.data] true (true, "b6f0d584f3d04d1857217a4f2107163442d62732d8c64af8012f2fe18a085626") false
    over (fun _ h => by cases h) (by kernel_rfl) (fun _ h => by cases h) mixBack_row_tie rfl ⟨rfl, rfl⟩ (by kernel_rfl) rfl
    (fun f fn hf hfn => by
      obtain rfl : f = 3 := Option.some.inj ((show Tryd.prog.funcNamed "cortado/cortadolaw03.MixBack" = some 3 by kernel_rfl).symm.trans hf) |>.symm
      obtain rfl : fn = Tryd.f3 := (Option.some.inj (Tryd.func3.symm.trans hfn)).symm
      exact ⟨by kernel_rfl, fun j t ht => by
        rw [Tryd.params3] at ht
        have hm : t ∈ [22, 22] := by simpa using Array.mem_of_getElem? ht
        have hall : ([22, 22].all fun u => !Tryd.prog.wantsStandIn u) = true := by kernel_rfl
        exact (show Tryd.prog.wantsStandIn t = false by simpa using List.all_eq_true.1 hall t hm)⟩)
    (by kernel_rfl)
#print axioms proved
end Go.Proofs.YtcaopjeojdghlaaDoor.mixBack
