/-
  What the laws' proofs read off the call's start: the names, where the package variable reads as it was laid; a slice of calls.
-/
import Derived.Test.YtfpikafnakeijaaDoorRows
import Derived.Test.YtfpikafnakeijaaDoorTpOpen
import Derived.Test.YtfpikafnakeijaaDoorAw
import Derived.LaidMore
import Derived.SevenTiedAt
import Derived.Stop.Joined
import Derived.ChangeSame
namespace Go.Proofs.YtfpikafnakeijaaDoor
open Go.ChangeShapes Go.WideShapes Go.ChangeAt Go.RowKit tp
theorem own : ownKnob Tryd.prog.godebug = none := by kernel_rfl
theorem laidOut : laidOutB Tryd.prog = true := by kernel_rfl
theorem gNames : Tryd.prog.globalNamed "cortado/prog.names" = some 0 := by kernel_rfl
theorem tNames : (Tryd.prog.globals[0]?).map (·.type) = some 52 := by kernel_rfl
theorem cells9 : Tryd.prog.cellsOf 9 = 1 := by kernel_rfl
theorem cells25 : Tryd.prog.cellsOf 25 = 5 := by kernel_rfl
theorem cells3 : Tryd.prog.cellsOf 3 = 1 := by kernel_rfl
theorem cells5' : Tryd.prog.cellsOf 5 = 1 := by kernel_rfl
def laid1 : List (String × DataW Unit) := [("cortado/prog.names", Rows.laid_cortado_prog_names)]
theorem name_cell {W : World} {enc : TypeId × Value → Unit} {sp : Nat → Bool} {held : Bool} {n : Nat} {cs : List Value} {l : List UInt8} {x : DataW Unit × List MemPlace} (h : DataW.trod enc Tryd.prog W 0 sp held n 9 cs = some x) (hx : x.1 = .lit (.string l)) : cs[0]? = some (.string ⟨l.toArray⟩) := by
  obtain ⟨s, rfl, rfl, _⟩ := DataW.trod_string Tryd.underlying9 h
  simp only [DataW.lit.injEq, Lit.string.injEq] at hx
  obtain ⟨d⟩ := s
  subst hx
  simp
set_option maxRecDepth 100000 in
theorem tab_of {W : World} {fuel : Nat} {p : List MemPlace} {cs : Array Value} (hv : W.var? Tryd.prog "cortado/prog.names" = some cs) (hd : DataW.trod (fun _ => ()) Tryd.prog W 0 (fun _ => true) false fuel 52 cs.toList = some (Rows.laid_cortado_prog_names, p)) : Names W := by
  obtain ⟨xs, m, _, ex, _, hl, hel⟩ := DataW.trod_array Tryd.underlying52 hd
  have hcell := World.var?_cell gNames hv
  match xs, hl with
  | [x0, x1, x2, x3, x4, x5, x6, x7], _ =>
    simp only [Rows.laid_cortado_prog_names, List.map_cons, List.map_nil, Prod.mk.injEq, DataW.agg.injEq, List.cons.injEq, and_true] at ex
    obtain ⟨⟨q0, q1, q2, q3, q4, q5, q6, q7⟩, _⟩ := ex
    have e0 := hel 0 (by decide)
    have e1 := hel 1 (by decide)
    have e2 := hel 2 (by decide)
    have e3 := hel 3 (by decide)
    have e4 := hel 4 (by decide)
    have e5 := hel 5 (by decide)
    have e6 := hel 6 (by decide)
    have e7 := hel 7 (by decide)
    rw [cells9] at e0 e1 e2 e3 e4 e5 e6 e7
    have a0 := name_cell e0 q0.symm
    have a1 := name_cell e1 q1.symm
    have a2 := name_cell e2 q2.symm
    have a3 := name_cell e3 q3.symm
    have a4 := name_cell e4 q4.symm
    have a5 := name_cell e5 q5.symm
    have a6 := name_cell e6 q6.symm
    have a7 := name_cell e7 q7.symm
    simp at a0 a1 a2 a3 a4 a5 a6 a7
    have hall : ∀ i, i < 8 → W.cell? ⟨0, i, none⟩ = some (.string (nam.getD i ⟨#[]⟩)) := by
      intro i hi
      rw [hcell i]
      rcases (show i = 0 ∨ i = 1 ∨ i = 2 ∨ i = 3 ∨ i = 4 ∨ i = 5 ∨ i = 6 ∨ i = 7 by omega) with h | h | h | h | h | h | h | h <;> subst h <;> simp [nam, a0, a1, a2, a3, a4, a5, a6, a7]
    refine ⟨?_, hall⟩
    rcases Nat.eq_zero_or_pos W.heap.size with h0 | h0
    · have := hall 0 (by decide)
      have hn : W.heap[0]? = none := by simp [h0]
      simp [World.cell?, hn] at this
    · exact h0
/-- where the variable reads as it was laid, its cells are the names'. -/
theorem laid1_of {W : World} (h : laidMetH Tryd.prog laid1 W) : Names W := by
  rw [MakeChecks.laidMetH_plain _ _ _ (by kernel_rfl)] at h
  obtain ⟨ps, ⟨g, t, cs, fuel, p, q, hg, ht, hv, hd, _, _⟩, _, _⟩ := h
  obtain rfl := Option.some.inj (gNames.symm.trans hg)
  obtain rfl := Option.some.inj (tNames.symm.trans ht)
  exact tab_of hv hd
theorem door_met1 (os : Os) (args : Array Value) : laidMetH Tryd.prog laid1 ((World.doorLaid Tryd.prog 400 os).forCall (fun _ _ => 0) ⟨#[], args, []⟩).memory :=
  laidMetH_of_parts3 (fuel := 8) (laidMet_of_run' 8 (by kernel_rfl) (by kernel_rfl)) (by kernel_rfl) (by kernel_rfl)
/-- structs of five fields. -/
theorem trod_struct5 {H : Type} {enc : TypeId × Value → H} {P : Program} {w : World} {base : Nat} {spare : Nat → Bool} {held : Bool} {t : TypeId} {f0 f1 f2 f3 f4 : Field} {fuel : Nat} {cs : List Value} {x : DataW H × List MemPlace} (ht : P.underlying t = some (.struct #[f0, f1, f2, f3, f4])) (h : DataW.trod enc P w base spare held fuel t cs = some x) :
    ∃ y0 y1 y2 y3 y4 n, cs.length = P.cellsOf t ∧ DataW.trod enc P w base spare held n f0.type ((cs.drop f0.offset).take (P.cellsOf f0.type)) = some y0 ∧ DataW.trod enc P w base spare held n f1.type ((cs.drop f1.offset).take (P.cellsOf f1.type)) = some y1 ∧
      DataW.trod enc P w base spare held n f2.type ((cs.drop f2.offset).take (P.cellsOf f2.type)) = some y2 ∧ DataW.trod enc P w base spare held n f3.type ((cs.drop f3.offset).take (P.cellsOf f3.type)) = some y3 ∧ DataW.trod enc P w base spare held n f4.type ((cs.drop f4.offset).take (P.cellsOf f4.type)) = some y4 := by
  obtain ⟨xs, n, _, rfl, hl, hlen, hf⟩ := DataW.trod_struct ht h
  match xs, hlen with
  | [y0, y1, y2, y3, y4], _ => exact ⟨y0, y1, y2, y3, y4, n, hl, by simpa using hf 0 f0 rfl, by simpa using hf 1 f1 rfl, by simpa using hf 2 f2 rfl, by simpa using hf 3 f3 rfl, by simpa using hf 4 f4 rfl⟩
theorem I64_of {v : Int} (h : (Lit.int .i64 v).wf = true) : I64 v := by
  have hb := Go.bounds_i64 h
  unfold I64
  omega
/-- one call out of memory: its five cells. -/
theorem op_of {H : Type} {enc : TypeId × Value → H} {w : World} {base : Nat} {spare : Nat → Bool} {held : Bool} {n : Nat} {a : Addr} {y : DataW H × List MemPlace} (h : (w.cells? base a 5).bind (DataW.trod enc Tryd.prog w base spare held n 25) = some y) :
    ∃ o : Opn, o.ok ∧ w.cell? a = some (.int .i64 o.k) ∧ w.cell? (a.add 1) = some (.int .i64 o.key) ∧ w.cell? (a.add 2) = some (.int .i64 o.val) ∧ w.cell? (a.add 3) = some (.int .i64 o.cost) ∧ w.cell? (a.add 4) = some (.int .i64 o.ttl) := by
  rw [Option.bind_eq_some_iff] at h
  obtain ⟨cs, hcs, hy⟩ := h
  obtain ⟨y0, y1, y2, y3, y4, m, hl, e0, e1, e2, e3, e4⟩ := trod_struct5 Tryd.underlying25 hy
  rw [cells25] at hl
  match cs, hl with
  | [c0, c1, c2, c3, c4], _ =>
    simp only [cells3, List.drop_zero, List.drop_succ_cons, List.take_succ_cons, List.take_zero] at e0 e1 e2 e3 e4
    obtain ⟨x0, h0, _, w0⟩ := DataW.trod_int Tryd.underlying3 e0
    obtain ⟨x1, h1, _, w1⟩ := DataW.trod_int Tryd.underlying3 e1
    obtain ⟨x2, h2, _, w2⟩ := DataW.trod_int Tryd.underlying3 e2
    obtain ⟨x3, h3, _, w3⟩ := DataW.trod_int Tryd.underlying3 e3
    obtain ⟨x4, h4, _, w4⟩ := DataW.trod_int Tryd.underlying3 e4
    obtain ⟨_, _, hc⟩ := World.cells?_some hcs
    have c0' := hc 0 (by omega)
    have c1' := hc 1 (by omega)
    have c2' := hc 2 (by omega)
    have c3' := hc 3 (by omega)
    have c4' := hc 4 (by omega)
    simp only [List.cons.injEq, and_true] at h0 h1 h2 h3 h4
    subst h0 h1 h2 h3 h4
    exact ⟨⟨x0, x1, x2, x3, x4⟩, ⟨I64_of w0, I64_of w1, I64_of w2, I64_of w3, I64_of w4⟩, by simpa [Addr.add] using c0', by simpa using c1', by simpa using c2', by simpa using c3', by simpa using c4'⟩
theorem list_of {α : Type} {P : Nat → α → Prop} : ∀ n, (∀ i, i < n → ∃ p, P i p) → ∃ ks : List α, ks.length = n ∧ ∀ i (h : i < ks.length), P i ks[i]
  | 0, _ => ⟨[], rfl, fun i h => absurd h (by simp)⟩
  | n + 1, h => by
    obtain ⟨ks, hl, hk⟩ := list_of n fun i hi => h i (by omega)
    obtain ⟨p, hp⟩ := h n (by omega)
    refine ⟨ks ++ [p], by simp [hl], fun i hi => ?_⟩
    by_cases hi' : i < ks.length
    · rw [List.getElem_append_left hi']
      exact hk i hi'
    · obtain rfl : i = n := by simp at hi; omega
      subst hl
      simpa using hp
/-- the slice of calls that came in. -/
theorem ops_of {H : Type} {enc : TypeId × Value → H} {W : World} {held : Bool} {fuel : Nat} {a : Option Addr} {len cap : Nat} {x : DataW H × List MemPlace} (hf : DataW.trod enc Tryd.prog W 0 (fun _ => true) held fuel 22 (Value.slice a len cap).cells.toList = some x) :
    ∃ l : List Opn, l.length = len ∧ Ea W a l ∧ ∀ o ∈ l, o.ok := by
  rcases DataW.trod_slice Tryd.underlying22 hf with ⟨hcs, _⟩ | ⟨x, len', cap', elems, rest, n, _, hcs, _, _, hl, hm, hlen, hel, _, _⟩
  · simp [Value.cells] at hcs
    obtain ⟨rfl, rfl, rfl⟩ := hcs
    exact ⟨[], rfl, Ea.nil _ _, fun _ h => by cases h⟩
  · simp [Value.cells] at hcs
    obtain ⟨rfl, rfl, rfl⟩ := hcs
    rw [cells25] at hel
    obtain ⟨ks, hk, hp⟩ := list_of (P := fun i (o : Opn) => o.ok ∧ W.cell? (x.add (i * 5)) = some (.int .i64 o.k) ∧ W.cell? ((x.add (i * 5)).add 1) = some (.int .i64 o.key) ∧ W.cell? ((x.add (i * 5)).add 2) = some (.int .i64 o.val) ∧ W.cell? ((x.add (i * 5)).add 3) = some (.int .i64 o.cost) ∧ W.cell? ((x.add (i * 5)).add 4) = some (.int .i64 o.ttl)) len (fun i hi => by
      have h := hel i hi
      rw [List.getElem?_eq_getElem (by omega)] at h
      exact op_of h)
    refine ⟨ks, hk, fun h0 => ?_, fun o ho => ?_⟩
    · obtain ⟨b, off, spot⟩ := x
      have hspot : spot = none := by simpa [Addr.add] using World.cell?_spot (hp 0 h0).2.1
      subst hspot
      refine ⟨b, off, rfl, fun i hi => ?_⟩
      have := (hp i hi).2
      rw [tp.add_plain, tp.add_plain, tp.add_plain, tp.add_plain, tp.add_plain] at this
      exact this
    · obtain ⟨i, hi, rfl⟩ := List.getElem_of_mem ho
      exact (hp i hi).1
end Go.Proofs.YtfpikafnakeijaaDoor
