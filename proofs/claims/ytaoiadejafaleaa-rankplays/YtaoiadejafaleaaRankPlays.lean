/-
  RankPlays returns true for every slice of steps, and its argument reads as it did. No condition but the parameters' own types.
-/
import Derived.Test.YtaoiadejafaleaaRows
import Derived.Test.YtaoiadejafaleaaPlays
import Derived.WalkKit
import Derived.ProofKit
import Derived.OpenShut
import Derived.ChangeSlices
import Derived.ChangeSame
import Derived.Carry
namespace Go.Proofs.Ytaoiadejafaleaa.rankPlays
open Go.ChangeShapes Go.WideShapes Go.ChangeAt Go.RowKit
set_option linter.unusedVariables false
theorem own : ownKnob Try.prog.godebug = none := by kernel_rfl
theorem laidOut : laidOutB Try.prog = true := by kernel_rfl
theorem cells30 : Try.prog.cellsOf 30 = 3 := by kernel_rfl
theorem cells28 : Try.prog.cellsOf 28 = 1 := by kernel_rfl
theorem cells3 : Try.prog.cellsOf 3 = 1 := by kernel_rfl
theorem trod_three {H : Type} {enc : TypeId × Value → H} {P : Program} {w : World} {base : Nat} {spare : Nat → Bool} {held : Bool} {t : TypeId} {f0 f1 f2 : Field} {fuel : Nat} {cs : List Value} {x : DataW H × List MemPlace} (ht : P.underlying t = some (.struct #[f0, f1, f2])) (h : DataW.trod enc P w base spare held fuel t cs = some x) :
    ∃ y0 y1 y2 n, cs.length = P.cellsOf t ∧ DataW.trod enc P w base spare held n f0.type ((cs.drop f0.offset).take (P.cellsOf f0.type)) = some y0 ∧ DataW.trod enc P w base spare held n f1.type ((cs.drop f1.offset).take (P.cellsOf f1.type)) = some y1 ∧ DataW.trod enc P w base spare held n f2.type ((cs.drop f2.offset).take (P.cellsOf f2.type)) = some y2 := by
  obtain ⟨xs, n, _, _, hl, hlen, hf⟩ := DataW.trod_struct ht h
  match xs, hlen with
  | [y0, y1, y2], _ => exact ⟨y0, y1, y2, n, hl, by simpa using hf 0 f0 rfl, by simpa using hf 1 f1 rfl, by simpa using hf 2 f2 rfl⟩
/-- one step out of memory: its three cells. -/
theorem step_of {H : Type} {enc : TypeId × Value → H} {w : World} {base : Nat} {spare : Nat → Bool} {held : Bool} {n : Nat} {a : Addr} {y : DataW H × List MemPlace} (h : (w.cells? base a 3).bind (DataW.trod enc Try.prog w base spare held n 30) = some y) :
    ∃ (kd : Nat) (k x : Int), w.cell? a = some (.int .u64 (kd : Int)) ∧ w.cell? (a.add 1) = some (.int .i64 k) ∧ w.cell? (a.add 2) = some (.int .i64 x) := by
  rw [Option.bind_eq_some_iff] at h
  obtain ⟨cs, hcs, hy⟩ := h
  obtain ⟨y0, y1, y2, m, hl, e0, e1, e2⟩ := trod_three Try.underlying30 hy
  rw [cells30] at hl
  match cs, hl with
  | [c0, c1, c2], _ =>
    simp only [cells28, cells3, List.drop_zero, List.drop_succ_cons, List.take_succ_cons, List.take_zero] at e0 e1 e2
    obtain ⟨k0, h0, _, w0⟩ := DataW.trod_int Try.underlying28 e0
    obtain ⟨k1, h1, _, w1⟩ := DataW.trod_int Try.underlying3 e1
    obtain ⟨k2, h2, _, w2⟩ := DataW.trod_int Try.underlying3 e2
    have hb := Go.bounds_u64 w0
    obtain ⟨_, _, hc⟩ := World.cells?_some hcs
    have c0' := hc 0 (by omega)
    have c1' := hc 1 (by omega)
    have c2' := hc 2 (by omega)
    simp only [List.cons.injEq, and_true] at h0 h1 h2
    subst h0 h1 h2
    refine ⟨k0.toNat, k1, k2, ?_, ?_, ?_⟩
    · rw [show ((k0.toNat : Nat) : Int) = k0 by omega]
      simpa [Addr.add] using c0'
    · simpa using c1'
    · simpa using c2'
theorem add_plain (b o i : Nat) : (⟨b, o, none⟩ : Addr).add i = ⟨b, o + i, none⟩ := by simp [Addr.add]
theorem list_of {P : Nat → Nat × Int × Int → Prop} : ∀ n, (∀ i, i < n → ∃ p, P i p) → ∃ ks : List (Nat × Int × Int), ks.length = n ∧ ∀ i (h : i < ks.length), P i ks[i]
  | 0, _ => ⟨[], rfl, fun i h => absurd h (by simp)⟩
  | n + 1, h => by
    obtain ⟨ks, hl, hk⟩ := list_of n fun i hi => h i (by omega)
    obtain ⟨p, hp⟩ := h n (by omega)
    refine ⟨ks ++ [p], by simp [hl], fun i hi => ?_⟩
    by_cases hi' : i < ks.length
    · rw [List.getElem_append_left hi']
      exact hk i hi'
    · obtain rfl : i = n := by simp at hi; omega
      subst hl
      simpa using hp
/-- the slice of steps that came in. -/
theorem steps_of {H : Type} {enc : TypeId × Value → H} {w : World} {base : Nat} {spare : Nat → Bool} {held : Bool} {n : Nat} {a : Addr} {len : Nat} {elems : List (DataW H × List MemPlace)} (hlen : elems.length = len)
    (hel : ∀ i, i < len → (w.cells? base (a.add (i * 3)) 3).bind (DataW.trod enc Try.prog w base spare held n 30) = elems[i]?) : ∃ ks : List (Nat × Int × Int), ks.length = len ∧ Steps w (some a) ks := by
  obtain ⟨ks, hk, hp⟩ := list_of (P := fun i p => w.cell? (a.add (i * 3)) = some (.int .u64 (p.1 : Int)) ∧ w.cell? ((a.add (i * 3)).add 1) = some (.int .i64 p.2.1) ∧ w.cell? ((a.add (i * 3)).add 2) = some (.int .i64 p.2.2)) len (fun i hi => by
    have h := hel i hi
    rw [List.getElem?_eq_getElem (by omega)] at h
    obtain ⟨kd, k, x, h1, h2, h3⟩ := step_of h
    exact ⟨(kd, k, x), h1, h2, h3⟩)
  refine ⟨ks, hk, fun h0 => ?_⟩
  obtain ⟨b, off, spot⟩ := a
  have hspot : spot = none := by simpa [Addr.add] using World.cell?_spot (hp 0 h0).1
  subst hspot
  refine ⟨b, off, rfl, fun i hi => ?_⟩
  have := hp i hi
  rw [add_plain, add_plain, add_plain] at this
  exact this
theorem walk (a0 : Option Addr) (len0 cap0 : Nat) (w : World) (w0 : ∃ ks : List (Nat × Int × Int), ks.length = len0 ∧ Steps w a0 ks) :
    Calls Try.prog 3 #[.slice a0 len0 cap0] w fun e w' => e = .returned (.bool true) ∧ Below w.heap.size w w' := by
  obtain ⟨ks, rfl, hr⟩ := w0
  exact plays_walk a0 cap0 ks w hr

set_option maxRecDepth 100000 in
theorem lifted (os : Os) (started : os.Started) (H : Type) (enc : TypeId × Value → H) :
    ReturnsInHanded {} Try.checked os 3 .any (Rows.rankPlaysSpec.pre6 enc Try.prog Try.f3 Rows.rankPlaysRow.domain false) (Rows.rankPlaysSpec.post enc Try.prog Try.f3 false true false false) := by
  refine returnsInHanded_of_change (C := Try.checked) own started (by kernel_rfl) Try.func3
    (ChangeSpec.witness6 (enc := enc) (C := Try.checked) false ⟨#[], #[.slice none 0 0], []⟩ 8 (by kernel_rfl) (by kernel_rfl) (by kernel_rfl) (by kernel_rfl)) ?_
  intro W base args ds gs before hval0 hW hcnd _
  have hval : ∀ (j : Nat) t v, Try.f3.params[j]? = some t → args[j]? = some v → Value.okWide Try.prog W .any base t v := hval0
  have hW' := hW
  obtain ⟨p, q, hA0, hV, rfl, hfz, hnd⟩ := hW
  have hA : DataW.TrodAll enc Try.prog W 0 (fun _ => true) true Try.f3.params.toList args.toList ds p := hA0
  rw [Try.params3] at hA hval
  obtain ⟨v0, vs0, d0, ds0, p0, q0, hargs, rfl, rfl, h0, r0⟩ := trodAll_cons hA
  obtain ⟨rfl, rfl, rfl⟩ := trodAll_nil r0
  obtain rfl : args = #[v0] := by cases args; simp_all
  obtain ⟨rfl, rfl⟩ := trodVars_none hV
  obtain ⟨a0, len0, cap0, rfl⟩ := okWide_slice Try.underlying22 (hval 0 22 v0 rfl rfl)
  have k0 := h0
  have lt0 : ∀ x ∈ p0, x.block < W.heap.size := by obtain ⟨m, hm⟩ := k0; exact DataW.trod_lt m _ _ _ hm
  have w0 : ∃ ks : List (Nat × Int × Int), ks.length = len0 ∧ Steps W a0 ks := by
    obtain ⟨fuel, hf⟩ := h0
    rcases DataW.trod_slice Try.underlying22 hf with ⟨hcs, _⟩ | ⟨x, len, cap, elems, rest, n, _, hcs, _, _, hl, hm, hlen, hel, _, _⟩
    · simp [Value.cells] at hcs
      obtain ⟨rfl, rfl, rfl⟩ := hcs
      exact ⟨[], rfl, fun h => absurd h (by simp)⟩
    · simp [Value.cells] at hcs
      obtain ⟨rfl, rfl, rfl⟩ := hcs
      rw [cells30] at hel
      exact steps_of hlen hel
  clear hA0 hval0
  refine (walk a0 len0 cap0 W w0).mono fun e W' ⟨he, bel⟩ => ?_
  subst he
  exact ⟨_, rfl, _, _, _, [], _, [], hW', trodAll_mk1 (shut_bool Try.underlying4 _), (trodAll_cons_mk (Below.trod laidOut (by kernel_rfl) (of_decide_eq_true (by kernel_rfl)) k0 bel lt0) trodAll_mk0), rfl, bel.frame _, fun h => by cases h⟩
theorem over : Rows.rankPlaysRow.holds Try.pinned (OpenSpec.ofChange Rows.rankPlaysSpec) :=
  OpenClaim.holds_of_wide 3 Try.f3 rfl rfl rfl rfl rfl rfl rfl ⟨rfl, rfl, rfl, rfl, rfl⟩ rfl rfl rfl rfl rfl (by kernel_rfl) Try.func3 (by kernel_rfl)
    (of_decide_eq_true (by kernel_rfl)) (by unfold Func.isWrapper; first | (rw [if_pos (by decide +kernel)]; kernel_rfl) | (rw [if_neg (by decide +kernel)]; exact ⟨rfl, rfl⟩))
    (fun os started H enc _ => lifted os started H enc)
/-- ████ THE STATEMENT ████ -/
theorem proved : Rows.RankPlaysSaid :=
  over
#print axioms proved
end Go.Proofs.Ytaoiadejafaleaa.rankPlays
