/-
  NibblePlays returns true for every int, every slice of steps and every number of times, and its arguments read as they did. No condition but the parameters' own types.
-/
import Derived.Test.YtnbgloooklgngaaRows
import Derived.Test.YtnbgloooklgngaaPlaysWalk
import Derived.WalkKit
import Derived.ProofKit
import Derived.OpenShut
import Derived.ChangeSlices
import Derived.ChangeSame
import Derived.Carry
namespace Go.Proofs.Ytnbgloooklgngaa.nibblePlays
open Go.ChangeShapes Go.WideShapes Go.ChangeAt Go.RowKit
set_option linter.unusedVariables false
theorem own : ownKnob Try.prog.godebug = none := by kernel_rfl
theorem laidOut : laidOutB Try.prog = true := by kernel_rfl
theorem cells29 : Try.prog.cellsOf 29 = 2 := by kernel_rfl
theorem cells23 : Try.prog.cellsOf 23 = 1 := by kernel_rfl
theorem cells3 : Try.prog.cellsOf 3 = 1 := by kernel_rfl
/-- one step out of memory: its two cells. -/
theorem step_of {H : Type} {enc : TypeId × Value → H} {w : World} {base : Nat} {spare : Nat → Bool} {held : Bool} {n : Nat} {a : Addr} {y : DataW H × List MemPlace} (h : (w.cells? base a 2).bind (DataW.trod enc Try.prog w base spare held n 29) = some y) :
    ∃ (kd : Nat) (x : Int), w.cell? a = some (.int .u64 (kd : Int)) ∧ w.cell? (a.add 1) = some (.int .i64 x) := by
  rw [Option.bind_eq_some_iff] at h
  obtain ⟨cs, hcs, hy⟩ := h
  obtain ⟨y0, y1, m, _, hl, e0, e1⟩ := trod_struct2 Try.underlying29 hy
  rw [cells29] at hl
  match cs, hl with
  | [c0, c1], _ =>
    simp only [cells23, cells3, List.drop_zero, List.drop_succ_cons, List.take_succ_cons, List.take_zero] at e0 e1
    obtain ⟨k0, h0, _, w0⟩ := DataW.trod_int Try.underlying23 e0
    obtain ⟨x0, h1, _, w1⟩ := DataW.trod_int Try.underlying3 e1
    have hb := Go.bounds_u64 w0
    obtain ⟨_, _, hc⟩ := World.cells?_some hcs
    have c0' := hc 0 (by omega)
    have c1' := hc 1 (by omega)
    simp only [List.cons.injEq, and_true] at h0 h1
    subst h0 h1
    refine ⟨k0.toNat, x0, ?_, ?_⟩
    · rw [show ((k0.toNat : Nat) : Int) = k0 by omega]
      simpa [Addr.add] using c0'
    · simpa using c1'
theorem add_plain (b o i : Nat) : (⟨b, o, none⟩ : Addr).add i = ⟨b, o + i, none⟩ := by simp [Addr.add]
theorem list_of {P : Nat → Nat × Int → Prop} : ∀ n, (∀ i, i < n → ∃ p, P i p) → ∃ ks : List (Nat × Int), ks.length = n ∧ ∀ i (h : i < ks.length), P i ks[i]
  | 0, _ => ⟨[], rfl, fun i h => absurd h (by simp)⟩
  | n + 1, h => by
    obtain ⟨ks, hl, hk⟩ := list_of n fun i hi => h i (by omega)
    obtain ⟨p, hp⟩ := h n (by omega)
    refine ⟨ks ++ [p], by simp [hl], fun i hi => ?_⟩
    by_cases hi' : i < ks.length
    · rw [List.getElem_append_left hi']
      exact hk i hi'
    · obtain rfl : i = n := by simp at hi; omega
      subst hl
      simpa using hp
/-- the slice of steps that came in. -/
theorem steps_of {H : Type} {enc : TypeId × Value → H} {w : World} {base : Nat} {spare : Nat → Bool} {held : Bool} {n : Nat} {a : Addr} {len : Nat} {elems : List (DataW H × List MemPlace)} (hlen : elems.length = len)
    (hel : ∀ i, i < len → (w.cells? base (a.add (i * 2)) 2).bind (DataW.trod enc Try.prog w base spare held n 29) = elems[i]?) : ∃ ks : List (Nat × Int), ks.length = len ∧ Steps w (some a) ks := by
  obtain ⟨ks, hk, hp⟩ := list_of (P := fun i p => w.cell? (a.add (i * 2)) = some (.int .u64 (p.1 : Int)) ∧ w.cell? ((a.add (i * 2)).add 1) = some (.int .i64 p.2)) len (fun i hi => by
    have h := hel i hi
    rw [List.getElem?_eq_getElem (by omega)] at h
    obtain ⟨kd, x, h1, h2⟩ := step_of h
    exact ⟨(kd, x), h1, h2⟩)
  refine ⟨ks, hk, fun h0 => ?_⟩
  obtain ⟨b, off, spot⟩ := a
  have hspot : spot = none := by simpa [Addr.add] using World.cell?_spot (hp 0 h0).1
  subst hspot
  refine ⟨b, off, rfl, fun i hi => ?_⟩
  have := hp i hi
  rw [add_plain, add_plain] at this
  exact this
theorem walk (a0 : Int) (a1 : Option Addr) (len1 cap1 : Nat) (a2 : Int) (w2 : (Lit.int .u64 a2).wf = true) (w : World) (w1 : ∃ ks : List (Nat × Int), ks.length = len1 ∧ Steps w a1 ks) :
    Calls Try.prog 3 #[.int .i64 a0, .slice a1 len1 cap1, .int .u64 a2] w fun e w' => e = .returned (.bool true) ∧ Below w.heap.size w w' := by
  obtain ⟨ks, rfl, hr⟩ := w1
  have hb := Go.bounds_u64 w2
  obtain ⟨t, rfl⟩ : ∃ t : Nat, a2 = (t : Int) := ⟨a2.toNat, by omega⟩
  exact plays_walk a0 a1 cap1 ks t w hr

set_option maxRecDepth 100000 in
theorem lifted (os : Os) (started : os.Started) (H : Type) (enc : TypeId × Value → H) :
    ReturnsInHanded {} Try.checked os 3 .any (Rows.nibblePlaysSpec.pre6 enc Try.prog Try.f3 Rows.nibblePlaysRow.domain false) (Rows.nibblePlaysSpec.post enc Try.prog Try.f3 false true false false) := by
  refine returnsInHanded_of_change (C := Try.checked) own started (by kernel_rfl) Try.func3
    (ChangeSpec.witness6 (enc := enc) (C := Try.checked) false ⟨#[], #[.int .i64 0, .slice none 0 0, .int .u64 0], []⟩ 8 (by kernel_rfl) (by kernel_rfl) (by kernel_rfl) (by kernel_rfl)) ?_
  intro W base args ds gs before hval0 hW hcnd _
  have hval : ∀ (j : Nat) t v, Try.f3.params[j]? = some t → args[j]? = some v → Value.okWide Try.prog W .any base t v := hval0
  have hW' := hW
  obtain ⟨p, q, hA0, hV, rfl, hfz, hnd⟩ := hW
  have hA : DataW.TrodAll enc Try.prog W 0 (fun _ => true) true Try.f3.params.toList args.toList ds p := hA0
  rw [Try.params3] at hA hval
  obtain ⟨v0, vs0, d0, ds0, p0, q0, hargs, rfl, rfl, h0, r0⟩ := trodAll_cons hA
  obtain ⟨v1, vs1, d1, ds1, p1, q1, rfl, rfl, rfl, h1, r1⟩ := trodAll_cons r0
  obtain ⟨v2, vs2, d2, ds2, p2, q2, rfl, rfl, rfl, h2, r2⟩ := trodAll_cons r1
  obtain ⟨rfl, rfl, rfl⟩ := trodAll_nil r2
  obtain rfl : args = #[v0, v1, v2] := by cases args; simp_all
  obtain ⟨rfl, rfl⟩ := trodVars_none hV
  obtain ⟨a1, len1, cap1, rfl⟩ := okWide_slice Try.underlying22 (hval 1 22 v1 rfl rfl)
  have k1 := h1
  have lt1 : ∀ x ∈ p1, x.block < W.heap.size := by obtain ⟨m, hm⟩ := k1; exact DataW.trod_lt m _ _ _ hm
  have w1 : ∃ ks : List (Nat × Int), ks.length = len1 ∧ Steps W a1 ks := by
    obtain ⟨fuel, hf⟩ := h1
    rcases DataW.trod_slice Try.underlying22 hf with ⟨hcs, _⟩ | ⟨x, len, cap, elems, rest, n, _, hcs, _, _, hl, hm, hlen, hel, _, _⟩
    · simp [Value.cells] at hcs
      obtain ⟨rfl, rfl, rfl⟩ := hcs
      exact ⟨[], rfl, fun h => absurd h (by simp)⟩
    · simp [Value.cells] at hcs
      obtain ⟨rfl, rfl, rfl⟩ := hcs
      rw [cells29] at hel
      exact steps_of hlen hel
  obtain ⟨a0, rfl, rfl, rfl, w0⟩ := open_int Try.underlying3 (hval 0 3 v0 rfl rfl) h0
  obtain ⟨a2, rfl, rfl, rfl, w2⟩ := open_int Try.underlying23 (hval 2 23 v2 rfl rfl) h2
  clear hA0 hval0
  refine (walk a0 a1 len1 cap1 a2 w2 W w1).mono fun e W' ⟨he, bel⟩ => ?_
  subst he
  exact ⟨_, rfl, _, _, _, [], _, [], hW', trodAll_mk1 (shut_bool Try.underlying4 _), (trodAll_cons_mk (shut_int Try.underlying3 w0) (trodAll_cons_mk (Below.trod laidOut (by kernel_rfl) (of_decide_eq_true (by kernel_rfl)) k1 bel lt1) (trodAll_cons_mk (shut_int Try.underlying23 w2) trodAll_mk0))), rfl, bel.frame _, fun h => by cases h⟩
theorem over : Rows.nibblePlaysRow.holds Try.pinned (OpenSpec.ofChange Rows.nibblePlaysSpec) :=
  OpenClaim.holds_of_wide 3 Try.f3 rfl rfl rfl rfl rfl rfl rfl ⟨rfl, rfl, rfl, rfl, rfl⟩ rfl rfl rfl rfl rfl (by kernel_rfl) Try.func3 (by kernel_rfl)
    (of_decide_eq_true (by kernel_rfl)) (by unfold Func.isWrapper; first | (rw [if_pos (by decide +kernel)]; kernel_rfl) | (rw [if_neg (by decide +kernel)]; exact ⟨rfl, rfl⟩))
    (fun os started H enc _ => lifted os started H enc)
/-- ████ THE STATEMENT ████ -/
theorem proved : Rows.NibblePlaysSaid :=
  over
#print axioms proved
end Go.Proofs.Ytnbgloooklgngaa.nibblePlays
