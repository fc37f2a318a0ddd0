/-
  NibbleTells returns true for every slice of numbers and every number, and its arguments read as they did. No condition but the parameters' own types.
-/
import Derived.Test.YtnbgloooklgngaaRows
import Derived.Test.YtnbgloooklgngaaTellsWalk
import Derived.WalkKit
import Derived.ProofKit
import Derived.OpenShut
import Derived.ChangeSlices
import Derived.ChangeSame
import Derived.Carry
namespace Go.Proofs.Ytnbgloooklgngaa.nibbleTells
open Go.ChangeShapes Go.WideShapes Go.ChangeAt Go.RowKit
set_option linter.unusedVariables false
theorem own : ownKnob Try.prog.godebug = none := by kernel_rfl
theorem laidOut : laidOutB Try.prog = true := by kernel_rfl
theorem cells23 : Try.prog.cellsOf 23 = 1 := by kernel_rfl
/-- one number out of memory: its cell. -/
theorem step_of {H : Type} {enc : TypeId × Value → H} {w : World} {base : Nat} {spare : Nat → Bool} {held : Bool} {n : Nat} {a : Addr} {y : DataW H × List MemPlace} (h : (w.cells? base a 1).bind (DataW.trod enc Try.prog w base spare held n 23) = some y) :
    ∃ k : Nat, w.cell? a = some (.int .u64 (k : Int)) := by
  rw [Option.bind_eq_some_iff] at h
  obtain ⟨cs, hcs, hy⟩ := h
  obtain ⟨k0, h0, _, w0⟩ := DataW.trod_int Try.underlying23 hy
  have hb := Go.bounds_u64 w0
  obtain ⟨_, _, hc⟩ := World.cells?_some hcs
  subst h0
  have c0' := hc 0 (by simp)
  refine ⟨k0.toNat, ?_⟩
  rw [show ((k0.toNat : Nat) : Int) = k0 by omega]
  simpa [Addr.add] using c0'
theorem add_plain (b o i : Nat) : (⟨b, o, none⟩ : Addr).add i = ⟨b, o + i, none⟩ := by simp [Addr.add]
theorem list_of {P : Nat → Nat → Prop} : ∀ n, (∀ i, i < n → ∃ p, P i p) → ∃ ks : List Nat, ks.length = n ∧ ∀ i (h : i < ks.length), P i ks[i]
  | 0, _ => ⟨[], rfl, fun i h => absurd h (by simp)⟩
  | n + 1, h => by
    obtain ⟨ks, hl, hk⟩ := list_of n fun i hi => h i (by omega)
    obtain ⟨p, hp⟩ := h n (by omega)
    refine ⟨ks ++ [p], by simp [hl], fun i hi => ?_⟩
    by_cases hi' : i < ks.length
    · rw [List.getElem_append_left hi']
      exact hk i hi'
    · obtain rfl : i = n := by simp at hi; omega
      subst hl
      simpa using hp
/-- the slice that came in. -/
theorem steps_of {H : Type} {enc : TypeId × Value → H} {w : World} {base : Nat} {spare : Nat → Bool} {held : Bool} {n : Nat} {a : Addr} {len : Nat} {elems : List (DataW H × List MemPlace)} (hlen : elems.length = len)
    (hel : ∀ i, i < len → (w.cells? base (a.add (i * 1)) 1).bind (DataW.trod enc Try.prog w base spare held n 23) = elems[i]?) : ∃ ks : List Nat, ks.length = len ∧ Us w (some a) ks := by
  obtain ⟨ks, hk, hp⟩ := list_of (P := fun i p => w.cell? (a.add i) = some (.int .u64 (p : Int))) len (fun i hi => by
    have h := hel i hi
    rw [List.getElem?_eq_getElem (by omega), Nat.mul_one] at h
    exact step_of h)
  refine ⟨ks, hk, fun h0 => ?_⟩
  obtain ⟨b, off, spot⟩ := a
  have hspot : spot = none := by simpa [Addr.add] using World.cell?_spot (hp 0 h0)
  subst hspot
  refine ⟨b, off, rfl, fun i hi => ?_⟩
  have := hp i hi
  rw [add_plain] at this
  exact this
theorem walk (a0 : Option Addr) (len0 cap0 : Nat) (a1 : Int) (w1 : (Lit.int .u64 a1).wf = true) (w : World) (w0 : ∃ ks : List Nat, ks.length = len0 ∧ Us w a0 ks) :
    Calls Try.prog 4 #[.slice a0 len0 cap0, .int .u64 a1] w fun e w' => e = .returned (.bool true) ∧ Below w.heap.size w w' := by
  obtain ⟨ks, rfl, hr⟩ := w0
  have hb := Go.bounds_u64 w1
  obtain ⟨t, rfl⟩ : ∃ t : Nat, a1 = (t : Int) := ⟨a1.toNat, by omega⟩
  exact tells_walk a0 cap0 ks t w hr

set_option maxRecDepth 100000 in
theorem lifted (os : Os) (started : os.Started) (H : Type) (enc : TypeId × Value → H) :
    ReturnsInHanded {} Try.checked os 4 .any (Rows.nibbleTellsSpec.pre6 enc Try.prog Try.f4 Rows.nibbleTellsRow.domain false) (Rows.nibbleTellsSpec.post enc Try.prog Try.f4 false true false false) := by
  refine returnsInHanded_of_change (C := Try.checked) own started (by kernel_rfl) Try.func4
    (ChangeSpec.witness6 (enc := enc) (C := Try.checked) false ⟨#[], #[.slice none 0 0, .int .u64 0], []⟩ 8 (by kernel_rfl) (by kernel_rfl) (by kernel_rfl) (by kernel_rfl)) ?_
  intro W base args ds gs before hval0 hW hcnd _
  have hval : ∀ (j : Nat) t v, Try.f4.params[j]? = some t → args[j]? = some v → Value.okWide Try.prog W .any base t v := hval0
  have hW' := hW
  obtain ⟨p, q, hA0, hV, rfl, hfz, hnd⟩ := hW
  have hA : DataW.TrodAll enc Try.prog W 0 (fun _ => true) true Try.f4.params.toList args.toList ds p := hA0
  rw [Try.params4] at hA hval
  obtain ⟨v0, vs0, d0, ds0, p0, q0, hargs, rfl, rfl, h0, r0⟩ := trodAll_cons hA
  obtain ⟨v1, vs1, d1, ds1, p1, q1, rfl, rfl, rfl, h1, r1⟩ := trodAll_cons r0
  obtain ⟨rfl, rfl, rfl⟩ := trodAll_nil r1
  obtain rfl : args = #[v0, v1] := by cases args; simp_all
  obtain ⟨rfl, rfl⟩ := trodVars_none hV
  obtain ⟨a0, len0, cap0, rfl⟩ := okWide_slice Try.underlying38 (hval 0 38 v0 rfl rfl)
  have k0 := h0
  have lt0 : ∀ x ∈ p0, x.block < W.heap.size := by obtain ⟨m, hm⟩ := k0; exact DataW.trod_lt m _ _ _ hm
  have w0 : ∃ ks : List Nat, ks.length = len0 ∧ Us W a0 ks := by
    obtain ⟨fuel, hf⟩ := h0
    rcases DataW.trod_slice Try.underlying38 hf with ⟨hcs, _⟩ | ⟨x, len, cap, elems, rest, n, _, hcs, _, _, hl, hm, hlen, hel, _, _⟩
    · simp [Value.cells] at hcs
      obtain ⟨rfl, rfl, rfl⟩ := hcs
      exact ⟨[], rfl, fun h => absurd h (by simp)⟩
    · simp [Value.cells] at hcs
      obtain ⟨rfl, rfl, rfl⟩ := hcs
      rw [cells23] at hel
      exact steps_of hlen hel
  obtain ⟨a1, rfl, rfl, rfl, w1⟩ := open_int Try.underlying23 (hval 1 23 v1 rfl rfl) h1
  clear hA0 hval0
  refine (walk a0 len0 cap0 a1 w1 W w0).mono fun e W' ⟨he, bel⟩ => ?_
  subst he
  exact ⟨_, rfl, _, _, _, [], _, [], hW', trodAll_mk1 (shut_bool Try.underlying4 _), (trodAll_cons_mk (Below.trod laidOut (by kernel_rfl) (of_decide_eq_true (by kernel_rfl)) k0 bel lt0) (trodAll_cons_mk (shut_int Try.underlying23 w1) trodAll_mk0)), rfl, bel.frame _, fun h => by cases h⟩
theorem over : Rows.nibbleTellsRow.holds Try.pinned (OpenSpec.ofChange Rows.nibbleTellsSpec) :=
  OpenClaim.holds_of_wide 4 Try.f4 rfl rfl rfl rfl rfl rfl rfl ⟨rfl, rfl, rfl, rfl, rfl⟩ rfl rfl rfl rfl rfl (by kernel_rfl) Try.func4 (by kernel_rfl)
    (of_decide_eq_true (by kernel_rfl)) (by unfold Func.isWrapper; first | (rw [if_pos (by decide +kernel)]; kernel_rfl) | (rw [if_neg (by decide +kernel)]; exact ⟨rfl, rfl⟩))
    (fun os started H enc _ => lifted os started H enc)
/-- ████ THE STATEMENT ████ -/
theorem proved : Rows.NibbleTellsSaid :=
  over
#print axioms proved
end Go.Proofs.Ytnbgloooklgngaa.nibbleTells
