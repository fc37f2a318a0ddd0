/-
  What came in as a script: its config, its programs, picks and draws, as they read.
-/
import Derived.Test.YtfhcgildokdppaaTpOpen
import Derived.Test.YtfhcgildokdppaaRi
namespace Go.Proofs.Ytfhcgildokdppaa
open Go.ChangeShapes Go.WideShapes Go.ChangeAt Go.RowKit tp
theorem cells53 : Try.prog.cellsOf 53 = 5 := by kernel_rfl
theorem cells3' : Try.prog.cellsOf 3 = 1 := by kernel_rfl
theorem cells30 : Try.prog.cellsOf 30 = 1 := by kernel_rfl
theorem cells24 : Try.prog.cellsOf 24 = 1 := by kernel_rfl
theorem cells25 : Try.prog.cellsOf 25 = 1 := by kernel_rfl
theorem cells23 : Try.prog.cellsOf 23 = 5 := by kernel_rfl
theorem cells27 : Try.prog.cellsOf 27 = 8 := by kernel_rfl
/-- structs of five fields, of four. -/
theorem trod_struct5 {H : Type} {enc : TypeId × Value → H} {P : Program} {w : World} {base : Nat} {spare : Nat → Bool} {held : Bool} {t : TypeId} {f0 f1 f2 f3 f4 : Field} {fuel : Nat} {cs : List Value} {x : DataW H × List MemPlace} (ht : P.underlying t = some (.struct #[f0, f1, f2, f3, f4])) (h : DataW.trod enc P w base spare held fuel t cs = some x) :
    ∃ y0 y1 y2 y3 y4 n, cs.length = P.cellsOf t ∧ DataW.trod enc P w base spare held n f0.type ((cs.drop f0.offset).take (P.cellsOf f0.type)) = some y0 ∧ DataW.trod enc P w base spare held n f1.type ((cs.drop f1.offset).take (P.cellsOf f1.type)) = some y1 ∧
      DataW.trod enc P w base spare held n f2.type ((cs.drop f2.offset).take (P.cellsOf f2.type)) = some y2 ∧ DataW.trod enc P w base spare held n f3.type ((cs.drop f3.offset).take (P.cellsOf f3.type)) = some y3 ∧ DataW.trod enc P w base spare held n f4.type ((cs.drop f4.offset).take (P.cellsOf f4.type)) = some y4 := by
  obtain ⟨xs, n, _, rfl, hl, hlen, hf⟩ := DataW.trod_struct ht h
  match xs, hlen with
  | [y0, y1, y2, y3, y4], _ => exact ⟨y0, y1, y2, y3, y4, n, hl, by simpa using hf 0 f0 rfl, by simpa using hf 1 f1 rfl, by simpa using hf 2 f2 rfl, by simpa using hf 3 f3 rfl, by simpa using hf 4 f4 rfl⟩
theorem trod_struct4 {H : Type} {enc : TypeId × Value → H} {P : Program} {w : World} {base : Nat} {spare : Nat → Bool} {held : Bool} {t : TypeId} {f0 f1 f2 f3 : Field} {fuel : Nat} {cs : List Value} {x : DataW H × List MemPlace} (ht : P.underlying t = some (.struct #[f0, f1, f2, f3])) (h : DataW.trod enc P w base spare held fuel t cs = some x) :
    ∃ y0 y1 y2 y3 n, cs.length = P.cellsOf t ∧ DataW.trod enc P w base spare held n f0.type ((cs.drop f0.offset).take (P.cellsOf f0.type)) = some y0 ∧ DataW.trod enc P w base spare held n f1.type ((cs.drop f1.offset).take (P.cellsOf f1.type)) = some y1 ∧
      DataW.trod enc P w base spare held n f2.type ((cs.drop f2.offset).take (P.cellsOf f2.type)) = some y2 ∧ DataW.trod enc P w base spare held n f3.type ((cs.drop f3.offset).take (P.cellsOf f3.type)) = some y3 := by
  obtain ⟨xs, n, _, rfl, hl, hlen, hf⟩ := DataW.trod_struct ht h
  match xs, hlen with
  | [y0, y1, y2, y3], _ => exact ⟨y0, y1, y2, y3, n, hl, by simpa using hf 0 f0 rfl, by simpa using hf 1 f1 rfl, by simpa using hf 2 f2 rfl, by simpa using hf 3 f3 rfl⟩
theorem I64_of {v : Int} (h : (Lit.int .i64 v).wf = true) : I64 v := by
  have hb := Go.bounds_i64 h
  unfold I64
  omega
theorem list_of {α : Type} {P : Nat → α → Prop} : ∀ n, (∀ i, i < n → ∃ p, P i p) → ∃ ks : List α, ks.length = n ∧ ∀ i (h : i < ks.length), P i ks[i]
  | 0, _ => ⟨[], rfl, fun i h => absurd h (by simp)⟩
  | n + 1, h => by
    obtain ⟨ks, hl, hk⟩ := list_of n fun i hi => h i (by omega)
    obtain ⟨p, hp⟩ := h n (by omega)
    refine ⟨ks ++ [p], by simp [hl], fun i hi => ?_⟩
    by_cases hi' : i < ks.length
    · rw [List.getElem_append_left hi']
      exact hk i hi'
    · obtain rfl : i = n := by simp at hi; omega
      subst hl
      simpa using hp
section
variable {H : Type} {enc : TypeId × Value → H} {W : World} {base : Nat} {spare : Nat → Bool} {held : Bool} {fuel : Nat} {cs : List Value} {z : DataW H × List MemPlace}
/-- five ints. -/
theorem five_of {c : List Value} (hl : c.length = 5) {n : Nat} {y0 y1 y2 y3 y4 : DataW H × List MemPlace} (e0 : DataW.trod enc Try.prog W base spare held n 3 ((c.drop 0).take 1) = some y0) (e1 : DataW.trod enc Try.prog W base spare held n 3 ((c.drop 1).take 1) = some y1) (e2 : DataW.trod enc Try.prog W base spare held n 3 ((c.drop 2).take 1) = some y2) (e3 : DataW.trod enc Try.prog W base spare held n 3 ((c.drop 3).take 1) = some y3) (e4 : DataW.trod enc Try.prog W base spare held n 3 ((c.drop 4).take 1) = some y4) :
    ∃ x0 x1 x2 x3 x4 : Int, c = [.int .i64 x0, .int .i64 x1, .int .i64 x2, .int .i64 x3, .int .i64 x4] ∧ I64 x0 ∧ I64 x1 ∧ I64 x2 ∧ I64 x3 ∧ I64 x4 := by
  match c, hl with
  | [c0, c1, c2, c3, c4], _ =>
    simp only [List.drop_zero, List.drop_succ_cons, List.take_succ_cons, List.take_zero] at e0 e1 e2 e3 e4
    obtain ⟨x0, h0, _, w0⟩ := DataW.trod_int Try.underlying3 e0
    obtain ⟨x1, h1, _, w1⟩ := DataW.trod_int Try.underlying3 e1
    obtain ⟨x2, h2, _, w2⟩ := DataW.trod_int Try.underlying3 e2
    obtain ⟨x3, h3, _, w3⟩ := DataW.trod_int Try.underlying3 e3
    obtain ⟨x4, h4, _, w4⟩ := DataW.trod_int Try.underlying3 e4
    simp only [List.cons.injEq, and_true] at h0 h1 h2 h3 h4
    subst h0 h1 h2 h3 h4
    exact ⟨x0, x1, x2, x3, x4, rfl, I64_of w0, I64_of w1, I64_of w2, I64_of w3, I64_of w4⟩
/-- one call out of memory: its five cells. -/
theorem op_of {a : Addr} {y : DataW H × List MemPlace} {n : Nat} (h : (W.cells? base a 5).bind (DataW.trod enc Try.prog W base spare held n 53) = some y) :
    ∃ o : Opn, o.ok ∧ W.cell? a = some (.int .i64 o.k) ∧ W.cell? (a.add 1) = some (.int .i64 o.key) ∧ W.cell? (a.add 2) = some (.int .i64 o.val) ∧ W.cell? (a.add 3) = some (.int .i64 o.cost) ∧ W.cell? (a.add 4) = some (.int .i64 o.ttl) := by
  rw [Option.bind_eq_some_iff] at h
  obtain ⟨cs, hcs, hy⟩ := h
  obtain ⟨y0, y1, y2, y3, y4, m, hl, e0, e1, e2, e3, e4⟩ := trod_struct5 Try.underlying53 hy
  rw [cells53] at hl
  simp only [cells3'] at e0 e1 e2 e3 e4
  obtain ⟨x0, x1, x2, x3, x4, rfl, w0, w1, w2, w3, w4⟩ := five_of hl e0 e1 e2 e3 e4
  obtain ⟨_, _, hc⟩ := World.cells?_some hcs
  have c0' := hc 0 (by omega)
  have c1' := hc 1 (by omega)
  have c2' := hc 2 (by omega)
  have c3' := hc 3 (by omega)
  have c4' := hc 4 (by omega)
  exact ⟨⟨x0, x1, x2, x3, x4⟩, ⟨w0, w1, w2, w3, w4⟩, by simpa [Addr.add] using c0', by simpa using c1', by simpa using c2', by simpa using c3', by simpa using c4'⟩
/-- a slice of calls. -/
theorem ops_of (hf : DataW.trod enc Try.prog W base spare held fuel 30 cs = some z) : ∃ a len cap, cs = [.slice a len cap] ∧ ∃ l : List Opn, l.length = len ∧ Ea W a l ∧ ∀ o ∈ l, o.ok := by
  rcases DataW.trod_slice Try.underlying30 hf with ⟨hcs, _⟩ | ⟨x, len, cap, elems, rest, n, _, hcs, _, _, hl, hm, hlen, hel, _, _⟩
  · exact ⟨none, 0, 0, hcs, [], rfl, Ea.nil _ _, fun _ h => (by cases h)⟩
  · rw [cells53] at hel
    obtain ⟨ks, hk, hp⟩ := list_of (P := fun i (o : Opn) => o.ok ∧ W.cell? (x.add (i * 5)) = some (.int .i64 o.k) ∧ W.cell? ((x.add (i * 5)).add 1) = some (.int .i64 o.key) ∧ W.cell? ((x.add (i * 5)).add 2) = some (.int .i64 o.val) ∧ W.cell? ((x.add (i * 5)).add 3) = some (.int .i64 o.cost) ∧ W.cell? ((x.add (i * 5)).add 4) = some (.int .i64 o.ttl)) len (fun i hi => by
      have h := hel i hi
      rw [List.getElem?_eq_getElem (by omega)] at h
      exact op_of h)
    refine ⟨some x, len, cap, hcs, ks, hk, fun h0 => ?_, fun o ho => ?_⟩
    · obtain ⟨b, off, spot⟩ := x
      have hspot : spot = none := by simpa [Addr.add] using World.cell?_spot (hp 0 h0).2.1
      subst hspot
      refine ⟨b, off, rfl, fun i hi => ?_⟩
      have := (hp i hi).2
      rw [tp.add_plain, tp.add_plain, tp.add_plain, tp.add_plain, tp.add_plain] at this
      exact this
    · obtain ⟨i, hi, rfl⟩ := List.getElem_of_mem ho
      exact (hp i hi).1
/-- a slice of slices of calls. -/
theorem progs_of (hf : DataW.trod enc Try.prog W base spare held fuel 24 cs = some z) : ∃ a len cap, cs = [.slice a len cap] ∧ ∃ l : List (List Opn), l.length = len ∧ Lp W a l ∧ ∀ m ∈ l, ∀ o ∈ m, o.ok := by
  rcases DataW.trod_slice Try.underlying24 hf with ⟨hcs, _⟩ | ⟨x, len, cap, elems, rest, n, _, hcs, _, _, hl, hm, hlen, hel, _, _⟩
  · exact ⟨none, 0, 0, hcs, [], rfl, fun h => absurd h (by simp), fun _ h => (by cases h)⟩
  · rw [cells30] at hel
    obtain ⟨ks, hk, hp⟩ := list_of (P := fun i (l : List Opn) => (∀ o ∈ l, o.ok) ∧ ∃ q c, W.cell? (x.add i) = some (.slice q l.length c) ∧ Ea W q l) len (fun i hi => by
      have h := hel i hi
      rw [List.getElem?_eq_getElem (by omega), Option.bind_eq_some_iff] at h
      obtain ⟨c, hc, hy⟩ := h
      obtain ⟨a, l', cap', rfl, l, rfl, h1, h2⟩ := ops_of hy
      obtain ⟨_, _, hc0⟩ := World.cells?_some hc
      have c0 := hc0 0 (by omega)
      exact ⟨l, h2, a, cap', by simpa [Addr.add] using c0, h1⟩)
    refine ⟨some x, len, cap, hcs, ks, hk, fun h0 => ?_, fun o ho => ?_⟩
    · obtain ⟨b, off, spot⟩ := x
      obtain ⟨_, q0, k0, h1, _⟩ := hp 0 h0
      have hspot : spot = none := by simpa [Addr.add] using World.cell?_spot h1
      subst hspot
      refine ⟨b, off, rfl, fun i hi => ?_⟩
      obtain ⟨_, q, c, h2, h3⟩ := hp i hi
      rw [tp.add_plain] at h2
      exact ⟨q, c, h2, h3⟩
    · obtain ⟨i, hi, rfl⟩ := List.getElem_of_mem ho
      exact (hp i hi).1
/-- a slice of ints. -/
theorem nums_of (hf : DataW.trod enc Try.prog W base spare held fuel 25 cs = some z) : ∃ a len cap, cs = [.slice a len cap] ∧ ∃ l : List Int, l.length = len ∧ La eI W a l ∧ ∀ x ∈ l, I64 x := by
  rcases DataW.trod_slice Try.underlying25 hf with ⟨hcs, _⟩ | ⟨x, len, cap, elems, rest, n, _, hcs, _, _, hl, hm, hlen, hel, _, _⟩
  · exact ⟨none, 0, 0, hcs, [], rfl, La.nil _ _, fun _ h => (by cases h)⟩
  · rw [cells3'] at hel
    obtain ⟨ks, hk, hp⟩ := list_of (P := fun i (v : Int) => I64 v ∧ W.cell? (x.add i) = some (.int .i64 v)) len (fun i hi => by
      have h := hel i hi
      rw [List.getElem?_eq_getElem (by omega), Option.bind_eq_some_iff] at h
      obtain ⟨c, hc, hy⟩ := h
      obtain ⟨v, rfl, _, hw⟩ := DataW.trod_int Try.underlying3 hy
      obtain ⟨_, _, hc0⟩ := World.cells?_some hc
      have c0 := hc0 0 (by omega)
      exact ⟨v, I64_of hw, by simpa [Addr.add] using c0⟩)
    refine ⟨some x, len, cap, hcs, ks, hk, fun h0 => ?_, fun o ho => ?_⟩
    · obtain ⟨b, off, spot⟩ := x
      have hspot : spot = none := by simpa [Addr.add] using World.cell?_spot (hp 0 h0).2
      subst hspot
      refine ⟨b, off, rfl, fun i hi => ?_⟩
      have h2 := (hp i hi).2
      rwa [tp.add_plain] at h2
    · obtain ⟨i, hi, rfl⟩ := List.getElem_of_mem ho
      exact (hp i hi).1
/-- a script. -/
theorem script_of {v : Value} (hf : DataW.trod enc Try.prog W base spare held fuel 27 v.cells.toList = some z) : ∃ (s : Scr) (x : Ad), v = sv s x ∧ s.ok ∧ Sc W s x := by
  obtain ⟨y0, y1, y2, y3, m, hl, e0, e1, e2, e3⟩ := trod_struct4 Try.underlying27 hf
  rw [cells27] at hl
  rw [cells23] at e0
  rw [cells24] at e1
  rw [cells25] at e2 e3
  obtain ⟨u0, u1, u2, u3, u4, m2, hl5, g0, g1, g2, g3, g4⟩ := trod_struct5 Try.underlying23 e0
  rw [cells23] at hl5
  simp only [cells3'] at g0 g1 g2 g3 g4
  obtain ⟨x0, x1, x2, x3, x4, hc, w0, w1, w2, w3, w4⟩ := five_of hl5 g0 g1 g2 g3 g4
  obtain ⟨pa, pn, pc, hp, ps, rfl, hP, oP⟩ := progs_of e1
  obtain ⟨ka, kn, kc, hk, ks, rfl, hK, oK⟩ := nums_of e2
  obtain ⟨da, dn, dc, hd, ds, rfl, hD, oD⟩ := nums_of e3
  refine ⟨⟨⟨x0, x1, x2, x3, x4⟩, ps, ks, ds⟩, ⟨pa, pc, ka, kc, da, dc⟩, ?_, ⟨⟨w0, w1, w2, w3, w4⟩, oP, oK, oD⟩, ⟨hP, hK, hD⟩⟩
  have hv : v.cells.toList = [.int .i64 x0, .int .i64 x1, .int .i64 x2, .int .i64 x3, .int .i64 x4, .slice pa ps.length pc, .slice ka ks.length kc, .slice da ds.length dc] := by
    generalize v.cells.toList = c at *
    match c, hl with
    | [c0, c1, c2, c3, c4, c5, c6, c7], _ =>
      simp at hc hp hk hd
      simp [hc, hp, hk, hd]
  cases v with
  | agg arr =>
    have : arr = #[.int .i64 x0, .int .i64 x1, .int .i64 x2, .int .i64 x3, .int .i64 x4, .slice pa ps.length pc, .slice ka ks.length kc, .slice da ds.length dc] := by
      apply Array.toList_inj.1
      exact hv
    rw [this]
  | _ => simp [Value.cells] at hv
end
end Go.Proofs.Ytfhcgildokdppaa
