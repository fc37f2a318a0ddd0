/-
  told, the law's own helper, by its contract: the keys and things that a function tells, at most so many.
-/
import Derived.Test.YtaoiadejafaleaaBehind
import Derived.Test.YtaoiadejafaleaaRefs
import Derived.Maps.AppendAt
import Derived.RangeFuncBox
import Derived.RangeFuncRecord
namespace Go.Proofs.Ytaoiadejafaleaa
open Go.RowKit Go.Shelf
attribute [local go_sem] Oper.semAt_some wide_fn wide_depth
theorem own_keep {w w' : World} {base : Nat} {e : TypeId} {size : Nat} {v : Value} {n : Nat} {xs : List Value} (h : w.ownsRow base e size v n xs) (hk : ∀ g, v.ownBlock = some g → w'.heap[g]? = w.heap[g]?) : w'.ownsRow base e size v n xs := by
  refine ⟨h.1, ?_⟩
  rcases h.2 with h0 | ⟨g, cap, cur, rfl, hb, hh, hr⟩
  · exact .inl h0
  · exact .inr ⟨g, cap, cur, rfl, hb, (hk g rfl).trans hh, hr⟩
theorem put_out {A : World} {base b1 : Nat} {v : Value} {i : Nat} {l : List Value} (hv : Boxed A b1 27 v) (hrow : A.ownsRow base 44 2 v i l) (hb : base ≤ A.heap.size) (hi : i ≤ 1000000) (x y : Int) :
    ∃ w1 g cap, (Builtin.append_ #[27, 27] 27 #[v, .slice (some ⟨A.heap.size, 0, none⟩) 1 1]).run Try.prog (A.alloc (.cells #[.int .i64 x, .int .i64 y] 44)) = .ok (.slice (some ⟨g, 0, none⟩) (i + 1) cap) w1 ∧ (v.ownBlock = some g ∨ A.heap.size ≤ g) ∧ w1.cell? ⟨b1, 0, none⟩ = some v ∧ w1.frozen? ⟨b1, 0, none⟩ = false ∧
      Boxed (w1.setCell ⟨b1, 0, none⟩ (.slice (some ⟨g, 0, none⟩) (i + 1) cap)) b1 27 (.slice (some ⟨g, 0, none⟩) (i + 1) cap) ∧ (w1.setCell ⟨b1, 0, none⟩ (.slice (some ⟨g, 0, none⟩) (i + 1) cap)).ownsRow base 44 2 (.slice (some ⟨g, 0, none⟩) (i + 1) cap) (i + 1) (l ++ flat [(x, y)]) ∧
      (∀ K : Nat → Prop, ¬ K b1 → (∀ g, v.ownBlock = some g → ¬ K g) → Keep K A (w1.setCell ⟨b1, 0, none⟩ (.slice (some ⟨g, 0, none⟩) (i + 1) cap))) := by
  obtain ⟨i0, hi0, hz0, hz1, hz2⟩ := info_parts info_e
  have hcell : ∀ j u, (flat [(x, y)])[j]? = some u → (A.alloc (.cells #[.int .i64 x, .int .i64 y] 44)).cell? ((⟨A.heap.size, 0, none⟩ : Addr).add j) = some u := fun j u hu => by
    have hh : (A.alloc (.cells #[.int .i64 x, .int .i64 y] 44)).heap[A.heap.size]? = some (.cells #[.int .i64 x, .int .i64 y] 44 (0, 0)) := World.alloc_heap_new _ _
    rw [Addr.add_lit, cell_of hh, ← hu]
    simp [flat]
  have hmax : maxLen = 9223372036854775807 := by decide
  obtain ⟨v', w1, hr, hown, hgrow, _⟩ := run_append_own (P := Try.prog) (A.alloc (.cells #[.int .i64 x, .int .i64 y] 44)) base 27 27 44 i0 (.agg #[.int .i64 0, .int .i64 0]) 2 16 Try.underlying27 hi0 hz0 hz1 hz2 rfl (by decide) v i l (hrow.alloc _) ⟨A.heap.size, 0, none⟩ 1 1 (flat [(x, y)]) rfl hcell (flat_one _) (by omega) (by omega) (by simp; omega)
  have hv' : ∃ g cap, v' = .slice (some ⟨g, 0, none⟩) (i + 1) cap ∧ (v.ownBlock = some g ∨ A.heap.size ≤ g) := by
    rcases hrow.2 with ⟨rfl, rfl⟩ | ⟨g, cap, cur, rfl, hbg, hg, hnc, hcm, hcs, htake⟩
    · have hn := run_append_nil (P := Try.prog) (A.alloc (.cells #[.int .i64 x, .int .i64 y] 44)) 27 27 44 i0 (.agg #[.int .i64 0, .int .i64 0]) Try.underlying27 hi0 hz0 ⟨A.heap.size, 0, none⟩ 1 1 (flat [(x, y)]) (by rw [hz1]; rfl) hcell (by omega) (by omega) (by omega)
      rw [hr] at hn
      injection hn with hn _
      exact ⟨_, _, hn, .inr (by simp)⟩
    · by_cases hroom : i + 1 ≤ cap
      · have hn := run_append_room (P := Try.prog) (A.alloc (.cells #[.int .i64 x, .int .i64 y] 44)) 27 27 44 i0 Try.underlying27 hi0 g i cap cur (heap_old hg) ⟨A.heap.size, 0, none⟩ 1 1 (flat [(x, y)]) (by rw [hz1]; rfl) hcell (flat_one _) hroom (by rw [hz1, hcs, flat_len]; simp; omega)
        rw [hr] at hn
        injection hn with hn _
        exact ⟨_, _, hn, .inl rfl⟩
      · have hn := run_append_grow (P := Try.prog) (A.alloc (.cells #[.int .i64 x, .int .i64 y] 44)) 27 27 44 i0 (.agg #[.int .i64 0, .int .i64 0]) Try.underlying27 hi0 hz0 ⟨g, 0, none⟩ i cap l (by rw [hz1]; exact hrow.1) ((hrow.alloc _).cells (g := g) rfl) ⟨A.heap.size, 0, none⟩ 1 1 (flat [(x, y)]) (by rw [hz1]; rfl) hcell (by omega) (by omega) (growslice_fits (by omega) (by rw [hz2]; omega))
        rw [hr] at hn
        injection hn with hn _
        exact ⟨_, _, hn, .inr (by simp)⟩
  obtain ⟨g, cap, rfl, hg⟩ := hv'
  have k1 : Boxed w1 b1 27 v := (hv.alloc _).kept hgrow (hv.not_row (by decide) hrow)
  have k2 := k1.set (.slice (some ⟨g, 0, none⟩) (i + 1) cap)
  have k3 : (w1.setCell ⟨b1, 0, none⟩ (.slice (some ⟨g, 0, none⟩) (i + 1) cap)).ownsRow base 44 2 (.slice (some ⟨g, 0, none⟩) (i + 1) cap) (i + 1) (l ++ flat [(x, y)]) := hown.kept (grownBy_setCell' w1 b1 _) (.inr (k1.not_row (by decide) hown).symm)
  refine ⟨w1, g, cap, hr, hg, k1.cell, k1.frozen, k2, k3, fun K hK1 hK2 => ?_⟩
  exact ((Keep.alloc K A _).trans (Keep.grown hgrow hK2)).trans (Keep.setCell _ _ _ hK1)
theorem append_run {F : Fence} {n : Nat} {P : Program} (w : World) {ops : Array Oper} {rest : List Oper} {o : Oper} {a : Act} {Q : Exit → Act → World → Prop}
    (hg : o.guard = none) (s x : Operand) (t : TypeId) (hop : o.op = Op.call { callee := Callee.builtin Builtin.append, args := #[s, x], argTypes := #[t, t] }) (v u v' : Value) (w' : World) (hs : a.eval s = v) (hx : a.eval x = u)
    (hrun : (Builtin.append_ #[t, t] o.type #[v, u]).run P w = .ok v' w') (hK : wpListIn F n P ops Q rest (a.put o.dst v') w') : wpListIn F n P ops Q (o :: rest) a w := by
  refine wpListIn_plain hg fun K hK' => ?_
  unfold Oper.wpIn
  refine ⟨?_, ?_⟩
  · simp [Oper.about, hop, resolve, Target.leads, Sem.run_pure]
  · rw [Oper.semAt_plain F _ _ (by rw [hop]; intro c hc'; cases hc')]
    simp [execOp, hop, resolve, invoke, builtin, hs, hx, hrun, Result.andThen]
    exact hK' _ _ hK
theorem both_below {w A : World} {N : Nat → Prop} (h1 : Keep (fun k => k < w.heap.size ∧ ¬ N k) w A) (h2 : Keep N w A) : Below w.heap.size w A :=
  ⟨h1.os, h1.tape, h1.output, h1.size, fun k hk => by
    by_cases hn : N k
    · exact h2.block k hk hn
    · exact h1.block k hk ⟨hk, hn⟩⟩
theorem each_not_nil (W : World) (c : Array Value) : (binOp .eql 47 (.func (.func 39) #[] c) .nilFunc).run Try.prog W = .ok (.bool false) W := by kernel_rfl
theorem take_next {xs : List (Int × Int)} {i : Nat} {x : Int × Int} (h : xs[i]? = some x) : flat (xs.take (i + 1)) = flat (xs.take i) ++ flat [(x.1, x.2)] := by
  obtain ⟨hi, hx⟩ := List.getElem?_eq_some_iff.1 h
  rw [List.take_succ_eq_append_getElem hi, flat_append, hx]
set_option maxRecDepth 100000 in
set_option maxHeartbeats 2000000 in
theorem told_of (X Y : Nat) (xs : List (Int × Int)) (w : World) (m : Nat) (hm : m ≤ 1000000) (N : Nat → Prop) (hNl : ∀ k, N k → k < w.heap.size)
    (hseq : ∀ W, Keep (fun _ => True) w W → Tells Try.prog 39 #[.pointer (some ⟨X, 0, none⟩), .pointer (some ⟨Y, 0, none⟩)] (fun _ e => #[.int .i64 e.1, .int .i64 e.2]) xs N (fun _ B => Keep N w B) W) :
    Calls Try.prog 21 #[.func (.func 39) #[] #[.pointer (some ⟨X, 0, none⟩), .pointer (some ⟨Y, 0, none⟩)], .int .i64 (m : Int)] w fun e B => ∃ v, e = .returned v ∧ Es B v (xs.take m) ∧ Below w.heap.size w B := by
  refine callsIn_wide (n := 0).1 (callsIn_of_wp_marks Try.func21 rfl trivial ?_ rfl)
  simp only [Try.ntmps21, List.size_toArray, List.length_cons, List.length_nil, Nat.reduceAdd, Nat.reduceSub, Array.replicate_succ, Array.replicate_zero, List.push_toArray, List.append_toArray, List.nil_append, List.cons_append]
  have HS := Lib.hid hseq
  clear hseq
  have nn := each_not_nil
  gi_wp2_with fail
  obtain ⟨W, hW⟩ : ∃ W, (w.alloc (.cells #[.int .i64 (m : Int)] 3)).alloc (.cells #[.slice none 0 0] 27) = W := ⟨_, rfl⟩
  rw [hW]
  have kW : Keep (fun _ => True) w W := by rw [← hW]; exact (Keep.alloc _ _ _).trans (Keep.alloc _ _ _)
  have hs : W.heap.size = w.heap.size + 2 := by rw [← hW]; simp
  have hb0 : W.heap[w.heap.size]? = some (.cells #[.int .i64 (m : Int)] 3 (0, 0)) := by rw [← hW]; exact heap_old (World.alloc_heap_new _ _)
  have hb1 : W.heap[w.heap.size + 1]? = some (.cells #[.slice none 0 0] 27 (0, 0)) := by rw [← hW]; exact heap_next (by simp) _
  clear hW
  apply range_law (gf := 39) (lb := #[.pointer (some ⟨X, 0, none⟩), .pointer (some ⟨Y, 0, none⟩)]) (xs := xs) (N := N) (T := fun _ B => Keep N w B) (encs := fun _ e => #[.int .i64 e.1, .int .i64 e.2])
    (hg := rfl) (eg := enters_of Try.func39 (by kernel_rfl) rfl)
    (hseq := fun B hB => HS.out B (kW.trans hB)) (hN := fun k hk => by have := hNl k hk; omega) (hT := fun i A l o o' hl _ hk => hk.trans (Keep.putObj _ _ _ fun hn => by have := hNl l hn; omega)) (hps := fun _ _ => rfl)
    (I := fun i M A => ∃ v, (∀ k, M k ↔ (k < w.heap.size ∧ ¬ N k) ∨ k = w.heap.size ∨ k = w.heap.size + 1 ∨ v.ownBlock = some k) ∧ Keep (fun k => k < w.heap.size ∧ ¬ N k) w A ∧ i ≤ m ∧ w.heap.size + 1 < A.heap.size ∧ A.heap[w.heap.size]? = some (.cells #[.int .i64 (m : Int)] 3 (0, 0)) ∧ Boxed A (w.heap.size + 1) 27 v ∧ A.ownsRow (w.heap.size + 2) 44 2 v i (flat (xs.take i)))
    (Ix := fun c _ M A => c = .exit 0 ∧ ∃ v, (∀ k, M k ↔ (k < w.heap.size ∧ ¬ N k) ∨ k = w.heap.size ∨ k = w.heap.size + 1 ∨ v.ownBlock = some k) ∧ Keep (fun k => k < w.heap.size ∧ ¬ N k) w A ∧ w.heap.size + 1 < A.heap.size ∧ Boxed A (w.heap.size + 1) 27 v ∧ ∃ q, q = (xs.take m).length ∧ A.ownsRow (w.heap.size + 2) 44 2 v q (flat (xs.take m)))
    (hI := fun i M A B hi hk => by
      obtain ⟨v, hM, hB, him, hsz, h0, h1, h2⟩ := hi
      exact ⟨v, hM, hB.trans (hk.mono fun k _ hk' => (hM k).2 (.inl hk')), him, Nat.lt_of_lt_of_le hsz hk.size, hk.heap h0 ((hM _).2 (.inr (.inl rfl))), hk.heap h1 ((hM _).2 (.inr (.inr (.inl rfl)))),
        own_keep h2 fun g hg => hk.block g ((World.ownsRow.lt h2 g hg).2) ((hM _).2 (.inr (.inr (.inr hg))))⟩)
    (hIx := fun c i M A B hi hk => by
      obtain ⟨hc, v, hM, hB, hsz, h1, q, hq, h2⟩ := hi
      exact ⟨hc, v, hM, hB.trans (hk.mono fun k _ hk' => (hM k).2 (.inl hk')), Nat.lt_of_lt_of_le hsz hk.size, hk.heap h1 ((hM _).2 (.inr (.inr (.inl rfl)))), q, hq,
        own_keep h2 fun g hg => hk.block g ((World.ownsRow.lt h2 g hg).2) ((hM _).2 (.inr (.inr (.inr hg))))⟩)
    (M0 := fun k => (k < w.heap.size ∧ ¬ N k) ∨ k = w.heap.size ∨ k = w.heap.size + 1 ∨ (Value.slice none 0 0).ownBlock = some k)
    (hM0 := fun k hk => by
      rcases hk with h | h | h | h
      · exact ⟨by omega, h.2⟩
      · exact ⟨by omega, fun hn => by have := hNl k hn; omega⟩
      · exact ⟨by omega, fun hn => by have := hNl k hn; omega⟩
      · simp [Value.ownBlock] at h)
    (h0 := ⟨.slice none 0 0, fun _ => Iff.rfl, kW.mono fun _ _ _ => trivial, Nat.zero_le _, by omega, hb0, hb1, World.ownsRow_nil _ _ _ _⟩)
  case hassign =>
    intro l i x W K hK
    gi_wp2
    exact hK
  case hbody =>
    rintro l i x M A hx ⟨v, hM, hB, him, hsz, h0, h1, h2⟩ hsA
    have c0 : A.cell? ⟨w.heap.size, 0, none⟩ = some (.int .i64 (m : Int)) := by rw [cell_of h0]; rfl
    have c1 := h1.cell
    obtain ⟨w1, g, cap, hr, hg, d1, f1, hv1, hv2, hv3⟩ := put_out h1 h2 (by omega) (by omega) x.1 x.2
    obtain ⟨a, cap0, rfl⟩ := own_slice h2
    have X0 := Lib.hid hM
    have X1 := Lib.hid hB
    have X2 := Lib.hid h0
    have X3 := Lib.hid h1
    have X4 := Lib.hid h2
    have X5 := Lib.hid hg
    have X6 := Lib.hid hv1
    have X7 := Lib.hid hv2
    have X8 := Lib.hid hv3
    have X9 := Lib.hid hx
    have Y1 := Lib.hid hsz
    have Y2 := Lib.hid hsA
    clear hM hB h0 h1 h2 hg hv1 hv2 hv3 hx hs hb0 hb1 kW hsz hsA
    have HR := Lib.hid hr
    clear hr
    by_cases hlt : i < m
    · have t1 : decide ((m : Int) ≤ (i : Int)) = false := by simp; omega
      gi_wp2_with (gi_at_builtin; refine append_run _ rfl _ _ 27 rfl _ _ _ _ rfl rfl HR.out ?_)
      refine ⟨_, fun k hk => ?_, X8.out _ (fun h => h ((X0.out _).2 (.inr (.inr (.inl rfl))))) (fun g hg h => h ((X0.out _).2 (.inr (.inr (.inr hg))))), _, fun _ => Iff.rfl, ?_, by omega, ?_, ?_, X6.out, ?_⟩
      · rcases hk with hk | hk | hk | hk
        · exact .inl ((X0.out k).2 (.inl hk))
        · exact .inl ((X0.out k).2 (.inr (.inl hk)))
        · exact .inl ((X0.out k).2 (.inr (.inr (.inl hk))))
        · obtain rfl : g = k := by simpa [Value.ownBlock] using hk
          rcases X5.out with h | h
          · exact .inl ((X0.out g).2 (.inr (.inr (.inr h))))
          · exact .inr h
      · exact X1.out.trans (X8.out (fun k => k < w.heap.size ∧ ¬ N k) (fun h => by omega) (fun g hg h => by have := (World.ownsRow.lt X4.out g hg).1; omega))
      · have hk := X8.out (fun _ => False) id (fun _ _ => id)
        exact Nat.lt_of_lt_of_le Y1.out hk.size
      · have hk := X8.out (fun k => k = w.heap.size) (by omega) (fun g hg e => by have := (World.ownsRow.lt X4.out g hg).1; omega)
        exact hk.heap X2.out rfl
      · rw [take_next X9.out]
        exact X7.out
    · obtain rfl : i = m := by omega
      gi_wp2
      exact ⟨M, fun k hk => .inl hk, Keep.refl _ _, rfl, _, X0.out, X1.out, Y1.out, X3.out, i, by have := (List.getElem?_eq_some_iff.1 X9.out).1; simp; omega, X4.out⟩
  case hdone =>
    rintro D M A hD hMD ⟨v, hM, hB, him, hsz, h0, h1, h2⟩ hTA hDe
    have c1 := h1.cell
    obtain ⟨a, cap0, rfl⟩ := own_slice h2
    have X1 := Lib.hid (both_below hB hTA)
    clear hTA
    have X4 := Lib.hid h2
    have X5 := Lib.hid hs
    clear hM hB h0 h1 h2 hs hb0 hb1 kW
    gi_wp2
    have hs := X5.out
    refine ⟨by simp, .inl ⟨_, _, rfl, run_takeDeferred hDe, ?_⟩⟩
    refine ⟨_, results_tmp rfl _ _ _, _, rfl, ?_, X1.out.trans ⟨rfl, rfl, rfl, by simp, fun k hk => World.putObj_heap_other (by omega)⟩⟩
    have e : xs.take m = xs.take xs.length := by rw [List.take_of_length_le him, List.take_length]
    have h4 := ownsRow_putObj X4.out (.deferred none) hDe rfl
    rw [e]
    refine Es.of_own (base := w.heap.size + 2) ?_
    rwa [show (xs.take xs.length).length = xs.length by simp]
  case hstop =>
    rintro D c i M A hD hMD _ _ ⟨rfl, v, hM, hB, hsz, h1, q, hq, h2⟩ hTA hDe
    have c1 := h1.cell
    obtain ⟨a, cap0, rfl⟩ := own_slice h2
    have X1 := Lib.hid (both_below hB hTA)
    clear hTA
    have X4 := Lib.hid h2
    have X5 := Lib.hid hs
    have X6 := Lib.hid hq
    clear hM hB h1 h2 hs hb0 hb1 kW hq
    gi_wp2
    have hs := X5.out
    refine ⟨by simp, .inl ⟨_, _, rfl, run_takeDeferred hDe, ?_⟩⟩
    refine ⟨_, results_tmp rfl _ _ _, _, rfl, ?_, X1.out.trans ⟨rfl, rfl, rfl, by simp, fun k hk => World.putObj_heap_other (by omega)⟩⟩
    have h4 := ownsRow_putObj X4.out (.deferred none) hDe rfl
    refine Es.of_own (base := w.heap.size + 2) ?_
    rwa [← X6.out]
end Go.Proofs.Ytaoiadejafaleaa
