/-
  told and drained, the law's own helpers, by their contracts: the things that All tells, at most so many; those that Drain takes, at most so many.
-/
import Derived.Test.YtgkiekidmadabaaAll
import Derived.Test.YtgkiekidmadabaaDrain
import Derived.Test.YtgkiekidmadabaaOut
namespace Go.Proofs.Ytgkiekidmadabaa
open Go.RowKit Go.Shelf
attribute [local go_sem] Oper.semAt_some wide_fn wide_depth
theorem append_run {F : Fence} {n : Nat} {P : Program} (w : World) {ops : Array Oper} {rest : List Oper} {o : Oper} {a : Act} {Q : Exit → Act → World → Prop}
    (hg : o.guard = none) (s x : Operand) (t : TypeId) (hop : o.op = Op.call { callee := Callee.builtin Builtin.append, args := #[s, x], argTypes := #[t, t] }) (v u v' : Value) (w' : World) (hs : a.eval s = v) (hx : a.eval x = u)
    (hrun : (Builtin.append_ #[t, t] o.type #[v, u]).run P w = .ok v' w') (hK : wpListIn F n P ops Q rest (a.put o.dst v') w') : wpListIn F n P ops Q (o :: rest) a w := by
  refine wpListIn_plain hg fun K hK' => ?_
  unfold Oper.wpIn
  refine ⟨?_, ?_⟩
  · simp [Oper.about, hop, resolve, Target.leads, Sem.run_pure]
  · rw [Oper.semAt_plain F _ _ (by rw [hop]; intro c hc'; cases hc')]
    simp [execOp, hop, resolve, invoke, builtin, hs, hx, hrun, Result.andThen]
    exact hK' _ _ hK
theorem all_not_nil (W : World) (c : Array Value) : (binOp .eql 68 (.func (.func 40) #[] c) .nilFunc).run Try.prog W = .ok (.bool false) W := by kernel_rfl
theorem drain_not_nil (W : World) (c : Array Value) : (binOp .eql 65 (.func (.func 39) #[] c) .nilFunc).run Try.prog W = .ok (.bool false) W := by kernel_rfl
theorem take_next {xs : List Int} {i : Nat} {x : Int} (h : xs[i]? = some x) : (xs.take (i + 1)).map (Value.int .i64) = (xs.take i).map (Value.int .i64) ++ [.int .i64 x] := by
  obtain ⟨hi, hx⟩ := List.getElem?_eq_some_iff.1 h
  rw [List.take_succ_eq_append_getElem hi, List.map_append, hx]
  rfl
set_option maxRecDepth 100000 in
set_option maxHeartbeats 2000000 in
theorem told_of (p : Option Addr) (xs : List Int) (w : World) (m : Nat) (hm : m ≤ 1000000)
    (hseq : ∀ W Bx, Keep (fun _ => True) w W → W.cell? ⟨Bx, 0, none⟩ = some (.pointer p) → Tells Try.prog 40 #[.pointer (some ⟨Bx, 0, none⟩)] (fun i x => #[.int .i64 (i : Int), .int .i64 x]) xs (fun _ => False) (fun _ _ => True) W) :
    Calls Try.prog 20 #[.pointer p, .int .i64 (m : Int)] w fun e B => ∃ v, e = .returned v ∧ Row B v (xs.take m) ∧ Below w.heap.size w B := by
  refine callsIn_wide (n := 0).1 (callsIn_of_wp_marks Try.func20 rfl trivial ?_ rfl)
  simp only [Try.ntmps20, List.size_toArray, List.length_cons, List.length_nil, Nat.reduceAdd, Nat.reduceSub, Array.replicate_succ, Array.replicate_zero, List.push_toArray, List.append_toArray, List.nil_append, List.cons_append]
  have HS := Lib.hid hseq
  clear hseq
  have nn := all_not_nil
  gi_wp2_with (gi_at_call 32; refine (callsIn_wide (n := 0).2 (all_any _ _)).mono ?_; rintro e w1 ⟨rfl, rfl⟩)
  obtain ⟨W, hW⟩ : ∃ W, ((w.alloc (.cells #[.int .i64 (m : Int)] 3)).alloc (.cells #[.slice none 0 0] 26)).alloc (.cells #[.pointer p] 24) = W := ⟨_, rfl⟩
  rw [hW]
  have kW : Keep (fun _ => True) w W := by rw [← hW]; exact ((Keep.alloc _ _ _).trans (Keep.alloc _ _ _)).trans (Keep.alloc _ _ _)
  have hs : W.heap.size = w.heap.size + 3 := by rw [← hW]; simp
  have hb0 : W.heap[w.heap.size]? = some (.cells #[.int .i64 (m : Int)] 3 (0, 0)) := by rw [← hW]; exact heap_old (heap_old (World.alloc_heap_new _ _))
  have hb1 : W.heap[w.heap.size + 1]? = some (.cells #[.slice none 0 0] 26 (0, 0)) := by rw [← hW]; exact heap_old (heap_next (by simp) _)
  have hp : W.heap[w.heap.size + 1 + 1]? = some (.cells #[.pointer p] 24 (0, 0)) := by rw [← hW]; exact heap_next (by simp) _
  clear hW
  refine range_law (gf := 40) (lb := #[.pointer (some ⟨w.heap.size + 1 + 1, 0, none⟩)]) (xs := xs) (N := fun _ => False) (T := fun _ _ => True) (encs := fun i x => #[.int .i64 (i : Int), .int .i64 x])
    rfl (enters_of Try.func40 (by kernel_rfl) rfl)
    (fun B hB => HS.out B _ (kW.trans hB) (by rw [cell_of (hB.heap hp trivial)]; rfl)) (fun _ h => h.elim) (fun _ _ _ _ _ _ _ _ => trivial) (fun _ _ => rfl)
    (fun i M A => ∃ v, (∀ k, M k ↔ k < w.heap.size ∨ k = w.heap.size ∨ k = w.heap.size + 1 ∨ v.ownBlock = some k) ∧ Below w.heap.size w A ∧ i ≤ m ∧ w.heap.size + 1 < A.heap.size ∧ A.heap[w.heap.size]? = some (.cells #[.int .i64 (m : Int)] 3 (0, 0)) ∧ Boxed A (w.heap.size + 1) 26 v ∧ A.ownsRow (w.heap.size + 2) 3 1 v i ((xs.take i).map (Value.int .i64)))
    (fun c _ M A => c = .exit 0 ∧ ∃ v, (∀ k, M k ↔ k < w.heap.size ∨ k = w.heap.size ∨ k = w.heap.size + 1 ∨ v.ownBlock = some k) ∧ Below w.heap.size w A ∧ w.heap.size + 1 < A.heap.size ∧ Boxed A (w.heap.size + 1) 26 v ∧ ∃ q, q = (xs.take m).length ∧ A.ownsRow (w.heap.size + 2) 3 1 v q ((xs.take m).map (Value.int .i64)))
    (fun i M A B hi hk => by
      obtain ⟨v, hM, hB, him, hsz, h0, h1, h2⟩ := hi
      exact ⟨v, hM, ⟨hk.os.trans hB.os, hk.tape.trans hB.tape, hk.output.trans hB.output, Nat.le_trans hB.size hk.size, fun k hk' => (hk.block k (by omega) ((hM k).2 (.inl hk'))).trans (hB.block k hk')⟩, him, Nat.lt_of_lt_of_le hsz hk.size, hk.heap h0 ((hM _).2 (.inr (.inl rfl))), hk.heap h1 ((hM _).2 (.inr (.inr (.inl rfl)))),
        own_keep h2 fun g hg => hk.block g ((World.ownsRow.lt h2 g hg).2) ((hM _).2 (.inr (.inr (.inr hg))))⟩)
    (fun c i M A B hi hk => by
      obtain ⟨hc, v, hM, hB, hsz, h1, q, hq, h2⟩ := hi
      exact ⟨hc, v, hM, ⟨hk.os.trans hB.os, hk.tape.trans hB.tape, hk.output.trans hB.output, Nat.le_trans hB.size hk.size, fun k hk' => (hk.block k (by omega) ((hM k).2 (.inl hk'))).trans (hB.block k hk')⟩, Nat.lt_of_lt_of_le hsz hk.size, hk.heap h1 ((hM _).2 (.inr (.inr (.inl rfl)))), q, hq,
        own_keep h2 fun g hg => hk.block g ((World.ownsRow.lt h2 g hg).2) ((hM _).2 (.inr (.inr (.inr hg))))⟩)
    (fun k => k < w.heap.size ∨ k = w.heap.size ∨ k = w.heap.size + 1 ∨ (Value.slice none 0 0).ownBlock = some k)
    (fun k hk => ⟨by rcases hk with h | h | h | h; omega; omega; omega; simp [Value.ownBlock] at h, id⟩)
    ⟨.slice none 0 0, fun _ => Iff.rfl, kW.below (fun _ _ => trivial) (Nat.le_refl _), Nat.zero_le _, by omega, hb0, hb1, World.ownsRow_nil _ _ _ _⟩
    (fun i x => { tmps := #[.pointer p, .int .i64 (m : Int), undef, .pointer (some ⟨w.heap.size, 0, none⟩), .slice none 0 0, .pointer (some ⟨w.heap.size + 1, 0, none⟩), .func (.func 40) #[] #[.pointer (some ⟨w.heap.size + 1 + 1, 0, none⟩)], .int .i64 (i : Int), .int .i64 x, .pointer p, .func (.func 40) #[] #[.pointer (some ⟨w.heap.size + 1 + 1, 0, none⟩)], .func (.func 40) #[] #[.pointer (some ⟨w.heap.size + 1 + 1, 0, none⟩)], .bool false, .func (.func 40) #[] #[.pointer (some ⟨w.heap.size + 1 + 1, 0, none⟩)], .int .i64 (i : Int), .int .i64 x, undef, undef, undef, undef, undef, undef, undef, undef, undef, undef, undef, undef, undef, undef, undef], defers := [] }) ?assign ?body ?done ?stop
  case assign =>
    intro l i x W K hK
    gi_wp2
    exact hK
  case body =>
    rintro l i x M A hx ⟨v, hM, hB, him, hsz, h0, h1, h2⟩ hsA
    have c0 : A.cell? ⟨w.heap.size, 0, none⟩ = some (.int .i64 (m : Int)) := by rw [cell_of h0]; rfl
    have c1 := h1.cell
    obtain ⟨w1, g, cap, hr, hg, d1, f1, hv1, hv2, hv3⟩ := put_out h1 h2 (by omega) (by omega) x
    obtain ⟨a, cap0, rfl⟩ := own_slice h2
    have X0 := Lib.hid hM
    have X1 := Lib.hid hB
    have X2 := Lib.hid h0
    have X3 := Lib.hid h1
    have X4 := Lib.hid h2
    have X5 := Lib.hid hg
    have X6 := Lib.hid hv1
    have X7 := Lib.hid hv2
    have X8 := Lib.hid hv3
    have X9 := Lib.hid hx
    have Y1 := Lib.hid hsz
    have Y2 := Lib.hid hsA
    clear hM hB h0 h1 h2 hg hv1 hv2 hv3 hx hs hb0 hb1 hp kW hsz hsA
    have HR := Lib.hid hr
    clear hr
    by_cases hlt : i < m
    · have t1 : decide ((m : Int) ≤ (i : Int)) = false := by simp; omega
      gi_wp2_with (gi_at_builtin; refine append_run _ rfl _ _ 26 rfl _ _ _ _ rfl rfl HR.out ?_)
      refine ⟨_, fun k hk => ?_, X8.out _ (fun h => h ((X0.out _).2 (.inr (.inr (.inl rfl))))) (fun g hg h => h ((X0.out _).2 (.inr (.inr (.inr hg))))), _, fun _ => Iff.rfl, ?_, by omega, ?_, ?_, X6.out, ?_⟩
      · rcases hk with hk | hk | hk | hk
        · exact .inl ((X0.out k).2 (.inl hk))
        · exact .inl ((X0.out k).2 (.inr (.inl hk)))
        · exact .inl ((X0.out k).2 (.inr (.inr (.inl hk))))
        · obtain rfl : g = k := by simpa [Value.ownBlock] using hk
          rcases X5.out with h | h
          · exact .inl ((X0.out g).2 (.inr (.inr (.inr h))))
          · exact .inr h
      · have hk := X8.out (fun k => k < w.heap.size) (by omega) (fun g hg => by have := (World.ownsRow.lt X4.out g hg).1; omega)
        exact X1.out.trans (hk.below (fun _ h => h) X1.out.size)
      · have hk := X8.out (fun _ => False) id (fun _ _ => id)
        exact Nat.lt_of_lt_of_le Y1.out hk.size
      · have hk := X8.out (fun k => k = w.heap.size) (by omega) (fun g hg e => by have := (World.ownsRow.lt X4.out g hg).1; omega)
        exact hk.heap X2.out rfl
      · rw [take_next X9.out]
        exact X7.out
    · obtain rfl : i = m := by omega
      gi_wp2
      exact ⟨M, fun k hk => .inl hk, Keep.refl _ _, rfl, _, X0.out, X1.out, Y1.out, X3.out, i, by have := (List.getElem?_eq_some_iff.1 X9.out).1; simp; omega, X4.out⟩
  case done =>
    rintro D M A hD hMD ⟨v, hM, hB, him, hsz, h0, h1, h2⟩ _ hDe
    have c1 := h1.cell
    obtain ⟨a, cap0, rfl⟩ := own_slice h2
    have X1 := Lib.hid hB
    have X4 := Lib.hid h2
    have X5 := Lib.hid hs
    clear hM hB h0 h1 h2 hs hb0 hb1 hp kW
    gi_wp2
    have hs := X5.out
    refine ⟨by simp, .inl ⟨_, _, rfl, run_takeDeferred hDe, ?_⟩⟩
    refine ⟨_, results_tmp rfl _ _ _, _, rfl, ?_, X1.out.trans ⟨rfl, rfl, rfl, by simp, fun k hk => World.putObj_heap_other (by omega)⟩⟩
    have e : xs.take m = xs.take xs.length := by rw [List.take_of_length_le him, List.take_length]
    have h4 := ownsRow_putObj X4.out (.deferred none) hDe rfl
    rw [e]
    refine Row.of_own (base := w.heap.size + 2) ?_
    rwa [show (xs.take xs.length).length = xs.length by simp]
  case stop =>
    rintro D c i M A hD hMD _ _ ⟨rfl, v, hM, hB, hsz, h1, q, hq, h2⟩ _ hDe
    have c1 := h1.cell
    obtain ⟨a, cap0, rfl⟩ := own_slice h2
    have X1 := Lib.hid hB
    have X4 := Lib.hid h2
    have X5 := Lib.hid hs
    have X6 := Lib.hid hq
    clear hM hB h1 h2 hs hb0 hb1 hp kW hq
    gi_wp2
    have hs := X5.out
    refine ⟨by simp, .inl ⟨_, _, rfl, run_takeDeferred hDe, ?_⟩⟩
    refine ⟨_, results_tmp rfl _ _ _, _, rfl, ?_, X1.out.trans ⟨rfl, rfl, rfl, by simp, fun k hk => World.putObj_heap_other (by omega)⟩⟩
    have h4 := ownsRow_putObj X4.out (.deferred none) hDe rfl
    refine Row.of_own (base := w.heap.size + 2) ?_
    rwa [← X6.out]
end Go.Proofs.Ytgkiekidmadabaa
