/-
  drained, the law's own helper, by its contract: the things that Drain takes, at most so many.
-/
import Derived.Test.YtgkiekidmadabaaTold
namespace Go.Proofs.Ytgkiekidmadabaa
open Go.RowKit Go.Shelf
attribute [local go_sem] Oper.semAt_some wide_fn wide_depth
set_option maxRecDepth 100000 in
set_option maxHeartbeats 2000000 in
theorem drained_of (p : Option Addr) (xs : List Int) (w : World) (F : Nat → Prop) (T : Nat → World → Prop) (m : Nat) (hm : 1 ≤ m) (hxl : xs.length ≤ 1000000) (hF : ∀ k, F k → k < w.heap.size) (hT : ∀ i A l o, w.heap.size ≤ l → T i A → T i (A.putObj l o))
    (hseq : ∀ W, Keep (fun _ => True) w W → W.heap[w.heap.size + 1 + 1]? = some (.cells #[.pointer p] 24 (0, 0)) → Tells Try.prog 39 #[.pointer (some ⟨w.heap.size + 1 + 1, 0, none⟩)] (fun _ x => #[.int .i64 x]) xs (fun k => F k ∨ k = w.heap.size + 1 + 1) T W) :
    Calls Try.prog 16 #[.pointer p, .int .i64 (m : Int)] w fun e B => ∃ v, e = .returned v ∧ Row B v (xs.take m) ∧ T (min m xs.length) B ∧ Keep (fun k => ¬ F k) w B := by
  refine callsIn_wide (n := 0).1 (callsIn_of_wp_marks Try.func16 rfl trivial ?_ rfl)
  simp only [Try.ntmps16, List.size_toArray, List.length_cons, List.length_nil, Nat.reduceAdd, Nat.reduceSub, Array.replicate_succ, Array.replicate_zero, List.push_toArray, List.append_toArray, List.nil_append, List.cons_append]
  have HS := Lib.hid hseq
  clear hseq
  have nn := drain_not_nil
  have t0 : decide ((m : Int) < 1) = false := by simp; omega
  gi_wp2_with (gi_at_call 31; refine (callsIn_wide (n := 0).2 (drain_any _ _)).mono ?_; rintro e w1 ⟨rfl, rfl⟩)
  obtain ⟨W, hW⟩ : ∃ W, ((w.alloc (.cells #[.int .i64 (m : Int)] 3)).alloc (.cells #[.slice none 0 0] 26)).alloc (.cells #[.pointer p] 24) = W := ⟨_, rfl⟩
  rw [hW]
  have kW : Keep (fun _ => True) w W := by rw [← hW]; exact ((Keep.alloc _ _ _).trans (Keep.alloc _ _ _)).trans (Keep.alloc _ _ _)
  have hs : W.heap.size = w.heap.size + 3 := by rw [← hW]; simp
  have hb0 : W.heap[w.heap.size]? = some (.cells #[.int .i64 (m : Int)] 3 (0, 0)) := by rw [← hW]; exact heap_old (heap_old (World.alloc_heap_new _ _))
  have hb1 : W.heap[w.heap.size + 1]? = some (.cells #[.slice none 0 0] 26 (0, 0)) := by rw [← hW]; exact heap_old (heap_next (by simp) _)
  have hp : W.heap[w.heap.size + 1 + 1]? = some (.cells #[.pointer p] 24 (0, 0)) := by rw [← hW]; exact heap_next (by simp) _
  clear hW
  refine range_law (gf := 39) (lb := #[.pointer (some ⟨w.heap.size + 1 + 1, 0, none⟩)]) (xs := xs) (N := fun k => F k ∨ k = w.heap.size + 1 + 1) (T := T) (encs := fun _ x => #[.int .i64 x])
    rfl (enters_of Try.func39 (by kernel_rfl) rfl)
    (fun B hB => HS.out B (kW.trans hB) (hB.heap hp trivial)) (fun k h => by rcases h with h | rfl; have := hF k h; omega; omega) (fun i A l _ o' hl _ ht => hT i A l (.loop o') (by omega) ht) (fun _ _ => rfl)
    (fun i M A => ∃ v, (∀ k, M k ↔ (k < w.heap.size ∧ ¬ F k) ∨ k = w.heap.size ∨ k = w.heap.size + 1 ∨ v.ownBlock = some k) ∧ Keep (fun k => k < w.heap.size ∧ ¬ F k) w A ∧ i < m ∧ w.heap.size + 1 < A.heap.size ∧ A.heap[w.heap.size]? = some (.cells #[.int .i64 (m : Int)] 3 (0, 0)) ∧ Boxed A (w.heap.size + 1) 26 v ∧ A.ownsRow (w.heap.size + 2) 3 1 v i ((xs.take i).map (Value.int .i64)))
    (fun c i M A => c = .exit 0 ∧ i = m ∧ ∃ v, (∀ k, M k ↔ (k < w.heap.size ∧ ¬ F k) ∨ k = w.heap.size ∨ k = w.heap.size + 1 ∨ v.ownBlock = some k) ∧ Keep (fun k => k < w.heap.size ∧ ¬ F k) w A ∧ w.heap.size + 1 < A.heap.size ∧ Boxed A (w.heap.size + 1) 26 v ∧ ∃ q, q = (xs.take m).length ∧ A.ownsRow (w.heap.size + 2) 3 1 v q ((xs.take m).map (Value.int .i64)))
    (fun i M A B hi hk => by
      obtain ⟨v, hM, hB, him, hsz, h0, h1, h2⟩ := hi
      exact ⟨v, hM, hB.trans (hk.mono fun k _ h => (hM k).2 (.inl h)), him, Nat.lt_of_lt_of_le hsz hk.size, hk.heap h0 ((hM _).2 (.inr (.inl rfl))), hk.heap h1 ((hM _).2 (.inr (.inr (.inl rfl)))),
        own_keep h2 fun g hg => hk.block g ((World.ownsRow.lt h2 g hg).2) ((hM _).2 (.inr (.inr (.inr hg))))⟩)
    (fun c i M A B hi hk => by
      obtain ⟨hc, him, v, hM, hB, hsz, h1, q, hq, h2⟩ := hi
      exact ⟨hc, him, v, hM, hB.trans (hk.mono fun k _ h => (hM k).2 (.inl h)), Nat.lt_of_lt_of_le hsz hk.size, hk.heap h1 ((hM _).2 (.inr (.inr (.inl rfl)))), q, hq,
        own_keep h2 fun g hg => hk.block g ((World.ownsRow.lt h2 g hg).2) ((hM _).2 (.inr (.inr (.inr hg))))⟩)
    (fun k => (k < w.heap.size ∧ ¬ F k) ∨ k = w.heap.size ∨ k = w.heap.size + 1 ∨ (Value.slice none 0 0).ownBlock = some k)
    (fun k hk => by
      rcases hk with ⟨h, h'⟩ | rfl | rfl | h
      · exact ⟨by omega, fun hn => by rcases hn with hn | rfl; exact h' hn; omega⟩
      · exact ⟨by omega, fun hn => by rcases hn with hn | hn; have := hF _ hn; omega; omega⟩
      · exact ⟨by omega, fun hn => by rcases hn with hn | hn; have := hF _ hn; omega; omega⟩
      · simp [Value.ownBlock] at h)
    ⟨.slice none 0 0, fun _ => Iff.rfl, kW.mono (fun _ _ _ => trivial), hm, by omega, hb0, hb1, World.ownsRow_nil _ _ _ _⟩
    (fun _ x => { tmps := #[.pointer p, .int .i64 (m : Int), undef, .pointer (some ⟨w.heap.size, 0, none⟩), .slice none 0 0, .pointer (some ⟨w.heap.size + 1, 0, none⟩), .func (.func 39) #[] #[.pointer (some ⟨w.heap.size + 1 + 1, 0, none⟩)], .int .i64 x, .pointer p, .func (.func 39) #[] #[.pointer (some ⟨w.heap.size + 1 + 1, 0, none⟩)], .int .i64 (m : Int), .bool false, .bool false, .func (.func 39) #[] #[.pointer (some ⟨w.heap.size + 1 + 1, 0, none⟩)], .bool false, .bool false, undef, .func (.func 39) #[] #[.pointer (some ⟨w.heap.size + 1 + 1, 0, none⟩)], .int .i64 x, undef, undef, undef, undef, undef, undef, undef, undef, undef], defers := [] }) ?assign ?body ?done ?stop
  case assign =>
    intro l i x W K hK
    gi_wp2
    exact hK
  case body =>
    rintro l i x M A hx ⟨v, hM, hB, him, hsz, h0, h1, h2⟩ hsA
    have c0 : A.cell? ⟨w.heap.size, 0, none⟩ = some (.int .i64 (m : Int)) := by rw [cell_of h0]; rfl
    have c1 := h1.cell
    have hil := (List.getElem?_eq_some_iff.1 hx).1
    obtain ⟨w1, g, cap, hr, hg, d1, f1, hv1, hv2, hv3⟩ := put_out h1 h2 (by omega) (by omega) x
    obtain ⟨a, cap0, rfl⟩ := own_slice h2
    have X0 := Lib.hid hM
    have X1 := Lib.hid hB
    have X2 := Lib.hid h0
    have X3 := Lib.hid h1
    have X4 := Lib.hid h2
    have X5 := Lib.hid hg
    have X6 := Lib.hid hv1
    have X7 := Lib.hid hv2
    have X8 := Lib.hid hv3
    have X9 := Lib.hid hx
    have Y1 := Lib.hid hsz
    have Y2 := Lib.hid hsA
    clear hM hB h0 h1 h2 hg hv1 hv2 hv3 hx hs hb0 hb1 hp kW hsz hsA
    have HR := Lib.hid hr
    clear hr
    have e1 : (w1.setCell ⟨w.heap.size + 1, 0, none⟩ (.slice (some ⟨g, 0, none⟩) (i + 1) cap)).cell? ⟨w.heap.size + 1, 0, none⟩ = some (.slice (some ⟨g, 0, none⟩) (i + 1) cap) := X6.out.cell
    have k0 := X8.out (fun k => k = w.heap.size) (by omega) (fun g hg e => by have := (World.ownsRow.lt X4.out g hg).1; omega)
    have h0' := k0.heap X2.out rfl
    have e0 : (w1.setCell ⟨w.heap.size + 1, 0, none⟩ (.slice (some ⟨g, 0, none⟩) (i + 1) cap)).cell? ⟨w.heap.size, 0, none⟩ = some (.int .i64 (m : Int)) := by rw [cell_of h0']; rfl
    have Y3 := Lib.hid h0'
    clear h0' k0
    have fin : Hid (∀ M' : Nat → Prop, (∀ k, M' k ↔ (k < w.heap.size ∧ ¬ F k) ∨ k = w.heap.size ∨ k = w.heap.size + 1 ∨ (Value.slice (some ⟨g, 0, none⟩) (i + 1) cap).ownBlock = some k) → (∀ k, M' k → M k ∨ A.heap.size ≤ k)) := fun M' hM' k hk => by
      rcases (hM' k).1 hk with hk | hk | hk | hk
      · exact .inl ((X0.out k).2 (.inl hk))
      · exact .inl ((X0.out k).2 (.inr (.inl hk)))
      · exact .inl ((X0.out k).2 (.inr (.inr (.inl hk))))
      · obtain rfl : g = k := by simpa [Value.ownBlock] using hk
        rcases X5.out with h | h
        · exact .inl ((X0.out g).2 (.inr (.inr (.inr h))))
        · exact .inr h
    have fin2 : Hid (Keep (fun k => ¬ M k) A (w1.setCell ⟨w.heap.size + 1, 0, none⟩ (.slice (some ⟨g, 0, none⟩) (i + 1) cap)) ∧ Keep (fun k => k < w.heap.size ∧ ¬ F k) w (w1.setCell ⟨w.heap.size + 1, 0, none⟩ (.slice (some ⟨g, 0, none⟩) (i + 1) cap)) ∧ w.heap.size + 1 < (w1.setCell ⟨w.heap.size + 1, 0, none⟩ (.slice (some ⟨g, 0, none⟩) (i + 1) cap)).heap.size) :=
      ⟨X8.out _ (fun h => h ((X0.out _).2 (.inr (.inr (.inl rfl))))) (fun g hg h => h ((X0.out _).2 (.inr (.inr (.inr hg))))),
        X1.out.trans (X8.out _ (by omega) (fun g hg => by have := (World.ownsRow.lt X4.out g hg).1; omega)), Nat.lt_of_lt_of_le Y1.out (X8.out (fun _ => False) id (fun _ _ => id)).size⟩
    by_cases hlt : i + 1 < m
    · have t1 : decide ((m : Int) ≤ (i : Int) + 1) = false := by simp; omega
      gi_wp2_with (gi_at_builtin; refine append_run _ rfl _ _ 26 rfl _ _ _ _ rfl rfl HR.out ?_)
      refine ⟨_, fin.out _ (fun _ => Iff.rfl), fin2.out.1, _, fun _ => Iff.rfl, fin2.out.2.1, by omega, fin2.out.2.2, Y3.out, X6.out, ?_⟩
      rw [take_next X9.out]
      exact X7.out
    · have t1 : decide ((m : Int) ≤ (i : Int) + 1) = true := by simp; omega
      have hmi : i + 1 = m := by omega
      have Y4 := Lib.hid hmi
      clear hmi
      gi_wp2_with (gi_at_builtin; refine append_run _ rfl _ _ 26 rfl _ _ _ _ rfl rfl HR.out ?_)
      refine ⟨_, fin.out _ (fun _ => Iff.rfl), fin2.out.1, rfl, Y4.out, _, fun _ => Iff.rfl, fin2.out.2.1, fin2.out.2.2, X6.out, i + 1, ?_, ?_⟩
      · have := (List.getElem?_eq_some_iff.1 X9.out).1; have := Y4.out; simp; omega
      · rw [← Y4.out, take_next X9.out]
        exact X7.out
  case done =>
    rintro D M A hD hMD ⟨v, hM, hB, him, hsz, h0, h1, h2⟩ ht hDe
    have c1 := h1.cell
    obtain ⟨a, cap0, rfl⟩ := own_slice h2
    have X1 := Lib.hid hB
    have X4 := Lib.hid h2
    have X5 := Lib.hid hs
    have X6 := Lib.hid ht
    clear hM hB h0 h1 h2 hs hb0 hb1 hp kW ht
    gi_wp2
    have hs := X5.out
    refine ⟨by simp, .inl ⟨_, _, rfl, run_takeDeferred hDe, ?_⟩⟩
    refine ⟨_, results_tmp rfl _ _ _, _, rfl, ?_, ?_, ⟨X1.out.os, X1.out.tape, X1.out.output, by have := X1.out.size; simp; omega, fun k hk h => (World.putObj_heap_other (by omega)).trans (X1.out.block k hk ⟨hk, h⟩)⟩⟩
    · have e : xs.take m = xs.take xs.length := by rw [List.take_of_length_le (by omega), List.take_length]
      have h4 := ownsRow_putObj X4.out (.deferred none) hDe rfl
      rw [e]
      refine Row.of_own (base := w.heap.size + 2) ?_
      rwa [show (xs.take xs.length).length = xs.length by simp]
    · rw [Nat.min_eq_right (by omega)]
      exact hT _ _ _ _ (by omega) X6.out
  case stop =>
    rintro D c i M A hD hMD _ hil ⟨rfl, rfl, v, hM, hB, hsz, h1, q, hq, h2⟩ ht hDe
    have c1 := h1.cell
    obtain ⟨a, cap0, rfl⟩ := own_slice h2
    have X1 := Lib.hid hB
    have X4 := Lib.hid h2
    have X5 := Lib.hid hs
    have X6 := Lib.hid ht
    have X7 := Lib.hid hq
    clear hM hB h1 h2 hs hb0 hb1 hp kW ht hq
    gi_wp2
    have hs := X5.out
    refine ⟨by simp, .inl ⟨_, _, rfl, run_takeDeferred hDe, ?_⟩⟩
    refine ⟨_, results_tmp rfl _ _ _, _, rfl, ?_, ?_, ⟨X1.out.os, X1.out.tape, X1.out.output, by have := X1.out.size; simp; omega, fun k hk h => (World.putObj_heap_other (by omega)).trans (X1.out.block k hk ⟨hk, h⟩)⟩⟩
    · have h4 := ownsRow_putObj X4.out (.deferred none) hDe rfl
      refine Row.of_own (base := w.heap.size + 2) ?_
      rwa [← X7.out]
    · rw [Nat.min_eq_left hil]
      exact hT _ _ _ _ (by omega) X6.out
end Go.Proofs.Ytgkiekidmadabaa
