/-
  (*Row).Sum by its contract: all counters together; of no row 0.
-/
import Derived.Test.YtnbgloooklgngaaAll
namespace Go.Proofs.Ytnbgloooklgngaa
open Go.RowKit Go.Shelf
attribute [local go_sem] Oper.semAt_some wide_fn wide_depth
/-- the sum of the first i that are told. -/
def part (xs : List (Nat × Nat)) (i : Nat) : Nat := ((xs.take i).map (·.2)).sum
theorem part_next {xs : List (Nat × Nat)} {i : Nat} {x : Nat × Nat} (h : xs[i]? = some x) : part xs (i + 1) = part xs i + x.2 := by
  obtain ⟨hi, hx⟩ := List.getElem?_eq_some_iff.1 h
  rw [part, List.take_succ_eq_append_getElem hi, List.map_append, List.sum_append, hx]
  simp [part]
theorem part_le (xs : List (Nat × Nat)) (i : Nat) : part xs i ≤ part xs xs.length := by
  have h : part xs xs.length = part xs i + ((xs.drop i).map (·.2)).sum := by
    rw [part, List.take_length, part, ← List.sum_append, ← List.map_append, List.take_append_drop]
  omega
theorem both_below {w A : World} {N : Nat → Prop} {n : Nat} (h1 : Keep (fun k => k < n ∧ ¬ N k) w A) (h2 : Keep N w A) (hn : n ≤ w.heap.size) : Below n w A :=
  ⟨h1.os, h1.tape, h1.output, h1.size, fun k hk => by
    by_cases h : N k
    · exact h2.block k (by omega) h
    · exact h1.block k (by omega) ⟨hk, h⟩⟩
set_option maxRecDepth 100000 in
set_option maxHeartbeats 2000000 in
theorem sum_of (p : Option Addr) (xs : List (Nat × Nat)) (w : World) (N : Nat → Prop) (hN : ∀ k, N k → k < w.heap.size) (hlim : part xs xs.length ≤ 1000000)
    (hseq : ∀ W0 W Bx, Keep (fun _ => True) w W0 → Keep (fun _ => True) W0 W → Bx < W0.heap.size → W.cell? ⟨Bx, 0, none⟩ = some (.pointer p) → Tells Try.prog 23 #[.pointer (some ⟨Bx, 0, none⟩)] pairOf xs (fun k => N k ∨ k = Bx) (fun _ B => Keep (fun k => N k ∨ k = Bx) W0 B) W) :
    Calls Try.prog 18 #[.pointer p] w fun e B => e = .returned (.int .i64 (part xs xs.length : Int)) ∧ Below w.heap.size w B := by
  refine callsIn_wide (n := 0).1 (callsIn_of_wp_marks Try.func18 rfl trivial ?_ rfl)
  simp only [Try.ntmps18, List.size_toArray, List.length_cons, List.length_nil, Nat.reduceAdd, Nat.reduceSub, Array.replicate_succ, Array.replicate_zero, List.push_toArray, List.append_toArray, List.nil_append, List.cons_append]
  have HS := Lib.hid hseq
  clear hseq
  gi_wp2_with (gi_at_call 16; refine (callsIn_wide (n := 0).2 (all_any _ _)).mono ?_; rintro e w1 ⟨rfl, rfl⟩)
  obtain ⟨S, hS⟩ : ∃ S, w.heap.size = S := ⟨_, rfl⟩
  obtain ⟨W, hW⟩ : ∃ W, (w.alloc (.cells #[.int .i64 0] 3)).alloc (.cells #[.pointer p] 25) = W := ⟨_, rfl⟩
  rw [hW, hS]
  have kW : Keep (fun _ => True) w W := by rw [← hW]; exact (Keep.alloc _ _ _).trans (Keep.alloc _ _ _)
  have hs : W.heap.size = S + 2 := by rw [← hW, ← hS]; simp
  have hb1 : W.heap[S]? = some (.cells #[.int .i64 ((0 : Nat) : Int)] 3 (0, 0)) := by rw [← hW, ← hS]; exact heap_old (World.alloc_heap_new _ _)
  have hp : W.heap[S + 1]? = some (.cells #[.pointer p] 25 (0, 0)) := by rw [← hW, ← hS]; exact heap_next (by simp) _
  have hN' : ∀ k, N k → k < S := fun k hk => hS ▸ hN k hk
  clear hW hN
  have hN := hN'
  clear hN'
  apply range_law (gf := 23) (lb := #[.pointer (some ⟨S + 1, 0, none⟩)]) (xs := xs) (N := fun k => N k ∨ k = S + 1) (T := fun _ B => Keep (fun k => N k ∨ k = S + 1) W B) (encs := pairOf)
    (hg := rfl) (eg := enters_of Try.func23 (by kernel_rfl) rfl)
    (hseq := fun B hB => HS.out W B _ kW hB (by omega) (by rw [cell_of (hB.heap hp trivial)]; rfl)) (hN := fun k hk => by rcases hk with hk | rfl; have := hN k hk; omega; omega)
    (hT := fun i A l o o' hl _ ht => ht.trans (Keep.putObj _ _ _ (fun hk => by rcases hk with hk | rfl; have := hN l hk; omega; omega))) (hps := fun _ _ => rfl)
    (I := fun i M A => (∀ k, M k ↔ (k < S ∧ ¬ N k) ∨ k = S) ∧ Keep (fun k => k < S ∧ ¬ N k) w A ∧ A.heap[S]? = some (.cells #[.int .i64 (part xs i : Int)] 3 (0, 0)))
    (Ix := fun _ _ _ _ => False)
    (hI := fun i M A B hi hk => ⟨hi.1, hi.2.1.trans (hk.mono fun k _ h => (hi.1 k).2 (.inl h)), hk.heap hi.2.2 ((hi.1 _).2 (.inr rfl))⟩)
    (hIx := fun _ _ _ _ _ h _ => h)
    (M0 := fun k => (k < S ∧ ¬ N k) ∨ k = S) (hM0 := fun k hk => ⟨by omega, fun h => by
      rcases h with h | h
      · rcases hk with hk | rfl
        · exact hk.2 h
        · have := hN _ h; omega
      · omega⟩) (h0 := ⟨fun _ => Iff.rfl, kW.mono fun _ _ _ => trivial, hb1⟩)
  case hassign =>
    intro l i x W K hK
    gi_wp2
    exact hK
  case hbody =>
    rintro ln i x M A hx ⟨hM, hK, h1⟩ hsA
    have d1 : A.cell? ⟨S, 0, none⟩ = some (.int .i64 (part xs i : Int)) := by rw [cell_of h1]; rfl
    have f1 := frozen_of h1 0
    have hl1 : part xs i + x.2 ≤ 1000000 := by have := part_le xs (i + 1); rw [part_next hx] at this; omega
    have Y1 := Lib.hid hM
    have Y2 := Lib.hid hK
    have Y4 := Lib.hid h1
    have Y5 := Lib.hid hx
    clear hM hK h1 hx hsA hb1 hp kW hs HS hlim
    generalize hP : part xs i = P at *
    have Y6 := Lib.hid hP
    clear hP
    gi_wp2
    refine ⟨M, fun k hk => .inl hk, Keep.setCell _ _ _ (fun h => h ((Y1.out _).2 (.inr rfl))), Y1.out, Y2.out.trans (Keep.setCell _ _ _ (by simp)), ?_⟩
    rw [heap_set Y4.out 0, part_next Y5.out, Y6.out]
    simp
  case hdone =>
    rintro D M A hD hMD ⟨hM, hK, h1⟩ hT hDe
    have d1 : A.cell? ⟨S, 0, none⟩ = some (.int .i64 (part xs xs.length : Int)) := by rw [cell_of h1]; rfl
    have hB : Below S w A := both_below (N := N) hK ((kW.mono fun _ _ _ => trivial).trans (hT.mono fun _ _ h => .inl h)) (by omega)
    have X1 := Lib.hid hB
    have X2 := Lib.hid (show S < D by omega)
    have X3 := Lib.hid hS
    clear hM hK h1 hT hB hb1 hp kW hs HS hMD hlim hD hN hS
    obtain ⟨t, ht⟩ : ∃ t, part xs xs.length = t := ⟨_, rfl⟩
    rw [ht] at d1
    have X4 := Lib.hid ht
    clear ht
    gi_wp2
    refine ⟨by simp, .inl ⟨_, _, rfl, run_takeDeferred hDe, ?_⟩⟩
    have hD := X2.out
    rw [X3.out]
    exact ⟨_, results_tmp rfl _ _ _, by rw [X4.out]; rfl, X1.out.trans ⟨rfl, rfl, rfl, by simp, fun k hk => World.putObj_heap_other (by omega)⟩⟩
  case hstop =>
    rintro D c i M A _ _ _ _ h
    exact h.elim
theorem sum_some {w : World} {r g : Nat} {cs : List Nat} (h : Nib w r g cs) (hs : cs.sum ≤ 1000000) : Calls Try.prog 18 #[.pointer (some ⟨r, 0, none⟩)] w fun e B => e = .returned (.int .i64 (cs.sum : Int)) ∧ Below w.heap.size w B := by
  have e : part (told cs cs.length) (told cs cs.length).length = cs.sum := by rw [part, List.take_length, told_sum cs _ (Nat.le_refl _), List.take_length]
  have := sum_of (some ⟨r, 0, none⟩) (told cs cs.length) w (fun k => k = r ∨ k = g) (fun k hk => by rcases hk with rfl | rfl; exact h.lt.1; exact h.lt.2) (by rw [e]; exact hs) fun W0 W Bx k0 k1 hb hB =>
    all1_tells Bx (h.keep (k0.trans k1) trivial trivial) hB _ (.inl (.inl rfl)) (.inl (.inr rfl)) (.inr rfl) (fun k hk => by
      have := k1.size
      have := k0.size
      rcases hk with (rfl | rfl) | rfl
      · have := h.lt.1; omega
      · have := h.lt.2; omega
      · omega) (k1.mono fun _ _ _ => trivial)
  rwa [e] at this
theorem sum_none (w : World) : Calls Try.prog 18 #[.pointer none] w fun e B => e = .returned (.int .i64 0) ∧ Below w.heap.size w B :=
  sum_of none [] w (fun _ => False) (fun _ h => h.elim) (by simp [part]) fun W0 W Bx k0 k1 hb hB => all1_none Bx hB _ (k1.mono fun _ _ _ => trivial)
end Go.Proofs.Ytnbgloooklgngaa
