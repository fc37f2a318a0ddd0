/-
  (*Sketch).Full by its contract: how many counters of the four rows aren't 0.
-/
import Derived.Test.YtljfidbplecggaaDoorDo
import Derived.Test.YtljfidbplecggaaDoorNbAll
namespace Go.Proofs.YtljfidbplecggaaDoor
open Go.RowKit Go.Shelf
open nb (Keep Nib ct cell_of frozen_of heap_set heap_set_other heap_old heap_next heap_lt told pairOf range_law Tells all_any all1_tells)
attribute [local go_sem] Oper.semAt_some nb.wide_fn nb.wide_depth
/-- how many counters of the first j rows aren't 0. -/
def fullTo (f : Nat → List Nat) : Nat → Nat
  | 0 => 0
  | j + 1 => fullTo f j + (told (f j) (f j).length).length
theorem full_none (w : World) : Calls Tryd.prog 14 #[.pointer none] w fun e w' => e = .returned (.int .i64 0) ∧ w' = w := by
  go_enter Tryd.func14, Tryd.ntmps14
  go_wp2
  go_ret
  exact ⟨rfl, rfl⟩
/-- marks of ranges over functions: blocks from N on, each once, with no deferred call. -/
def Marks (N : Nat) (W : World) : List Deferred → Prop
  | [] => True
  | d :: ds => (∃ D, d = { target := .collected D, args := #[] } ∧ N ≤ D ∧ W.heap[D]? = some (.deferred (some [])) ∧ ∀ x ∈ ds, x.target ≠ .collected D) ∧ Marks N W ds
theorem Marks.keep {N : Nat} {K : Nat → Prop} {W B : World} (hk : Keep K W B) : ∀ {ds : List Deferred}, Marks N W ds → (∀ D, (∃ x ∈ ds, x.target = .collected D) → K D) → Marks N B ds
  | [], _, _ => trivial
  | d :: _, ⟨⟨D, hd, hn, hh, hx⟩, h⟩, hK => ⟨⟨D, hd, hn, hk.heap hh (hK D ⟨d, List.mem_cons_self, by rw [hd]⟩), hx⟩, h.keep hk fun D' ⟨x, hx, he⟩ => hK D' ⟨x, List.mem_cons_of_mem _ hx, he⟩⟩
theorem Marks.lt {N : Nat} {W : World} : ∀ {ds : List Deferred}, Marks N W ds → ∀ D, (∃ x ∈ ds, x.target = .collected D) → N ≤ D ∧ D < W.heap.size
  | [], _, _, ⟨_, hx, _⟩ => by simp at hx
  | _ :: _, ⟨⟨D, hd, hn, hh, _⟩, h⟩, D', ⟨x, hx, he⟩ => by
    rcases List.mem_cons.1 hx with rfl | hx
    · rw [hd] at he
      injection he with he
      subst he
      exact ⟨hn, heap_lt hh⟩
    · exact h.lt D' ⟨x, hx, he⟩
/-- the function returns behind its marks. -/
theorem Marks.leaves {P : Program} {fn : Func} {tmps : Array Value} {R : Ending → World → Prop} {N : Nat} {v : Value} (hv : ∀ W : World, (results fn tmps).run P W = .ok v W) : ∀ {ds : List Deferred} {W : World}, Marks N W ds → (∀ B, Below N W B → R (.returned v) B) → LeavesInM Fence.wide 0 P fn tmps R ds .returning W
  | [], W, _, h => ⟨v, hv W, h W (Below.refl _ _)⟩
  | d :: ds, W, ⟨⟨D, hd, hn, hh, hx⟩, hm⟩, h => by
    have hk : Keep (fun k => k ≠ D) W (W.putObj D (.deferred none)) := Keep.putObj _ _ _ (fun h => h rfl)
    refine ⟨by simp, .inl ⟨D, _, by rw [hd], run_takeDeferred hh, ?_⟩⟩
    exact Marks.leaves hv (hm.keep hk fun D' ⟨x, hx', he⟩ e => hx x hx' (by rw [he, e])) fun B hB => h B (Below.trans (show Below N W (W.putObj D (.deferred none)) from ⟨rfl, rfl, rfl, by simp, fun k hk => World.putObj_heap_other (by omega)⟩) hB)
/-- behind so many rows: the counter's box in block N, the marks; what lay stands. -/
structure Fu (w : World) (N : Nat) (f : Nat → List Nat) (j : Nat) (ds : List Deferred) (W : World) : Prop where
  old : Below N w W
  box : W.heap[N]? = some (.cells #[.int .i64 (fullTo f j : Int)] 3 (0, 0))
  marks : Marks (N + 1) W ds
theorem told_le (cs : List Nat) : ∀ n, (told cs n).length ≤ n
  | 0 => Nat.le_refl _
  | n + 1 => by
    have := told_le cs n
    by_cases h : ct cs n = 0
    · rw [nb.told_skip h]; omega
    · rw [nb.told_next h, List.length_append, List.length_singleton]; omega
theorem lim_of {w : World} {S seed n : Nat} {f : Nat → List Nat} (h : Sk w S seed n f) : ∀ j, j < 4 → fullTo f (j + 1) ≤ 65536 := by
  have hs : ∀ j, j < 4 → fullTo f (j + 1) ≤ fullTo f j + 4096 := fun j hj => by
    have := told_le (f j) (f j).length
    have h1 := h.len j hj
    have h2 := h.lid
    show _ + _ ≤ _
    omega
  have h0 : fullTo f 0 = 0 := rfl
  have a0 := hs 0 (by decide)
  have a1 := hs 1 (by decide)
  have a2 := hs 2 (by decide)
  have a3 := hs 3 (by decide)
  intro j hj
  rcases (show j = 0 ∨ j = 1 ∨ j = 2 ∨ j = 3 by omega) with rfl | rfl | rfl | rfl <;> simp only [Nat.reduceAdd] at * <;> omega
set_option maxRecDepth 100000 in
set_option maxHeartbeats 4000000 in
theorem full_some {w : World} {S seed n : Nat} {f : Nat → List Nat} (h : Sk w S seed n f) : Calls Tryd.prog 14 #[.pointer (some ⟨S, 0, none⟩)] w fun e B => e = .returned (.int .i64 (fullTo f 4 : Int)) ∧ Below w.heap.size w B := by
  refine callsIn_wide (n := 0).1 (callsIn_of_wp_marks Tryd.func14 rfl trivial ?_ rfl)
  simp only [Tryd.ntmps14, List.size_toArray, List.length_cons, List.length_nil, Nat.reduceAdd, Nat.reduceSub, Array.replicate_succ, Array.replicate_zero, List.push_toArray, List.append_toArray, List.nil_append, List.cons_append]
  obtain ⟨N, hN⟩ : ∃ N, w.heap.size = N := ⟨_, rfl⟩
  have F0 : Hid (Fu w N f 0 [] (w.alloc (.cells #[.int .i64 0] 3))) := ⟨(Below.refl _ _).alloc (by omega) _, heap_next hN.symm _, trivial⟩
  have h9 : S + 9 ≤ N := hN ▸ h.lt
  have lim : Hid (∀ j, j < 4 → fullTo f (j + 1) ≤ 65536) := fun j hj => lim_of h j hj
  have G : Hid (∀ j ds W, j < 4 → Fu w N f j ds W → W.cell? ⟨S, j, none⟩ = some (.pointer (some ⟨S + 2 + 2 * j, 0, none⟩)) ∧ Nib W (S + 2 + 2 * j) (S + 1 + 2 * j) (f j)) := fun j ds W hj hF => by
    have hk : Sk W S seed n f := h.below (hN ▸ hF.old)
    exact ⟨hk.cr j hj, hk.row j hj⟩
  rw [hN]
  have HN := Lib.hid hN
  clear h
  gi_wp2
  refine wpIn_loop (fun a' W => ∃ (j : Nat) (u4 u8 u9 u10 u11 u12 u13 u14 u15 u16 u17 u18 u19 u20 u21 : Value) (ds : List Deferred), (j ≤ 4 ∧ Hid (Fu w N f j ds W)) ∧ a' = { tmps := #[.pointer (some ⟨S, 0, none⟩), undef, .int .i64 0, .pointer (some ⟨N, 0, none⟩), u4, .pointer (some ⟨S, 0, none⟩), .bool false, .int .i64 (j : Int), u8, u9, u10, u11, u12, u13, u14, u15, u16, u17, u18, u19, u20, u21, undef], defers := ds }) (fun a' _ => 4 - (intOf (a'.tmps.getD 7 undef)).toNat) ?_ ?_
  · exact ⟨0, _, _, _, _, _, _, _, _, _, _, _, _, _, _, _, [], ⟨by omega, F0⟩, rfl⟩
  · rintro a' wr ⟨j, u4, u8, u9, u10, u11, u12, u13, u14, u15, u16, u17, u18, u19, u20, u21, ds, ⟨hj, hF⟩, rfl⟩
    try dsimp only
    by_cases hlt : j < 4
    · obtain ⟨c, hn⟩ := G.out j ds wr hlt hF.out
      have h1 : (0 : Int) ≤ (j : Int) := by omega
      have h2 : (j : Int) < 4 := by omega
      have Hn := Lib.hid hn
      clear hn G F0
      gi_wp2_with (gi_at_call 30; refine (callsIn_wide (n := 0).2 (all_any _ _)).mono ?_; rintro e w1 ⟨rfl, rfl⟩)
      obtain ⟨Z, hZ⟩ : ∃ Z, wr.heap.size = Z := ⟨_, rfl⟩
      obtain ⟨r, hr⟩ : ∃ r, S + 2 + 2 * j = r := ⟨_, rfl⟩
      obtain ⟨g, hg⟩ : ∃ g, S + 1 + 2 * j = g := ⟨_, rfl⟩
      rw [hr, hg] at Hn
      rw [hr] at c
      rw [hr]
      have hrN : r < N := by omega
      have hgN : g < N := by omega
      obtain ⟨W, hW⟩ : ∃ W, wr.alloc (.cells #[.pointer (some ⟨r, 0, none⟩)] 47) = W := ⟨_, rfl⟩
      rw [hW, hZ]
      have kW : Keep (fun _ => True) wr W := by rw [← hW]; exact Keep.alloc _ _ _
      have hs : W.heap.size = Z + 1 := by rw [← hW, ← hZ]; simp
      have hp : W.heap[Z]? = some (.cells #[.pointer (some ⟨r, 0, none⟩)] 47 (0, 0)) := by rw [← hW, ← hZ]; exact heap_next rfl _
      have hb1 : W.heap[N]? = some (.cells #[.int .i64 ((fullTo f j : Nat) : Int)] 3 (0, 0)) := kW.heap hF.out.box trivial
      have hNZ : N < Z := hZ ▸ heap_lt hF.out.box
      have hn : Nib W r g (f j) := Hn.out.keep kW trivial trivial
      have limj : fullTo f j + (told (f j) (f j).length).length ≤ 65536 := lim.out j hlt
      clear hW
      apply range_law (gf := 38) (lb := #[.pointer (some ⟨Z, 0, none⟩)]) (xs := told (f j) (f j).length) (N := fun k => (k = r ∨ k = g) ∨ k = Z) (T := fun _ B => Keep (fun k => (k = r ∨ k = g) ∨ k = Z) W B) (encs := pairOf)
        (hg := rfl) (eg := enters_of Tryd.func38 (by kernel_rfl) rfl)
        (hseq := fun B hB => all1_tells Z (hn.keep hB trivial trivial) (by rw [cell_of (hB.heap hp trivial)]; rfl) _ (.inl (.inl rfl)) (.inl (.inr rfl)) (.inr rfl) (fun k hk => by have := hB.size; omega) (hB.mono fun _ _ _ => trivial)) (hN := fun k hk => by omega)
        (hT := fun i A l o o' hl _ ht => ht.trans (Keep.putObj _ _ _ (fun hk => by omega))) (hps := fun _ _ => rfl)
        (I := fun i M A => (∀ k, M k ↔ (k < Z ∧ ¬ (k = r ∨ k = g))) ∧ Keep (fun k => k < Z ∧ k ≠ N ∧ ¬ (k = r ∨ k = g)) W A ∧ A.heap[N]? = some (.cells #[.int .i64 ((fullTo f j + i : Nat) : Int)] 3 (0, 0)))
        (Ix := fun _ _ _ _ => False)
        (hI := fun i M A B hi hk => ⟨hi.1, hi.2.1.trans (hk.mono fun k _ h => (hi.1 k).2 ⟨h.1, h.2.2⟩), hk.heap hi.2.2 ((hi.1 _).2 ⟨by omega, by omega⟩)⟩)
        (hIx := fun _ _ _ _ _ h _ => h)
        (M0 := fun k => k < Z ∧ ¬ (k = r ∨ k = g)) (hM0 := fun k hk => ⟨by omega, by omega⟩) (h0 := ⟨fun _ => Iff.rfl, .refl _ _, hb1⟩)
      case hassign =>
        intro l i x W K hK
        gi_wp2
        exact hK
      case hbody =>
        rintro ln i x M A hx ⟨hM, hK, h1⟩ hsA
        have d1 : A.cell? ⟨N, 0, none⟩ = some (.int .i64 ((fullTo f j + i : Nat) : Int)) := by rw [cell_of h1]; rfl
        have f1 := frozen_of h1 0
        have hl1 : fullTo f j + i + 1 ≤ 65536 := by have := (List.getElem?_eq_some_iff.1 hx).1; omega
        have Y1 := Lib.hid hM
        have Y2 := Lib.hid hK
        have Y4 := Lib.hid h1
        have Y5 : Hid (M N) := (hM N).2 ⟨hNZ, by omega⟩
        have Y7 : Hid (fullTo f j + (i + 1) = fullTo f j + i + 1) := (Nat.add_assoc _ _ _).symm
        clear hM hK h1 hx hsA hb1 hp kW hs hn limj
        generalize fullTo f j + i = P at *
        gi_wp2
        refine ⟨M, fun k hk => .inl hk, Keep.setCell _ _ _ (fun h => h Y5.out), Y1.out, Y2.out.trans (Keep.setCell _ _ _ (fun h => h.2.1 rfl)), ?_⟩
        rw [heap_set Y4.out 0, Y7.out]
        simp
      case hdone =>
        rintro D M A hD hMD ⟨hM, hK, h1⟩ hT hDe
        have FU : Hid (Fu w N f (j + 1) ({ target := .collected D, args := #[] } :: ds) A) := by
          have hb : Below N W A := ⟨hK.os, hK.tape, hK.output, hK.size, fun k hk => by
            by_cases e : k = r ∨ k = g
            · exact hT.block k (by omega) (.inl e)
            · exact hK.block k (by omega) ⟨by omega, by omega, e⟩⟩
          refine ⟨(hF.out.old.trans (kW.below (fun _ _ => trivial) (by omega))).trans hb, h1, ⟨D, rfl, by omega, hDe, fun x hx he => ?_⟩, hF.out.marks.keep (K := fun k => k < Z ∧ k ≠ N ∧ ¬ (k = r ∨ k = g)) ((kW.mono fun _ _ _ => trivial).trans hK) fun D' hD' => ?_⟩
          · have := hF.out.marks.lt D ⟨x, hx, he⟩; omega
          · have := hF.out.marks.lt D' hD'; omega
        clear hM hK h1 hT hb1 hp kW hs hn limj hMD hDe Hn lim hF
        gi_wp2
        exact ⟨⟨j + 1, _, _, _, _, _, _, _, _, _, _, _, _, _, _, _, _, ⟨by omega, FU⟩, rfl⟩, by simp [intOf]; omega⟩
      case hstop =>
        rintro D c i M A _ _ _ _ h
        exact h.elim
    · obtain rfl : j = 4 := by omega
      have c : wr.cell? ⟨N, 0, none⟩ = some (.int .i64 (fullTo f 4 : Int)) := by rw [cell_of hF.out.box]; rfl
      clear G F0 lim
      gi_wp2
      exact Marks.leaves (v := .int .i64 (fullTo f 4 : Int)) (fun W => (results_tmp (fn := Tryd.f14) (t := 2) rfl _ _ _).trans rfl) hF.out.marks fun B hB => ⟨rfl, hF.out.old.trans (hB.mono (by omega))⟩
end Go.Proofs.YtljfidbplecggaaDoor
