/-
  (*Ring[int]).laid and Clone by their contracts: new slots with the things in the first ones; another ring just alike.
-/
import Derived.Test.YtgkiekidmadabaaEach
import Derived.Deep.OwnRows
import Derived.Deep.RegionHeld3
namespace Go.Proofs.Ytgkiekidmadabaa
open Go.RowKit Go.Shelf
attribute [local go_sem] Oper.semAt_some wide_fn wide_depth
theorem info_el : (Try.prog.info? 3).map (fun i => (i.zero, i.size, i.bytes)) = some (some (.int .i64 0), 1, 8) := by kernel_rfl
theorem heap_old {w : World} {o o' : Obj} {k : Nat} (h : w.heap[k]? = some o) : (w.alloc o').heap[k]? = some o := (Below.heap_alloc _ _ _ (heap_lt h)).trans h
theorem heap_next {w : World} {k : Nat} (h : k = w.heap.size) (o : Obj) : (w.alloc o).heap[k]? = some o := by rw [h]; exact World.alloc_heap_new _ _
theorem cell_past {w : World} {o : Obj} {p : Addr} {v : Value} (h : w.cell? p = some v) : (w.alloc o).cell? p = some v := by
  refine (World.cell?_of_block (w := w) (Below.heap_alloc _ _ _ ?_)).trans h
  by_cases hp : p.block < w.heap.size
  · exact hp
  · simp [World.cell?, Array.getElem?_eq_none (Nat.le_of_not_lt hp)] at h
theorem size_made (z : Value) (n : Nat) : (madeCells #[z] n).size = n := by simp [madeCells]
set_option maxRecDepth 100000 in
set_option maxHeartbeats 2000000 in
theorem laid_some {w : World} {r s n f : Nat} {a : Option Addr} {xs : List Int} {room : Nat} (h : RingI w r s n f a xs room) (size : Nat) (h1 : xs.length ≤ size) (h2 : size ≤ 65536) :
    Calls Try.prog 38 #[.pointer (some ⟨r, 0, none⟩), .int .i64 (size : Int)] w fun e B => ∃ (g : Nat) (arr : Array Value), e = .returned (.slice (some ⟨g, 0, none⟩) size size) ∧ w.heap.size ≤ g ∧ B.heap[g]? = some (.cells arr 3 (0, 0)) ∧ arr.size = size ∧ (∀ i (hi : i < xs.length), arr[i]? = some (.int .i64 xs[i])) ∧ Below w.heap.size w B := by
  refine callsIn_wide (n := 0).1 (callsIn_of_wp_marks Try.func38 rfl trivial ?_ rfl)
  simp only [Try.ntmps38, List.size_toArray, List.length_cons, List.length_nil, Nat.reduceAdd, Nat.reduceSub, Array.replicate_succ, Array.replicate_zero, List.push_toArray, List.append_toArray, List.nil_append, List.cons_append]
  have hmk := run_make_row' (P := Try.prog) 26 3 (.int .i64 0) 8 Try.underlying26 info_el rfl .i64 .i64 size (by omega) (by omega) w
  generalize hZ : madeCells #[Value.int .i64 0] size = Z at hmk
  gi_wp2_with (gi_at_call 41; refine (callsIn_wide (n := 0).2 (each_any _ _)).mono ?_; rintro e w1 ⟨rfl, rfl⟩)
  have hw := heap_lt h.head
  obtain ⟨W, hW⟩ : ∃ W, ((w.alloc (.cells Z 3)).alloc (.cells #[.slice (some ⟨w.heap.size, 0, none⟩) size size] 26)).alloc (.cells #[.pointer (some ⟨r, 0, none⟩)] 24) = W := ⟨_, rfl⟩
  rw [hW]
  have kW : Keep (fun _ => True) w W := by rw [← hW]; exact ((Keep.alloc _ _ _).trans (Keep.alloc _ _ _)).trans (Keep.alloc _ _ _)
  have hs : W.heap.size = w.heap.size + 3 := by rw [← hW]; simp
  have hg : W.heap[w.heap.size]? = some (.cells Z 3 (0, 0)) := by rw [← hW]; exact heap_old (heap_old (World.alloc_heap_new _ _))
  have hb : W.heap[w.heap.size + 1]? = some (.cells #[.slice (some ⟨w.heap.size, 0, none⟩) size size] 26 (0, 0)) := by rw [← hW]; exact heap_old (heap_next (by simp) _)
  have hp : W.heap[w.heap.size + 1 + 1]? = some (.cells #[.pointer (some ⟨r, 0, none⟩)] 24 (0, 0)) := by rw [← hW]; exact heap_next (by simp) _
  have hZs : Z.size = size := by rw [← hZ]; exact size_made _ _
  clear hmk hW hZ
  have hfoot : ∀ k, foot r s n k → k < w.heap.size := fun k hk => h.lt hk
  have hR := h.keep kW (fun _ _ => trivial)
  clear h
  have HN := Lib.hid hfoot
  refine range_law (gf := 43) (lb := #[.pointer (some ⟨w.heap.size + 1 + 1, 0, none⟩)]) (xs := xs) (N := fun k => foot r s n k ∨ k = w.heap.size + 1 + 1) (T := fun _ B => Keep (fun k => foot r s n k ∨ k = w.heap.size + 1 + 1) W B) (encs := fun i x => #[.int .i64 (i : Int), .int .i64 x])
    rfl (enters_of Try.func43 (by kernel_rfl) rfl)
    (fun B hB => each1_tells (w.heap.size + 1 + 1) (hR.keep hB fun _ _ => trivial) (by rw [cell_of (hB.heap hp trivial)]; rfl) _ (fun _ hk => hk) (fun k hk => by have := hB.size; rcases hk with hk | rfl; exact Nat.lt_of_lt_of_le (hfoot k hk) (by omega); omega) (hB.mono fun _ _ _ => trivial))
    (fun k hk => by rcases hk with hk | rfl; have := hfoot k hk; omega; omega)
    (fun i A l o o' hl _ ht => ht.trans (Keep.putObj _ _ _ (fun hk => by rcases hk with hk | rfl; have := hfoot l hk; omega; omega)))
    (fun _ _ => rfl)
    (fun i M A => (∀ k, M k ↔ (k < w.heap.size ∧ ¬ foot r s n k) ∨ k = w.heap.size ∨ k = w.heap.size + 1) ∧ Keep (fun k => k < w.heap.size ∧ ¬ foot r s n k) w A ∧ A.heap[w.heap.size + 1]? = some (.cells #[.slice (some ⟨w.heap.size, 0, none⟩) size size] 26 (0, 0)) ∧ ∃ arr : Array Value, A.heap[w.heap.size]? = some (.cells arr 3 (0, 0)) ∧ arr.size = size ∧ ∀ j (hj : j < xs.length), j < i → arr[j]? = some (.int .i64 xs[j]))
    (fun _ _ _ _ => False)
    (fun i M A B hi hk => ⟨hi.1, hi.2.1.trans (hk.mono fun k _ h => (hi.1 k).2 (.inl h)), hk.heap hi.2.2.1 ((hi.1 _).2 (.inr (.inr rfl))), by obtain ⟨arr, ha, hr⟩ := hi.2.2.2; exact ⟨arr, hk.heap ha ((hi.1 _).2 (.inr (.inl rfl))), hr⟩⟩)
    (fun _ _ _ _ _ h _ => h)
    (fun k => (k < w.heap.size ∧ ¬ foot r s n k) ∨ k = w.heap.size ∨ k = w.heap.size + 1)
    (fun k hk => by
      rcases hk with ⟨h1, h2⟩ | rfl | rfl
      · exact ⟨by omega, fun h => by rcases h with h | rfl; exact h2 h; omega⟩
      · exact ⟨by omega, fun h => by rcases h with h | h; have := hfoot _ h; omega; omega⟩
      · exact ⟨by omega, fun h => by rcases h with h | h; have := hfoot _ h; omega; omega⟩)
    ⟨fun _ => Iff.rfl, kW.mono fun _ _ _ => trivial, hb, Z, hg, hZs, fun _ _ h => by omega⟩
    (fun i x => { tmps := #[.pointer (some ⟨r, 0, none⟩), .int .i64 (size : Int), undef, undef, .slice none 0 0, .pointer (some ⟨w.heap.size + 1, 0, none⟩), .int .i64 (i : Int), .int .i64 x, .int .i64 (size : Int), .slice (some ⟨w.heap.size, 0, none⟩) size size, .pointer (some ⟨r, 0, none⟩), .func (.func 43) #[] #[.pointer (some ⟨w.heap.size + 1 + 1, 0, none⟩)], .int .i64 (i : Int), .int .i64 x, undef, undef, undef, undef, undef], defers := [] }) ?assign ?body ?done ?stop
  case assign =>
    intro l i x W K hK
    gi_wp2
    exact hK
  case body =>
    rintro l i x M A hx ⟨hM, hK, hb, arr, ha, has, hj⟩ hsz
    have cb : A.cell? ⟨w.heap.size + 1, 0, none⟩ = some (.slice (some ⟨w.heap.size, 0, none⟩) size size) := by rw [cell_of hb]; rfl
    have hil : i < xs.length := (List.getElem?_eq_some_iff.1 hx).1
    have hxi : xs[i] = x := (List.getElem?_eq_some_iff.1 hx).2
    obtain ⟨z, hz⟩ : ∃ z, arr[i]? = some z := ⟨_, Array.getElem?_eq_getElem (by omega)⟩
    have cz : A.cell? ⟨w.heap.size, i, none⟩ = some z := (cell_of ha i).trans hz
    have fz := frozen_of ha i
    have his : i < size := by omega
    have X1 := Lib.hid hM
    have X2 := Lib.hid hK
    have X3 := Lib.hid hj
    have X4 := Lib.hid hxi
    have X5 := Lib.hid hb
    have X6 := Lib.hid ha
    have X7 := Lib.hid has
    clear hM hK hj hxi hx hb ha hz hR kW hs hg hp hfoot has
    gi_wp2
    refine ⟨M, fun k hk => .inl hk, Keep.setCell _ _ _ (fun hk => hk ((X1.out _).2 (.inr (.inl rfl)))), X1.out, X2.out.trans (Keep.setCell _ _ _ (fun hk => by have := hk.1; simp at this)), heap_set_other X5.out (by omega) _ _, _, heap_set X6.out _ _, by rw [Array.size_setIfInBounds]; exact X7.out, fun j hj hji => ?_⟩
    rw [Array.getElem?_setIfInBounds]
    have := X7.out
    by_cases e : i = j
    · subst e
      simp [his, this, X4.out]
    · rw [if_neg e]
      exact X3.out j hj (by omega)
  case done =>
    rintro D M A hD hMD ⟨hM, hK, hb, arr, ha, has, hj⟩ ht hDe
    have cb : A.cell? ⟨w.heap.size + 1, 0, none⟩ = some (.slice (some ⟨w.heap.size, 0, none⟩) size size) := by rw [cell_of hb]; rfl
    have X : Hid (Below w.heap.size w A) := ⟨hK.os, hK.tape, hK.output, hK.size, fun k hk => by
      by_cases hf : foot r s n k
      · exact (ht.block k (by omega) (.inl hf)).trans (kW.block k hk trivial)
      · exact hK.block k hk ⟨hk, hf⟩⟩
    have X1 := Lib.hid hM
    have X2 := Lib.hid ha
    have X3 := Lib.hid hj
    have X4 := Lib.hid has
    have X5 := Lib.hid hMD
    clear hM hK hb ha hj has ht hMD hR kW hg hp hfoot
    gi_wp2
    refine ⟨by simp, .inl ⟨_, _, rfl, run_takeDeferred hDe, ?_⟩⟩
    refine ⟨_, results_tmp rfl _ _ _, _, _, rfl, Nat.le_refl _, (World.putObj_heap_other (fun e => X5.out (by rw [← e]; exact (X1.out _).2 (.inr (.inl rfl))))).trans X2.out, X4.out, fun i hi => X3.out i hi hi, X.out.trans ⟨rfl, rfl, rfl, by simp, fun k hk => World.putObj_heap_other (by omega)⟩⟩
  case stop =>
    rintro D c i M A _ _ _ _ h
    exact h.elim
set_option maxHeartbeats 2000000 in
theorem clone_some {w : World} {r s n f : Nat} {a : Option Addr} {xs : List Int} {room : Nat} (h : RingI w r s n f a xs room) :
    Calls Try.prog 28 #[.pointer (some ⟨r, 0, none⟩)] w fun e B => ∃ c g, e = .returned (.pointer (some ⟨c, 0, none⟩)) ∧ RingI B c g xs.length 0 (some ⟨g, 0, none⟩) xs room ∧ w.heap.size ≤ c ∧ w.heap.size ≤ g ∧ Below w.heap.size w B := by
  have c2 := h.c2
  have c3 := h.c3
  have hr := heap_lt h.head
  have hlx : xs.length ≤ 65536 := by have := h.fits; have := h.most; have := h.lid; omega
  have hxr : xs.length ≤ room := by have := h.fits; have := h.most; omega
  have hl := h.lid
  have K0 : Hid (w.drew.cell? ⟨r, 2, none⟩ = some (.int .i64 (xs.length : Int)) ∧ w.drew.cell? ⟨r, 3, none⟩ = some (.int .i64 (room : Int))) := ⟨c2, c3⟩
  have T : Hid (Calls Try.prog 38 #[.pointer (some ⟨r, 0, none⟩), .int .i64 (xs.length : Int)] w.drew fun e B => ∃ g : Nat, e = .returned (.slice (some ⟨g, 0, none⟩) xs.length xs.length) ∧ (B.cell? ⟨r, 2, none⟩ = some (.int .i64 (xs.length : Int)) ∧ B.cell? ⟨r, 3, none⟩ = some (.int .i64 (room : Int))) ∧
      Hid (w.heap.size ≤ g ∧ Below w.heap.size w B ∧ ∃ arr : Array Value, B.heap[g]? = some (.cells arr 3 (0, 0)) ∧ arr.size = xs.length ∧ (∀ i (hi : i < xs.length), arr[i]? = some (.int .i64 xs[i])))) :=
    (laid_some (w := w.drew) (h.keep (K := fun _ => True) (.drew _ _) fun _ _ => trivial) xs.length (Nat.le_refl _) hlx).mono fun e B ⟨g, arr, he, hg, ha, hs, hi, hb⟩ =>
      ⟨g, he, ⟨(hb.cell (p := ⟨r, 2, none⟩) hr).trans c2, (hb.cell (p := ⟨r, 3, none⟩) hr).trans c3⟩, hg, (Below.refl _ w).drew.trans hb, arr, ha, hs, hi⟩
  have HX := Lib.hid hxr
  have HL := Lib.hid hl
  clear h c2 c3 hr hxr hl
  go_enter Try.func28, Try.ntmps28
  go_wp2_with fail
  go_region_held3 (fun w' => w'.cell? ⟨r, 2, none⟩ = some (.int .i64 (xs.length : Int)) ∧ w'.cell? ⟨r, 3, none⟩ = some (.int .i64 (room : Int))) (first | exact K0.out | assumption | exact ⟨cell_past hk2.1, cell_past hk2.2⟩) (first
    | (go_at_call 38; refine T.out.mono ?_; rintro e w2 ⟨g, rfl, hk2, ho⟩))
  go_wp2
  go_ret
  obtain ⟨hg, hb, arr, ha, hs, hi⟩ := ho.out
  have hgl := heap_lt ha
  refine ⟨w2.heap.size, g, rfl, ⟨World.alloc_heap_new _ _, Nat.le_refl _, HX.out, HL.out, fun _ => rfl, fun hn => ⟨hn, rfl, by omega, arr, heap_old ha, hs, fun i hi' => ?_⟩⟩, hb.size, hg, hb.alloc hb.size _⟩
  rw [Nat.zero_add, Nat.mod_eq_of_lt hi']
  exact hi i hi'
theorem clone_none (w : World) : Calls Try.prog 28 #[.pointer none] w fun e B => e = .returned (.pointer none) ∧ B = w := by
  go_enter Try.func28, Try.ntmps28
  go_wp2
  go_ret
  exact ⟨rfl, rfl⟩
end Go.Proofs.Ytgkiekidmadabaa
