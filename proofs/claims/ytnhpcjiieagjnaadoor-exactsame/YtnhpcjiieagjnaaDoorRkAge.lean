/-
  An exact as it lies in memory ('Xg'); (*Exact).age by its contract.
-/
import Derived.Test.YtnhpcjiieagjnaaDoorRkKn
import Derived.Test.YtnhpcjiieagjnaaDoorRkRound
namespace Go.Proofs.YtnhpcjiieagjnaaDoor.rk
open Go.RowKit Go.Shelf
attribute [local go_sem] Oper.semAt_some wide_fn wide_depth
theorem Tr.Lies.part_of {w : World} {t : Tr} (h : t.Lies w) {i : Nat} (hi : t.has i) : ∃ cs, w.heap[i]? = some (.cells cs 88 (0, 0)) := by
  induction t with
  | nil => exact hi.elim
  | node b k v l r hl hr =>
    rcases hi with rfl | hi | hi
    · exact ⟨_, h.1⟩
    · exact hl h.2.1 hi
    · exact hr h.2.2 hi
/-- what keeps all blocks of a tree's kinds keeps a tree. -/
theorem At.keepT {w w' : World} {g : Nat} {t : Tr} {K : Nat → Prop} (h : At w g t) (hk : Keep K w w') (hK : ∀ k cs ty, w.heap[k]? = some (.cells cs ty (0, 0)) → (ty = 88 ∨ ty = 90) → K k) : At w' g t :=
  ⟨hk.heap h.head (hK _ _ _ h.head (.inr rfl)), h.lies.keep (fun i hi => by
    obtain ⟨cs, hc⟩ := h.lies.part_of hi
    exact hk.block i (heap_lt hc) (hK i _ _ hc (.inl rfl))), h.up, h.bal, h.fits⟩
/-- an exact lies in block X, its tree in g. -/
structure Xg (W : World) (X g : Nat) (t : Tr) (lim : Nat) (e : Ez) : Prop where
  box : W.heap[X]? = some (.cells #[.pointer (some ⟨g, 0, none⟩), .int .i64 (lim : Int), .int .i64 (e.cnt : Int)] 56 (0, 0))
  tree : At W g t
  rep : Rep t.list e
  low : Low e
namespace Xg
variable {W B : World} {X g lim : Nat} {t : Tr} {e : Ez}
theorem keepT {K : Nat → Prop} (h : Xg W X g t lim e) (hk : Keep K W B) (hK : ∀ k cs ty, W.heap[k]? = some (.cells cs ty (0, 0)) → (ty = 88 ∨ ty = 90 ∨ ty = 56) → K k) : Xg B X g t lim e :=
  ⟨hk.heap h.box (hK _ _ _ h.box (.inr (.inr rfl))), h.tree.keepT hk fun k cs ty h1 h2 => hK k cs ty h1 (by rcases h2 with h2 | h2 <;> simp [h2]), h.rep, h.low⟩
theorem below (h : Xg W X g t lim e) (hb : Below W.heap.size W B) : Xg B X g t lim e := ⟨(hb.block X (heap_lt h.box)).trans h.box, h.tree.below hb, h.rep, h.low⟩
theorem drewN (h : Xg W X g t lim e) (q : Nat) : Xg (W.drewN q) X g t lim e := h.below ⟨rfl, rfl, rfl, Nat.le_refl _, fun _ _ => rfl⟩
theorem c0 (h : Xg W X g t lim e) : W.cell? ⟨X, 0, none⟩ = some (.pointer (some ⟨g, 0, none⟩)) := by rw [cell_of h.box]; rfl
theorem c1 (h : Xg W X g t lim e) : W.cell? ⟨X, 1, none⟩ = some (.int .i64 (lim : Int)) := by rw [cell_of h.box]; rfl
theorem c2 (h : Xg W X g t lim e) : W.cell? ⟨X, 2, none⟩ = some (.int .i64 (e.cnt : Int)) := by rw [cell_of h.box]; rfl
theorem fr (h : Xg W X g t lim e) (i : Nat) : W.frozen? ⟨X, i, none⟩ = false := frozen_of h.box i
theorem lt (h : Xg W X g t lim e) : X < W.heap.size := heap_lt h.box
/-- numbers of four bits. -/
theorem le15 (h : Xg W X g t lim e) {p : Int × Kn} (hp : p ∈ t.list) : p.2.n ≤ 15 := by
  obtain ⟨k, hk⟩ := h.rep.pos p hp
  have h1 := look_mem h.tree.up hp
  have h2 := h.rep.val k
  rw [← hk, h1, Option.getD_some] at h2
  rw [h2]
  exact h.low k
end Xg
/-- another tree in its box. -/
theorem tree_set {w : World} {X g : Nat} {t : Tr} {arr : Array Value} (h : At w g t) (hX : w.heap[X]? = some (.cells arr 56 (0, 0))) (i : Nat) (u : Value) : At (w.setCell ⟨X, i, none⟩ u) g t :=
  h.keepT (Keep.setCell (K := fun k => k ≠ X) w ⟨X, i, none⟩ u (fun h => h rfl)) fun k cs ty h1 h2 e => by
    subst e
    rw [hX] at h1
    simp only [Option.some.injEq, Obj.cells.injEq] at h1
    obtain ⟨_, rfl, _⟩ := h1
    rcases h2 with h2 | h2 <;> cases h2
theorem tree_box {w : World} {L g : Nat} {t : Tr} {arr : Array Value} (h : At w g t) (hX : w.heap[L]? = some (.cells arr 53 (0, 0))) (i : Nat) (u : Value) : At (w.setCell ⟨L, i, none⟩ u) g t :=
  h.keepT (Keep.setCell (K := fun k => k ≠ L) w ⟨L, i, none⟩ u (fun h => h rfl)) fun k cs ty h1 h2 e => by
    subst e
    rw [hX] at h1
    simp only [Option.some.injEq, Obj.cells.injEq] at h1
    obtain ⟨_, rfl, _⟩ := h1
    rcases h2 with h2 | h2 <;> cases h2
theorem fdl_len (xs : List (Int × Kn)) : (fdl xs).length ≤ xs.length := by
  unfold fdl
  exact Nat.le_trans (List.length_filter_le _ _) (by simp)
/-- what stands when i things of the row were told. -/
structure Ag (w : World) (L : Nat) (xs : List (Int × Kn)) (i : Nat) (A : World) : Prop where
  keep : Keep (fun k => k < w.heap.size ∧ k ≠ L) w A
  left : ∃ g t, A.heap[L]? = some (.cells #[.pointer (some ⟨g, 0, none⟩)] 53 (0, 0)) ∧ At A g t ∧ t.list = fdl (xs.take i)
namespace Ag
variable {w A B : World} {L i : Nat} {xs : List (Int × Kn)}
theorem below (h : Ag w L xs i A) (hb : Below A.heap.size A B) : Ag w L xs i B := by
  obtain ⟨hk, g, t, h1, h2, h3⟩ := h
  exact ⟨hk.trans ⟨hb.os, hb.tape, hb.output, hb.size, fun k hk' _ => hb.block k hk'⟩, g, t, (hb.block L (heap_lt h1)).trans h1, h2.below hb, h3⟩
theorem loop (h : Ag w L xs i A) {l : Nat} {o o' : Loop} (hl : w.heap.size ≤ l) (ho : A.heap[l]? = some (.loop o)) : Ag w L xs i (A.putObj l (.loop o')) := by
  obtain ⟨hk, g, t, h1, h2, h3⟩ := h
  refine ⟨hk.trans (Keep.putObj A l _ fun h => by omega), g, t, ?_, h2.keepT (Keep.putObj (K := fun k => k ≠ l) A l _ (fun h => h rfl)) fun k cs ty h4 _ e => ?_, h3⟩
  · refine (World.putObj_heap_other fun e => ?_).trans h1
    subst e
    rw [ho] at h1
    cases h1
  · subst e
    rw [ho] at h4
    cases h4
/-- a box behind what lay turns. -/
theorem box {b : Nat} {v : Kn} (h : Ag w L xs i A) (hv : Kb A b v) (hb : w.heap.size ≤ b) (hL : L ≠ b) (hk : Keep (fun k => k ≠ b) A B) : Ag w L xs i B := by
  obtain ⟨hk0, g, t, h1, h2, h3⟩ := h
  refine ⟨hk0.trans (hk.mono fun k _ h => by omega), g, t, hk.heap h1 hL, h2.keepT hk fun k cs ty h4 h5 e => ?_, h3⟩
  subst e
  unfold Kb at hv
  rw [hv] at h4
  simp only [Option.some.injEq, Obj.cells.injEq] at h4
  obtain ⟨_, rfl, _⟩ := h4
  rcases h5 with h5 | h5 <;> cases h5
end Ag
theorem all_not_nil (W : World) (c : Array Value) : (binOp .eql 93 (.func (.func 93) #[] c) .nilFunc).run Tryd.prog W = .ok (.bool false) W := by kernel_rfl
set_option maxRecDepth 100000 in
set_option maxHeartbeats 4000000 in
theorem age_any {W : World} {X g lim : Nat} {t : Tr} {e : Ez} (h : Xg W X g t lim e) :
    Calls Tryd.prog 27 #[.pointer (some ⟨X, 0, none⟩)] W fun r B => r = .returned (.tuple #[]) ∧ ∃ g' t', Hid (Xg B X g' t' lim ⟨fun _ => false, fun k => e.num k / 2, 0⟩ ∧ Keep (fun k => k ≠ X) W B ∧ t'.list.length ≤ t.list.length) := by
  have nn := all_not_nil
  have T0 := Lib.hid (noKeys_any W)
  have HX := Lib.hid h
  have hXl := h.lt
  clear h
  refine callsIn_wide (n := 0).1 (callsIn_of_wp_marks Tryd.func27 rfl trivial ?_ rfl)
  simp only [Tryd.ntmps27, List.size_toArray, List.length_cons, List.length_nil, Nat.reduceAdd, Nat.reduceSub, Array.replicate_succ, Array.replicate_zero, List.push_toArray, List.append_toArray, List.nil_append, List.cons_append]
  gi_wp2_with fail
  refine (callsIn_wide.2 T0.out).mono ?_
  rintro r w1 ⟨g0, rfl, ho⟩
  have hb1 := ho.out.2
  obtain ⟨L, hL⟩ : ∃ L, w1.heap.size = L := ⟨_, rfl⟩
  obtain ⟨W2, hW2⟩ : ∃ W2, (w1.alloc (.cells #[.pointer none] 53)).setCell ⟨L, 0, none⟩ (.pointer (some ⟨g0, 0, none⟩)) = W2 := ⟨_, rfl⟩
  have hz := hb1.size
  have hl1 : (w1.alloc (.cells #[.pointer none] 53)).heap[L]? = some (.cells #[.pointer none] 53 (0, 0)) := heap_next hL.symm _
  have hl2 : W2.heap[L]? = some (.cells #[.pointer (some ⟨g0, 0, none⟩)] 53 (0, 0)) := by rw [← hW2, heap_set hl1]; rfl
  have d0 : (w1.alloc (.cells #[.pointer none] 53)).cell? ⟨L, 0, none⟩ = some (.pointer none) := by rw [cell_of hl1]; rfl
  have f0 := frozen_of hl1 0
  have hb2 : Below w1.heap.size w1 W2 := by rw [← hW2]; exact ((Below.refl _ _).alloc (Nat.le_refl _) _).setCell (by rw [hL]; exact Nat.le_refl _) _
  have hx2 := (HX.out.below hb1).below hb2
  have hg2 := ho.out.1.below hb2
  have hs2 : W2.heap.size = L + 1 := by rw [← hW2]; simp [World.setCell, hL]
  have c0 := hx2.c0
  have T1 : Hid (Calls Tryd.prog 50 #[.pointer (some ⟨g, 0, none⟩)] W2 fun e w' => e = .returned (.func (.func 93) #[] #[.pointer (some ⟨L + 1, 0, none⟩), .pointer (some ⟨L + 2, 0, none⟩)]) ∧ w' = (W2.alloc (.cells #[.pointer (some ⟨g, 0, none⟩)] 53)).alloc (.cells #[.int .i64 0] 3)) := by
    have := all_any (some ⟨g, 0, none⟩) W2
    rw [hs2] at this
    exact this
  have HB1 := Lib.hid hb1
  have HB2 := Lib.hid hb2
  have HX2 := Lib.hid hx2
  have HG2 := Lib.hid hg2
  have HL2 := Lib.hid hl2
  have HS2 := Lib.hid hs2
  have HXL := Lib.hid hXl
  have HZ := Lib.hid hz
  clear hb1 hb2 hx2 hg2 hl1 hl2 hs2 ho T0 hXl hz
  gi_wp2_with fail
  refine (callsIn_wide.2 T1.out).mono ?_
  rintro r w3 ⟨rfl, hw3⟩
  clear d0 f0 c0 hW2 T1
  have hb3 : Below W2.heap.size W2 w3 := by rw [hw3]; exact ((Below.refl _ _).alloc (Nat.le_refl _) _).alloc (by simp) _
  have hs3 : w3.heap.size = L + 3 := by rw [hw3]; simp [HS2.out]
  have hX3 : w3.cell? ⟨L + 1, 0, none⟩ = some (.pointer (some ⟨g, 0, none⟩)) := by
    have : w3.heap[L + 1]? = some (.cells #[.pointer (some ⟨g, 0, none⟩)] 53 (0, 0)) := by rw [hw3]; exact heap_old (heap_next HS2.out.symm _)
    rw [cell_of this]; rfl
  have hY3 : w3.cell? ⟨L + 2, 0, none⟩ = some (.int .i64 0) := by
    have : w3.heap[L + 2]? = some (.cells #[.int .i64 0] 3 (0, 0)) := by rw [hw3]; exact heap_next (by simp [HS2.out]) _
    rw [cell_of this]; rfl
  have hx3 := HX2.out.below hb3
  have hg3 := HG2.out.below hb3
  have hl3 : w3.heap[L]? = some (.cells #[.pointer (some ⟨g0, 0, none⟩)] 53 (0, 0)) := (hb3.block L (heap_lt HL2.out)).trans HL2.out
  have hfoot : ∀ k, foot (some ⟨g, 0, none⟩) t k → k < L := fun k hk => by
    have hW : Wh W (some ⟨g, 0, none⟩) t := .inr ⟨g, rfl, HX.out.tree⟩
    have := hW.lt hk
    have := HZ.out
    omega
  have HX3 := Lib.hid hx3
  have HG3 := Lib.hid hg3
  have HL3 := Lib.hid hl3
  have HF := Lib.hid hfoot
  have HX3' := Lib.hid hX3
  have HY3' := Lib.hid hY3
  have HS3 := Lib.hid hs3
  have HW3 : Hid (Below W.heap.size W w3) := (HB1.out.trans (HB2.out.mono HB1.out.size)).trans (hb3.mono (by have := HS2.out; have := HZ.out; omega))
  clear hx3 hg3 hl3 hfoot hX3 hY3 hs3 hb3 hw3 HB1 HB2 HX2 HG2 HL2 HS2
  gi_wp2_with fail
  apply range2_law (gf := 93) (lb := #[.pointer (some ⟨L + 1, 0, none⟩), .pointer (some ⟨L + 2, 0, none⟩)]) (xs := t.list) (N := fun k => k < w3.heap.size ∧ k ≠ L) (encs := fun e => #[.int .u64 e.1, kn e.2])
    (hg := rfl) (eg := enters_of Tryd.func93 (by kernel_rfl) rfl)
    (hseq := fun B hB => all_tells (.inr ⟨g, rfl, HX3.out.tree.keepT hB fun _ _ _ _ _ => trivial⟩) ((hB.cell (p := ⟨L + 1, 0, none⟩) (World.block_lt_of_cell? w3 ⟨L + 1, 0, none⟩ HX3'.out) trivial).trans HX3'.out) ((hB.cell (p := ⟨L + 2, 0, none⟩) (World.block_lt_of_cell? w3 ⟨L + 2, 0, none⟩ HY3'.out) trivial).trans HY3'.out) _ (fun k hk => by
      have h3 := HS3.out
      rcases hk with hk | rfl | rfl
      · have := HF.out k hk
        exact ⟨by omega, by omega⟩
      · exact ⟨by omega, by omega⟩
      · exact ⟨by omega, by omega⟩))
    (hN := fun k hk => hk.1) (hps := fun _ => rfl)
    (I := Ag w3 L t.list) (Ix := fun _ _ _ => False) (hq := fun i A q h => h.below ⟨rfl, rfl, rfl, Nat.le_refl _, fun _ _ => rfl⟩)
    (hl := fun i A l o o' h1 h2 h3 => h3.loop h1 h2) (hlx := fun _ _ _ _ _ _ _ _ h => h)
    (hk := fun i A h => h.keep) (hkx := fun _ _ _ h => h.elim)
    (h0 := fun B hB => ⟨hB.mono fun _ _ _ => trivial, g0, .nil, hB.heap HL3.out trivial, HG3.out.keepT hB fun _ _ _ _ _ => trivial, rfl⟩)
    (Md := fun i x b A => Ag w3 L t.list i A ∧ Kb A b x.2 ∧ w3.heap.size + 2 ≤ b)
    (hm := fun i x b A l o o' h1 h2 h3 => ⟨h3.1.loop h1 h2, (World.putObj_heap_other (fun e => by have h4 := h3.2.1; subst e; unfold Kb at h4; rw [h2] at h4; cases h4)).trans h3.2.1, h3.2.2⟩)
  case hassign =>
    intro l i x A K hx hI hsz hK
    obtain ⟨b, hb⟩ : ∃ b, A.heap.size = b := ⟨_, rfl⟩
    obtain ⟨A1, hA1⟩ : ∃ A1, A.alloc (.cells #[.int .i64 0, .bool false] 58) = A1 := ⟨_, rfl⟩
    have k1 : Kb A1 b kn0 := by rw [← hA1, ← hb]; exact Kb.new A kn0
    have d0 : A1.cell? ⟨b, 0, none⟩ = some (.int .i64 0) := k1.c0
    have d1 : A1.cell? ⟨b, 1, none⟩ = some (.bool false) := k1.c1
    have f0 := k1.fr 0
    have f1 := k1.fr 1
    have hbA : Below A.heap.size A A1 := by rw [← hA1]; exact (Below.refl _ _).alloc (Nat.le_refl _) _
    have FIN : Hid (∀ u, (∀ B, Ag w3 L t.list i B ∧ Kb B b x.2 ∧ w3.heap.size + 2 ≤ b → Keep (fun _ => True) A B → K u B) → K u ((A1.setCell ⟨b, 0, none⟩ (.int .i64 (x.2.n : Int))).setCell ⟨b, 1, none⟩ (.bool x.2.c))) := fun u hu => by
      have hB := below_set hbA (g := b) (by omega) (.int .i64 (x.2.n : Int)) (.bool x.2.c)
      exact hu _ ⟨hI.below hB, k1.set2 x.2, by omega⟩ ⟨hB.os, hB.tape, hB.output, hB.size, fun k hk _ => hB.block k hk⟩
    have HK := Lib.hid hK
    clear hK hI k1 hbA hx hsz
    gi_wp2
    exact FIN.out _ fun B h1 h2 => HK.out b B h1 h2
  case hbody =>
    rintro l i x b A hx ⟨hI, hkb, hbz⟩ hsz
    have h15 : x.2.n ≤ 15 := HX.out.le15 (List.mem_of_getElem? hx)
    obtain ⟨m, hm⟩ : ∃ m, x.2.n / 2 = m := ⟨_, rfl⟩
    have hfa : fadedK x.2 = ⟨m, false⟩ := by unfold fadedK; rw [hm]
    have hnx := fdl_next HX.out.tree.up i x hx
    rw [hfa] at hnx
    have P1 : Hid (Calls Tryd.prog 51 #[kn x.2] A fun e B => e = .returned (.agg #[.int .i64 (m : Int), .bool false]) ∧ Hid (Below A.heap.size A B)) := by
      have := faded_any x.2 h15 A
      rw [hfa] at this
      exact this
    have d0 := hkb.c0
    have d1 := hkb.c1
    have HXX := Lib.hid hx
    have HI := Lib.hid hI
    have HK := Lib.hid hkb
    have HN := Lib.hid hnx
    have HM : Hid (m ≤ 15) := by show m ≤ 15; omega
    have HSZ := Lib.hid hsz
    have HBZ := Lib.hid hbz
    clear hI hkb hnx hfa hm h15 hx hsz hbz
    gi_wp2_with fail
    refine (callsIn_wide.2 P1.out).mono ?_
    rintro r B ⟨rfl, hB⟩
    clear d0 d1 P1
    have kB := HK.out.below hB.out
    have d0 := kB.c0
    have d1 := kB.c1
    have f0 := kB.fr 0
    have f1 := kB.fr 1
    obtain ⟨B2, hB2⟩ : ∃ B2, (B.setCell ⟨b, 0, none⟩ (.int .i64 (m : Int))).setCell ⟨b, 1, none⟩ (.bool false) = B2 := ⟨_, rfl⟩
    have k2 : Kb B2 b ⟨m, false⟩ := by rw [← hB2]; exact kB.set2 ⟨m, false⟩
    have e0 : B2.cell? ⟨b, 0, none⟩ = some (.int .i64 (m : Int)) := k2.c0
    have e1 : B2.cell? ⟨b, 1, none⟩ = some (.bool false) := k2.c1
    have hAB2 : Keep (fun k => k ≠ b) A B2 := by
      rw [← hB2]
      refine Keep.trans ⟨hB.out.os, hB.out.tape, hB.out.output, hB.out.size, fun k hk _ => hB.out.block k hk⟩ ?_
      exact (Keep.setCell _ _ _ fun h => h rfl).trans (Keep.setCell _ _ _ fun h => h rfl)
    have P2 : Hid (Calls Tryd.prog 29 #[.agg #[.int .i64 (m : Int), .bool false]] B2 fun e B3 => e = .returned (.int .i64 (m : Int)) ∧ Hid (Below B2.heap.size B2 B3)) := by
      have := estimate_any ⟨m, false⟩ HM.out B2
      rw [show estK ⟨m, false⟩ = m by simp [estK]] at this
      exact this
    have HB := Lib.hid hAB2
    have HK2 := Lib.hid k2
    have HK0 := HK
    clear k2 hAB2 kB HK
    gi_wp2_with fail
    clear hB2 d0 d1 f0 f1
    refine (callsIn_wide.2 P2.out).mono ?_
    rintro r B3 ⟨rfl, hB3⟩
    clear P2 e0 e1
    have k3 := HK2.out.below hB3.out
    have AG : Ag w3 L t.list i B3 := (HI.out.box HK0.out (by have := HBZ.out; omega) (by have := HBZ.out; have := HS3.out; omega) HB.out).below hB3.out
    have hD : Hid (∀ C, Keep (fun k => k ≠ L) B3 C → Keep (fun k => k = w3.heap.size ∨ k = w3.heap.size + 1) A C) := fun C hC => by
      have h1 := HBZ.out
      have h2 := HS3.out
      refine (HB.out.mono fun k _ hk => by omega).trans (Keep.trans ⟨hB3.out.os, hB3.out.tape, hB3.out.output, hB3.out.size, fun k hk _ => hB3.out.block k hk⟩ (hC.mono fun k _ hk => by omega))
    by_cases h0 : 0 < m
    · have h0' : (0 : Int) < (m : Int) := by omega
      obtain ⟨hkA, g', t', hL', ht', hl'⟩ := AG
      have hlen : t'.list.length + 1 < 1000000000000000000 := by
        have h1 := (List.getElem?_eq_some_iff.1 HXX.out).1
        have h2 := HX.out.tree.fits
        have h3 := fdl_len (t.list.take i)
        rw [← hl', List.length_take] at h3
        omega
      have P3 : Hid (Calls Tryd.prog 25 #[.pointer (some ⟨g', 0, none⟩), .int .u64 x.1, .agg #[.int .i64 (m : Int), .bool false]] B3 fun e B4 => ∃ g2, e = .returned (.pointer (some ⟨g2, 0, none⟩)) ∧ B4.cell? ⟨L, 0, none⟩ = some (.pointer (some ⟨g', 0, none⟩)) ∧ B4.frozen? ⟨L, 0, none⟩ = false ∧
          Hid (Keep (fun k => k = w3.heap.size ∨ k = w3.heap.size + 1) A (B4.setCell ⟨L, 0, none⟩ (.pointer (some ⟨g2, 0, none⟩))) ∧ Ag w3 L t.list (i + 1) (B4.setCell ⟨L, 0, none⟩ (.pointer (some ⟨g2, 0, none⟩))))) :=
        (tput_some ht' hlen x.1 ⟨m, false⟩).mono fun e B4 ⟨g2, t2, he, ho⟩ => by
          obtain ⟨q1, q2, q3, _⟩ := ho.out
          have hL4 := (q3.block L (heap_lt hL')).trans hL'
          have hs : Keep (fun k => k ≠ L) B4 (B4.setCell ⟨L, 0, none⟩ (.pointer (some ⟨g2, 0, none⟩))) := Keep.setCell _ _ _ fun h => h rfl
          have hk4 : Keep (fun k => k ≠ L) B3 (B4.setCell ⟨L, 0, none⟩ (.pointer (some ⟨g2, 0, none⟩))) := Keep.trans ⟨q3.os, q3.tape, q3.output, q3.size, fun k hk _ => q3.block k hk⟩ hs
          refine ⟨g2, he, by rw [cell_of hL4]; rfl, frozen_of hL4 0, hD.out _ hk4, hkA.trans (hk4.mono fun k _ hk => hk.2), g2, t2, by rw [heap_set hL4]; rfl, tree_box q1 hL4 0 _, ?_⟩
          rw [q2, HN.out, if_pos h0, hl']
      have z0 : B3.cell? ⟨L, 0, none⟩ = some (.pointer (some ⟨g', 0, none⟩)) := by rw [cell_of hL']; rfl
      have d0 := k3.c0
      have d1 := k3.c1
      clear hkA ht' hl' hL' hlen k3
      gi_wp2_with fail
      refine (callsIn_wide.2 P3.out).mono ?_
      rintro r B4 ⟨g2, rfl, z1, z2, ho⟩
      gi_wp2
      exact ho.out
    · have hn : Hid (fdl (t.list.take (i + 1)) = fdl (t.list.take i)) := by
        have := HN.out
        rw [if_neg h0] at this
        exact this
      obtain rfl : m = 0 := by omega
      have FIN : Hid (Keep (fun k => k = w3.heap.size ∨ k = w3.heap.size + 1) A B3 ∧ Ag w3 L t.list (i + 1) B3) := by
        refine ⟨hD.out B3 (Keep.refl _ _), AG.keep, ?_⟩
        rw [hn.out]
        exact AG.left
      clear AG k3
      gi_wp2
      exact FIN.out
  case hdone =>
    intro A hI hDe
    obtain ⟨hkA, g', t', hL', ht', hl'⟩ := hI
    rw [List.take_length] at hl'
    have hXl := HXL.out
    have hLz := HZ.out
    have h3 := HS3.out
    have hXA : A.heap[X]? = some (.cells #[.pointer (some ⟨g, 0, none⟩), .int .i64 (lim : Int), .int .i64 (e.cnt : Int)] 56 (0, 0)) := hkA.heap HX3.out.box ⟨by omega, by omega⟩
    have z0 : A.cell? ⟨L, 0, none⟩ = some (.pointer (some ⟨g', 0, none⟩)) := by rw [cell_of hL']; rfl
    have d0 : A.cell? ⟨X, 0, none⟩ = some (.pointer (some ⟨g, 0, none⟩)) := by rw [cell_of hXA]; rfl
    have f0 := frozen_of hXA 0
    obtain ⟨A2, hA2⟩ : ∃ A2, A.setCell ⟨X, 0, none⟩ (.pointer (some ⟨g', 0, none⟩)) = A2 := ⟨_, rfl⟩
    have hX2 : A2.heap[X]? = some (.cells #[.pointer (some ⟨g', 0, none⟩), .int .i64 (lim : Int), .int .i64 (e.cnt : Int)] 56 (0, 0)) := by rw [← hA2, heap_set hXA]; rfl
    have d2 : A2.cell? ⟨X, 2, none⟩ = some (.int .i64 (e.cnt : Int)) := by rw [cell_of hX2]; rfl
    have f2 := frozen_of hX2 2
    obtain ⟨A3, hA3⟩ : ∃ A3, A2.setCell ⟨X, 2, none⟩ (.int .i64 0) = A3 := ⟨_, rfl⟩
    have hX3 : A3.heap[X]? = some (.cells #[.pointer (some ⟨g', 0, none⟩), .int .i64 (lim : Int), .int .i64 ((0 : Nat) : Int)] 56 (0, 0)) := by rw [← hA3, heap_set hX2]; rfl
    have hk3 : Keep (fun k => k ≠ X) A A3 := by
      rw [← hA3, ← hA2]
      exact (Keep.setCell _ _ _ fun h => h rfl).trans (Keep.setCell _ _ _ fun h => h rfl)
    have hDe3 : A3.heap[w3.heap.size]? = some (.deferred (some [])) := hk3.heap hDe (by omega)
    have ht3 : At A3 g' t' := by
      rw [← hA3]
      refine tree_set (arr := #[.pointer (some ⟨g', 0, none⟩), .int .i64 (lim : Int), .int .i64 (e.cnt : Int)]) ?_ hX2 2 _
      rw [← hA2]
      exact tree_set ht' hXA 0 _
    have hD3 := Lib.hid hDe3
    have FIN : Hid (∀ o, Xg (A3.putObj w3.heap.size (.deferred o)) X g' t' lim ⟨fun _ => false, fun k => e.num k / 2, 0⟩ ∧ Keep (fun k => k ≠ X) W (A3.putObj w3.heap.size (.deferred o)) ∧ t'.list.length ≤ t.list.length) := fun o => by
      have hk4 : Keep (fun k => k ≠ w3.heap.size) A3 (A3.putObj w3.heap.size (.deferred o)) := Keep.putObj _ _ _ fun h => h rfl
      refine ⟨⟨hk4.heap hX3 (by omega), ht3.keepT hk4 fun k cs ty h1 _ e1 => ?_, ?_, ?_⟩, ?_, ?_⟩
      · subst e1
        rw [hDe3] at h1
        cases h1
      · have := HX.out.rep.fade HX.out.tree.up
        rw [hl']
        exact ⟨this.val, this.pos, this.est⟩
      · intro k
        have := HX.out.low k
        show e.num k / 2 ≤ 15
        omega
      · have hb := HW3.out
        have s1 := hb.size
        have s2 := hkA.size
        have s3 := hk3.size
        refine ⟨hk4.os.trans (hk3.os.trans (hkA.os.trans hb.os)), hk4.tape.trans (hk3.tape.trans (hkA.tape.trans hb.tape)), hk4.output.trans (hk3.output.trans (hkA.output.trans hb.output)), Nat.le_trans s1 (Nat.le_trans s2 (Nat.le_trans s3 hk4.size)), fun k hk hne => ?_⟩
        exact (hk4.block k (by omega) (by omega)).trans ((hk3.block k (by omega) hne).trans ((hkA.block k (by omega) ⟨by omega, by omega⟩).trans (hb.block k hk)))
      · rw [hl']
        exact fdl_len _
    clear hkA hL' ht' hl' hXA hX2 hX3 hk3 hDe hDe3 ht3
    gi_wp2
    refine ⟨by simp, .inl ⟨_, _, rfl, run_takeDeferred hD3.out, ?_⟩⟩
    refine ⟨_, results_none rfl _ _ _, rfl, g', t', Lib.hid (FIN.out _)⟩
  case hstop =>
    intro c i A _ _ h
    exact h.elim
end Go.Proofs.YtnhpcjiieagjnaaDoor.rk
