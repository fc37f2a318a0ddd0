/-
  A tiny's own functions by their contracts: come, estimate, fade, forget, age, Add, Estimate, Count, Aged, Limit, Clear, Sketch, Door.
-/
import Derived.Test.YtnhpcjiieagjnaaDoorTi
import Derived.BigQuiet
import Derived.Deep.QuietTactic
namespace Go.Proofs.YtnhpcjiieagjnaaDoor
open Go.RowKit
open nb (Keep ct cell_of frozen_of heap_set heap_set_other heap_old heap_next heap_lt)
/-- a key comes. -/
noncomputable def comeZ (c : Cs) (x : Nat) (z : Zs) : Zs := ⟨if hasZ c x z.bs = true then addsZ c x z.f else z.f, putZ c x z.bs, z.cnt, z.aged⟩
/-- all is aged. -/
def ageZ (c : Cs) (z : Zs) : Zs := ⟨halvesZ z.f, zerosD c, 0, z.aged + 1⟩
/-- a key is added. -/
noncomputable def addZ (c : Cs) (x : Nat) (z : Zs) : Zs := if z.cnt + 1 = c.lim then ageZ c (comeZ c x z) else ⟨(comeZ c x z).f, (comeZ c x z).bs, z.cnt + 1, z.aged⟩
/-- how often a key is thought to have come. -/
noncomputable def estZ (c : Cs) (x : Nat) (z : Zs) : Nat := cntZ c x z.f + if hasZ c x z.bs = true then 1 else 0
theorem cnt_le (c : Cs) (x : Nat) (f : Nat → List Nat) : cntZ c x f ≤ 15 := sk.cntTo_le _ _ 4
theorem est_le (c : Cs) (x : Nat) (z : Zs) : estZ c x z ≤ 16 := by
  have := cnt_le c x z.f
  unfold estZ
  split <;> omega
/-- what a tiny knows, as it is passed on. -/
abbrev kv (a : Ad) : Value := .agg #[.pointer (some ⟨a.S, 0, none⟩), .pointer (some ⟨a.D, 0, none⟩)]
namespace At
variable {w0 W : World} {a : Ad} {c : Cs} {z : Zs}
set_option maxHeartbeats 1000000 in
theorem come_any (h : At w0 a c z W) (x : Nat) (hx : x < 18446744073709551616) : Calls Tryd.prog 22 #[kv a, .int .u64 (x : Int)] W fun e B => e = .returned (.tuple #[]) ∧ At w0 a c (comeZ c x z) B ∧ Keep (far a) W B := by
  obtain ⟨N, hN⟩ : ∃ N, W.heap.size = N := ⟨_, rfl⟩
  have hf : far a N := h.far_new (by omega)
  obtain ⟨W1, hW1⟩ : ∃ W1, W.alloc (.cells #[.pointer (some ⟨a.S, 0, none⟩), .pointer (some ⟨a.D, 0, none⟩)] 50) = W1 := ⟨_, rfl⟩
  have hs1 : W1.heap.size = N + 1 := by rw [← hW1]; simp [hN]
  have hn1 : W1.heap[N]? = some (.cells #[.pointer (some ⟨a.S, 0, none⟩), .pointer (some ⟨a.D, 0, none⟩)] 50 (0, 0)) := by rw [← hW1]; exact heap_next hN.symm _
  have hk1 : Keep (far a) W W1 := by rw [← hW1]; exact .alloc _ _ _
  have h1 : At w0 a c z W1 := by rw [← hW1]; exact h.below ((Below.refl _ _).alloc (Nat.le_refl _) _)
  have d0 : W1.cell? ⟨N, 1, none⟩ = some (.pointer (some ⟨a.D, 0, none⟩)) := by rw [cell_of hn1]; rfl
  cases hb : hasZ c x z.bs
  · have P : Hid (Calls Tryd.prog 45 #[.pointer (some ⟨a.D, 0, none⟩), .int .u64 (x : Int)] W1 fun e B => e = .returned (.bool true) ∧ Hid (At w0 a c (comeZ c x z) B ∧ Keep (far a) W B)) := by
      have := h1.k43 x hx
      rw [hb] at this
      exact this.mono fun e B ⟨he, h2, h3⟩ => ⟨he, by show At w0 a c ⟨if hasZ c x z.bs = true then _ else _, _, _, _⟩ B; rw [if_neg (by rw [hb]; decide)]; exact h2, hk1.trans h3⟩
    clear h h1 hk1 hs1 hn1 hb hf hx
    generalize comeZ c x z = y at *
    go_enter Tryd.func22, Tryd.ntmps22
    go_wp2_with fail
    refine P.out.mono ?_
    rintro e w2 ⟨rfl, q⟩
    go_wp2
    go_end0
    exact ⟨rfl, q.out⟩
  · have P : Hid (Calls Tryd.prog 45 #[.pointer (some ⟨a.D, 0, none⟩), .int .u64 (x : Int)] W1 fun e B => e = .returned (.bool false) ∧ B.cell? ⟨N, 0, none⟩ = some (.pointer (some ⟨a.S, 0, none⟩)) ∧ Hid (Calls Tryd.prog 46 #[.pointer (some ⟨a.S, 0, none⟩), .int .u64 (x : Int)] B fun e B2 => e = .returned (.tuple #[]) ∧ Hid (At w0 a c (comeZ c x z) B2 ∧ Keep (far a) W B2))) := by
      have := h1.k43 x hx
      rw [hb] at this
      refine this.mono fun e B ⟨he, h2, h3⟩ => ⟨he, ?_, (h2.k44 x hx).mono fun e B2 ⟨he2, h4, h5⟩ => ⟨he2, by show At w0 a c ⟨if hasZ c x z.bs = true then _ else _, _, _, _⟩ B2; rw [if_pos hb]; exact h4, hk1.trans (h3.trans h5)⟩⟩
      rw [cell_of (h3.heap hn1 hf)]; rfl
    clear h h1 hk1 hs1 hn1 hb hf hx
    generalize comeZ c x z = y at *
    go_enter Tryd.func22, Tryd.ntmps22
    go_wp2_with fail
    refine P.out.mono ?_
    rintro e w2 ⟨rfl, d1, Q⟩
    go_wp2_with fail
    refine Q.out.mono ?_
    rintro e w3 ⟨rfl, q⟩
    go_wp2
    go_end0
    exact ⟨rfl, q.out⟩
set_option maxHeartbeats 1000000 in
theorem estimate_any (h : At w0 a c z W) (x : Nat) (hx : x < 18446744073709551616) : Calls Tryd.prog 28 #[kv a, .int .u64 (x : Int)] W fun e B => e = .returned (.int .i64 (estZ c x z : Int)) ∧ Below W.heap.size W B := by
  obtain ⟨N, hN⟩ : ∃ N, W.heap.size = N := ⟨_, rfl⟩
  obtain ⟨W1, hW1⟩ : ∃ W1, W.alloc (.cells #[.pointer (some ⟨a.S, 0, none⟩), .pointer (some ⟨a.D, 0, none⟩)] 50) = W1 := ⟨_, rfl⟩
  have hs1 : W1.heap.size = N + 1 := by rw [← hW1]; simp [hN]
  have hn1 : W1.heap[N]? = some (.cells #[.pointer (some ⟨a.S, 0, none⟩), .pointer (some ⟨a.D, 0, none⟩)] 50 (0, 0)) := by rw [← hW1]; exact heap_next hN.symm _
  have hk1 : Below N W W1 := by rw [← hW1]; exact (Below.refl _ _).alloc (by omega) _
  have h1 : At w0 a c z W1 := by rw [← hW1]; exact h.below ((Below.refl _ _).alloc (Nat.le_refl _) _)
  have d0 : W1.cell? ⟨N, 1, none⟩ = some (.pointer (some ⟨a.D, 0, none⟩)) := by rw [cell_of hn1]; rfl
  have P : Hid (Calls Tryd.prog 52 #[.pointer (some ⟨a.D, 0, none⟩), .int .u64 (x : Int)] W1 fun e B => e = .returned (.bool (hasZ c x z.bs)) ∧ B.cell? ⟨N, 0, none⟩ = some (.pointer (some ⟨a.S, 0, none⟩)) ∧ Hid (Calls Tryd.prog 53 #[.pointer (some ⟨a.S, 0, none⟩), .int .u64 (x : Int)] B fun e B2 => e = .returned (.int .i64 (cntZ c x z.f : Int)) ∧ Hid (Below N W B2))) :=
    (h1.k37 x hx).mono fun e B ⟨he, hb⟩ => ⟨he, by rw [cell_of ((hb.block N (by omega)).trans hn1)]; rfl, ((h1.below hb).k38 x hx).mono fun e B2 ⟨he2, hb2⟩ => ⟨he2, hk1.trans ((hb.mono (by omega)).trans (hb2.mono (by have := hb.size; omega)))⟩⟩
  have hc := cnt_le c x z.f
  have E : Hid (estZ c x z = cntZ c x z.f + if hasZ c x z.bs = true then 1 else 0) := rfl
  clear h h1 hk1 hs1 hn1 hx
  generalize estZ c x z = y at *
  generalize hasZ c x z.bs = b at *
  generalize cntZ c x z.f = k at *
  cases b
  · have e : y = k := E.out
    clear E
    subst e
    go_enter Tryd.func28, Tryd.ntmps28
    go_wp2_with fail
    refine P.out.mono ?_
    rintro e w2 ⟨rfl, d1, Q⟩
    go_wp2_with fail
    refine Q.out.mono ?_
    rintro e w3 ⟨rfl, q⟩
    go_wp2
    go_ret
    exact ⟨rfl, by rw [hN]; exact q.out⟩
  · have e : y = k + 1 := E.out
    clear E
    subst e
    have hw : IntKind.i64.wrap ((k : Int) + 1) = ((k + 1 : Nat) : Int) := by simp only [IntKind.wrap_i64]; omega
    go_enter Tryd.func28, Tryd.ntmps28
    go_wp2_with fail
    refine P.out.mono ?_
    rintro e w2 ⟨rfl, d1, Q⟩
    go_wp2_with fail
    refine Q.out.mono ?_
    rintro e w3 ⟨rfl, q⟩
    go_wp2
    go_ret
    exact ⟨rfl, by rw [hN]; exact q.out⟩
set_option maxHeartbeats 1000000 in
theorem fade_any (h : At w0 a c z W) : Calls Tryd.prog 47 #[kv a] W fun e B => e = .returned (.tuple #[]) ∧ At w0 a c ⟨halvesZ z.f, zerosD c, z.cnt, z.aged⟩ B ∧ Keep (far a) W B := by
  obtain ⟨N, hN⟩ : ∃ N, W.heap.size = N := ⟨_, rfl⟩
  have hf : far a N := h.far_new (by omega)
  obtain ⟨W1, hW1⟩ : ∃ W1, W.alloc (.cells #[.pointer (some ⟨a.S, 0, none⟩), .pointer (some ⟨a.D, 0, none⟩)] 50) = W1 := ⟨_, rfl⟩
  have hn1 : W1.heap[N]? = some (.cells #[.pointer (some ⟨a.S, 0, none⟩), .pointer (some ⟨a.D, 0, none⟩)] 50 (0, 0)) := by rw [← hW1]; exact heap_next hN.symm _
  have hk1 : Keep (far a) W W1 := by rw [← hW1]; exact .alloc _ _ _
  have h1 : At w0 a c z W1 := by rw [← hW1]; exact h.below ((Below.refl _ _).alloc (Nat.le_refl _) _)
  have d0 : W1.cell? ⟨N, 0, none⟩ = some (.pointer (some ⟨a.S, 0, none⟩)) := by rw [cell_of hn1]; rfl
  have P : Hid (Calls Tryd.prog 71 #[.pointer (some ⟨a.S, 0, none⟩)] W1 fun e B => e = .returned (.tuple #[]) ∧ B.cell? ⟨N, 1, none⟩ = some (.pointer (some ⟨a.D, 0, none⟩)) ∧ Hid (Calls Tryd.prog 72 #[.pointer (some ⟨a.D, 0, none⟩)] B fun e B2 => e = .returned (.tuple #[]) ∧ Hid (At w0 a c ⟨halvesZ z.f, zerosD c, z.cnt, z.aged⟩ B2 ∧ Keep (far a) W B2))) :=
    h1.k57.mono fun e B ⟨he, h2, h3⟩ => ⟨he, by rw [cell_of (h3.heap hn1 hf)]; rfl, h2.k42.mono fun e B2 ⟨he2, h4, h5⟩ => ⟨he2, h4, hk1.trans (h3.trans h5)⟩⟩
  clear h h1 hk1 hn1 hf
  generalize (⟨halvesZ z.f, zerosD c, z.cnt, z.aged⟩ : Zs) = y at *
  go_enter Tryd.func47, Tryd.ntmps47
  go_wp2_with fail
  refine P.out.mono ?_
  rintro e w2 ⟨rfl, d1, Q⟩
  go_wp2_with fail
  refine Q.out.mono ?_
  rintro e w3 ⟨rfl, q⟩
  go_wp2
  go_end0
  exact ⟨rfl, q.out⟩
/-- behind a store into the count. -/
theorem set_cnt (h : At w0 a c z W) (k : Nat) : At w0 a c ⟨z.f, z.bs, k, z.aged⟩ (W.setCell ⟨a.T, 3, none⟩ (.int .i64 (k : Int))) ∧ Keep (far a) W (W.setCell ⟨a.T, 3, none⟩ (.int .i64 (k : Int))) := by
  have hK : Keep (fun k => k ≠ a.T) W (W.setCell ⟨a.T, 3, none⟩ (.int .i64 (k : Int))) := Keep.setCell _ _ _ fun h => h rfl
  exact ⟨h.turnT (by rw [heap_set h.box]; rfl) hK, keepT hK⟩
theorem set_aged (h : At w0 a c z W) (k : Nat) : At w0 a c ⟨z.f, z.bs, z.cnt, k⟩ (W.setCell ⟨a.T, 4, none⟩ (.int .i64 (k : Int))) ∧ Keep (far a) W (W.setCell ⟨a.T, 4, none⟩ (.int .i64 (k : Int))) := by
  have hK : Keep (fun k => k ≠ a.T) W (W.setCell ⟨a.T, 4, none⟩ (.int .i64 (k : Int))) := Keep.setCell _ _ _ fun h => h rfl
  exact ⟨h.turnT (by rw [heap_set h.box]; rfl) hK, keepT hK⟩
theorem get10 (h : At w0 a c z W) : Calls Tryd.prog 12 #[.pointer (some ⟨a.T, 0, none⟩)] W fun e B => e = .returned (.int .i64 (z.cnt : Int)) ∧ B = W := by
  have c3 := h.c3
  clear h
  go_enter Tryd.func12, Tryd.ntmps12
  go_wp2
  go_ret
  exact ⟨rfl, rfl⟩
theorem get17 (h : At w0 a c z W) : Calls Tryd.prog 54 #[.pointer (some ⟨a.T, 0, none⟩)] W fun e B => e = .returned (.pointer (some ⟨a.S, 0, none⟩)) ∧ B = W := by
  have c0 := h.c0
  clear h
  go_enter Tryd.func54, Tryd.ntmps54
  go_wp2
  go_ret
  exact ⟨rfl, rfl⟩
theorem get18 (h : At w0 a c z W) : Calls Tryd.prog 57 #[.pointer (some ⟨a.T, 0, none⟩)] W fun e B => e = .returned (.pointer (some ⟨a.D, 0, none⟩)) ∧ B = W := by
  have c1 := h.c1
  clear h
  go_enter Tryd.func57, Tryd.ntmps57
  go_wp2
  go_ret
  exact ⟨rfl, rfl⟩
theorem est_any (h : At w0 a c z W) (x : Nat) (hx : x < 18446744073709551616) : Calls Tryd.prog 10 #[.pointer (some ⟨a.T, 0, none⟩), .int .u64 (x : Int)] W fun e B => e = .returned (.int .i64 (estZ c x z : Int)) ∧ Below W.heap.size W B := by
  have c0 := h.c0
  have c1 := h.c1
  have P := Lib.hid (h.estimate_any x hx)
  clear h
  generalize estZ c x z = y at *
  go_enter Tryd.func10, Tryd.ntmps10
  go_wp2_with fail
  refine P.out.mono ?_
  rintro e w3 ⟨rfl, q⟩
  go_wp2
  go_ret
  exact ⟨rfl, q⟩
set_option maxHeartbeats 1000000 in
theorem age_any (h : At w0 a c z W) (ha : z.aged ≤ 1000000) : Calls Tryd.prog 23 #[.pointer (some ⟨a.T, 0, none⟩)] W fun e B => e = .returned (.tuple #[]) ∧ At w0 a c (ageZ c z) B ∧ Keep (far a) W B := by
  have c0 := h.c0
  have c1 := h.c1
  have P : Hid (Calls Tryd.prog 47 #[kv a] W fun e B => e = .returned (.tuple #[]) ∧ B.cell? ⟨a.T, 3, none⟩ = some (.int .i64 (z.cnt : Int)) ∧ B.frozen? ⟨a.T, 3, none⟩ = false ∧ (B.setCell ⟨a.T, 3, none⟩ (.int .i64 0)).cell? ⟨a.T, 4, none⟩ = some (.int .i64 (z.aged : Int)) ∧ (B.setCell ⟨a.T, 3, none⟩ (.int .i64 0)).frozen? ⟨a.T, 4, none⟩ = false ∧ Hid (At w0 a c (ageZ c z) ((B.setCell ⟨a.T, 3, none⟩ (.int .i64 0)).setCell ⟨a.T, 4, none⟩ (.int .i64 ((z.aged + 1 : Nat) : Int))) ∧ Keep (far a) W ((B.setCell ⟨a.T, 3, none⟩ (.int .i64 0)).setCell ⟨a.T, 4, none⟩ (.int .i64 ((z.aged + 1 : Nat) : Int))))) :=
    h.fade_any.mono fun e B ⟨he, h1, k1⟩ => by
      obtain ⟨h2, k2⟩ := h1.set_cnt 0
      obtain ⟨h3, k3⟩ := h2.set_aged (z.aged + 1)
      exact ⟨he, h1.c3, h1.fr 3, h2.c4, h2.fr 4, h3, k1.trans (k2.trans k3)⟩
  have hw : IntKind.i64.wrap ((z.aged : Int) + 1) = ((z.aged + 1 : Nat) : Int) := by simp only [IntKind.wrap_i64]; omega
  clear h
  generalize ageZ c z = y at *
  generalize z.aged = g at *
  generalize z.cnt = k at *
  go_enter Tryd.func23, Tryd.ntmps23
  go_wp2_with fail
  refine P.out.mono ?_
  rintro e w2 ⟨rfl, e1, f1, e2, f2, q⟩
  clear P
  go_wp2
  go_end0
  refine ⟨rfl, ?_⟩
  have := q.out
  have e1 : ((g + 1 : Nat) : Int) = (g : Int) + 1 := by omega
  rw [e1] at this
  exact this
set_option maxHeartbeats 2000000 in
theorem add_any (h : At w0 a c z W) (x : Nat) (hx : x < 18446744073709551616) (hz : z.cnt < c.lim) (ha : z.aged ≤ 1000000) : Calls Tryd.prog 8 #[.pointer (some ⟨a.T, 0, none⟩), .int .u64 (x : Int)] W fun e B => e = .returned (.tuple #[]) ∧ At w0 a c (addZ c x z) B ∧ Keep (far a) W B := by
  have c0 := h.c0
  have c1 := h.c1
  have hl := h.lid
  by_cases he : z.cnt + 1 = c.lim
  · have P : Hid (Calls Tryd.prog 22 #[kv a, .int .u64 (x : Int)] W fun e B => e = .returned (.tuple #[]) ∧ B.cell? ⟨a.T, 3, none⟩ = some (.int .i64 (z.cnt : Int)) ∧ B.frozen? ⟨a.T, 3, none⟩ = false ∧ (B.setCell ⟨a.T, 3, none⟩ (.int .i64 ((z.cnt : Int) + 1))).cell? ⟨a.T, 3, none⟩ = some (.int .i64 ((z.cnt : Int) + 1)) ∧ (B.setCell ⟨a.T, 3, none⟩ (.int .i64 ((z.cnt : Int) + 1))).cell? ⟨a.T, 2, none⟩ = some (.int .i64 (c.lim : Int)) ∧ Hid (∀ q, Calls Tryd.prog 23 #[.pointer (some ⟨a.T, 0, none⟩)] ((B.setCell ⟨a.T, 3, none⟩ (.int .i64 ((z.cnt : Int) + 1))).drewN q) fun e B2 => e = .returned (.tuple #[]) ∧ Hid (At w0 a c (addZ c x z) B2 ∧ Keep (far a) W B2))) :=
      (h.come_any x hx).mono fun e B ⟨he1, h1, k1⟩ => by
        obtain ⟨h2, k2⟩ := h1.set_cnt (z.cnt + 1)
        have e1 : ((z.cnt + 1 : Nat) : Int) = (z.cnt : Int) + 1 := by omega
        have d3 := h2.c3
        have d2 := h2.c2
        rw [e1] at h2 k2 d3 d2
        refine ⟨he1, h1.c3, h1.fr 3, d3.trans (by rw [← e1]), d2, fun q => ((h2.drewN q).age_any (by exact ha)).mono fun e B2 ⟨he2, h3, k3⟩ => ⟨he2, ?_, k1.trans (k2.trans ((Keep.drewN _ _ _).trans k3))⟩⟩
        rw [addZ, if_pos he]
        exact h3
    have hw : IntKind.i64.wrap ((z.cnt : Int) + 1) = (z.cnt : Int) + 1 := by simp only [IntKind.wrap_i64]; omega
    have hd : ((z.cnt : Int) + 1 == (c.lim : Int)) = true := by simp; omega
    clear h he ha
    generalize addZ c x z = y at *
    generalize z.cnt = k at *
    go_enter Tryd.func8, Tryd.ntmps8
    go_wp2_with fail
    refine P.out.mono ?_
    rintro e w2 ⟨rfl, d3, f3, d4, d5, Q⟩
    clear P
    go_wp2_with fail
    go_quiet (fail)
    go_wp2_with fail
    refine (Q.out _).mono ?_
    rintro e w3 ⟨rfl, q⟩
    go_wp2
    go_end0
    exact ⟨rfl, q.out⟩
  · have P : Hid (Calls Tryd.prog 22 #[kv a, .int .u64 (x : Int)] W fun e B => e = .returned (.tuple #[]) ∧ B.cell? ⟨a.T, 3, none⟩ = some (.int .i64 (z.cnt : Int)) ∧ B.frozen? ⟨a.T, 3, none⟩ = false ∧ (B.setCell ⟨a.T, 3, none⟩ (.int .i64 ((z.cnt : Int) + 1))).cell? ⟨a.T, 3, none⟩ = some (.int .i64 ((z.cnt : Int) + 1)) ∧ (B.setCell ⟨a.T, 3, none⟩ (.int .i64 ((z.cnt : Int) + 1))).cell? ⟨a.T, 2, none⟩ = some (.int .i64 (c.lim : Int)) ∧ Hid (∀ q, At w0 a c (addZ c x z) ((B.setCell ⟨a.T, 3, none⟩ (.int .i64 ((z.cnt : Int) + 1))).drewN q) ∧ Keep (far a) W ((B.setCell ⟨a.T, 3, none⟩ (.int .i64 ((z.cnt : Int) + 1))).drewN q))) :=
      (h.come_any x hx).mono fun e B ⟨he1, h1, k1⟩ => by
        obtain ⟨h2, k2⟩ := h1.set_cnt (z.cnt + 1)
        have e1 : ((z.cnt + 1 : Nat) : Int) = (z.cnt : Int) + 1 := by omega
        have d3 := h2.c3
        have d2 := h2.c2
        rw [e1] at h2 k2 d3 d2
        refine ⟨he1, h1.c3, h1.fr 3, d3.trans (by rw [← e1]), d2, fun q => ⟨?_, k1.trans (k2.trans (Keep.drewN _ _ _))⟩⟩
        rw [addZ, if_neg he]
        exact h2.drewN q
    have hw : IntKind.i64.wrap ((z.cnt : Int) + 1) = (z.cnt : Int) + 1 := by simp only [IntKind.wrap_i64]; omega
    have hd : ((z.cnt : Int) + 1 == (c.lim : Int)) = false := by simp; omega
    clear h ha
    generalize addZ c x z = y at *
    generalize z.cnt = k at *
    clear he
    go_enter Tryd.func8, Tryd.ntmps8
    go_wp2_with fail
    refine P.out.mono ?_
    rintro e w2 ⟨rfl, d3, f3, d4, d5, Q⟩
    clear P
    go_wp2_with fail
    go_quiet (fail)
    go_wp2
    go_end0
    exact ⟨rfl, Q.out _⟩
end At
/-! of no tiny -/
theorem none10 (w : World) : Calls Tryd.prog 12 #[.pointer none] w fun e B => e = .returned (.int .i64 0) ∧ B = w := by
  go_enter Tryd.func12, Tryd.ntmps12
  go_wp2
  go_ret
  exact ⟨rfl, rfl⟩
theorem none13 (x : Int) (w : World) : Calls Tryd.prog 10 #[.pointer none, .int .u64 x] w fun e B => e = .returned (.int .i64 0) ∧ B = w := by
  go_enter Tryd.func10, Tryd.ntmps10
  go_wp2
  go_ret
  exact ⟨rfl, rfl⟩
theorem none16 (x : Int) (w : World) : Calls Tryd.prog 8 #[.pointer none, .int .u64 x] w fun e B => e = .returned (.tuple #[]) ∧ B = w := by
  go_enter Tryd.func8, Tryd.ntmps8
  go_wp2
  refine bodyPost_ret (results_none rfl _ _ _) rfl ?_
  exact ⟨rfl, rfl⟩
theorem none17 (w : World) : Calls Tryd.prog 54 #[.pointer none] w fun e B => e = .returned (.pointer none) ∧ B = w := by
  go_enter Tryd.func54, Tryd.ntmps54
  go_wp2
  go_ret
  exact ⟨rfl, rfl⟩
theorem none18 (w : World) : Calls Tryd.prog 57 #[.pointer none] w fun e B => e = .returned (.pointer none) ∧ B = w := by
  go_enter Tryd.func57, Tryd.ntmps57
  go_wp2
  go_ret
  exact ⟨rfl, rfl⟩
end Go.Proofs.YtnhpcjiieagjnaaDoor
