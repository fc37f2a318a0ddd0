/-
  The document's tiny as a value ('Rv', 'tv'), in a box ('Rb'); what turns one of its parts.
-/
import Derived.Test.YthjbkabkoolfdaaDoorTp
import Derived.Test.YthjbkabkoolfdaaDoorSkRc
import Derived.Test.YthjbkabkoolfdaaDoorDrRc
namespace Go.Proofs.YthjbkabkoolfdaaDoor
open Go.RowKit
open nb (Keep ct cell_of frozen_of heap_set heap_set_other heap_old heap_next heap_lt addAt mayAdd)
/-- the ten cells. -/
abbrev tc (c : Cs) (cnt aged : Int) (v u : Value) : Array Value := #[v, .int .i64 (c.n : Int), .int .u64 (c.seed : Int), u, .int .u64 (c.seed : Int), .int .i64 cnt, .int .i64 (c.lim : Int), .int .i64 aged, .int .i64 0, .int .u64 (c.seed : Int)]
abbrev tv (c : Cs) (cnt aged : Int) (v u : Value) : Value := .agg (tc c cnt aged v u)
/-- no tiny's ten cells. -/
abbrev t0 : Array Value := #[.slice none 0 0, .int .i64 0, .int .u64 0, .slice none 0 0, .int .u64 0, .int .i64 0, .int .i64 0, .int .i64 0, .int .i64 0, .int .u64 0]
/-- what lies behind a document's tiny: the rows v, the bits u, no block outside of K. -/
structure Rv (K : Nat → Prop) (W : World) (c : Cs) (f : Nat → List Nat) (bs : List Nat) (v u : Value) : Prop where
  rows : sk.Rr K W v 4 f
  bits : dr.Q dr.eb W u (dr.ub bs)
  own : ∀ b, u.ownBlock = some b → K b
  len : ∀ i, i < 4 → (f i).length = c.n
  low : ∀ i j, i < 4 → ct (f i) j ≤ 15
  bl : bs.length = c.m
  n0 : 0 < c.n
  n1 : c.n ≤ 4096
  m0 : 0 < c.m
  m1 : c.m ≤ 4096
  sd : c.seed < 18446744073709551616
  hm : dr.bdN (c.lim : Int) = c.m
namespace Rv
variable {K K' : Nat → Prop} {W B : World} {c : Cs} {f f' : Nat → List Nat} {bs bs' : List Nat} {v u v' u' : Value}
theorem keep (h : Rv K W c f bs v u) (hk : Keep K W B) : Rv K B c f bs v u := ⟨h.rows.keep hk, h.bits.keep (toDr hk) h.own, h.own, h.len, h.low, h.bl, h.n0, h.n1, h.m0, h.m1, h.sd, h.hm⟩
theorem below (h : Rv K W c f bs v u) (hb : Below W.heap.size W B) : Rv K B c f bs v u := h.keep (keep_below hb)
theorem mono (h : Rv K W c f bs v u) (hK : ∀ b, K b → K' b) : Rv K' W c f bs v u := ⟨h.rows.mono hK, h.bits, fun b hb => hK b (h.own b hb), h.len, h.low, h.bl, h.n0, h.n1, h.m0, h.m1, h.sd, h.hm⟩
/-- its sketch is anew. -/
theorem setS (h : Rv K W c f bs v u) (hr : sk.Rr K W v' 4 f') (hl : ∀ i, i < 4 → (f' i).length = c.n) (hlow : ∀ i j, i < 4 → ct (f' i) j ≤ 15) : Rv K W c f' bs v' u := ⟨hr, h.bits, h.own, hl, hlow, h.bl, h.n0, h.n1, h.m0, h.m1, h.sd, h.hm⟩
/-- its door is anew. -/
theorem setD (h : Rv K W c f bs v u) (hq : dr.Q dr.eb W u' (dr.ub bs')) (ho : ∀ b, u'.ownBlock = some b → K b) (hl : bs'.length = c.m) : Rv K W c f bs' v u' := ⟨h.rows, hq, ho, h.len, h.low, hl, h.n0, h.n1, h.m0, h.m1, h.sd, h.hm⟩
theorem k25 (h : Rv K W c f bs v u) (x : Nat) (hx : x < 18446744073709551616) : Calls Tryd.prog 25 #[sk.sv v c.n c.seed, .int .u64 (x : Int)] W fun e B => e = .returned (.int .i64 (cntZ c x f : Int)) ∧ Below W.heap.size W B :=
  sk.refcount_any c.n c.seed x hx h.rows h.len h.n0 h.n1
theorem k26 (h : Rv K W c f bs v u) (x : Nat) (hx : x < 18446744073709551616) : Calls Tryd.prog 26 #[dr.dv u c.seed, .int .u64 (x : Int)] W fun e B => e = .returned (.bool (hasZ c x bs)) ∧ Below W.heap.size W B := by
  have := dr.refhas_any c.seed x h.sd hx h.bits (by rw [h.bl]; exact h.m0) (by rw [h.bl]; exact h.m1)
  rw [h.bl] at this
  exact this
theorem k34 (h : Rv K W c f bs v u) (hK : ∀ b, W.heap.size ≤ b → K b) (x : Nat) (hx : x < 18446744073709551616) : Calls Tryd.prog 34 #[dr.dv u c.seed, .int .u64 (x : Int)] W fun e B => ∃ u', e = .returned (.tuple #[dr.dv u' c.seed, .bool (!hasZ c x bs)]) ∧ Rv K B c f (putZ c x bs) v u' ∧ Below W.heap.size W B := by
  have := dr.refput_any K c.seed x h.sd hx h.bits (by rw [h.bl]; exact h.m0) (by rw [h.bl]; exact h.m1) h.own hK
  rw [h.bl] at this
  refine this.mono fun e B ⟨a, k, he, hq, ho, hb⟩ => ⟨_, he, (h.below hb).setD hq ho ?_, hb⟩
  show (dr.putB _ _).length = c.m
  rw [dr.putB_len]; exact h.bl
theorem k35 (h : Rv K W c f bs v u) (hK : ∀ b, W.heap.size ≤ b → K b) (x : Nat) (hx : x < 18446744073709551616) : Calls Tryd.prog 35 #[sk.sv v c.n c.seed, .int .u64 (x : Int)] W fun e B => ∃ v', e = .returned (sk.sv v' c.n c.seed) ∧ Rv K B c (addsZ c x f) bs v' u ∧ Below W.heap.size W B :=
  (sk.refadd_any c.n c.seed x hx h.rows h.len h.n0 h.n1 hK).mono fun _ _ ⟨_, _, he, hr, hb⟩ => ⟨_, he, (h.below hb).setS hr (fun i hi => (nb.addAt_len _ _).trans (h.len i hi)) (fun i j hi => (adds_ge (z := ⟨f, bs, 0, 0⟩) ⟨h.len, h.low, h.n0, h.bl, h.m0⟩ x i j hi).2), hb⟩
theorem k36 (h : Rv K W c f bs v u) (hK : ∀ b, W.heap.size ≤ b → K b) : Calls Tryd.prog 36 #[sk.sv v c.n c.seed] W fun e B => ∃ v', e = .returned (sk.sv v' c.n c.seed) ∧ Rv K B c (halvesZ f) bs v' u ∧ Below W.heap.size W B :=
  (sk.refhalve_any c.n c.seed h.rows h.len h.n0 h.n1 h.low hK).mono fun e B ⟨a, k, he, hr, hb⟩ => ⟨_, he, (h.below hb).setS hr (fun i hi => (List.length_map _).trans (h.len i hi)) (fun i j hi => by
    have := h.low i j hi
    show ct (halvesZ f i) j ≤ 15
    rw [show ct (halvesZ f i) j = ct (f i) j / 2 from nb.ct_half (f i) j]
    omega), hb⟩
theorem k22 (h : Rv K W c f bs v u) (hK : ∀ b, W.heap.size ≤ b → K b) : Calls Tryd.prog 22 #[.int .i64 (c.lim : Int), .int .u64 (c.seed : Int)] W fun e B => ∃ u', e = .returned (dr.dv u' c.seed) ∧ Rv K B c f (zerosD c) v u' ∧ Below W.heap.size W B := by
  have := dr.refnew_any (c.lim : Int) c.seed W
  rw [h.hm] at this
  refine this.mono fun e B ⟨a, k, he, hq, hb, ho⟩ => ⟨_, he, (h.below hb).setD ?_ (fun b hb' => hK b (ho b hb')) (List.length_replicate ..), hb⟩
  unfold zerosD
  rw [dr.ub_zeros]
  exact hq
end Rv
set_option maxHeartbeats 1000000 in
/-- the document's estimate. -/
theorem refest_any {K : Nat → Prop} {W : World} {c : Cs} {z : Zs} {v u : Value} (h : Rv K W c z.f z.bs v u) (x : Nat) (hx : x < 18446744073709551616) (cnt aged : Int) : Calls Tryd.prog 14 #[tv c cnt aged v u, .int .u64 (x : Int)] W fun e B => e = .returned (.int .i64 (estZ c x z : Int)) ∧ Below W.heap.size W B := by
  obtain ⟨N, hN⟩ : ∃ N, W.heap.size = N := ⟨_, rfl⟩
  obtain ⟨W1, hW1⟩ : ∃ W1, W.alloc (.cells (tc c cnt aged v u) 34) = W1 := ⟨_, rfl⟩
  have hs1 : W1.heap.size = N + 1 := by rw [← hW1]; simp [hN]
  have hn1 : W1.heap[N]? = some (.cells (tc c cnt aged v u) 34 (0, 0)) := by rw [← hW1]; exact heap_next hN.symm _
  have hk1 : Below N W W1 := by rw [← hW1]; exact (Below.refl _ _).alloc (by omega) _
  have h1 : Rv K W1 c z.f z.bs v u := by rw [← hW1]; exact h.below ((Below.refl _ _).alloc (Nat.le_refl _) _)
  have d0 : W1.cell? ⟨N, 0, none⟩ = some v := by rw [cell_of hn1]; rfl
  have d1 : W1.cell? ⟨N, 1, none⟩ = some (.int .i64 (c.n : Int)) := by rw [cell_of hn1]; rfl
  have d2 : W1.cell? ⟨N, 2, none⟩ = some (.int .u64 (c.seed : Int)) := by rw [cell_of hn1]; rfl
  have P : Hid (Calls Tryd.prog 25 #[sk.sv v c.n c.seed, .int .u64 (x : Int)] W1 fun e B => e = .returned (.int .i64 (cntZ c x z.f : Int)) ∧ B.cell? ⟨N, 3, none⟩ = some u ∧ B.cell? ⟨N, 4, none⟩ = some (.int .u64 (c.seed : Int)) ∧ Hid (Calls Tryd.prog 26 #[dr.dv u c.seed, .int .u64 (x : Int)] B fun e B2 => e = .returned (.bool (hasZ c x z.bs)) ∧ Hid (Below N W B2))) :=
    (h1.k25 x hx).mono fun e B ⟨he, hb⟩ => by
      have hn2 := (hb.block N (by omega)).trans hn1
      exact ⟨he, by rw [cell_of hn2]; rfl, by rw [cell_of hn2]; rfl, ((h1.below hb).k26 x hx).mono fun e B2 ⟨he2, hb2⟩ => ⟨he2, hk1.trans ((hb.mono (by omega)).trans (hb2.mono (by have := hb.size; omega)))⟩⟩
  have hc := cnt_le c x z.f
  have E : Hid (estZ c x z = cntZ c x z.f + if hasZ c x z.bs = true then 1 else 0) := rfl
  clear h h1 hk1 hs1 hn1 hx
  generalize estZ c x z = y at *
  generalize hasZ c x z.bs = b at *
  generalize cntZ c x z.f = k at *
  cases b
  · have e : y = k := E.out
    clear E
    subst e
    go_enter Tryd.func14, Tryd.ntmps14
    go_wp2_with fail
    refine P.out.mono ?_
    rintro e w2 ⟨rfl, d3, d4, Q⟩
    go_wp2_with fail
    refine Q.out.mono ?_
    rintro e w3 ⟨rfl, q⟩
    go_wp2
    go_ret
    exact ⟨rfl, by rw [hN]; exact q.out⟩
  · have e : y = k + 1 := E.out
    clear E
    subst e
    have hw : IntKind.i64.wrap ((k : Int) + 1) = ((k + 1 : Nat) : Int) := by simp only [IntKind.wrap_i64]; omega
    go_enter Tryd.func14, Tryd.ntmps14
    go_wp2_with fail
    refine P.out.mono ?_
    rintro e w2 ⟨rfl, d3, d4, Q⟩
    go_wp2_with fail
    refine Q.out.mono ?_
    rintro e w3 ⟨rfl, q⟩
    go_wp2
    go_ret
    exact ⟨rfl, by rw [hN]; exact q.out⟩
end Go.Proofs.YthjbkabkoolfdaaDoor
