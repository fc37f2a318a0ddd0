/-
  RingOrder walked: for every slice of texts and every uint it returns true; what was in memory stays.
-/
import Derived.Test.YtgkiekidmadabaaStHas
namespace Go.Proofs.Ytgkiekidmadabaa
open Go.RowKit Go.Shelf
attribute [local go_sem] Oper.semAt_some wide_fn wide_depth
theorem fr_new (w : World) (a : Option Addr) (n cap : Nat) (v : Value) : Fr w w.heap.size a n cap v ((w.alloc (.cells #[.slice a n cap] 47)).alloc (.cells #[v] 4)) :=
  ⟨heap_old (World.alloc_heap_new _ _), heap_next (by simp) _, Keep.below (K := fun _ => True) ((Keep.alloc _ _ _).trans (Keep.alloc _ _ _)) (fun _ _ => trivial) (Nat.le_refl _)⟩
theorem all_not_nil_s (W : World) (c : Array Value) : (binOp .eql 56 (.func (.func 36) #[] c) .nilFunc).run Try.prog W = .ok (.bool false) W := by kernel_rfl
/-- what each call behind the loops keeps. -/
def Fin (w : World) (N : Nat) (a : Option Addr) (cap : Nat) (c g : Nat) (l : List ByteArray) (S m kf D : Nat) (W : World) : Prop :=
  W.cell? ⟨N, 0, none⟩ = some (.slice a l.length cap) ∧ W.cell? ⟨S + 1, 0, none⟩ = some (.int .i64 (kf : Int)) ∧ W.cell? ⟨S, 0, none⟩ = some (.int .i64 (m : Int)) ∧ W.heap[D]? = some (.deferred (some [])) ∧
    HasS (fun k => k < N + 2 ∨ foot c g l.length k) W (N + 2) [] l.length ∧ RingS W c g l.length 0 (some ⟨g, 0, none⟩) l l.length ∧ (∃ v, Fr w N a l.length cap v W) ∧ (N + 2 ≤ c ∧ N + 2 ≤ g ∧ N + 1 < S ∧ N + 1 < D)
namespace Fin
variable {w : World} {N : Nat} {a : Option Addr} {cap c g : Nat} {l : List ByteArray} {S m kf D : Nat} {W W' : World}
theorem below (h : Fin w N a cap c g l S m kf D W) (hb : Below W.heap.size W W') : Fin w N a cap c g l S m kf D W' := by
  obtain ⟨h0, h1, h2, h3, h4, h5, ⟨v, h6⟩, h7⟩ := h
  have at_ : ∀ {p : Addr} {v : Value}, W.cell? p = some v → W'.cell? p = some v := fun {p v} h => (hb.cell (World.block_lt_of_cell? W p h)).trans h
  exact ⟨at_ h0, at_ h1, at_ h2, (hb.block D (heap_lt h3)).trans h3, h4.below hb, h5.below hb, ⟨v, h6.below hb⟩, h7⟩
theorem put (h : Fin w N a cap c g l S m kf D W) (u : Value) : Fin w N a cap c g l S m kf D (W.setCell ⟨N + 1, 0, none⟩ u) := by
  obtain ⟨h0, h1, h2, h3, h4, h5, ⟨v, h6⟩, h7, h8, h9, h10⟩ := h
  have at_ : ∀ {b o : Nat} {v : Value}, W.cell? ⟨b, o, none⟩ = some v → b ≠ N + 1 → (W.setCell ⟨N + 1, 0, none⟩ u).cell? ⟨b, o, none⟩ = some v := fun {b o v} h hb => (World.cell?_setCell_other _ _ _ _ (by intro e; injection e with e; exact hb e.symm)).trans h
  exact ⟨at_ h0 (by omega), at_ h1 (by omega), at_ h2 (by omega), heap_set_other h3 (by omega) _ _, h4.keep (Keep.setCell _ _ _ (fun h => h (.inl (by simp)))),
    h5.keep (K := fun k => k ≠ N + 1) (Keep.setCell _ _ _ (fun h => h rfl)) (fun k hk => by rcases hk with rfl | ⟨_, rfl⟩ <;> omega), ⟨u, h6.set u⟩, h7, h8, h9, h10⟩
theorem close (h : Fin w N a cap c g l S m kf D W) : (W.setCell ⟨N + 1, 0, none⟩ (.bool true)).heap[D]? = some (.deferred (some [])) ∧ ((W.setCell ⟨N + 1, 0, none⟩ (.bool true)).putObj D (.deferred none)).cell? ⟨N + 1, 0, none⟩ = some (.bool true) ∧ Below N w ((W.setCell ⟨N + 1, 0, none⟩ (.bool true)).putObj D (.deferred none)) := by
  obtain ⟨h0, h1, h2, h3, h4, h5, ⟨v, h6⟩, h7, h8, h9, h10⟩ := h
  have hF := (h6.set (.bool true)).keep (K := fun k => k ≠ D) (Keep.putObj _ D (.deferred none) (fun h => h rfl)) (fun k hk => by omega)
  exact ⟨heap_set_other h3 (by omega) _ _, hF.c1, hF.old⟩
end Fin
theorem roomOf_small (n : Nat) (h : n ≤ 60) : roomOf (n : Int) = n := by unfold roomOf; omega
set_option maxRecDepth 100000 in
set_option maxHeartbeats 2000000 in
theorem order_some (a : Option Addr) (cap : Nat) (l : List ByteArray) (most : Nat) (w : World) (hl : l.length ≤ 60) (hr : RowS w a l) :
    Calls Try.prog 4 #[.slice a l.length cap, .int .u64 (most : Int)] w fun e B => e = .returned (.bool true) ∧ Below w.heap.size w B := by
  refine callsIn_wide (n := 0).1 (callsIn_of_wp_marks Try.func4 rfl trivial ?_ rfl)
  simp only [Try.ntmps4, List.size_toArray, List.length_cons, List.length_nil, Nat.reduceAdd, Nat.reduceSub, Array.replicate_succ, Array.replicate_zero, List.push_toArray, List.append_toArray, List.nil_append, List.cons_append]
  refine wpIn_wide.2 ?_
  obtain ⟨N, hN⟩ : ∃ N, w.heap.size = N := ⟨_, rfl⟩
  have F0 : Fr w N a l.length cap (.bool false) ((w.alloc (.cells #[.slice a l.length cap] 47)).alloc (.cells #[.bool false] 4)) := hN ▸ fr_new w a l.length cap (.bool false)
  have hs0 : ((w.alloc (.cells #[.slice a l.length cap] 47)).alloc (.cells #[.bool false] 4)).heap.size = N + 2 := by simp [hN]
  rw [hN]
  have T21 : Hid (Calls Try.prog 21 #[.int .i64 (l.length : Int)] ((w.alloc (.cells #[.slice a l.length cap] 47)).alloc (.cells #[.bool false] 4)) fun e B => e = .returned (.pointer (some ⟨N + 2, 0, none⟩)) ∧ Hid (HasS (fun k => k < N + 2) B (N + 2) [] l.length ∧ Fr w N a l.length cap (.bool false) B)) :=
    (new_has_s (l.length : Int) _ (fun k => k < N + 2) (fun _ h => by rw [hs0]; exact h)).mono fun e B ⟨he, hB, hb⟩ => by
      rw [hs0] at he hB
      rw [roomOf_small _ hl] at hB
      exact ⟨he, hB, F0.below hb⟩
  clear F0 hs0
  go_wp2_with fail
  refine T21.out.mono ?_
  rintro e w1 ⟨rfl, h1⟩
  clear T21
  go_wp2_with fail
  go_loopw [6] (fun i wr => ∃ k : Nat, k ≤ l.length ∧ i = .int .i64 k ∧ HasS (fun k => k < N + 2) wr (N + 2) (l.take k) l.length ∧ Fr w N a l.length cap (.bool false) wr) (fun i _ => l.length - (intOf i).toNat)
  case atStart => exact ⟨0, Nat.zero_le _, rfl, h1.out.1, h1.out.2⟩
  case round =>
    clear h1
    obtain ⟨k, hk, rfl, hR, hF⟩ := hrel
    by_cases hlt : k < l.length
    · have c0 := hF.c0
      obtain ⟨b, o, rfl, hi⟩ := (hF.row hN hr) (by omega)
      have ci := hi k hlt
      have T22 : Hid (Calls Try.prog 22 #[.pointer (some ⟨N + 2, 0, none⟩), .string l[k]] wr fun e B => e = .returned (.bool true) ∧ Hid (HasS (fun k => k < N + 2) B (N + 2) (l.take (k + 1)) l.length ∧ Fr w N (some ⟨b, o, none⟩) l.length cap (.bool false) B)) :=
        (hR.send (fun k hk => by have := hF.size; omega) (by simp; omega) l[k]).mono fun e B ⟨he, hB, hb⟩ => ⟨he, by rw [List.take_succ_eq_append_getElem hlt]; exact hB, hF.keep hb fun _ h => h⟩
      clear hi hr hR hF hN
      generalize l[k] = x at *
      go_wp2_with (go_at_call 22; refine T22.out.mono ?_; rintro e w2 ⟨rfl, h2⟩)
      go_roundw
      case rel => exact ⟨k + 1, by omega, by simp, h2.out⟩
      case measure => simp [intOf]; omega
    · obtain rfl : k = l.length := by omega
      have c0 := hF.c0
      rw [List.take_length] at hR
      have T23 : Hid (Calls Try.prog 23 #[.pointer (some ⟨N + 2, 0, none⟩)] wr fun e B => ∃ c, e = .returned (.pointer (some ⟨c, 0, none⟩)) ∧ Hid (∃ g, (N + 2 ≤ c ∧ N + 2 ≤ g) ∧ RingS B c g l.length 0 (some ⟨g, 0, none⟩) l l.length ∧ HasS (fun k => k < N + 2 ∨ foot c g l.length k) B (N + 2) l l.length ∧ Fr w N a l.length cap (.bool false) B)) :=
        hR.clone.mono fun e B ⟨c, g, he, hB, hB', hc, hg, hb⟩ => ⟨c, he, g, by have := hF.size; omega, hB, hB', hF.below hb⟩
      clear hR hF
      go_wp2_with (go_at_call 23; refine T23.out.mono ?_; rintro e w2 ⟨c, rfl, h2⟩)
      clear T23 c0
      obtain ⟨g, hcg, h3, h4, h5⟩ := h2.out
      have HC := Lib.hid hcg
      clear hcg
      clear h2
      have H3 := Lib.hid h3
      have H4 := Lib.hid h4
      have H5 := Lib.hid h5
      have c0 := h5.c0
      clear h3 h4 h5
      have T22 : Hid (∀ q, Calls Try.prog 22 #[.pointer (some ⟨N + 2, 0, none⟩), .string ⟨#[120]⟩] (w2.drewN q) fun e B => e = .returned (.bool false) ∧ ∃ m, B = (w2.drewN q).drewN m) := fun q => (H4.out.drewN q).full rfl _
      have T24 : Hid (∀ q, Calls Try.prog 24 #[.pointer (some ⟨c, 0, none⟩)] (w2.drewN q) fun e B => e = .returned (.int .i64 (l.length : Int)) ∧ B = w2.drewN q) := fun q => len_some_s (H3.out.drewN q)
      go_quiet (first
        | (go_at_call 22; exact Calls.quiet_of (T22.out _))
        | (go_at_call 24; exact Calls.quiet_of_same (T24.out _)))
      have h3 := Lib.hid (H3.out.drewN nq)
      have h4 := Lib.hid (H4.out.drewN nq)
      have h5 := Lib.hid (H5.out.keep (Keep.drewN (fun _ => True) w2 nq) fun _ _ => trivial)
      clear H3 H4 H5 T22 T24 c0
      generalize w2.drewN nq = w3 at *
      go_wp2_with fail
      go_loopw [8] (fun i wr => ∃ k : Nat, k ≤ l.length ∧ i = .int .i64 k ∧ HasS (fun k => k < N + 2 ∨ foot c g l.length k) wr (N + 2) (l.drop k) l.length ∧ RingS wr c g l.length 0 (some ⟨g, 0, none⟩) l l.length ∧ Fr w N a l.length cap (.bool false) wr) (fun i _ => l.length - (intOf i).toNat)
      case atStart => exact ⟨0, Nat.zero_le _, rfl, h4.out, h3.out, h5.out⟩
      case round =>
        clear h3 h4 h5 hk hlt
        obtain ⟨k, hk, rfl, hR, hC, hF⟩ := hrel
        by_cases hlt : k < l.length
        · have c0 := hF.c0
          obtain ⟨b, o, rfl, hi⟩ := (hF.row hN hr) (by omega)
          have ci := hi k hlt
          rw [List.drop_eq_getElem_cons hlt] at hR
          have T25 := Lib.hid hR.front
          have T26 : Hid (∀ q, Calls Try.prog 26 #[.pointer (some ⟨N + 2, 0, none⟩)] (wr.drewN q) fun e B => e = .returned (.tuple #[.string l[k], .bool true]) ∧ B.cell? ⟨N, 0, none⟩ = some (.slice (some ⟨b, o, none⟩) l.length cap) ∧ B.cell? ⟨b, o + k, none⟩ = some (.string l[k]) ∧ Hid (HasS (fun k => k < N + 2 ∨ foot c g l.length k) B (N + 2) (l.drop (k + 1)) l.length ∧ RingS B c g l.length 0 (some ⟨g, 0, none⟩) l l.length ∧ Fr w N (some ⟨b, o, none⟩) l.length cap (.bool false) B)) := fun q =>
            (hR.drewN q).take.mono fun e B ⟨he, hB, hb⟩ => by
              have hF' := (hF.keep (Keep.drewN (fun _ => True) wr q) fun _ _ => trivial).keep hb fun k h => .inl h
              obtain ⟨b', o', e', hi'⟩ := (hF'.row hN hr) (by omega)
              injection e' with e'
              injection e' with e1 e2
              subst e1 e2
              exact ⟨he, hF'.c0, hi' k hlt, hB, (hC.drewN q).keep hb fun k h => .inr h, hF'⟩
          clear hi hr hR hC hF hN
          generalize l[k] = x at *
          go_wp2_with (first
            | (go_at_call 25; refine T25.out.mono ?_; rintro e w4 ⟨rfl, m4, rfl⟩)
            | (go_at_call 26; refine (T26.out _).mono ?_; rintro e w5 ⟨rfl, d0, di, h5⟩))
          go_roundw
          case rel => exact ⟨k + 1, by omega, by simp, h5.out⟩
          case measure => simp [intOf]; omega
        · obtain rfl : k = l.length := by omega
          rw [List.drop_length] at hR
          obtain ⟨m, hm, hm1⟩ : ∃ m : Nat, (most : Int) % 70 = (m : Int) ∧ m < 70 := ⟨most % 70, by omega, Nat.mod_lt _ (by omega)⟩
          have nn := all_not_nil_s
          have c0 := hF.c0
          have X1 := Lib.hid hR
          have X2 := Lib.hid hC
          have X3 := Lib.hid hF
          have X4 := Lib.hid hr
          clear hR hC hF hr
          go_wp2_with (go_at_call 27; refine (all_any_s _ _).mono ?_; rintro e w4 ⟨rfl, rfl⟩)
          clear hm c0 nn
          obtain ⟨S, hS⟩ : ∃ S, wr.heap.size = S := ⟨_, rfl⟩
          obtain ⟨W, hW⟩ : ∃ W, ((wr.alloc (.cells #[.int .i64 (m : Int)] 3)).alloc (.cells #[.int .i64 0] 3)).alloc (.cells #[.pointer (some ⟨c, 0, none⟩)] 48) = W := ⟨_, rfl⟩
          rw [hW, hS]
          have kW : Keep (fun _ => True) wr W := by rw [← hW]; exact ((Keep.alloc _ _ _).trans (Keep.alloc _ _ _)).trans (Keep.alloc _ _ _)
          have hs : W.heap.size = S + 3 := by rw [← hW, ← hS]; simp
          have hb0 : W.heap[S]? = some (.cells #[.int .i64 (m : Int)] 3 (0, 0)) := by rw [← hW, ← hS]; exact heap_old (heap_old (World.alloc_heap_new _ _))
          have hb1 : W.heap[S + 1]? = some (.cells #[.int .i64 ((0 : Nat) : Int)] 3 (0, 0)) := by rw [← hW, ← hS]; exact heap_old (heap_next (by simp) _)
          have hp : W.heap[S + 1 + 1]? = some (.cells #[.pointer (some ⟨c, 0, none⟩)] 48 (0, 0)) := by rw [← hW, ← hS]; exact heap_next (by simp) _
          clear hW
          refine (wpIn_wide (n := 0)).1 ?_
          apply range_law (gf := 36) (lb := #[.pointer (some ⟨S + 1 + 1, 0, none⟩)]) (xs := l) (N := fun _ => False) (T := fun _ _ => True) (encs := fun i x => #[.int .i64 (i : Int), .string x])
            (hg := rfl) (eg := enters_of Try.func36 (by kernel_rfl) rfl)
            (hseq := fun B hB => all1_tells_s _ (X2.out.keep (kW.trans hB) fun _ _ => trivial) (by rw [cell_of (hB.heap hp trivial)]; rfl)) (hN := fun _ h => h.elim) (hT := fun _ _ _ _ _ _ _ _ => trivial) (hps := fun _ _ => rfl)
            (I := fun i M A => (∀ k, M k ↔ k < S + 2) ∧ Keep (fun k => k < S) wr A ∧ i ≤ m ∧ A.heap[S]? = some (.cells #[.int .i64 (m : Int)] 3 (0, 0)) ∧ A.heap[S + 1]? = some (.cells #[.int .i64 (i : Int)] 3 (0, 0)))
            (Ix := fun c i M A => c = .exit 4 ∧ i = m + 1 ∧ (∀ k, M k ↔ k < S + 2) ∧ Keep (fun k => k < S) wr A ∧ A.heap[S]? = some (.cells #[.int .i64 (m : Int)] 3 (0, 0)) ∧ A.heap[S + 1]? = some (.cells #[.int .i64 (m : Int)] 3 (0, 0)))
            (hI := fun i M A B hi hk => ⟨hi.1, hi.2.1.trans (hk.mono fun k _ h => (hi.1 k).2 (by omega)), hi.2.2.1, hk.heap hi.2.2.2.1 ((hi.1 _).2 (by omega)), hk.heap hi.2.2.2.2 ((hi.1 _).2 (by omega))⟩)
            (hIx := fun c i M A B hi hk => ⟨hi.1, hi.2.1, hi.2.2.1, hi.2.2.2.1.trans (hk.mono fun k _ h => (hi.2.2.1 k).2 (by omega)), hk.heap hi.2.2.2.2.1 ((hi.2.2.1 _).2 (by omega)), hk.heap hi.2.2.2.2.2 ((hi.2.2.1 _).2 (by omega))⟩)
            (M0 := fun k => k < S + 2) (hM0 := fun k hk => ⟨by omega, id⟩) (h0 := ⟨fun _ => Iff.rfl, kW.mono fun _ _ _ => trivial, Nat.zero_le _, hb0, hb1⟩)
          case hassign =>
            intro l i x W K hK
            gi_wp2
            exact hK
          case hbody =>
            rintro ln i x M A hx ⟨hM, hK, him, h0, h1⟩ hsA
            have hil := (List.getElem?_eq_some_iff.1 hx).1
            have hxi := (List.getElem?_eq_some_iff.1 hx).2
            have hF := X3.out.below (hK.below (fun k h => by omega) (Nat.le_refl _))
            have c0 := hF.c0
            obtain ⟨b, o, rfl, hi⟩ := (hF.row hN X4.out) (by omega)
            have ci := hi i hil
            rw [hxi] at ci
            have d0 : A.cell? ⟨S, 0, none⟩ = some (.int .i64 (m : Int)) := by rw [cell_of h0]; rfl
            have d1 : A.cell? ⟨S + 1, 0, none⟩ = some (.int .i64 (i : Int)) := by rw [cell_of h1]; rfl
            have f1 := frozen_of h1 0
            have Y1 := Lib.hid hM
            have Y2 := Lib.hid hK
            have Y3 := Lib.hid h0
            have Y4 := Lib.hid h1
            clear hM hK h0 h1 hi hF hx hxi X1 X2 X3 X4 hN hsA hb0 hb1 hp kW hs
            by_cases hlt : i < m
            · gi_wp2
              exact ⟨M, fun k hk => .inl hk, Keep.setCell _ _ _ (fun h => h ((Y1.out _).2 (by simp))), Y1.out, Y2.out.trans (Keep.setCell _ _ _ (by simp)), by omega, heap_set_other Y3.out (by omega) _ _, heap_set Y4.out 0 _⟩
            · obtain rfl : i = m := by omega
              gi_wp2
              exact ⟨M, fun k hk => .inl hk, Keep.refl _ _, rfl, rfl, Y1.out, Y2.out, Y3.out, Y4.out⟩
          case hdone =>
            rintro D M A hD hMD ⟨hM, hK, him, h0, h1⟩ _ hDe
            rcases Nat.lt_or_eq_of_le him with him | rfl
            · have hA := hK.below (N := wr.heap.size) (fun k h => by omega) (Nat.le_refl _)
              have hF := X3.out.below hA
              have K0 : Hid (Fin w N a cap c g l S m l.length D A) := ⟨hF.c0, by rw [cell_of h1]; rfl, by rw [cell_of h0]; rfl, hDe, X1.out.below hA, X2.out.below hA, ⟨_, hF⟩, HC.out.1, HC.out.2, by have := X3.out.size; omega, by have := X3.out.size; omega⟩
              clear hM hK h0 h1 hF X1 X2 X3 X4 hb0 hb1 hp kW hs hDe hMD hA HC hD hS
              have T24r : Hid (∀ W, Fin w N a cap c g l S m l.length D W → Calls Try.prog 24 #[.pointer (some ⟨N + 2, 0, none⟩)] W fun e B => e = .returned (.int .i64 0) ∧ Fin w N a cap c g l S m l.length D B) := fun W h => h.2.2.2.2.1.len.mono fun e B ⟨he, hB⟩ => ⟨he, hB ▸ h⟩
              have T24c : Hid (∀ W, Fin w N a cap c g l S m l.length D W → Calls Try.prog 24 #[.pointer (some ⟨c, 0, none⟩)] W fun e B => e = .returned (.int .i64 (l.length : Int)) ∧ Fin w N a cap c g l S m l.length D B) := fun W h => (len_some_s h.2.2.2.2.2.1).mono fun e B ⟨he, hB⟩ => ⟨he, hB ▸ h⟩
              have T6 : Hid (∀ W, Fin w N a cap c g l S m l.length D W → Calls Try.prog 6 #[] W fun e B => e = .returned (.bool true) ∧ ∃ v, B.cell? ⟨N + 1, 0, none⟩ = some v ∧ B.frozen? ⟨N + 1, 0, none⟩ = false ∧ Fin w N a cap c g l S m l.length D B) := fun W h => (awake_any W).mono fun e B ⟨he, hB⟩ => by
                have h' := h.below hB
                obtain ⟨v, hv⟩ := h'.2.2.2.2.2.2.1
                exact ⟨he, v, hv.c1, hv.f1, h'⟩
              have K1 : Hid (Fin w N a cap c g l S m l.length D A.drew) := K0.out.below (Below.refl _ A).drew
              clear K0
              have hle : (l.length : Int) < (m : Int) := by omega
              go_wp2_with fail
              go_region_held3 (fun W => W.cell? ⟨N, 0, none⟩ = some (.slice a l.length cap) ∧ W.cell? ⟨S + 1, 0, none⟩ = some (.int .i64 (l.length : Int)) ∧ W.cell? ⟨S, 0, none⟩ = some (.int .i64 (m : Int)) ∧ W.heap[D]? = some (.deferred (some [])) ∧
                  HasS (fun k => k < N + 2 ∨ foot c g l.length k) W (N + 2) [] l.length ∧ RingS W c g l.length 0 (some ⟨g, 0, none⟩) l l.length ∧ (∃ v, Fr w N a l.length cap v W) ∧ (N + 2 ≤ c ∧ N + 2 ≤ g ∧ N + 1 < S ∧ N + 1 < D)) (first | exact K1.out | assumption | exact Fin.put h4 _) (first
                | (go_at_call 24; refine (T24c.out _ h2).mono ?_; rintro e w3 ⟨rfl, h3⟩)
                | (go_at_call 6; refine (T6.out _ h3).mono ?_; rintro e w4 ⟨rfl, v4, c4, f4, h4⟩)
                | (go_at_call 24; refine (T24r.out _ K1.out).mono ?_; rintro e w2 ⟨rfl, h2⟩))
              have h5 := h4.close
              clear h4 h3 h2 K1 T24r T24c T6
              go_wp2
              exact ⟨by simp, .inl ⟨_, _, rfl, run_takeDeferred h5.1, _, by simp [results, Try.results4, go_sem, h5.2.1], rfl, h5.2.2⟩⟩
            · have hA := hK.below (N := wr.heap.size) (fun k h => by omega) (Nat.le_refl _)
              have hF := X3.out.below hA
              have K0 : Hid (Fin w N a cap c g l S l.length l.length D A) := ⟨hF.c0, by rw [cell_of h1]; rfl, by rw [cell_of h0]; rfl, hDe, X1.out.below hA, X2.out.below hA, ⟨_, hF⟩, HC.out.1, HC.out.2, by have := X3.out.size; omega, by have := X3.out.size; omega⟩
              clear hM hK h0 h1 hF X1 X2 X3 X4 hb0 hb1 hp kW hs hDe hMD hA HC hD hS
              have T24r : Hid (∀ W, Fin w N a cap c g l S l.length l.length D W → Calls Try.prog 24 #[.pointer (some ⟨N + 2, 0, none⟩)] W fun e B => e = .returned (.int .i64 0) ∧ Fin w N a cap c g l S l.length l.length D B) := fun W h => h.2.2.2.2.1.len.mono fun e B ⟨he, hB⟩ => ⟨he, hB ▸ h⟩
              have T24c : Hid (∀ W, Fin w N a cap c g l S l.length l.length D W → Calls Try.prog 24 #[.pointer (some ⟨c, 0, none⟩)] W fun e B => e = .returned (.int .i64 (l.length : Int)) ∧ Fin w N a cap c g l S l.length l.length D B) := fun W h => (len_some_s h.2.2.2.2.2.1).mono fun e B ⟨he, hB⟩ => ⟨he, hB ▸ h⟩
              have T6 : Hid (∀ W, Fin w N a cap c g l S l.length l.length D W → Calls Try.prog 6 #[] W fun e B => e = .returned (.bool true) ∧ ∃ v, B.cell? ⟨N + 1, 0, none⟩ = some v ∧ B.frozen? ⟨N + 1, 0, none⟩ = false ∧ Fin w N a cap c g l S l.length l.length D B) := fun W h => (awake_any W).mono fun e B ⟨he, hB⟩ => by
                have h' := h.below hB
                obtain ⟨v, hv⟩ := h'.2.2.2.2.2.2.1
                exact ⟨he, v, hv.c1, hv.f1, h'⟩
              have K1 : Hid (Fin w N a cap c g l S l.length l.length D A.drew) := K0.out.below (Below.refl _ A).drew
              clear K0
              go_wp2_with fail
              go_region_held3 (fun W => W.cell? ⟨N, 0, none⟩ = some (.slice a l.length cap) ∧ W.cell? ⟨S + 1, 0, none⟩ = some (.int .i64 (l.length : Int)) ∧ W.cell? ⟨S, 0, none⟩ = some (.int .i64 (l.length : Int)) ∧ W.heap[D]? = some (.deferred (some [])) ∧
                  HasS (fun k => k < N + 2 ∨ foot c g l.length k) W (N + 2) [] l.length ∧ RingS W c g l.length 0 (some ⟨g, 0, none⟩) l l.length ∧ (∃ v, Fr w N a l.length cap v W) ∧ (N + 2 ≤ c ∧ N + 2 ≤ g ∧ N + 1 < S ∧ N + 1 < D)) (first | exact K1.out | assumption | exact Fin.put h4 _) (first
                | (go_at_call 24; refine (T24c.out _ h2).mono ?_; rintro e w3 ⟨rfl, h3⟩)
                | (go_at_call 6; refine (T6.out _ h3).mono ?_; rintro e w4 ⟨rfl, v4, c4, f4, h4⟩)
                | (go_at_call 24; refine (T24r.out _ K1.out).mono ?_; rintro e w2 ⟨rfl, h2⟩))
              have h5 := h4.close
              clear h4 h3 h2 K1 T24r T24c T6
              go_wp2
              exact ⟨by simp, .inl ⟨_, _, rfl, run_takeDeferred h5.1, _, by simp [results, Try.results4, go_sem, h5.2.1], rfl, h5.2.2⟩⟩
          case hstop =>
            rintro D ex i M A hD hMD _ hil ⟨rfl, rfl, hM, hK, h0, h1⟩ _ hDe
            refine wpIn_wide.2 ?_
            have hA := hK.below (N := wr.heap.size) (fun k h => by omega) (Nat.le_refl _)
            have hF := X3.out.below hA
            have K0 : Hid (Fin w N a cap c g l S m m D A) := ⟨hF.c0, by rw [cell_of h1]; rfl, by rw [cell_of h0]; rfl, hDe, X1.out.below hA, X2.out.below hA, ⟨_, hF⟩, HC.out.1, HC.out.2, by have := X3.out.size; omega, by have := X3.out.size; omega⟩
            clear hM hK h0 h1 hF X1 X2 X3 X4 hb0 hb1 hp kW hs hDe hMD hA HC hD hS
            have T24r : Hid (∀ W, Fin w N a cap c g l S m m D W → Calls Try.prog 24 #[.pointer (some ⟨N + 2, 0, none⟩)] W fun e B => e = .returned (.int .i64 0) ∧ Fin w N a cap c g l S m m D B) := fun W h => h.2.2.2.2.1.len.mono fun e B ⟨he, hB⟩ => ⟨he, hB ▸ h⟩
            have T24c : Hid (∀ W, Fin w N a cap c g l S m m D W → Calls Try.prog 24 #[.pointer (some ⟨c, 0, none⟩)] W fun e B => e = .returned (.int .i64 (l.length : Int)) ∧ Fin w N a cap c g l S m m D B) := fun W h => (len_some_s h.2.2.2.2.2.1).mono fun e B ⟨he, hB⟩ => ⟨he, hB ▸ h⟩
            have T6 : Hid (∀ W, Fin w N a cap c g l S m m D W → Calls Try.prog 6 #[] W fun e B => e = .returned (.bool true) ∧ ∃ v, B.cell? ⟨N + 1, 0, none⟩ = some v ∧ B.frozen? ⟨N + 1, 0, none⟩ = false ∧ Fin w N a cap c g l S m m D B) := fun W h => (awake_any W).mono fun e B ⟨he, hB⟩ => by
              have h' := h.below hB
              obtain ⟨v, hv⟩ := h'.2.2.2.2.2.2.1
              exact ⟨he, v, hv.c1, hv.f1, h'⟩
            have K1 : Hid (Fin w N a cap c g l S m m D A.drew) := K0.out.below (Below.refl _ A).drew
            clear K0
            have hle : (m : Int) < (l.length : Int) := by omega
            go_wp2_with fail
            go_region_held3 (fun W => W.cell? ⟨N, 0, none⟩ = some (.slice a l.length cap) ∧ W.cell? ⟨S + 1, 0, none⟩ = some (.int .i64 (m : Int)) ∧ W.cell? ⟨S, 0, none⟩ = some (.int .i64 (m : Int)) ∧ W.heap[D]? = some (.deferred (some [])) ∧
                HasS (fun k => k < N + 2 ∨ foot c g l.length k) W (N + 2) [] l.length ∧ RingS W c g l.length 0 (some ⟨g, 0, none⟩) l l.length ∧ (∃ v, Fr w N a l.length cap v W) ∧ (N + 2 ≤ c ∧ N + 2 ≤ g ∧ N + 1 < S ∧ N + 1 < D)) (first | exact K1.out | assumption | exact Fin.put h4 _) (first
              | (go_at_call 24; refine (T24c.out _ h2).mono ?_; rintro e w3 ⟨rfl, h3⟩)
              | (go_at_call 6; refine (T6.out _ h3).mono ?_; rintro e w4 ⟨rfl, v4, c4, f4, h4⟩)
              | (go_at_call 24; refine (T24r.out _ K1.out).mono ?_; rintro e w2 ⟨rfl, h2⟩))
            have h5 := h4.close
            clear h4 h3 h2 K1 T24r T24c T6
            go_wp2
            exact ⟨by simp, .inl ⟨_, _, rfl, run_takeDeferred h5.1, _, by simp [results, Try.results4, go_sem, h5.2.1], rfl, h5.2.2⟩⟩
set_option maxHeartbeats 2000000 in
theorem order_walk (a : Option Addr) (cap : Nat) (l : List ByteArray) (most : Nat) (w : World) (hr : RowS w a l) :
    Calls Try.prog 4 #[.slice a l.length cap, .int .u64 (most : Int)] w fun e B => e = .returned (.bool true) ∧ Below w.heap.size w B := by
  by_cases hl : l.length ≤ 60
  · exact order_some a cap l most w hl hr
  · have hl' : (60 : Int) < (l.length : Int) := by omega
    clear hr hl
    refine callsIn_wide (n := 0).1 (callsIn_of_wp_marks Try.func4 rfl trivial ?_ rfl)
    simp only [Try.ntmps4, List.size_toArray, List.length_cons, List.length_nil, Nat.reduceAdd, Nat.reduceSub, Array.replicate_succ, Array.replicate_zero, List.push_toArray, List.append_toArray, List.nil_append, List.cons_append]
    refine wpIn_wide.2 ?_
    obtain ⟨N, hN⟩ : ∃ N, w.heap.size = N := ⟨_, rfl⟩
    have F0 : Fr w N a l.length cap (.bool false) ((w.alloc (.cells #[.slice a l.length cap] 47)).alloc (.cells #[.bool false] 4)) := hN ▸ fr_new w a l.length cap (.bool false)
    rw [hN]
    have T6 : Hid (Calls Try.prog 6 #[] ((w.alloc (.cells #[.slice a l.length cap] 47)).alloc (.cells #[.bool false] 4)) fun e B => e = .returned (.bool true) ∧ B.cell? ⟨N + 1, 0, none⟩ = some (.bool false) ∧ B.frozen? ⟨N + 1, 0, none⟩ = false ∧ (B.setCell ⟨N + 1, 0, none⟩ (.bool true)).cell? ⟨N + 1, 0, none⟩ = some (.bool true) ∧ Hid (Below N w (B.setCell ⟨N + 1, 0, none⟩ (.bool true)))) :=
      (awake_any _).mono fun e B ⟨he, hb⟩ => by
        have hF := F0.below hb
        exact ⟨he, hF.c1, hF.f1, (hF.set (.bool true)).c1, (hF.set (.bool true)).old⟩
    clear F0
    go_wp2_with (go_at_call 6; refine T6.out.mono ?_; rintro e w1 ⟨rfl, c1, f1, c2, h1⟩)
    exact ⟨_, by simp [results, Try.results4, go_sem, c2], rfl, h1.out⟩
end Go.Proofs.Ytgkiekidmadabaa
