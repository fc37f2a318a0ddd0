/-
  filled of package prog by its contract, for whatever state is behind the function that tells the numbers: each place of the call's own is filled, in order.
-/
import Derived.Test.YtfhcgildokdppaaNu
namespace Go.Proofs.Ytfhcgildokdppaa
open Go.RowKit Go.Shelf tp
attribute [local go_sem] Oper.semAt_some
attribute [local go_sem] wide_fn wide_depth
/-- a call laid into a box, cell by cell. -/
def set5 (W : World) (b : Nat) (o : Opn) : World := ((((W.setCell ⟨b, 0, none⟩ (.int .i64 o.k)).setCell ⟨b, 1, none⟩ (.int .i64 o.key)).setCell ⟨b, 2, none⟩ (.int .i64 o.val)).setCell ⟨b, 3, none⟩ (.int .i64 o.cost)).setCell ⟨b, 4, none⟩ (.int .i64 o.ttl)
theorem put5 {W : World} {b : Nat} {u o : Opn} (h : W.heap[b]? = some (.cells (ocs u) 53 (0, 0))) : (set5 W b o).heap[b]? = some (.cells (ocs o) 53 (0, 0)) := by
  unfold set5
  rw [heap_set (heap_set (heap_set (heap_set (heap_set h 0 _) 1 _) 2 _) 3 _) 4 _]
  rfl
theorem keep5 (W : World) (b : Nat) (o : Opn) : Keep (fun k => k ≠ b) W (set5 W b o) :=
  ((((Keep.setCell _ _ _ fun h => h rfl).trans (Keep.setCell _ _ _ fun h => h rfl)).trans (Keep.setCell _ _ _ fun h => h rfl)).trans (Keep.setCell _ _ _ fun h => h rfl)).trans (Keep.setCell _ _ _ fun h => h rfl)
theorem cells5 {W : World} {b : Nat} {o : Opn} (h : W.heap[b]? = some (.cells (ocs o) 53 (0, 0))) : W.cell? ⟨b, 0, none⟩ = some (.int .i64 o.k) ∧ W.cell? ⟨b, 1, none⟩ = some (.int .i64 o.key) ∧ W.cell? ⟨b, 2, none⟩ = some (.int .i64 o.val) ∧ W.cell? ⟨b, 3, none⟩ = some (.int .i64 o.cost) ∧ W.cell? ⟨b, 4, none⟩ = some (.int .i64 o.ttl) :=
  ⟨cell_of h 0, cell_of h 1, cell_of h 2, cell_of h 3, cell_of h 4⟩
theorem ocs_put (o : Opn) (f : Nat) (x : Int) (h : 0 < f) (h5 : f < 5) : (ocs o).setIfInBounds f (.int .i64 x) = ocs (o.put f x) := by
  match f, h, h5 with
  | 1, _, _ => rfl
  | 2, _, _ => rfl
  | 3, _, _ => rfl
  | 4, _, _ => rfl
theorem pls_pos {k : Int} {i f : Nat} (h : (pls k)[i]? = some f) : 0 < f ∧ f < 5 := by
  rcases kinds k with (rfl | rfl) | rfl | rfl | hr
  · match i, h with
    | 0, h => cases h; decide
  · match i, h with
    | 0, h => cases h; decide
  · match i, h with
    | 0, h => cases h; decide
    | 1, h => cases h; decide
    | 2, h => cases h; decide
    | 3, h => cases h; decide
  · match i, h with
    | 0, h => cases h; decide
  · have e : pls k = [] := by unfold pls; rw [if_neg (by omega), if_neg (by omega), if_neg (by omega)]
    rw [e] at h
    simp at h
theorem fl_next {k : Int} {v : Nat → Int} {i f : Nat} (h : (pls k)[i]? = some f) : fl k v (i + 1) = (fl k v i).put f (v i) := by
  show (fl k v i).put ((pls k).getD i 0) (v i) = _
  rw [List.getD_eq_getElem?_getD, h]
  rfl
/-- what stands when i numbers were filled in: S the state behind the function, its blocks M; the call lies in C; what lay elsewhere stands. -/
structure Fs (S : Nat → World → Prop) (M : Nat → Prop) (k : Int) (v : Nat → Int) (N C : Nat) (W : World) (i : Nat) (A : World) : Prop where
  st : S i A
  box : A.heap[C]? = some (.cells (ocs (fl k v i)) 53 (0, 0))
  keep : Keep (fun j => j < N ∧ j ≠ C ∧ ¬ M j) W A
namespace Fs
variable {S : Nat → World → Prop} {M : Nat → Prop} {k : Int} {v : Nat → Int} {N C i : Nat} {W A B : World}
theorem of_keep (h : Fs S M k v N C W i A) (hS : ∀ i A B, S i A → Keep M A B → S i B) (hk : Keep (fun _ => True) A B) : Fs S M k v N C W i B :=
  ⟨hS _ _ _ h.st (hk.mono fun _ _ _ => trivial), hk.heap h.box trivial, h.keep.trans (hk.mono fun _ _ _ => trivial)⟩
theorem loop (h : Fs S M k v N C W i A) (hS : ∀ i A B, S i A → Keep M A B → S i B) (hM : ∀ j, M j → j < N) {l : Nat} {o o' : Loop} (hl : N ≤ l) (ho : A.heap[l]? = some (.loop o)) : Fs S M k v N C W i (A.putObj l (.loop o')) := by
  refine ⟨hS _ _ _ h.st (Keep.putObj _ _ _ fun h => by have := hM _ h; omega), (World.putObj_heap_other fun e => ?_).trans h.box, h.keep.trans (Keep.putObj _ _ _ fun h => by omega)⟩
  subst e
  have := h.box
  rw [ho] at this
  cases this
end Fs
/-- what filled leaves behind. -/
def Fd (S : Nat → World → Prop) (M : Nat → Prop) (n : Nat) (w B : World) : Prop := S n B ∧ Keep (fun j => ¬ M j) w B
theorem mk25 (a : Array Value) (b : Array Value) (W : World) : (Instr.makeFunc (.func 68) a b).run Try.prog W = .ok (.func (.func 68) a b) W := by kernel_rfl
theorem mk30 (a : Array Value) (b : Array Value) (W : World) : (Instr.makeFunc (.func 37) a b).run Try.prog W = .ok (.func (.func 37) a b) W := by kernel_rfl
/-- filled's boxes: the function, the result, the call, own's place. -/
theorem start4 {w : World} {N : Nat} (hN : w.heap.size = N) {g : Value} {k x : Int} (v : Nat → Int) (hx : kd k = x) {W : World}
    (hW : (((w.alloc (.cells #[g] 59)).alloc (.cells #[.int .i64 0, .int .i64 0, .int .i64 0, .int .i64 0, .int .i64 0] 53)).alloc (.cells #[.int .i64 x, .int .i64 0, .int .i64 0, .int .i64 0, .int .i64 0] 53)).alloc (.cells #[.pointer (some ⟨N + 1 + 1, 0, none⟩)] 88) = W) :
    Keep (fun _ => True) w W ∧ W.heap.size = N + 4 ∧ W.heap[N]? = some (.cells #[g] 59 (0, 0)) ∧ W.heap[N + 1]? = some (.cells (ocs ⟨0, 0, 0, 0, 0⟩) 53 (0, 0)) ∧ W.heap[N + 1 + 1]? = some (.cells (ocs (fl (kd k) v 0)) 53 (0, 0)) ∧ W.heap[N + 1 + 1 + 1]? = some (.cells #[.pointer (some ⟨N + 1 + 1, 0, none⟩)] 88 (0, 0)) := by
  subst hx
  rw [← hW, ← hN]
  exact ⟨(((Keep.alloc _ _ _).trans (Keep.alloc _ _ _)).trans (Keep.alloc _ _ _)).trans (Keep.alloc _ _ _), by simp, heap_old (heap_old (heap_old (heap_next rfl _))), heap_old (heap_old (heap_next (by simp) _)), heap_old (heap_next (by simp) _), heap_next (by simp) _⟩
set_option maxRecDepth 100000 in
set_option maxHeartbeats 2000000 in
theorem filledA (k : Int) (L : Nat) (S : Nat → World → Prop) (M : Nat → Prop) (v : Nat → Int) (w : World) (hS : ∀ i A B, S i A → Keep M A B → S i B) (hM : ∀ j, M j → j < w.heap.size)
    (hC : ∀ i A, i < (pls k).length → S i A → Calls Try.prog 68 #[.pointer (some ⟨L, 0, none⟩)] A fun e B => e = .returned (.int .i64 (v i)) ∧ Hid (S (i + 1) B ∧ Keep (fun j => ¬ M j) A B)) (h0 : S 0 w) :
    Calls Try.prog 57 #[.int .i64 k, .func (.func 68) #[] #[.pointer (some ⟨L, 0, none⟩)]] w fun e B => e = .returned (opv (fill k v)) ∧ Hid (Fd S M (pls k).length w B) := by
  obtain ⟨N, hN⟩ : ∃ N, w.heap.size = N := ⟨_, rfl⟩
  have hM' : ∀ j, M j → j < N := fun j h => hN ▸ hM j h
  have HS := Lib.hid hS
  have HM := Lib.hid hM'
  have HC := Lib.hid hC
  have H0 := Lib.hid h0
  have I := Lib.hid (isKind26 k)
  have Z : ∃ x, kd k = x ∧ ((k = x ∧ decide (0 ≤ k ∧ k < 8) = true) ∨ (0 = x ∧ decide (0 ≤ k ∧ k < 8) = false)) := by
    refine ⟨_, rfl, ?_⟩
    unfold kd
    by_cases h : 0 ≤ k ∧ k < 8
    · exact .inl ⟨(if_pos h).symm, decide_eq_true h⟩
    · exact .inr ⟨(if_neg h).symm, decide_eq_false h⟩
  clear hS hM hM' hC h0
  refine callsIn_wide (n := 0).1 (callsIn_of_wp_marks Try.func57 rfl trivial ?_ rfl)
  simp only [Try.ntmps57, List.size_toArray, List.length_cons, List.length_nil, Nat.reduceAdd, Nat.reduceSub, Array.replicate_succ, Array.replicate_zero, List.push_toArray, List.append_toArray, List.nil_append, List.cons_append]
  obtain ⟨x, hx, hz⟩ := Z
  have HX := Lib.hid hx
  clear hx
  rcases hz with ⟨rfl, hz⟩ | ⟨rfl, hz⟩
  all_goals (
    rw [hz] at I
    clear hz
    gi_wp2_with (first | (gi_at_call 66; refine (callsIn_wide (n := 0).2 (I.out _)).mono ?_; rintro e w1 ⟨rfl, rfl⟩) | (gi_at_call 67; refine (callsIn_wide (n := 0).2 (own36 _ _)).mono ?_; rintro e w1 ⟨rfl, rfl⟩)))
  all_goals (
    generalize hW : World.alloc (World.alloc (World.alloc (World.alloc w _) _) _) _ = W
    obtain ⟨kW, hs, hF, hR, hB, hX⟩ := start4 hN v HX.out hW
    clear hW I)
  all_goals (
    have HF := Lib.hid hF
    have HR := Lib.hid hR
    have S0 := HS.out _ _ _ H0.out (kW.mono fun _ _ _ => trivial)
    have B0 : Fs S M (kd k) v (N + 4) (N + 1 + 1) W 0 W := ⟨S0, hB, Keep.refl _ _⟩
    apply range3_law (gf := 69) (lb := #[.pointer (some ⟨N + 1 + 1 + 1, 0, none⟩)]) (xs := pls (kd k)) (N := fun j => j = N + 1 + 1 + 1) (encs := plc (N + 1 + 1))
      (hg := rfl) (eg := enters_of Try.func69 (by kernel_rfl) rfl)
      (hseq := fun B hB' => own1_tells (k := kd k) (by rw [cell_of (hB'.heap hX trivial)]; rfl) (by rw [cell_of (hB'.heap hB trivial)]; rfl))
      (hN := fun j hj => by omega) (hps := fun _ => rfl)
      (I := fun i A => Fs S M (kd k) v (N + 4) (N + 1 + 1) W i A) (hq := fun i A q h => h.of_keep HS.out (Keep.drewN _ _ _))
      (hl := fun i A l o o' h1 h2 h3 => h3.loop HS.out (fun j hj => by have := HM.out j hj; omega) (by omega) h2)
      (hk := fun i A h => h.keep.mono fun j _ hj => ⟨by omega, by omega, fun hm => by have := HM.out j hm; omega⟩)
      (h0 := fun B hB' => B0.of_keep HS.out hB')
    case hassign =>
      intro l i f A K hf hK
      gi_wp2
      exact hK
    case hbody =>
      rintro l i f A hf hI hsz
      have hlt : i < (pls k).length := by
        rw [pls_kd] at hf
        exact (List.getElem?_eq_some_iff.1 hf).1
      obtain ⟨hf0, hf5⟩ := pls_pos hf
      have T := Lib.hid (HC.out i A hlt hI.st)
      have hMN : ∀ j, N ≤ j → ¬ M j := fun j hj hm => by have := HM.out j hm; omega
      have hFA := hI.keep.heap HF.out ⟨by omega, by omega, hMN _ (Nat.le_refl _)⟩
      have d0 := cell_of hFA 0
      have E : Hid (∀ B, Hid (S (i + 1) B ∧ Keep (fun j => ¬ M j) A B) → ∃ y, B.cell? ⟨N + 1 + 1, f, none⟩ = some (.int .i64 y) ∧ B.frozen? ⟨N + 1 + 1, f, none⟩ = false ∧ Hid (Keep (fun j => j = W.heap.size ∨ j = W.heap.size + 1) A (B.setCell ⟨N + 1 + 1, f, none⟩ (.int .i64 (v i))) ∧ Fs S M (kd k) v (N + 4) (N + 1 + 1) W (i + 1) (B.setCell ⟨N + 1 + 1, f, none⟩ (.int .i64 (v i))))) := fun B h => by
        obtain ⟨h1, h2⟩ := h.out
        have hb := h2.heap hI.box (hMN _ (by omega))
        have hc : ∃ y, (ocs (fl (kd k) v i))[f]? = some (.int .i64 y) := by
          match f, hf0, hf5 with
          | 1, _, _ => exact ⟨_, rfl⟩
          | 2, _, _ => exact ⟨_, rfl⟩
          | 3, _, _ => exact ⟨_, rfl⟩
          | 4, _, _ => exact ⟨_, rfl⟩
        obtain ⟨y, hy⟩ := hc
        have k1 : Keep (fun j => j ≠ N + 1 + 1) B (B.setCell ⟨N + 1 + 1, f, none⟩ (.int .i64 (v i))) := Keep.setCell _ _ _ (by simp)
        refine ⟨y, (cell_of hb f).trans hy, frozen_of hb f, (h2.mono fun j _ hj => hMN _ (by omega)).trans (k1.mono fun j _ hj => by omega), HS.out _ _ _ h1 (k1.mono fun j _ hj e => by have := HM.out j hj; omega), ?_, hI.keep.trans ((h2.mono fun j _ hj => hj.2.2).trans (k1.mono fun j _ hj => hj.2.1))⟩
        rw [heap_set hb, ocs_put _ _ _ hf0 hf5, ← fl_next hf]
      clear hFA hI hf hf0 hf5 hlt hMN hsz B0 S0 hX hB hR hF kW
      gi_wp2_with fail
      refine (callsIn_wide.2 T.out).mono ?_
      rintro e B ⟨rfl, hT⟩
      obtain ⟨y, c0, f0, F⟩ := E.out B hT
      clear E hT T
      gi_wp2
      exact F.out
    case hdone =>
      intro A hI hDe
      rw [hs] at hDe
      have hMN : ∀ j, N ≤ j → ¬ M j := fun j hj hm => by have := HM.out j hm; omega
      have hRA := hI.keep.heap HR.out ⟨by omega, by omega, hMN _ (by omega)⟩
      obtain ⟨p, hp⟩ : ∃ p, fl (kd k) v (pls (kd k)).length = p := ⟨_, rfl⟩
      have hp' : fill k v = p := hp
      have hbx := hI.box
      rw [hp] at hbx
      obtain ⟨q0, q1, q2, q3, q4, hq⟩ : ∃ q0 q1 q2 q3 q4, p = ⟨q0, q1, q2, q3, q4⟩ := ⟨_, _, _, _, _, rfl⟩
      subst hq
      have HP := Lib.hid hp'
      obtain ⟨d0, d1, d2, d3, d4⟩ := cells5 hbx
      obtain ⟨e0, e1, e2, e3, e4⟩ := cells5 hRA
      have g0 := frozen_of hRA 0
      have g1 := frozen_of hRA 1
      have g2 := frozen_of hRA 2
      have g3 := frozen_of hRA 3
      have g4 := frozen_of hRA 4
      have E : Hid (∀ B, B = set5 A (N + 1) ⟨q0, q1, q2, q3, q4⟩ → B.heap[N + 4]? = some (.deferred (some [])) ∧ ∀ C, C = B.putObj (N + 4) (.deferred none) → C.cell? ⟨N + 1, 0, none⟩ = some (.int .i64 q0) ∧ C.cell? ⟨N + 1, 1, none⟩ = some (.int .i64 q1) ∧ C.cell? ⟨N + 1, 2, none⟩ = some (.int .i64 q2) ∧ C.cell? ⟨N + 1, 3, none⟩ = some (.int .i64 q3) ∧ C.cell? ⟨N + 1, 4, none⟩ = some (.int .i64 q4) ∧ Hid (Fd S M (pls k).length w C)) := fun B hB => by
        subst hB
        have k5 := keep5 A (N + 1) ⟨q0, q1, q2, q3, q4⟩
        refine ⟨k5.heap hDe (by omega), fun C hC => ?_⟩
        subst hC
        have k6 : Keep (fun j => j ≠ N + 4) (set5 A (N + 1) ⟨q0, q1, q2, q3, q4⟩) ((set5 A (N + 1) ⟨q0, q1, q2, q3, q4⟩).putObj (N + 4) (.deferred none)) := Keep.putObj _ _ _ (fun h => h rfl)
        obtain ⟨z0, z1, z2, z3, z4⟩ := cells5 (k6.heap (put5 hRA (o := ⟨q0, q1, q2, q3, q4⟩)) (by omega))
        refine ⟨z0, z1, z2, z3, z4, ?_, ?_⟩
        · have := hI.st
          rw [pls_kd] at this
          exact HS.out _ _ _ this ((k5.mono fun j _ hj e => by have := HM.out j hj; omega).trans (k6.mono fun j _ hj e => by have := HM.out j hj; omega))
        · refine Keep.mono (K := fun j => j < N ∧ ¬ M j) ((kW.mono fun _ _ _ => trivial).trans ((hI.keep.mono fun j _ hj => ⟨by omega, by omega, hj.2⟩).trans ((k5.mono fun j _ hj => ?_).trans (k6.mono fun j _ hj => ?_)))) fun j hj hm => ⟨by omega, hm⟩
          · show j ≠ N + 1
            omega
          · show j ≠ N + 4
            omega
      clear hRA hI hbx hMN hp hp' B0 S0 hX hB hR hF kW HR HF HX HC H0
      gi_wp2
      obtain ⟨B, hB⟩ : ∃ B, set5 A (N + 1) ⟨q0, q1, q2, q3, q4⟩ = B := ⟨_, rfl⟩
      obtain ⟨hDe2, E2⟩ := E.out B hB.symm
      unfold set5 at hB
      rw [hB]
      refine ⟨by simp, .inl ⟨_, _, rfl, run_takeDeferred hDe2, ?_⟩⟩
      obtain ⟨z0, z1, z2, z3, z4, F⟩ := E2 _ rfl
      exact ⟨opv ⟨q0, q1, q2, q3, q4⟩, by simp [results, Try.results57, go_sem, z0, z1, z2, z3, z4], by rw [HP.out], F⟩)
set_option maxRecDepth 100000 in
set_option maxHeartbeats 2000000 in
theorem filledB (k : Int) (L : Nat) (S : Nat → World → Prop) (M : Nat → Prop) (v : Nat → Int) (w : World) (hS : ∀ i A B, S i A → Keep M A B → S i B) (hM : ∀ j, M j → j < w.heap.size)
    (hC : ∀ i A, i < (pls k).length → S i A → Calls Try.prog 37 #[.pointer (some ⟨L, 0, none⟩)] A fun e B => e = .returned (.int .i64 (v i)) ∧ Hid (S (i + 1) B ∧ Keep (fun j => ¬ M j) A B)) (h0 : S 0 w) :
    Calls Try.prog 57 #[.int .i64 k, .func (.func 37) #[.pointer (some ⟨L, 0, none⟩)] #[]] w fun e B => e = .returned (opv (fill k v)) ∧ Hid (Fd S M (pls k).length w B) := by
  obtain ⟨N, hN⟩ : ∃ N, w.heap.size = N := ⟨_, rfl⟩
  have hM' : ∀ j, M j → j < N := fun j h => hN ▸ hM j h
  have HS := Lib.hid hS
  have HM := Lib.hid hM'
  have HC := Lib.hid hC
  have H0 := Lib.hid h0
  have I := Lib.hid (isKind26 k)
  have Z : ∃ x, kd k = x ∧ ((k = x ∧ decide (0 ≤ k ∧ k < 8) = true) ∨ (0 = x ∧ decide (0 ≤ k ∧ k < 8) = false)) := by
    refine ⟨_, rfl, ?_⟩
    unfold kd
    by_cases h : 0 ≤ k ∧ k < 8
    · exact .inl ⟨(if_pos h).symm, decide_eq_true h⟩
    · exact .inr ⟨(if_neg h).symm, decide_eq_false h⟩
  clear hS hM hM' hC h0
  refine callsIn_wide (n := 0).1 (callsIn_of_wp_marks Try.func57 rfl trivial ?_ rfl)
  simp only [Try.ntmps57, List.size_toArray, List.length_cons, List.length_nil, Nat.reduceAdd, Nat.reduceSub, Array.replicate_succ, Array.replicate_zero, List.push_toArray, List.append_toArray, List.nil_append, List.cons_append]
  obtain ⟨x, hx, hz⟩ := Z
  have HX := Lib.hid hx
  clear hx
  rcases hz with ⟨rfl, hz⟩ | ⟨rfl, hz⟩
  all_goals (
    rw [hz] at I
    clear hz
    gi_wp2_with (first | (gi_at_call 66; refine (callsIn_wide (n := 0).2 (I.out _)).mono ?_; rintro e w1 ⟨rfl, rfl⟩) | (gi_at_call 67; refine (callsIn_wide (n := 0).2 (own36 _ _)).mono ?_; rintro e w1 ⟨rfl, rfl⟩)))
  all_goals (
    generalize hW : World.alloc (World.alloc (World.alloc (World.alloc w _) _) _) _ = W
    obtain ⟨kW, hs, hF, hR, hB, hX⟩ := start4 hN v HX.out hW
    clear hW I)
  all_goals (
    have HF := Lib.hid hF
    have HR := Lib.hid hR
    have S0 := HS.out _ _ _ H0.out (kW.mono fun _ _ _ => trivial)
    have B0 : Fs S M (kd k) v (N + 4) (N + 1 + 1) W 0 W := ⟨S0, hB, Keep.refl _ _⟩
    apply range3_law (gf := 69) (lb := #[.pointer (some ⟨N + 1 + 1 + 1, 0, none⟩)]) (xs := pls (kd k)) (N := fun j => j = N + 1 + 1 + 1) (encs := plc (N + 1 + 1))
      (hg := rfl) (eg := enters_of Try.func69 (by kernel_rfl) rfl)
      (hseq := fun B hB' => own1_tells (k := kd k) (by rw [cell_of (hB'.heap hX trivial)]; rfl) (by rw [cell_of (hB'.heap hB trivial)]; rfl))
      (hN := fun j hj => by omega) (hps := fun _ => rfl)
      (I := fun i A => Fs S M (kd k) v (N + 4) (N + 1 + 1) W i A) (hq := fun i A q h => h.of_keep HS.out (Keep.drewN _ _ _))
      (hl := fun i A l o o' h1 h2 h3 => h3.loop HS.out (fun j hj => by have := HM.out j hj; omega) (by omega) h2)
      (hk := fun i A h => h.keep.mono fun j _ hj => ⟨by omega, by omega, fun hm => by have := HM.out j hm; omega⟩)
      (h0 := fun B hB' => B0.of_keep HS.out hB')
    case hassign =>
      intro l i f A K hf hK
      gi_wp2
      exact hK
    case hbody =>
      rintro l i f A hf hI hsz
      have hlt : i < (pls k).length := by
        rw [pls_kd] at hf
        exact (List.getElem?_eq_some_iff.1 hf).1
      obtain ⟨hf0, hf5⟩ := pls_pos hf
      have T := Lib.hid (HC.out i A hlt hI.st)
      have hMN : ∀ j, N ≤ j → ¬ M j := fun j hj hm => by have := HM.out j hm; omega
      have hFA := hI.keep.heap HF.out ⟨by omega, by omega, hMN _ (Nat.le_refl _)⟩
      have d0 := cell_of hFA 0
      have E : Hid (∀ B, Hid (S (i + 1) B ∧ Keep (fun j => ¬ M j) A B) → ∃ y, B.cell? ⟨N + 1 + 1, f, none⟩ = some (.int .i64 y) ∧ B.frozen? ⟨N + 1 + 1, f, none⟩ = false ∧ Hid (Keep (fun j => j = W.heap.size ∨ j = W.heap.size + 1) A (B.setCell ⟨N + 1 + 1, f, none⟩ (.int .i64 (v i))) ∧ Fs S M (kd k) v (N + 4) (N + 1 + 1) W (i + 1) (B.setCell ⟨N + 1 + 1, f, none⟩ (.int .i64 (v i))))) := fun B h => by
        obtain ⟨h1, h2⟩ := h.out
        have hb := h2.heap hI.box (hMN _ (by omega))
        have hc : ∃ y, (ocs (fl (kd k) v i))[f]? = some (.int .i64 y) := by
          match f, hf0, hf5 with
          | 1, _, _ => exact ⟨_, rfl⟩
          | 2, _, _ => exact ⟨_, rfl⟩
          | 3, _, _ => exact ⟨_, rfl⟩
          | 4, _, _ => exact ⟨_, rfl⟩
        obtain ⟨y, hy⟩ := hc
        have k1 : Keep (fun j => j ≠ N + 1 + 1) B (B.setCell ⟨N + 1 + 1, f, none⟩ (.int .i64 (v i))) := Keep.setCell _ _ _ (by simp)
        refine ⟨y, (cell_of hb f).trans hy, frozen_of hb f, (h2.mono fun j _ hj => hMN _ (by omega)).trans (k1.mono fun j _ hj => by omega), HS.out _ _ _ h1 (k1.mono fun j _ hj e => by have := HM.out j hj; omega), ?_, hI.keep.trans ((h2.mono fun j _ hj => hj.2.2).trans (k1.mono fun j _ hj => hj.2.1))⟩
        rw [heap_set hb, ocs_put _ _ _ hf0 hf5, ← fl_next hf]
      clear hFA hI hf hf0 hf5 hlt hMN hsz B0 S0 hX hB hR hF kW
      gi_wp2_with fail
      refine (callsIn_wide.2 T.out).mono ?_
      rintro e B ⟨rfl, hT⟩
      obtain ⟨y, c0, f0, F⟩ := E.out B hT
      clear E hT T
      gi_wp2
      exact F.out
    case hdone =>
      intro A hI hDe
      rw [hs] at hDe
      have hMN : ∀ j, N ≤ j → ¬ M j := fun j hj hm => by have := HM.out j hm; omega
      have hRA := hI.keep.heap HR.out ⟨by omega, by omega, hMN _ (by omega)⟩
      obtain ⟨p, hp⟩ : ∃ p, fl (kd k) v (pls (kd k)).length = p := ⟨_, rfl⟩
      have hp' : fill k v = p := hp
      have hbx := hI.box
      rw [hp] at hbx
      obtain ⟨q0, q1, q2, q3, q4, hq⟩ : ∃ q0 q1 q2 q3 q4, p = ⟨q0, q1, q2, q3, q4⟩ := ⟨_, _, _, _, _, rfl⟩
      subst hq
      have HP := Lib.hid hp'
      obtain ⟨d0, d1, d2, d3, d4⟩ := cells5 hbx
      obtain ⟨e0, e1, e2, e3, e4⟩ := cells5 hRA
      have g0 := frozen_of hRA 0
      have g1 := frozen_of hRA 1
      have g2 := frozen_of hRA 2
      have g3 := frozen_of hRA 3
      have g4 := frozen_of hRA 4
      have E : Hid (∀ B, B = set5 A (N + 1) ⟨q0, q1, q2, q3, q4⟩ → B.heap[N + 4]? = some (.deferred (some [])) ∧ ∀ C, C = B.putObj (N + 4) (.deferred none) → C.cell? ⟨N + 1, 0, none⟩ = some (.int .i64 q0) ∧ C.cell? ⟨N + 1, 1, none⟩ = some (.int .i64 q1) ∧ C.cell? ⟨N + 1, 2, none⟩ = some (.int .i64 q2) ∧ C.cell? ⟨N + 1, 3, none⟩ = some (.int .i64 q3) ∧ C.cell? ⟨N + 1, 4, none⟩ = some (.int .i64 q4) ∧ Hid (Fd S M (pls k).length w C)) := fun B hB => by
        subst hB
        have k5 := keep5 A (N + 1) ⟨q0, q1, q2, q3, q4⟩
        refine ⟨k5.heap hDe (by omega), fun C hC => ?_⟩
        subst hC
        have k6 : Keep (fun j => j ≠ N + 4) (set5 A (N + 1) ⟨q0, q1, q2, q3, q4⟩) ((set5 A (N + 1) ⟨q0, q1, q2, q3, q4⟩).putObj (N + 4) (.deferred none)) := Keep.putObj _ _ _ (fun h => h rfl)
        obtain ⟨z0, z1, z2, z3, z4⟩ := cells5 (k6.heap (put5 hRA (o := ⟨q0, q1, q2, q3, q4⟩)) (by omega))
        refine ⟨z0, z1, z2, z3, z4, ?_, ?_⟩
        · have := hI.st
          rw [pls_kd] at this
          exact HS.out _ _ _ this ((k5.mono fun j _ hj e => by have := HM.out j hj; omega).trans (k6.mono fun j _ hj e => by have := HM.out j hj; omega))
        · refine Keep.mono (K := fun j => j < N ∧ ¬ M j) ((kW.mono fun _ _ _ => trivial).trans ((hI.keep.mono fun j _ hj => ⟨by omega, by omega, hj.2⟩).trans ((k5.mono fun j _ hj => ?_).trans (k6.mono fun j _ hj => ?_)))) fun j hj hm => ⟨by omega, hm⟩
          · show j ≠ N + 1
            omega
          · show j ≠ N + 4
            omega
      clear hRA hI hbx hMN hp hp' B0 S0 hX hB hR hF kW HR HF HX HC H0
      gi_wp2
      obtain ⟨B, hB⟩ : ∃ B, set5 A (N + 1) ⟨q0, q1, q2, q3, q4⟩ = B := ⟨_, rfl⟩
      obtain ⟨hDe2, E2⟩ := E.out B hB.symm
      unfold set5 at hB
      rw [hB]
      refine ⟨by simp, .inl ⟨_, _, rfl, run_takeDeferred hDe2, ?_⟩⟩
      obtain ⟨z0, z1, z2, z3, z4, F⟩ := E2 _ rfl
      exact ⟨opv ⟨q0, q1, q2, q3, q4⟩, by simp [results, Try.results57, go_sem, z0, z1, z2, z3, z4], by rw [HP.out], F⟩)
end Go.Proofs.Ytfhcgildokdppaa
