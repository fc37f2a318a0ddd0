/-
  The law's helper awake; a sketch and the document's side by side ('Ps').
-/
import Derived.Test.YtljfidbplecggaaDoorRc
namespace Go.Proofs.YtljfidbplecggaaDoor
open Go.RowKit
open nb (Keep Nib ct cell_of frozen_of heap_set heap_set_other heap_old heap_next heap_lt getAt mayAdd addAt Q e64 info_parts step_ex app_step told)
theorem since_self {w0 w : World} (h : mx.Since w0 w) : mx.Since w w := ⟨⟨h.pos, fun i hi => h.cell i hi⟩, Below.refl _ _⟩
theorem wd_one : wdN 1 = 1 := by decide
theorem At.start {w B : World} {seed n : Nat} {f : Nat → List Nat} (hs : mx.Since w w) (h : Sk B w.heap.size seed n f) (hb : Below w.heap.size w B) : At w w.heap.size seed n f B := ⟨h, ⟨hs.1, hb⟩, Nat.le_refl _⟩
theorem one_count : cntN 0 1 9 (adds 0 1 5 fun _ => List.replicate 1 0) = 1 := by
  have h : ∀ x i, plN 0 1 x i = 0 := fun x i => by have := plN_lt 0 1 x i (by decide); omega
  have e : (adds 0 1 5 fun _ => List.replicate 1 0) = fun _ => [1] := by
    funext i
    show addAt (List.replicate 1 0) _ = _
    rw [h]
    decide
  have e2 : plN 0 1 9 = fun _ => 0 := funext fun i => h 9 i
  rw [cntN, e, e2]
  decide
set_option maxHeartbeats 1000000 in
theorem awake_any (w0 w : World) (h : mx.Since w0 w) : Calls Tryd.prog 6 #[] w fun e B => e = .returned (.bool true) ∧ Hid (Below w.heap.size w B) := by
  have hs := since_self h
  obtain ⟨S, hS⟩ : ∃ S, w.heap.size = S := ⟨_, rfl⟩
  have T7 : Hid (Calls Tryd.prog 7 #[.int .i64 1, .int .u64 0] w fun e B => e = .returned (.pointer (some ⟨S, 0, none⟩)) ∧ Hid (At w S 0 1 (fun _ => List.replicate 1 0) B)) := by
    have := new_any 1 0 (by decide) w
    rw [wd_one] at this
    refine this.mono fun e B ⟨he, h1, h2⟩ => ⟨by rw [he, hS], ?_⟩
    have := At.start hs h1 h2
    rw [hS] at this
    exact this
  have T12 : Hid (∀ W, At w S 0 1 (fun _ => List.replicate 1 0) W → Calls Tryd.prog 12 #[.pointer (some ⟨S, 0, none⟩), .int .u64 5] W fun e B => e = .returned (.tuple #[]) ∧ Hid (At w S 0 1 (adds 0 1 5 fun _ => List.replicate 1 0) B)) := fun W hW => (add_some hW 5 (by decide)).mono fun e B ⟨he, h1, _⟩ => ⟨he, h1⟩
  have T16 : Hid (∀ W, At w S 0 1 (adds 0 1 5 fun _ => List.replicate 1 0) W → Calls Tryd.prog 16 #[.pointer (some ⟨S, 0, none⟩), .int .u64 9] W fun e B => e = .returned (.int .i64 1) ∧ Hid (At w S 0 1 (adds 0 1 5 fun _ => List.replicate 1 0) B)) := fun W hW => by
    have := count_some hW 9 (by decide)
    rw [one_count] at this
    exact this.mono fun e B ⟨he, hb⟩ => ⟨he, hW.below hb⟩
  have T20 : Hid (∀ W, At w S 0 1 (adds 0 1 5 fun _ => List.replicate 1 0) W → Calls Tryd.prog 20 #[.pointer (some ⟨S, 0, none⟩)] W fun e B => e = .returned (.int .i64 1) ∧ B = W) := fun W hW => width_some hW.sk
  have D : Hid (∀ W, At w S 0 1 (adds 0 1 5 fun _ => List.replicate 1 0) W → Below S w W) := fun W hW => hS ▸ hW.old.2
  generalize (adds 0 1 5 fun _ => List.replicate 1 0) = g at *
  rw [hS]
  clear h hs
  go_enter Tryd.func6, Tryd.ntmps6
  go_wp2_with fail
  refine T7.out.mono ?_
  rintro e w1 ⟨rfl, h1⟩
  go_wp2_with fail
  refine (T12.out _ h1.out).mono ?_
  rintro e w2 ⟨rfl, h2⟩
  go_wp2_with fail
  refine (T16.out _ h2.out).mono ?_
  rintro e w3 ⟨rfl, h3⟩
  have T := Lib.hid (T20.out _ h3.out)
  go_wp2_with (go_at_call 20; refine T.out.mono ?_; rintro e w4 ⟨rfl, e4⟩; obtain rfl : w3 = w4 := e4.symm)
  go_ret
  exact ⟨rfl, D.out _ h3.out⟩
/-- the sketch with the rows f; the document's with the rows g, in the box V; each apart. -/
structure Ps (w : World) (S V seed n : Nat) (f g : Nat → List Nat) (v : Value) (W : World) : Prop where
  at_ : At w S seed n f W
  rows : Rr (fun b => out S b ∧ b ≠ V) W v 4 g
  box : W.heap[V]? = some (.cells #[v, .int .i64 (n : Int), .int .u64 (seed : Int)] 29 (0, 0))
  far : S + 9 ≤ V
  len : ∀ i, i < 4 → (g i).length = n
  low : ∀ i j, i < 4 → ct (g i) j ≤ 15
namespace Ps
variable {w W B : World} {S V seed n : Nat} {f f' g g' : Nat → List Nat} {v : Value}
/-- the sketch turns. -/
theorem turn (h : Ps w S V seed n f g v W) (ha : At w S seed n f' B) (hk : Keep (out S) W B) : Ps w S V seed n f' g v B :=
  ⟨ha, h.rows.keep (hk.mono fun _ _ h => h.1), hk.heap h.box (.inr h.far), h.far, h.len, h.low⟩
theorem below (h : Ps w S V seed n f g v W) (hb : Below W.heap.size W B) : Ps w S V seed n f g v B := h.turn (h.at_.below hb) (keep_below hb)
theorem lt (h : Ps w S V seed n f g v W) : V < W.heap.size := heap_lt h.box
theorem past (h : Ps w S V seed n f g v W) : ∀ b, W.heap.size ≤ b → (out S b ∧ b ≠ V) := fun b hb => by have := h.lt; have := h.far; exact ⟨.inr (by omega), by omega⟩
/-- .. and the document's is laid anew into its box. -/
theorem set (h : Ps w S V seed n f g v W) (hb : Below W.heap.size W B) {a : Option Addr} {k : Nat} (hr : Rr (fun b => out S b ∧ b ≠ V) B (.slice a 4 k) 4 g') (hl : ∀ i, i < 4 → (g' i).length = n) (hlow : ∀ i j, i < 4 → ct (g' i) j ≤ 15) :
    (B.cell? ⟨V, 0, none⟩ = some v ∧ B.cell? ⟨V, 1, none⟩ = some (.int .i64 (n : Int)) ∧ B.cell? ⟨V, 2, none⟩ = some (.int .u64 (seed : Int)) ∧ ∀ i, B.frozen? ⟨V, i, none⟩ = false) ∧ Hid (Ps w S V seed n f g' (.slice a 4 k) (((B.setCell ⟨V, 0, none⟩ (.slice a 4 k)).setCell ⟨V, 1, none⟩ (.int .i64 (n : Int))).setCell ⟨V, 2, none⟩ (.int .u64 (seed : Int)))) := by
  have h1 := h.below hb
  have hk : Keep (fun b => b ≠ V) B (((B.setCell ⟨V, 0, none⟩ (.slice a 4 k)).setCell ⟨V, 1, none⟩ (.int .i64 (n : Int))).setCell ⟨V, 2, none⟩ (.int .u64 (seed : Int))) := ((Keep.setCell _ _ _ fun h => h rfl).trans (Keep.setCell _ _ _ fun h => h rfl)).trans (Keep.setCell _ _ _ fun h => h rfl)
  have h3 := put3 (.slice a 4 k) (.int .i64 (n : Int)) (.int .u64 (seed : Int)) h1.box
  refine ⟨⟨by rw [cell_of h1.box]; rfl, by rw [cell_of h1.box]; rfl, by rw [cell_of h1.box]; rfl, fun i => frozen_of h1.box i⟩, ⟨?_, ?_, h3, h.far, hl, hlow⟩⟩
  · have hf := h.far
    refine ⟨h1.at_.sk.keep hk fun k _ hk => by show k ≠ V; omega, ?_, h.at_.le⟩
    have hle := h.at_.le
    exact ⟨h1.at_.old.1, h1.at_.old.2.trans (hk.below (fun k hk => by show k ≠ V; omega) h1.at_.old.2.size)⟩
  · exact hr.keep (hk.mono fun _ _ h => h.2)
theorem cells (h : Ps w S V seed n f g v W) : W.cell? ⟨V, 0, none⟩ = some v ∧ W.cell? ⟨V, 1, none⟩ = some (.int .i64 (n : Int)) ∧ W.cell? ⟨V, 2, none⟩ = some (.int .u64 (seed : Int)) := ⟨by rw [cell_of h.box]; rfl, by rw [cell_of h.box]; rfl, by rw [cell_of h.box]; rfl⟩
theorem slice (h : Ps w S V seed n f g v W) : ∃ a k, v = .slice a 4 k := h.rows.slice
theorem ct_add (cs : List Nat) (k : Int) (h : ∀ j, ct cs j ≤ 15) (j : Nat) : ct (addAt cs k) j ≤ 15 := by
  unfold addAt
  by_cases hm : mayAdd cs k = true
  · rw [if_pos hm]
    have := of_decide_eq_true hm
    rw [nb.ct_set cs _ _ (by omega)]
    split
    · omega
    · exact h j
  · rw [if_neg hm]; exact h j
/-- what a call leaves that makes the document's sketch anew. -/
def Anew (w : World) (S V seed n : Nat) (f g' : Nat → List Nat) (v : Value) (e : Ending) (B : World) : Prop :=
  ∃ a k, e = .returned (sv (.slice a 4 k) n seed) ∧ (B.cell? ⟨V, 0, none⟩ = some v ∧ B.cell? ⟨V, 1, none⟩ = some (.int .i64 (n : Int)) ∧ B.cell? ⟨V, 2, none⟩ = some (.int .u64 (seed : Int)) ∧ ∀ i, B.frozen? ⟨V, i, none⟩ = false) ∧ Hid (Ps w S V seed n f g' (.slice a 4 k) (((B.setCell ⟨V, 0, none⟩ (.slice a 4 k)).setCell ⟨V, 1, none⟩ (.int .i64 (n : Int))).setCell ⟨V, 2, none⟩ (.int .u64 (seed : Int))))
theorem k9 (h : Ps w S V seed n f g v W) : Calls Tryd.prog 9 #[.pointer (some ⟨S, 0, none⟩)] W fun e B => e = .returned (.tuple #[]) ∧ Hid (Ps w S V seed n (halves f) g v B) := (halve_some h.at_).mono fun _ _ ⟨he, h1, h2⟩ => ⟨he, h.turn h1 h2⟩
theorem k11 (h : Ps w S V seed n f g v W) : Calls Tryd.prog 11 #[.pointer (some ⟨S, 0, none⟩)] W fun e B => e = .returned (.tuple #[]) ∧ Hid (Ps w S V seed n (fun _ => List.replicate n 0) g v B) := (clear_some h.at_).mono fun _ _ ⟨he, h1, h2⟩ => ⟨he, h.turn h1 h2⟩
theorem k12 (h : Ps w S V seed n f g v W) (x : Nat) (hx : x < 18446744073709551616) : Calls Tryd.prog 12 #[.pointer (some ⟨S, 0, none⟩), .int .u64 (x : Int)] W fun e B => e = .returned (.tuple #[]) ∧ Hid (Ps w S V seed n (adds seed n x f) g v B) := (add_some h.at_ x hx).mono fun _ _ ⟨he, h1, h2⟩ => ⟨he, h.turn h1 h2⟩
theorem k10 (h : Ps w S V seed n f g v W) : Calls Tryd.prog 10 #[sv v n seed] W (Anew w S V seed n f (halves g) v) :=
  (refhalve_any n seed h.rows h.len h.at_.sk.pos h.at_.sk.lid h.low h.past).mono fun _ _ ⟨a, k, he, h1, h2⟩ => ⟨a, k, he, h.set h2 h1 (fun i hi => by rw [List.length_map]; exact h.len i hi) (fun i j hi => by rw [nb.ct_half]; have := h.low i j hi; omega)⟩
theorem k13 (h : Ps w S V seed n f g v W) (x : Nat) (hx : x < 18446744073709551616) : Calls Tryd.prog 13 #[sv v n seed, .int .u64 (x : Int)] W (Anew w S V seed n f (adds seed n x g) v) :=
  (refadd_any n seed x hx h.rows h.len h.at_.sk.pos h.at_.sk.lid h.past).mono fun _ _ ⟨a, k, he, h1, h2⟩ => ⟨a, k, he, h.set h2 h1 (fun i hi => by rw [nb.addAt_len]; exact h.len i hi) (fun i j hi => ct_add _ _ (fun j => h.low i j hi) j)⟩
theorem k8 (h : Ps w S V seed n f g v W) (c : Int) (hc : wdN c = n) : Calls Tryd.prog 8 #[.int .i64 c, .int .u64 (seed : Int)] W (Anew w S V seed n f (fun _ => List.replicate n 0) v) := by
  have := refnew_any c seed W (fun b => out S b ∧ b ≠ V) h.past
  rw [hc] at this
  exact this.mono fun _ _ ⟨a, k, he, h1, h2⟩ => ⟨a, k, he, h.set h2 h1 (fun _ _ => by simp) (fun i j _ => by rw [nb.ct_zeros]; omega)⟩
theorem drew (h : Ps w S V seed n f g v W) : Ps w S V seed n f g v W.drew := h.turn h.at_.drew (.drew _ _)
/-- the cells that are read of the document's box. -/
abbrev C3 (V seed n : Nat) (v : Value) (W : World) : Prop := W.cell? ⟨V, 0, none⟩ = some v ∧ W.cell? ⟨V, 1, none⟩ = some (.int .i64 (n : Int)) ∧ W.cell? ⟨V, 2, none⟩ = some (.int .u64 (seed : Int))
theorem k14 (h : Ps w S V seed n f g v W) : Calls Tryd.prog 14 #[.pointer (some ⟨S, 0, none⟩)] W fun e B => e = .returned (.int .i64 (fullTo f 4 : Int)) ∧ C3 V seed n v B ∧ Hid (Ps w S V seed n f g v B) := (full_some h.at_.sk).mono fun _ _ ⟨he, hb⟩ => ⟨he, (h.below hb).cells, h.below hb⟩
theorem k15 (h : Ps w S V seed n f g v W) : Calls Tryd.prog 15 #[sv v n seed] W fun e B => e = .returned (.int .i64 (fullTo g 4 : Int)) ∧ C3 V seed n v B ∧ Hid (Ps w S V seed n f g v B) := (reffull_any n seed h.rows h.len h.at_.sk.lid).mono fun _ _ ⟨he, hb⟩ => ⟨he, (h.below hb).cells, h.below hb⟩
theorem k16 (h : Ps w S V seed n f g v W) (x : Nat) (hx : x < 18446744073709551616) : Calls Tryd.prog 16 #[.pointer (some ⟨S, 0, none⟩), .int .u64 (x : Int)] W fun e B => e = .returned (.int .i64 (cntN seed n x f : Int)) ∧ C3 V seed n v B ∧ Hid (Ps w S V seed n f g v B) := (count_some h.at_ x hx).mono fun _ _ ⟨he, hb⟩ => ⟨he, (h.below hb).cells, h.below hb⟩
theorem k17 (h : Ps w S V seed n f g v W) (x : Nat) (hx : x < 18446744073709551616) : Calls Tryd.prog 17 #[sv v n seed, .int .u64 (x : Int)] W fun e B => e = .returned (.int .i64 (cntN seed n x g : Int)) ∧ C3 V seed n v B ∧ Hid (Ps w S V seed n f g v B) := (refcount_any n seed x hx h.rows h.len h.at_.sk.pos h.at_.sk.lid).mono fun _ _ ⟨he, hb⟩ => ⟨he, (h.below hb).cells, h.below hb⟩
/-- the place in whatever row. -/
noncomputable def plZ (seed n x : Nat) (k : Int) : Nat := if 0 ≤ k ∧ k < 4 then plN seed n x k.toNat else 0
theorem k18 (h : Ps w S V seed n f g v W) (x : Nat) (hx : x < 18446744073709551616) (k : Int) : Calls Tryd.prog 18 #[.pointer (some ⟨S, 0, none⟩), .int .u64 (x : Int), .int .i64 k] W fun e B => e = .returned (.int .i64 (plZ seed n x k : Int)) ∧ C3 V seed n v B ∧ Hid (Ps w S V seed n f g v B) := by
  by_cases hk : 0 ≤ k ∧ k < 4
  · have e : k = (k.toNat : Int) := by omega
    have := place_some w h.at_.sk h.at_.old x k.toNat hx (by omega)
    rw [← e] at this
    rw [plZ, if_pos hk]
    exact this.mono fun _ _ ⟨he, hb⟩ => ⟨he, (h.below hb).cells, h.below hb⟩
  · rw [plZ, if_neg hk]
    exact (place_out _ k hk W).mono fun _ _ ⟨he, hb⟩ => ⟨he, by rw [hb]; exact h.cells, by rw [hb]; exact h⟩
theorem k19 (h : Ps w S V seed n f g v W) (x : Nat) (hx : x < 18446744073709551616) (k : Int) : Calls Tryd.prog 19 #[sv v n seed, .int .u64 (x : Int), .int .i64 k] W fun e B => e = .returned (.int .i64 (plZ seed n x k : Int)) ∧ C3 V seed n v B ∧ Hid (Ps w S V seed n f g v B) := by
  obtain ⟨a, c, rfl⟩ := h.slice
  by_cases hk : 0 ≤ k ∧ k < 4
  · have e : k = (k.toNat : Int) := by omega
    have := refplace_in a 4 c n seed x k.toNat h.at_.sk.pos h.at_.sk.lid hx (by omega) W
    rw [← e] at this
    rw [plZ, if_pos hk]
    exact this.mono fun _ _ ⟨he, hb⟩ => ⟨he, (h.below hb).cells, h.below hb⟩
  · rw [plZ, if_neg hk]
    exact (refplace_out a 4 c n seed _ k hk W).mono fun _ _ ⟨he, hb⟩ => ⟨he, (h.below hb).cells, h.below hb⟩
theorem k20 (h : Ps w S V seed n f g v W) : Calls Tryd.prog 20 #[.pointer (some ⟨S, 0, none⟩)] W fun e B => e = .returned (.int .i64 (n : Int)) ∧ C3 V seed n v B ∧ Hid (Ps w S V seed n f g v B) := (width_some h.at_.sk).mono fun _ _ ⟨he, hb⟩ => ⟨he, by rw [hb]; exact h.cells, by rw [hb]; exact h⟩
theorem k6 (h : Ps w S V seed n f g v W) : Calls Tryd.prog 6 #[] W fun e B => e = .returned (.bool true) ∧ C3 V seed n v B ∧ Hid (Below w.heap.size w B) := (awake_any w W h.at_.old).mono fun _ _ ⟨he, hb⟩ => ⟨he, (h.below hb.out).cells, h.at_.old.2.trans (hb.out.mono h.at_.old.2.size)⟩
end Ps
end Go.Proofs.YtljfidbplecggaaDoor
