/-
  Mix, Unmix, Twist, Untwist and their references by their contracts, and MixBack walked call by call: where the table's twelve cells lie in memory as its text lays them, MixBack returns true for every input, and what was in memory stays.
-/
import Derived.Test.YtcaopjeojdghlaaDoorDo
namespace Go.Proofs.YtcaopjeojdghlaaDoor
open Go.ChangeShapes Go.WideShapes Go.ChangeAt Go.RowKit
theorem u64_nat {n : Int} (h : (Lit.int .u64 n).wf = true) : ∃ m : Nat, n = (m : Int) ∧ m < 18446744073709551616 := by
  have := Go.bounds_u64 h
  exact ⟨n.toNat, by omega, by omega⟩
theorem ret_nat {a b : Nat} (h : a = b) : Ending.returned (.int .u64 (a : Int)) = .returned (.int .u64 (b : Int)) := by rw [h]
/-- the table's cells, in order. -/
def tab : List Value := [.int .i64 30, .int .u64 13787848793156543929, .int .i64 27, .int .u64 10723151780598845931, .int .i64 31, .int .u64 1, .int .i64 33, .int .u64 18397679294719823053, .int .i64 33, .int .u64 14181476777654086739, .int .i64 33, .int .u64 1]
def Steps (w : World) : Prop := 0 < w.heap.size ∧ ∀ i, i < 12 → w.cell? ⟨0, i, none⟩ = tab[i]?
/-- w' came out of w, in which the table lay: it lies there still, and all of w stands. -/
def Since (w w' : World) : Prop := Steps w ∧ Below w.heap.size w w'
theorem Since.start {w : World} (h : Steps w) : Since w w := ⟨h, Below.refl _ _⟩
theorem Since.pos {w w' : World} (h : Since w w') : 0 < w'.heap.size := Nat.lt_of_lt_of_le h.1.1 h.2.size
theorem Since.cell {w w' : World} (h : Since w w') (i : Nat) (hi : i < 12) : w'.cell? ⟨0, i, none⟩ = tab[i]? := (h.2.cell (p := ⟨0, i, none⟩) h.1.1).trans (h.1.2 i hi)
theorem Since.next {w w1 w2 : World} (h : Since w w1) (hb : Below w1.heap.size w1 w2) : Since w w2 := ⟨h.1, h.2.trans (hb.mono h.2.size)⟩
theorem mix_any (x : Nat) (hx : x < 18446744073709551616) (w0 w : World) (h : Since w0 w) :
    Calls Tryd.prog 4 #[.int .u64 x] w fun e w' => e = .returned (.int .u64 (mixN x : Nat)) ∧ Since w0 w' := by
  have H := Lib.hid h
  clear h
  go_enter Tryd.func4, Tryd.ntmps4
  go_wp2_with fail
  refine (do_0 x hx 30 27 31 13787848793156543929 10723151780598845931 1 (by decide) (by decide) (by decide) _ (H.out.cell 0 (by decide)) (H.out.cell 1 (by decide)) (H.out.cell 2 (by decide)) (H.out.cell 3 (by decide)) (H.out.cell 4 (by decide)) (H.out.cell 5 (by decide))).mono ?_
  rintro e w1 ⟨rfl, hb⟩
  go_wp2
  go_ret
  exact ⟨rfl, H.out.next hb⟩
theorem twist_any (x : Nat) (hx : x < 18446744073709551616) (w0 w : World) (h : Since w0 w) :
    Calls Tryd.prog 6 #[.int .u64 x] w fun e w' => e = .returned (.int .u64 (twistN x : Nat)) ∧ Since w0 w' := by
  have H := Lib.hid h
  clear h
  go_enter Tryd.func6, Tryd.ntmps6
  go_wp2_with fail
  refine (do_1 x hx 33 33 33 18397679294719823053 14181476777654086739 1 (by decide) (by decide) (by decide) _ (H.out.cell 6 (by decide)) (H.out.cell 7 (by decide)) (H.out.cell 8 (by decide)) (H.out.cell 9 (by decide)) (H.out.cell 10 (by decide)) (H.out.cell 11 (by decide))).mono ?_
  rintro e w1 ⟨rfl, hb⟩
  go_wp2
  go_ret
  exact ⟨rfl, H.out.next hb⟩
theorem unmix_any (x : Nat) (hx : x < 18446744073709551616) (w0 w : World) (h : Since w0 w) :
    Calls Tryd.prog 8 #[.int .u64 x] w fun e w' => e = .returned (.int .u64 (unmixN x : Nat)) ∧ Since w0 w' := by
  have H := Lib.hid h
  clear h
  go_enter Tryd.func8, Tryd.ntmps8
  go_wp2_with fail
  refine (undo_0 x hx 30 27 31 13787848793156543929 10723151780598845931 1 (by decide) (by decide) (by decide) (by decide) (by decide) (by decide) _ (H.out.cell 0 (by decide)) (H.out.cell 1 (by decide)) (H.out.cell 2 (by decide)) (H.out.cell 3 (by decide)) (H.out.cell 4 (by decide)) (H.out.cell 5 (by decide)) H.out.pos).mono ?_
  rintro e w1 ⟨rfl, hb⟩
  go_wp2
  go_ret
  exact ⟨rfl, H.out.next hb⟩
theorem untwist_any (x : Nat) (hx : x < 18446744073709551616) (w0 w : World) (h : Since w0 w) :
    Calls Tryd.prog 9 #[.int .u64 x] w fun e w' => e = .returned (.int .u64 (untwistN x : Nat)) ∧ Since w0 w' := by
  have H := Lib.hid h
  clear h
  go_enter Tryd.func9, Tryd.ntmps9
  go_wp2_with fail
  refine (undo_1 x hx 33 33 33 18397679294719823053 14181476777654086739 1 (by decide) (by decide) (by decide) (by decide) (by decide) (by decide) _ (H.out.cell 6 (by decide)) (H.out.cell 7 (by decide)) (H.out.cell 8 (by decide)) (H.out.cell 9 (by decide)) (H.out.cell 10 (by decide)) (H.out.cell 11 (by decide)) H.out.pos).mono ?_
  rintro e w1 ⟨rfl, hb⟩
  go_wp2
  go_ret
  exact ⟨rfl, H.out.next hb⟩
theorem foZ_fo (x k : Nat) (h : 1 ≤ k ∧ k < 64) : foZ x (k : Int) = fo k x := by
  unfold foZ
  rw [if_pos (by omega)]
  rfl
set_option maxRecDepth 100000 in
theorem refmix_any (x : Nat) (hx : x < 18446744073709551616) (w : World) :
    Calls Tryd.prog 5 #[.int .u64 x] w fun e w' => e = .returned (.int .u64 (mixN x : Nat)) ∧ w = w' := by
  have h1 : IntKind.u64.wrap (((foZ x 30 : Nat) : Int) * 13787848793156543929) = ((st 30 13787848793156543929 x : Nat) : Int) := fold_st 30 x 13787848793156543929 (by decide) (by decide)
  have h2 : IntKind.u64.wrap (((foZ (st 30 13787848793156543929 x) 27 : Nat) : Int) * 10723151780598845931) = ((st 27 10723151780598845931 (st 30 13787848793156543929 x) : Nat) : Int) := fold_st 27 _ 10723151780598845931 (by decide) (by decide)
  have h3 : foZ (st 27 10723151780598845931 (st 30 13787848793156543929 x)) 31 = mixN x := by
    unfold mixN
    rw [st_one 31 _ (st_lt _ _ _)]
    exact foZ_fo _ 31 (by decide)
  have l1 := st_lt 30 13787848793156543929 x
  have l2 := st_lt 27 10723151780598845931 (st 30 13787848793156543929 x)
  generalize st 27 10723151780598845931 (st 30 13787848793156543929 x) = u at *
  generalize st 30 13787848793156543929 x = v at *
  have H3 := Lib.hid h3
  clear h3
  go_enter Tryd.func5, Tryd.ntmps5
  go_wp2_with fail
  refine (reffold_any _ _ hx _).mono ?_
  rintro e w1 ⟨rfl, rfl⟩
  go_wp2_with fail
  refine (reffold_any _ _ l1 _).mono ?_
  rintro e w1 ⟨rfl, rfl⟩
  go_wp2_with fail
  refine (reffold_any _ _ l2 _).mono ?_
  rintro e w1 ⟨rfl, rfl⟩
  rw [H3.out]
  go_wp2
  go_ret
  exact ⟨rfl, rfl⟩
set_option maxRecDepth 100000 in
theorem reftwist_any (x : Nat) (hx : x < 18446744073709551616) (w : World) :
    Calls Tryd.prog 7 #[.int .u64 x] w fun e w' => e = .returned (.int .u64 (twistN x : Nat)) ∧ w = w' := by
  have h1 : IntKind.u64.wrap (((foZ x 33 : Nat) : Int) * 18397679294719823053) = ((st 33 18397679294719823053 x : Nat) : Int) := fold_st 33 x 18397679294719823053 (by decide) (by decide)
  have h2 : IntKind.u64.wrap (((foZ (st 33 18397679294719823053 x) 33 : Nat) : Int) * 14181476777654086739) = ((st 33 14181476777654086739 (st 33 18397679294719823053 x) : Nat) : Int) := fold_st 33 _ 14181476777654086739 (by decide) (by decide)
  have h3 : foZ (st 33 14181476777654086739 (st 33 18397679294719823053 x)) 33 = twistN x := by
    unfold twistN
    rw [st_one 33 _ (st_lt _ _ _)]
    exact foZ_fo _ 33 (by decide)
  have l1 := st_lt 33 18397679294719823053 x
  have l2 := st_lt 33 14181476777654086739 (st 33 18397679294719823053 x)
  generalize st 33 14181476777654086739 (st 33 18397679294719823053 x) = u at *
  generalize st 33 18397679294719823053 x = v at *
  have H3 := Lib.hid h3
  clear h3
  go_enter Tryd.func7, Tryd.ntmps7
  go_wp2_with fail
  refine (reffold_any _ _ hx _).mono ?_
  rintro e w1 ⟨rfl, rfl⟩
  go_wp2_with fail
  refine (reffold_any _ _ l1 _).mono ?_
  rintro e w1 ⟨rfl, rfl⟩
  go_wp2_with fail
  refine (reffold_any _ _ l2 _).mono ?_
  rintro e w1 ⟨rfl, rfl⟩
  rw [H3.out]
  go_wp2
  go_ret
  exact ⟨rfl, rfl⟩
theorem fold_12 (w : World) : Calls Tryd.prog 14 #[.int .u64 12, .int .i64 2] w fun e w' => e = .returned (.int .u64 15) ∧ w = w' :=
  (fold_any 12 2 (by decide) w).mono fun e w' ⟨he, hw⟩ => ⟨by rw [he]; exact ret_nat (b := 15) (by decide), hw⟩
theorem inverse_3 (w : World) : Calls Tryd.prog 15 #[.int .u64 3] w fun e w' => e = .returned (.int .u64 12297829382473034411) ∧ w = w' :=
  (inverse_any 3 (by decide) w).mono fun e w' ⟨he, hw⟩ => ⟨by rw [he]; exact ret_nat (b := 12297829382473034411) (by decide), hw⟩
theorem awake_any (w : World) : Calls Tryd.prog 10 #[] w fun e w' => e = .returned (.bool true) ∧ w = w' := by
  go_enter Tryd.func10, Tryd.ntmps10
  go_wp2_with fail
  refine (fold_12 _).mono ?_
  rintro e w1 ⟨rfl, rfl⟩
  go_wp2_with fail
  refine (inverse_3 _).mono ?_
  rintro e w1 ⟨rfl, rfl⟩
  go_wp2
  go_ret
  exact ⟨rfl, rfl⟩
/-- what MixBack leans on: two pairs of functions, each undone by the other, and who reckons them. -/
structure Pairs (m u t v : Nat → Nat) : Prop where
  lm : ∀ x, m x < 18446744073709551616
  lu : ∀ x, u x < 18446744073709551616
  lt : ∀ x, t x < 18446744073709551616
  lv : ∀ x, v x < 18446744073709551616
  um : ∀ x, x < 18446744073709551616 → u (m x) = x
  mu : ∀ x, x < 18446744073709551616 → m (u x) = x
  vt : ∀ x, x < 18446744073709551616 → v (t x) = x
  tv : ∀ x, x < 18446744073709551616 → t (v x) = x
  cm : ∀ (x : Nat), x < 18446744073709551616 → ∀ (w0 w : World), Since w0 w → Calls Tryd.prog 4 #[.int .u64 x] w fun e w' => e = .returned (.int .u64 (m x : Nat)) ∧ Since w0 w'
  ct : ∀ (x : Nat), x < 18446744073709551616 → ∀ (w0 w : World), Since w0 w → Calls Tryd.prog 6 #[.int .u64 x] w fun e w' => e = .returned (.int .u64 (t x : Nat)) ∧ Since w0 w'
  cu : ∀ (x : Nat), x < 18446744073709551616 → ∀ (w0 w : World), Since w0 w → Calls Tryd.prog 8 #[.int .u64 x] w fun e w' => e = .returned (.int .u64 (u x : Nat)) ∧ Since w0 w'
  cv : ∀ (x : Nat), x < 18446744073709551616 → ∀ (w0 w : World), Since w0 w → Calls Tryd.prog 9 #[.int .u64 x] w fun e w' => e = .returned (.int .u64 (v x : Nat)) ∧ Since w0 w'
  rm : ∀ (x : Nat), x < 18446744073709551616 → ∀ (w : World), Calls Tryd.prog 5 #[.int .u64 x] w fun e w' => e = .returned (.int .u64 (m x : Nat)) ∧ w = w'
  rt : ∀ (x : Nat), x < 18446744073709551616 → ∀ (w : World), Calls Tryd.prog 7 #[.int .u64 x] w fun e w' => e = .returned (.int .u64 (t x : Nat)) ∧ w = w'
theorem pairs : Pairs mixN unmixN twistN untwistN :=
  ⟨mixN_lt, unmixN_lt, twistN_lt, untwistN_lt, unmix_mix, mix_unmix, untwist_twist, twist_untwist, mix_any, twist_any, unmix_any, untwist_any, refmix_any, reftwist_any⟩
set_option maxHeartbeats 800000 in
set_option maxRecDepth 100000 in
theorem back_walk' (m u t v : Nat → Nat) (P : Pairs m u t v) (x y : Nat) (hx : x < 18446744073709551616) (hy : y < 18446744073709551616) (w : World) (hS : Steps w) :
    Calls Tryd.prog 3 #[.int .u64 x, .int .u64 y] w fun e w' => e = .returned (.bool true) ∧ Below w.heap.size w w' := by
  have H := Lib.hid (Since.start hS)
  have HP := Lib.hid P
  clear hS P
  have hc : ((m x = m y) = (x = y)) ∧ ((t x = t y) = (x = y)) := by
    refine ⟨propext ⟨fun h => ?_, fun h => by rw [h]⟩, propext ⟨fun h => ?_, fun h => by rw [h]⟩⟩
    · rw [← HP.out.um x hx, h, HP.out.um y hy]
    · rw [← HP.out.vt x hx, h, HP.out.vt y hy]
  have h2 : ((((m x : Nat) : Int) == ((m y : Nat) : Int)) = (((x : Nat) : Int) == ((y : Nat) : Int))) ∧ ((((t x : Nat) : Int) == ((t y : Nat) : Int)) = (((x : Nat) : Int) == ((y : Nat) : Int))) := by
    constructor
    · rw [Bool.eq_iff_iff, beq_iff_eq, beq_iff_eq, Int.ofNat_inj, Int.ofNat_inj, hc.1]
    · rw [Bool.eq_iff_iff, beq_iff_eq, beq_iff_eq, Int.ofNat_inj, Int.ofNat_inj, hc.2]
  have HM := Lib.hid h2
  clear hc h2
  go_enter Tryd.func3, Tryd.ntmps3
  go_wp2_with fail
  refine (HP.out.cm _ hx _ _ H.out).mono ?_
  clear H
  rintro e w1 ⟨rfl, h⟩
  have H := Lib.hid h
  clear h
  go_wp2_with fail
  refine (HP.out.rm _ hx _).mono ?_
  rintro e w1 ⟨rfl, rfl⟩
  go_wp2_with fail
  refine (HP.out.ct _ hx _ _ H.out).mono ?_
  clear H
  rintro e w1 ⟨rfl, h⟩
  have H := Lib.hid h
  clear h
  go_wp2_with fail
  refine (HP.out.rt _ hx _).mono ?_
  rintro e w1 ⟨rfl, rfl⟩
  go_wp2_with fail
  refine (HP.out.cm _ hx _ _ H.out).mono ?_
  clear H
  rintro e w1 ⟨rfl, h⟩
  have H := Lib.hid h
  clear h
  go_wp2_with fail
  refine (HP.out.cu _ (HP.out.lm x) _ _ H.out).mono ?_
  clear H
  rintro e w1 ⟨rfl, h⟩
  have H := Lib.hid h
  clear h
  rw [HP.out.um x hx]
  go_wp2_with fail
  refine (HP.out.cu _ hx _ _ H.out).mono ?_
  clear H
  rintro e w1 ⟨rfl, h⟩
  have H := Lib.hid h
  clear h
  go_wp2_with fail
  refine (HP.out.cm _ (HP.out.lu x) _ _ H.out).mono ?_
  clear H
  rintro e w1 ⟨rfl, h⟩
  have H := Lib.hid h
  clear h
  rw [HP.out.mu x hx]
  go_wp2_with fail
  refine (HP.out.ct _ hx _ _ H.out).mono ?_
  clear H
  rintro e w1 ⟨rfl, h⟩
  have H := Lib.hid h
  clear h
  go_wp2_with fail
  refine (HP.out.cv _ (HP.out.lt x) _ _ H.out).mono ?_
  clear H
  rintro e w1 ⟨rfl, h⟩
  have H := Lib.hid h
  clear h
  rw [HP.out.vt x hx]
  go_wp2_with fail
  refine (HP.out.cv _ hx _ _ H.out).mono ?_
  clear H
  rintro e w1 ⟨rfl, h⟩
  have H := Lib.hid h
  clear h
  go_wp2_with fail
  refine (HP.out.ct _ (HP.out.lv x) _ _ H.out).mono ?_
  clear H
  rintro e w1 ⟨rfl, h⟩
  have H := Lib.hid h
  clear h
  rw [HP.out.tv x hx]
  go_wp2_with fail
  refine (HP.out.cm _ hx _ _ H.out).mono ?_
  clear H
  rintro e w1 ⟨rfl, h⟩
  have H := Lib.hid h
  clear h
  go_wp2_with fail
  refine (HP.out.cm _ hy _ _ H.out).mono ?_
  clear H
  rintro e w1 ⟨rfl, h⟩
  have H := Lib.hid h
  clear h
  obtain ⟨hm, ht⟩ := HM.out
  have HT := Lib.hid ht
  clear ht
  go_wp2_with fail
  refine (HP.out.ct _ hx _ _ H.out).mono ?_
  clear H
  rintro e w1 ⟨rfl, h⟩
  have H := Lib.hid h
  clear h
  go_wp2_with fail
  refine (HP.out.ct _ hy _ _ H.out).mono ?_
  clear H
  rintro e w1 ⟨rfl, h⟩
  have H := Lib.hid h
  clear h
  have ht := HT.out
  go_wp2_with fail
  refine (awake_any _).mono ?_
  rintro e w2 ⟨rfl, rfl⟩
  go_wp2
  go_ret
  exact ⟨rfl, H.out.2⟩
theorem back_walk (x y : Nat) (hx : x < 18446744073709551616) (hy : y < 18446744073709551616) (w : World) (hS : Steps w) :
    Calls Tryd.prog 3 #[.int .u64 x, .int .u64 y] w fun e w' => e = .returned (.bool true) ∧ Below w.heap.size w w' :=
  back_walk' mixN unmixN twistN untwistN pairs x y hx hy w hS
end Go.Proofs.YtcaopjeojdghlaaDoor
