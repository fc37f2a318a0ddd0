/-
  The functions of package key and of its reference by their contracts: what each returns for every input of its types, where the tables lie in memory as their text lays them; what was in memory stays.
-/
import Derived.Test.YtmjcdondogpceaaDoorMxWalks
import Derived.Test.YtmjcdondogpceaaDoorXxLow
import Derived.Deep.RegionHeld3
import Derived.Deep.RegionWith
namespace Go.Proofs.YtmjcdondogpceaaDoor
open Go.ChangeShapes Go.WideShapes Go.ChangeAt Go.RowKit
/-! the numbers, known by what they keep alone -/
theorem fns_ex : ∃ f : (Nat → Nat) × (Nat → Nat) × (Nat → Nat) × (Nat → Int → Nat), (∀ x, f.1 x = mx.mixN x) ∧ (∀ x, f.2.1 x = mx.twistN x) ∧ (∀ x, f.2.2.1 x = mx.unmixN x) ∧ ∀ x k, f.2.2.2 x k = xx.lowN x k := ⟨(mx.mixN, mx.twistN, mx.unmixN, xx.lowN), fun _ => rfl, fun _ => rfl, fun _ => rfl, fun _ _ => rfl⟩
noncomputable def mix : Nat → Nat := fns_ex.choose.1
noncomputable def twist : Nat → Nat := fns_ex.choose.2.1
noncomputable def unmix : Nat → Nat := fns_ex.choose.2.2.1
noncomputable def low : Nat → Int → Nat := fns_ex.choose.2.2.2
theorem mix_eq (x : Nat) : mix x = mx.mixN x := fns_ex.choose_spec.1 x
theorem twist_eq (x : Nat) : twist x = mx.twistN x := fns_ex.choose_spec.2.1 x
theorem unmix_eq (x : Nat) : unmix x = mx.unmixN x := fns_ex.choose_spec.2.2.1 x
theorem low_eq (x : Nat) (k : Int) : low x k = xx.lowN x k := fns_ex.choose_spec.2.2.2 x k
theorem mix_lt (x : Nat) : mix x < 18446744073709551616 := by rw [mix_eq]; exact mx.mixN_lt x
theorem twist_lt (x : Nat) : twist x < 18446744073709551616 := by rw [twist_eq]; exact mx.twistN_lt x
theorem unmix_lt (x : Nat) : unmix x < 18446744073709551616 := by rw [unmix_eq]; exact mx.unmixN_lt x
theorem low_lt (x : Nat) (k : Int) (h : x < 18446744073709551616) : low x k < 18446744073709551616 := by rw [low_eq]; exact Nat.lt_of_le_of_lt (xx.low_le x k) h
theorem unmix_mix (x : Nat) (h : x < 18446744073709551616) : unmix (mix x) = x := by rw [unmix_eq, mix_eq]; exact mx.unmix_mix x h
theorem mix_unmix (x : Nat) (h : x < 18446744073709551616) : mix (unmix x) = x := by rw [unmix_eq, mix_eq]; exact mx.mix_unmix x h
theorem twist_inj (x y : Nat) (hx : x < 18446744073709551616) (hy : y < 18446744073709551616) : twist x = twist y ↔ x = y := by rw [twist_eq, twist_eq]; exact mx.twist_inj x y hx hy
/-! the layers below -/
theorem steps_below {w w' : World} (h : mx.Steps w) (hb : Below w.heap.size w w') : mx.Steps w' := ⟨Nat.lt_of_lt_of_le h.1 hb.size, fun i hi => (hb.cell (p := ⟨0, i, none⟩) h.1).trans (h.2 i hi)⟩
theorem mix_any (x : Nat) (hx : x < 18446744073709551616) (w : World) (h : mx.Steps w) : Calls Tryd.prog 21 #[.int .u64 x] w fun e w' => e = .returned (.int .u64 (mix x : Nat)) ∧ Below w.heap.size w w' :=
  (mx.mix_any x hx w w (mx.Since.start h)).mono fun _ _ ⟨he, hb⟩ => ⟨by rw [he, mix_eq], hb.2⟩
theorem twist_any (x : Nat) (hx : x < 18446744073709551616) (w : World) (h : mx.Steps w) : Calls Tryd.prog 22 #[.int .u64 x] w fun e w' => e = .returned (.int .u64 (twist x : Nat)) ∧ Below w.heap.size w w' :=
  (mx.twist_any x hx w w (mx.Since.start h)).mono fun _ _ ⟨he, hb⟩ => ⟨by rw [he, twist_eq], hb.2⟩
theorem unmix_any (x : Nat) (hx : x < 18446744073709551616) (w : World) (h : mx.Steps w) : Calls Tryd.prog 27 #[.int .u64 x] w fun e w' => e = .returned (.int .u64 (unmix x : Nat)) ∧ Below w.heap.size w w' :=
  (mx.unmix_any x hx w w (mx.Since.start h)).mono fun _ _ ⟨he, hb⟩ => ⟨by rw [he, unmix_eq], hb.2⟩
theorem refmix_any (x : Nat) (hx : x < 18446744073709551616) (w : World) : Calls Tryd.prog 28 #[.int .u64 x] w fun e w' => e = .returned (.int .u64 (mix x : Nat)) ∧ w = w' :=
  (mx.refmix_any x hx w).mono fun _ _ ⟨he, hb⟩ => ⟨by rw [he, mix_eq], hb⟩
theorem reftwist_any (x : Nat) (hx : x < 18446744073709551616) (w : World) : Calls Tryd.prog 29 #[.int .u64 x] w fun e w' => e = .returned (.int .u64 (twist x : Nat)) ∧ w = w' :=
  (mx.reftwist_any x hx w).mono fun _ _ ⟨he, hb⟩ => ⟨by rw [he, twist_eq], hb⟩
theorem low_any (x : Nat) (k : Int) (hx : x < 18446744073709551616) (w : World) : Calls Tryd.prog 25 #[.int .u64 x, .int .i64 k] w fun e w' => e = .returned (.int .u64 (low x k : Nat)) ∧ w = w' :=
  (xx.low_any x k hx w).mono fun _ _ ⟨he, hb⟩ => ⟨by rw [he, low_eq], hb⟩
theorem reflow_any (x : Nat) (k : Int) (hx : x < 18446744073709551616) (w : World) : Calls Tryd.prog 26 #[.int .u64 x, .int .i64 k] w fun e w' => e = .returned (.int .u64 (low x k : Nat)) ∧ Below w.heap.size w w' :=
  (xx.reflow_any x k hx w).mono fun _ _ ⟨he, hb⟩ => ⟨by rw [he, low_eq], hb⟩
/-! pairs -/
/-- a pair as a value. -/
abbrev pv (h c : Nat) : Value := .agg #[.int .u64 (h : Int), .int .u64 (c : Int)]
/-- a new pair lies in block g. -/
structure Box (w : World) (g a b : Nat) : Prop where
  c0 : w.cell? ⟨g, 0, none⟩ = some (.int .u64 (a : Int))
  c1 : w.cell? ⟨g, 1, none⟩ = some (.int .u64 (b : Int))
  f0 : w.frozen? ⟨g, 0, none⟩ = false
  f1 : w.frozen? ⟨g, 1, none⟩ = false
  lt : g < w.heap.size
theorem box_new (w : World) (a b : Nat) : Box (w.alloc (.cells #[.int .u64 (a : Int), .int .u64 (b : Int)] 26)) w.heap.size a b :=
  ⟨by simp, by simp, by simp, by simp, by simp⟩
theorem Box.below {w w' : World} {g a b : Nat} (h : Box w g a b) (hb : Below w.heap.size w w') : Box w' g a b :=
  ⟨(hb.cell (p := ⟨g, 0, none⟩) h.lt).trans h.c0, (hb.cell (p := ⟨g, 1, none⟩) h.lt).trans h.c1, (hb.frozen (p := ⟨g, 0, none⟩) h.lt).trans h.f0, (hb.frozen (p := ⟨g, 1, none⟩) h.lt).trans h.f1, Nat.lt_of_lt_of_le h.lt hb.size⟩
theorem Box.drew {w : World} {g a b : Nat} (h : Box w g a b) : Box w.drew g a b := ⟨h.c0, h.c1, h.f0, h.f1, h.lt⟩
theorem back0 {w : World} {g : Nat} {x : Value} (h : w.cell? ⟨g, 0, none⟩ = some x) (v : Value) : (w.setCell ⟨g, 0, none⟩ v).cell? ⟨g, 0, none⟩ = some v := World.cell?_setCell_same _ _ _ h
theorem back1 {w : World} {g : Nat} {x : Value} (h : w.cell? ⟨g, 1, none⟩ = some x) (u v : Value) : ((w.setCell ⟨g, 0, none⟩ u).setCell ⟨g, 1, none⟩ v).cell? ⟨g, 1, none⟩ = some v :=
  World.cell?_setCell_same _ _ _ ((World.cell?_setCell_other _ _ _ _ (by intro h; injection h with _ h; cases h)).trans h)
theorem bnext {B : Nat} {w w1 w2 : World} (h : Below B w w1) (h2 : Below w1.heap.size w1 w2) (hB : B ≤ w1.heap.size) : Below B w w2 := h.trans (h2.mono hB)
theorem bset {B g : Nat} {w w2 : World} (h : Below B w w2) (hg : B ≤ g) (u v : Value) : Below B w ((w2.setCell ⟨g, 0, none⟩ u).setCell ⟨g, 1, none⟩ v) := (h.setCell hg u).setCell hg v
theorem refnumber_any (x : Nat) (hx : x < 18446744073709551616) (w : World) : Calls Tryd.prog 17 #[.int .u64 x] w fun e w' => e = .returned (pv (mix x) (twist x)) ∧ Below w.heap.size w w' := by
  go_enter Tryd.func17, Tryd.ntmps17
  go_wp2_with fail
  refine (refmix_any x hx _).mono ?_
  rintro e w1 ⟨rfl, rfl⟩
  go_wp2_with fail
  refine (reftwist_any x hx _).mono ?_
  rintro e w1 ⟨rfl, rfl⟩
  go_wp2
  exact bodyPost_ret (v := pv (mix x) (twist x)) (by simp [results, Tryd.results17, go_sem]) rfl ⟨rfl, (Below.refl _ _).alloc (Nat.le_refl _) _⟩
theorem number_any (x : Nat) (hx : x < 18446744073709551616) (w : World) (h : mx.Steps w) : Calls Tryd.prog 10 #[.int .u64 x] w fun e w' => e = .returned (pv (mix x) (twist x)) ∧ Below w.heap.size w w' := by
  have b0 := (Below.refl w.heap.size w).alloc (Nat.le_refl _) (.cells #[.int .u64 ((0 : Nat) : Int), .int .u64 ((0 : Nat) : Int)] 26)
  have H := Lib.hid (steps_below h b0)
  have X := Lib.hid (box_new w 0 0)
  have B := Lib.hid b0
  clear h b0
  go_enter Tryd.func10, Tryd.ntmps10
  go_wp2_with fail
  refine (mix_any x hx _ H.out).mono ?_
  rintro e w1 ⟨rfl, b1⟩
  have H1 := Lib.hid (steps_below H.out b1)
  have X1 := Lib.hid (X.out.below b1)
  have B1 := Lib.hid (bnext B.out b1 B.out.size)
  clear b1 H X B
  go_wp2_with fail
  refine (twist_any x hx _ H1.out).mono ?_
  rintro e w2 ⟨rfl, b2⟩
  have X2 := Lib.hid (X1.out.below b2)
  have B2 := Lib.hid (bnext B1.out b2 B1.out.size)
  clear b2 H1 X1 B1
  have c0 := X2.out.c0
  have c1 := X2.out.c1
  have f0 := X2.out.f0
  have f1 := X2.out.f1
  go_wp2
  exact bodyPost_ret (v := pv (mix x) (twist x)) (by simp [results, Tryd.results10, go_sem, back0 X2.out.c0, back1 X2.out.c1]) rfl ⟨rfl, bset B2.out (Nat.le_refl _) _ _⟩
/-- an int as a word. -/
def word (n : Int) : Nat := (n % 18446744073709551616).toNat
theorem word_lt (n : Int) : word n < 18446744073709551616 := by unfold word; omega
theorem word_expr (n : Int) : IntKind.u64.wrap n = (word n : Int) := by rw [IntKind.wrap_u64]; unfold word; omega
theorem int_any (n : Int) (w : World) (h : mx.Steps w) : Calls Tryd.prog 7 #[.int .i64 n] w fun e w' => e = .returned (pv (mix (word n)) (twist (word n))) ∧ Below w.heap.size w w' := by
  have b0 := (Below.refl w.heap.size w).alloc (Nat.le_refl _) (.cells #[.int .u64 ((0 : Nat) : Int), .int .u64 ((0 : Nat) : Int)] 26)
  have H := Lib.hid (steps_below h b0)
  have X := Lib.hid (box_new w 0 0)
  have B := Lib.hid b0
  have hl := word_lt n
  have he := word_expr n
  clear h b0
  generalize word n = x at *
  go_enter Tryd.func7, Tryd.ntmps7
  go_wp2_with fail
  refine (number_any x hl _ H.out).mono ?_
  rintro e w2 ⟨rfl, b2⟩
  have X2 := Lib.hid (X.out.below b2)
  have B2 := Lib.hid (bnext B.out b2 B.out.size)
  clear b2 H X B
  have c0 := X2.out.c0
  have c1 := X2.out.c1
  have f0 := X2.out.f0
  have f1 := X2.out.f1
  go_wp2
  exact bodyPost_ret (v := pv (mix x) (twist x)) (by simp [results, Tryd.results7, go_sem, back0 X2.out.c0, back1 X2.out.c1]) rfl ⟨rfl, bset B2.out (Nat.le_refl _) _ _⟩
theorem refint_any (n : Int) (w : World) : Calls Tryd.prog 9 #[.int .i64 n] w fun e w' => e = .returned (pv (mix (word n)) (twist (word n))) ∧ Below w.heap.size w w' := by
  have b0 := (Below.refl w.heap.size w).alloc (Nat.le_refl _) (.cells #[.int .u64 ((0 : Nat) : Int), .int .u64 ((0 : Nat) : Int)] 26)
  have X := Lib.hid (box_new w 0 0)
  have B := Lib.hid b0
  have hl := word_lt n
  have he := word_expr n
  clear b0
  generalize word n = x at *
  go_enter Tryd.func9, Tryd.ntmps9
  go_wp2_with fail
  refine (refnumber_any x hl _).mono ?_
  rintro e w2 ⟨rfl, b2⟩
  have X2 := Lib.hid (X.out.below b2)
  have B2 := Lib.hid (bnext B.out b2 B.out.size)
  clear b2 X B
  have c0 := X2.out.c0
  have c1 := X2.out.c1
  have f0 := X2.out.f0
  have f1 := X2.out.f1
  go_wp2
  exact bodyPost_ret (v := pv (mix x) (twist x)) (by simp [results, Tryd.results9, go_sem, back0 X2.out.c0, back1 X2.out.c1]) rfl ⟨rfl, bset B2.out (Nat.le_refl _) _ _⟩
theorem cut_any (a b : Nat) (k : Int) (ha : a < 18446744073709551616) (w : World) : Calls Tryd.prog 13 #[pv a b, .int .i64 k] w fun e w' => e = .returned (pv (low a k) b) ∧ Below w.heap.size w w' := by
  go_enter Tryd.func13, Tryd.ntmps13
  go_wp2_with fail
  refine (low_any a k ha _).mono ?_
  rintro e w1 ⟨rfl, rfl⟩
  go_wp2
  exact bodyPost_ret (v := pv (low a k) b) (by simp [results, Tryd.results13, go_sem]) rfl ⟨rfl, ((Below.refl _ _).alloc (Nat.le_refl _) _).alloc (by simp) _⟩
theorem shard_any (a : Nat) (ha : a < 18446744073709551616) (w : World) : Calls Tryd.prog 15 #[.int .u64 a] w fun e w' => e = .returned (.int .i64 ((a : Int) % 256)) ∧ w = w' := by
  have hm : wrap64 ((a : Int) % 256) = (a : Int) % 256 := by unfold wrap64; omega
  go_enter Tryd.func15, Tryd.ntmps15
  go_wp2
  go_ret
  exact ⟨rfl, rfl⟩
/-- the order of pairs. -/
def ahead (a b c d : Nat) : Bool := decide (a < c ∨ a = c ∧ b < d)
theorem ret_bool {p q : Bool} (h : p = q) : Ending.returned (.bool p) = .returned (.bool q) := by rw [h]
theorem less_any (a b c d : Nat) (w : World) : Calls Tryd.prog 18 #[pv a b, pv c d] w fun e w' => e = .returned (.bool (ahead a b c d)) ∧ Below w.heap.size w w' := by
  by_cases h : a = c
  · go_enter Tryd.func18, Tryd.ntmps18
    go_wp2
    go_ret
    exact ⟨ret_bool (by unfold ahead; simp [h]), ((Below.refl _ _).alloc (Nat.le_refl _) _).alloc (by simp) _⟩
  · go_enter Tryd.func18, Tryd.ntmps18
    go_wp2
    go_ret
    exact ⟨ret_bool (by unfold ahead; simp; omega), ((Below.refl _ _).alloc (Nat.le_refl _) _).alloc (by simp) _⟩
/-- the number that mixes to a, where its pair is (a, b). -/
theorem of_some (x : Nat) (hx : x < 18446744073709551616) (w : World) (h : mx.Steps w) : Calls Tryd.prog 16 #[pv (mix x) (twist x)] w fun e w' => e = .returned (.tuple #[.int .u64 (x : Int), .bool true]) ∧ Below w.heap.size w w' := by
  have b0 := (Below.refl w.heap.size w).alloc (Nat.le_refl _) (.cells #[.int .u64 (mix x : Int), .int .u64 (twist x : Int)] 26)
  have H := Lib.hid (steps_below h b0)
  have X := Lib.hid (box_new w (mix x) (twist x))
  have B := Lib.hid b0
  have HM := Lib.hid (unmix_mix x hx)
  have hl := mix_lt x
  clear h b0
  go_enter Tryd.func16, Tryd.ntmps16
  go_wp2_with fail
  refine (unmix_any (mix x) hl _ H.out).mono ?_
  rintro e w1 ⟨rfl, b1⟩
  rw [HM.out]
  have X1 := Lib.hid (X.out.below b1)
  have B1 := Lib.hid (bnext B.out b1 B.out.size)
  have H1 := Lib.hid (steps_below H.out b1)
  clear b1 H X B
  have K0 : Hid (w1.drew.cell? ⟨w.heap.size, 0, none⟩ = some (.int .u64 (mix x : Int)) ∧ w1.drew.cell? ⟨w.heap.size, 1, none⟩ = some (.int .u64 (twist x : Int)) ∧ Below w.heap.size w w1.drew) := ⟨X1.out.c0, X1.out.c1, B1.out.drew⟩
  have T : Hid (Calls Tryd.prog 10 #[.int .u64 (x : Int)] w1.drew fun e w' => e = .returned (pv (mix x) (twist x)) ∧ w'.cell? ⟨w.heap.size, 0, none⟩ = some (.int .u64 (mix x : Int)) ∧ w'.cell? ⟨w.heap.size, 1, none⟩ = some (.int .u64 (twist x : Int)) ∧ Below w.heap.size w w') :=
    (number_any x hx w1.drew H1.out).mono fun _ _ ⟨he, hb⟩ => ⟨he, (X1.out.drew.below hb).c0, (X1.out.drew.below hb).c1, bnext (w1 := w1.drew) B1.out.drew hb B1.out.size⟩
  clear X1 B1 H1
  go_wp2_with fail
  go_region_held3 (fun w' => w'.cell? ⟨w.heap.size, 0, none⟩ = some (.int .u64 (mix x : Int)) ∧ w'.cell? ⟨w.heap.size, 1, none⟩ = some (.int .u64 (twist x : Int)) ∧ Below w.heap.size w w') (first | exact K0.out | assumption) (first
    | (go_at_call 10; refine T.out.mono ?_; rintro e w2 ⟨rfl, hk2⟩))
  go_wp2
  go_ret2
  exact ⟨rfl, hk2.2.2⟩
/-- no number has the pair (a, b). -/
theorem of_none (a b : Nat) (ha : a < 18446744073709551616) (hn : ¬ twist (unmix a) = b) (w : World) (h : mx.Steps w) : Calls Tryd.prog 16 #[pv a b] w fun e w' => e = .returned (.tuple #[.int .u64 0, .bool false]) ∧ Below w.heap.size w w' := by
  have b0 := (Below.refl w.heap.size w).alloc (Nat.le_refl _) (.cells #[.int .u64 (a : Int), .int .u64 (b : Int)] 26)
  have H := Lib.hid (steps_below h b0)
  have X := Lib.hid (box_new w a b)
  have B := Lib.hid b0
  have hm := mix_unmix a ha
  have hl := unmix_lt a
  have hU : Hid (∀ W, mx.Steps W → Calls Tryd.prog 27 #[.int .u64 (a : Int)] W fun e w' => e = .returned (.int .u64 (unmix a : Nat)) ∧ Below W.heap.size W w') := fun W hW => unmix_any a ha W hW
  have hN : Hid (∀ W, mx.Steps W → Calls Tryd.prog 10 #[.int .u64 (unmix a : Int)] W fun e w' => e = .returned (pv a (twist (unmix a))) ∧ Below W.heap.size W w') := fun W hW => (number_any (unmix a) hl W hW).mono fun _ _ ⟨he, hb⟩ => ⟨by rw [he, hm], hb⟩
  generalize twist (unmix a) = t at *
  generalize unmix a = x at *
  have hne : ¬ (t : Int) = (b : Int) := by omega
  have hne' : ((t : Int) == (b : Int)) = false := by simpa using hne
  clear h b0 hm hl
  go_enter Tryd.func16, Tryd.ntmps16
  go_wp2_with fail
  refine (hU.out _ H.out).mono ?_
  rintro e w1 ⟨rfl, b1⟩
  have X1 := Lib.hid (X.out.below b1)
  have B1 := Lib.hid (bnext B.out b1 B.out.size)
  have H1 := Lib.hid (steps_below H.out b1)
  clear b1 H X B
  have K0 : Hid (w1.drew.cell? ⟨w.heap.size, 0, none⟩ = some (.int .u64 (a : Int)) ∧ w1.drew.cell? ⟨w.heap.size, 1, none⟩ = some (.int .u64 (b : Int)) ∧ Below w.heap.size w w1.drew) := ⟨X1.out.c0, X1.out.c1, B1.out.drew⟩
  have T : Hid (Calls Tryd.prog 10 #[.int .u64 (x : Int)] w1.drew fun e w' => e = .returned (pv a t) ∧ w'.cell? ⟨w.heap.size, 0, none⟩ = some (.int .u64 (a : Int)) ∧ w'.cell? ⟨w.heap.size, 1, none⟩ = some (.int .u64 (b : Int)) ∧ Below w.heap.size w w') :=
    (hN.out w1.drew H1.out).mono fun _ _ ⟨he, hb⟩ => ⟨he, (X1.out.drew.below hb).c0, (X1.out.drew.below hb).c1, bnext (w1 := w1.drew) B1.out.drew hb B1.out.size⟩
  clear X1 B1 H1 hN hU
  go_wp2_with fail
  go_region_held3 (fun w' => w'.cell? ⟨w.heap.size, 0, none⟩ = some (.int .u64 (a : Int)) ∧ w'.cell? ⟨w.heap.size, 1, none⟩ = some (.int .u64 (b : Int)) ∧ Below w.heap.size w w') (first | exact K0.out | assumption) (first
    | (go_at_call 10; refine T.out.mono ?_; rintro e w2 ⟨rfl, hk2⟩))
  go_wp2
  go_ret2
  exact ⟨rfl, hk2.2.2⟩
theorem refcut_any (a b : Nat) (k : Int) (ha : a < 18446744073709551616) (w : World) : Calls Tryd.prog 14 #[pv a b, .int .i64 k] w fun e w' => e = .returned (pv (low a k) b) ∧ Below w.heap.size w w' := by
  have b0 := (Below.refl w.heap.size w).alloc (Nat.le_refl _) (.cells #[.int .u64 (a : Int), .int .u64 (b : Int)] 26)
  have b1 := b0.alloc b0.size (.cells #[.int .u64 ((0 : Nat) : Int), .int .u64 ((0 : Nat) : Int)] 26)
  have X : Hid (Box ((w.alloc (.cells #[.int .u64 (a : Int), .int .u64 (b : Int)] 26)).alloc (.cells #[.int .u64 ((0 : Nat) : Int), .int .u64 ((0 : Nat) : Int)] 26)) w.heap.size a b) := (box_new w a b).below ((Below.refl _ _).alloc (Nat.le_refl _) _)
  have Y : Hid (Box ((w.alloc (.cells #[.int .u64 (a : Int), .int .u64 (b : Int)] 26)).alloc (.cells #[.int .u64 ((0 : Nat) : Int), .int .u64 ((0 : Nat) : Int)] 26)) (w.heap.size + 1) 0 0) := by
    have := box_new (w.alloc (.cells #[.int .u64 (a : Int), .int .u64 (b : Int)] 26)) 0 0
    rwa [World.size_alloc] at this
  have B := Lib.hid b1
  clear b0 b1
  go_enter Tryd.func14, Tryd.ntmps14
  go_wp2_with fail
  go_region_with (go_at_call 26; refine (reflow_any a k ha _).mono ?_; rintro e w1 ⟨rfl, b1⟩; have q0 := (X.out.drew.below b1).c0; have q1 := (X.out.drew.below b1).c1; have r0 := (Y.out.drew.below b1).c0; have r1 := (Y.out.drew.below b1).c1; have s0 := (Y.out.drew.below b1).f0; have s1 := (Y.out.drew.below b1).f1; have B1 := Lib.hid (bnext B.out.drew b1 B.out.drew.size); clear b1)
  all_goals (go_wp2; exact bodyPost_ret (v := pv (low a k) b) (by simp [results, Tryd.results14, go_sem, back0 r0, back1 r1]) rfl ⟨rfl, bset B1.out (Nat.le_succ _) _ _⟩)
theorem awake_any (w : World) (h : mx.Steps w) : Calls Tryd.prog 6 #[] w fun e w' => e = .returned (.bool true) ∧ Below w.heap.size w w' := by
  have H := Lib.hid h
  clear h
  have T1 : Hid (∀ W, Calls Tryd.prog 15 #[.int .u64 515] W fun e w' => e = .returned (.int .i64 3) ∧ W = w') := fun W => shard_any 515 (by decide) W
  have T2 : Hid (∀ W, mx.Steps W → Calls Tryd.prog 10 #[.int .u64 1] W fun e w' => e = .returned (pv (mix 1) (twist 1)) ∧ Below W.heap.size W w') := fun W hW => number_any 1 (by decide) W hW
  have T3 : Hid (∀ W, Calls Tryd.prog 17 #[.int .u64 1] W fun e w' => e = .returned (pv (mix 1) (twist 1)) ∧ Below W.heap.size W w') := fun W => refnumber_any 1 (by decide) W
  generalize mix 1 = m at *
  generalize twist 1 = t at *
  go_enter Tryd.func6, Tryd.ntmps6
  go_wp2_with fail
  refine (T1.out _).mono ?_
  rintro e w1 ⟨rfl, rfl⟩
  go_wp2_with fail
  refine (T2.out _ H.out).mono ?_
  rintro e w1 ⟨rfl, b1⟩
  have B1 := Lib.hid b1
  clear b1
  go_wp2_with fail
  refine (T3.out _).mono ?_
  rintro e w2 ⟨rfl, b2⟩
  have B2 := Lib.hid (bnext B1.out b2 B1.out.size)
  clear b2
  go_wp2
  go_ret
  exact ⟨rfl, B2.out⟩
end Go.Proofs.YtmjcdondogpceaaDoor
