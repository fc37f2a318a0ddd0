/-
  DiceDraws walked: for every two lists of ints and every word it returns true; what was in memory stays.
-/
import Derived.Test.YthbniikenenijaaDoorDq
namespace Go.Proofs.YthbniikenenijaaDoor
open Go.RowKit
/-- an int of the slice, as it reads now. -/
theorem int_now {w : World} {p : Option Addr} {l : List Int} (hr : La w p l) (hb : ∀ x ∈ l, x < 9223372036854775808) (j : Nat) (hj : j < l.length) : ∃ (b o : Nat) (x : Int), p = some ⟨b, o, none⟩ ∧ x < 9223372036854775808 ∧ Hid (∀ V, Below w.heap.size w V → V.cell? ⟨b, o + j, none⟩ = some (.int .i64 x)) := by
  obtain ⟨b, o, hp, hi⟩ := hr (by omega)
  exact ⟨b, o, l[j], hp, hb _ (List.getElem_mem _), fun V hV => (hV.cell (p := ⟨b, o + j, none⟩) (World.block_lt_of_cell? w ⟨b, o + j, none⟩ (hi j hj))).trans (hi j hj)⟩
/-- the program's dice and the document's, side by side. -/
structure Both (w : World) (D X : Nat) (q a : Option Addr) (xs : List Int) (cap s u v : Nat) (V : World) : Prop where
  old : Below w.heap.size w V
  dice : Dc 39 xs.length V D q xs s u
  doc : Dc 29 cap V X a xs s v
  hD : w.heap.size ≤ D
  hX : w.heap.size ≤ X
  ne : D ≠ X
  hq : ∀ b o, q = some ⟨b, o, none⟩ → 0 < xs.length → b ≠ X
  ha : ∀ b o, a = some ⟨b, o, none⟩ → 0 < xs.length → b < w.heap.size
  tab : mx.Steps w
namespace Both
variable {w V : World} {D X : Nat} {q a : Option Addr} {xs : List Int} {cap s u v : Nat}
theorem of_dice {u' : Nat} {B : World} (h : Both w D X q a xs cap s u v V) (g : Go1 39 xs.length V D q xs s u' B) : Both w D X q a xs cap s u' v B :=
  ⟨h.old.trans (g.2.below (fun k hk e => by have := h.hD; omega) h.old.size), g.1, h.doc.keep g.2 (fun e => h.ne e.symm) (fun b o hb h0 e => by have := h.ha b o hb h0; have := h.hD; omega), h.hD, h.hX, h.ne, h.hq, h.ha, h.tab⟩
theorem of_doc {v' : Nat} {B : World} (h : Both w D X q a xs cap s u v V) (g : Go1 29 cap V X a xs s v' B) : Both w D X q a xs cap s u v' B :=
  ⟨h.old.trans (g.2.below (fun k hk e => by have := h.hX; omega) h.old.size), h.dice.keep g.2 h.ne h.hq, g.1, h.hD, h.hX, h.ne, h.hq, h.ha, h.tab⟩
theorem below {B : World} (h : Both w D X q a xs cap s u v V) (g : Below V.heap.size V B) : Both w D X q a xs cap s u v B :=
  ⟨h.old.trans (g.mono h.old.size), h.dice.below g, h.doc.below g, h.hD, h.hX, h.ne, h.hq, h.ha, h.tab⟩
theorem drewN (h : Both w D X q a xs cap s u v V) (n : Nat) : Both w D X q a xs cap s u v (V.drewN n) := h.below (below_drewN V n)
theorem steps (h : Both w D X q a xs cap s u v V) : mx.Steps V := h.tab.below h.old
theorem n7 (h : Both w D X q a xs cap s u v V) (hu : u ≤ 1000000) : Calls Tryd.prog 7 #[.pointer (some ⟨D, 0, none⟩)] V fun e B => e = .returned (.int .u64 (dr xs s u : Nat)) ∧ Hid (Both w D X q a xs cap s (u + 1) v B) :=
  (next7 h.dice h.steps hu).mono fun _ _ ⟨he, g⟩ => ⟨he, h.of_dice g.out⟩
theorem n8 (h : Both w D X q a xs cap s u v V) (hv : v ≤ 1000000) : Calls Tryd.prog 8 #[.pointer (some ⟨X, 0, none⟩)] V fun e B => e = .returned (.int .u64 (dr xs s v : Nat)) ∧ Hid (Both w D X q a xs cap s u (v + 1) B) :=
  (next8 h.doc hv).mono fun _ _ ⟨he, g⟩ => ⟨he, h.of_doc g.out⟩
theorem b9 (h : Both w D X q a xs cap s u v V) (hu : u ≤ 1000000) (n : Int) (hn : n < 9223372036854775808) : Calls Tryd.prog 9 #[.pointer (some ⟨D, 0, none⟩), .int .i64 n] V fun e B => e = .returned (.int .i64 (vlx xs s u n)) ∧ Hid (Both w D X q a xs cap s (unx u n) v B) :=
  (below9 h.dice h.steps hu n hn).mono fun _ _ ⟨he, g⟩ => ⟨he, h.of_dice g.out⟩
theorem b10 (h : Both w D X q a xs cap s u v V) (hv : v ≤ 1000000) (n : Int) (hn : n < 9223372036854775808) : Calls Tryd.prog 10 #[.pointer (some ⟨X, 0, none⟩), .int .i64 n] V fun e B => e = .returned (.int .i64 (vlx xs s v n)) ∧ Hid (Both w D X q a xs cap s u (unx v n) B) :=
  (below10 h.doc hv n hn).mono fun _ _ ⟨he, g⟩ => ⟨he, h.of_doc g.out⟩
theorem p12 (h : Both w D X q a xs cap s u v V) (hu : u ≤ 1000000) (k : Int) : Calls Tryd.prog 12 #[.pointer (some ⟨D, 0, none⟩), .int .i64 k] V fun e B => e = .returned (.int .u64 (dr xs s (u + nr k) : Nat)) ∧ Hid (Both w D X q a xs cap s u v B) :=
  (peek12 h.dice h.steps hu k).mono fun _ _ ⟨he, g⟩ => ⟨he, h.below g.out⟩
theorem a13 (h : Both w D X q a xs cap s u v V) (k : Nat) (hk : k ≤ 1000100) : Calls Tryd.prog 13 #[.slice a xs.length cap, .int .u64 (s : Int), .int .i64 (k : Int)] V fun e B => e = .returned (.int .u64 (dr xs s k : Nat)) ∧ Hid (Both w D X q a xs cap s u v B) :=
  (at13 a xs cap s k V h.doc.lst h.dice.len h.dice.s64 (by omega)).mono fun _ _ ⟨he, e⟩ => ⟨he, e ▸ h⟩
theorem k5 (h : Both w D X q a xs cap s u v V) : Calls Tryd.prog 5 #[] V fun e B => e = .returned (.bool true) ∧ Hid (Both w D X q a xs cap s u v B) :=
  (awake5 V h.steps).mono fun _ _ ⟨he, g⟩ => ⟨he, h.below g.out⟩
end Both
theorem Both.start {w B : World} {D : Nat} {q a : Option Addr} {xs : List Int} {cap s : Nat} (h : Nw w D q xs s 0 B) (ht : mx.Steps w) (hr : La w a xs) : Both w D B.heap.size q a xs cap s 0 0 (B.alloc (.cells #[.slice a xs.length cap, .int .u64 (s : Int), .int .i64 0] 29)) := by
  have hb : Below B.heap.size B (B.alloc (.cells #[.slice a xs.length cap, .int .u64 (s : Int), .int .i64 0] 29)) := (Below.refl _ _).alloc (Nat.le_refl _) _
  have hr' : ∀ b o, a = some ⟨b, o, none⟩ → 0 < xs.length → b < w.heap.size := fun b o ha h0 => by
    obtain ⟨b', o', e, hi⟩ := hr h0
    obtain ⟨rfl, rfl⟩ : b = b' ∧ o = o' := by rw [ha] at e; simpa using e
    exact World.block_lt_of_cell? w ⟨b, o + 0, none⟩ (hi 0 h0)
  have hz := h.2.2.2.size
  have hD := h.1.lt
  refine ⟨h.2.2.2.trans (hb.mono hz), h.1.below hb, ⟨heap_next rfl _, (hr.below h.2.2.2).below hb, fun b o ha h0 => ?_, h.1.len, h.1.s64⟩, h.2.1, hz, by omega, fun b o hq h0 => ?_, hr', ht⟩
  · have := hr' b o ha h0
    omega
  · obtain ⟨b', o', e, hi⟩ := h.1.lst h0
    obtain ⟨rfl, rfl⟩ : b = b' ∧ o = o' := by rw [hq] at e; simpa using e
    have : b < B.heap.size := World.block_lt_of_cell? B ⟨b, o + 0, none⟩ (hi 0 h0)
    omega
theorem used_quiet {w V : World} {D X : Nat} {q a : Option Addr} {xs : List Int} {cap s u v : Nat} (h : Both w D X q a xs cap s u v V) (n : Nat) : Calls Tryd.prog 11 #[.pointer (some ⟨D, 0, none⟩)] (V.drewN n) fun e B => e = .returned (.int .i64 (u : Int)) ∧ V.drewN n = B :=
  (used11 (h.drewN n).dice).mono fun _ _ ⟨he, e⟩ => ⟨he, e.symm⟩
set_option maxRecDepth 100000 in
set_option maxHeartbeats 2000000 in
theorem draws_some (a : Option Addr) (cap : Nat) (xs : List Int) (s : Nat) (p : Option Addr) (cap' : Nat) (bs : List Int) (w : World) (ht : mx.Steps w) (hn : a = none → xs = []) (hl : xs.length ≤ 17592186044415) (hr : La w a xs) (hs : s < 18446744073709551616) (hb : La w p bs) (hbl : bs.length ≤ 60) (hbr : ∀ x ∈ bs, x < 9223372036854775808) :
    Calls Tryd.prog 3 #[.slice a xs.length cap, .int .u64 (s : Int), .slice p bs.length cap'] w fun e B => e = .returned (.bool true) ∧ Below w.heap.size w B := by
  have N6 := Lib.hid (new6 a xs cap s w hn hl hr hs)
  have S0 : Hid (∀ D q B, Hid (Nw w D q xs s 0 B) → Both w D B.heap.size q a xs cap s 0 0 (B.alloc (.cells #[.slice a xs.length cap, .int .u64 (s : Int), .int .i64 0] 29))) := fun D q B h => Both.start h.out ht hr
  have C : Hid (∀ j, j < bs.length → ∃ (b o : Nat) (x : Int), p = some ⟨b, o, none⟩ ∧ x < 9223372036854775808 ∧ Hid (∀ V, Below w.heap.size w V → V.cell? ⟨b, o + j, none⟩ = some (.int .i64 x))) := fun j hj => int_now hb hbr j hj
  have A13 : Hid (∀ D X q u v V, Both w D X q a xs cap s u v V → ∀ k : Nat, k ≤ 1000100 → Calls Tryd.prog 13 #[.slice a xs.length cap, .int .u64 (s : Int), .int .i64 (k : Int)] V fun e B => e = .returned (.int .u64 (dr xs s k : Nat)) ∧ Hid (Both w D X q a xs cap s u v B)) := fun D X q u v V h k hk => h.a13 k hk
  clear hr hb hbr ht hn hs
  obtain ⟨len, hlen⟩ : ∃ len, bs.length = len := ⟨_, rfl⟩
  rw [hlen] at C hbl ⊢
  clear hlen
  obtain ⟨n, hn⟩ : ∃ n, xs.length = n := ⟨_, rfl⟩
  rw [hn] at N6 S0 A13 hl ⊢
  clear hn
  go_enter Tryd.func3, Tryd.ntmps3
  go_wp2_with fail
  refine N6.out.mono ?_
  rintro e w1 ⟨D, q, rfl, N7⟩
  have H0 := Lib.hid (S0.out _ _ _ N7)
  clear N6 N7 S0
  generalize hX : w1.heap.size = X at *
  go_wp2_with fail
  go_loopw [9] (fun i wr => ∃ j : Nat, j ≤ len ∧ i = .int .i64 j ∧ ∃ u, u ≤ j ∧ Hid (Both w D X q a xs cap s u u wr)) (fun i _ => len - (intOf i).toNat)
  case atStart => exact ⟨0, by omega, rfl, 0, by omega, H0⟩
  case round =>
    obtain ⟨i, hi, rfl, u, hu, hI⟩ := hrel
    clear H0
    by_cases hlt : i < len
    · obtain ⟨b, o, x, rfl, hx, CY⟩ := C.out i hlt
      have d0 := CY.out wr hI.out.old
      have h1 : (0 : Int) ≤ (i : Int) := by omega
      have h2 : (i : Int) < (len : Int) := by omega
      clear C
      by_cases h7 : x = 7
      · subst h7
        have h7' : ((7 : Int) == 7) = true := by decide
        have T7 := Lib.hid (hI.out.n7 (by omega))
        have T8 : Hid (∀ V, Hid (Both w D X q a xs cap s (u + 1) u V) → Calls Tryd.prog 8 #[.pointer (some ⟨X, 0, none⟩)] V fun e B => e = .returned (.int .u64 (dr xs s u : Nat)) ∧ Hid (Both w D X q a xs cap s (u + 1) (u + 1) B)) := fun V hV => hV.out.n8 (by omega)
        clear hI hx CY
        generalize dr xs s u = y at *
        go_wp2_with fail
        refine T7.out.mono ?_
        rintro e w2 ⟨rfl, H2⟩
        clear T7
        go_wp2_with fail
        refine (T8.out _ H2).mono ?_
        rintro e w3 ⟨rfl, H3⟩
        have U := Lib.hid (used_quiet H3.out)
        have c2 := H3.out.doc.c2
        have H4 : Hid (∀ n, Hid (Both w D X q a xs cap s (u + 1) (u + 1) (w3.drewN n))) := fun n => H3.out.drewN n
        clear T8 H3 d0 H2
        have eu : ((u + 1 : Nat) : Int) = (u : Int) + 1 := by omega
        rw [eu] at U c2
        clear eu
        go_wp2
        go_quiet ((go_at_call 11; exact mx.quiet_still (U.out _)))
        go_wp2
        go_roundw
        case rel => exact ⟨i + 1, by omega, by simp, u + 1, by omega, H4.out _⟩
        case measure => simp [intOf]; omega
      · have h7' : ((x : Int) == 7) = false := by simpa using h7
        have K0 : Hid (wr.drew.cell? ⟨b, o + i, none⟩ = some (.int .i64 x)) := d0
        have T9 : Hid (Calls Tryd.prog 9 #[.pointer (some ⟨D, 0, none⟩), .int .i64 x] wr.drew fun e B => e = .returned (.int .i64 (vlx xs s u x)) ∧ B.cell? ⟨b, o + i, none⟩ = some (.int .i64 x) ∧ Hid (Both w D X q a xs cap s (unx u x) u B)) :=
          ((hI.out.drewN 1).b9 (by omega) x hx).mono fun e B ⟨he, h⟩ => ⟨he, CY.out _ h.out.old, h⟩
        have T10 : Hid (∀ V, Hid (Both w D X q a xs cap s (unx u x) u V) → Calls Tryd.prog 10 #[.pointer (some ⟨X, 0, none⟩), .int .i64 x] V fun e B => e = .returned (.int .i64 (vlx xs s u x)) ∧ B.cell? ⟨b, o + i, none⟩ = some (.int .i64 x) ∧ Hid (Both w D X q a xs cap s (unx u x) (unx u x) B)) := fun V hV =>
          (hV.out.b10 (by omega) x hx).mono fun e B ⟨he, h⟩ => ⟨he, CY.out _ h.out.old, h⟩
        have hu' : unx u x ≤ i + 1 := by unfold unx; split <;> omega
        clear hI CY
        generalize vlx xs s u x = y at *
        generalize unx u x = z at *
        go_wp2_with fail
        go_region_held3 (fun V => V.cell? ⟨b, o + i, none⟩ = some (.int .i64 x)) (first | exact K0.out | assumption) (first
          | (go_at_call 10; refine (T10.out _ h9).mono ?_; rintro e w3 ⟨rfl, k10, H3⟩)
          | (go_at_call 9; refine T9.out.mono ?_; rintro e w2 ⟨rfl, k9, h9⟩))
        have U := Lib.hid (used_quiet H3.out)
        have c2 := H3.out.doc.c2
        have H4 : Hid (∀ n, Hid (Both w D X q a xs cap s z z (w3.drewN n))) := fun n => H3.out.drewN n
        clear T9 T10 H3 d0 h9
        go_wp2
        go_quiet ((go_at_call 11; exact mx.quiet_still (U.out _)))
        go_wp2
        go_roundw
        case rel => exact ⟨i + 1, by omega, by simp, z, by omega, H4.out _⟩
        case measure => simp [intOf]; omega
    · obtain rfl : i = len := by omega
      have K0 : Hid (wr.drew.cell? ⟨X, 2, none⟩ = some (.int .i64 (u : Int))) := (hI.out.drewN 1).doc.c2
      have P3 : Hid (Calls Tryd.prog 12 #[.pointer (some ⟨D, 0, none⟩), .int .i64 3] wr.drew fun e B => e = .returned (.int .u64 (dr xs s (u + 3) : Nat)) ∧ B.cell? ⟨X, 2, none⟩ = some (.int .i64 (u : Int)) ∧ Hid (Both w D X q a xs cap s u u B)) :=
        ((hI.out.drewN 1).p12 (by omega) 3).mono fun e B ⟨he, h⟩ => ⟨he, h.out.doc.c2, h⟩
      have A3 : Hid (∀ V, Hid (Both w D X q a xs cap s u u V) → Calls Tryd.prog 13 #[.slice a n cap, .int .u64 (s : Int), .int .i64 ((u : Int) + 3)] V fun e B => e = .returned (.int .u64 (dr xs s (u + 3) : Nat)) ∧ B.cell? ⟨X, 2, none⟩ = some (.int .i64 (u : Int)) ∧ Hid (Both w D X q a xs cap s u u B)) := fun V hV =>
        (A13.out D X q u u V hV.out (u + 3) (by omega)).mono fun e B ⟨he, h⟩ => ⟨he, h.out.doc.c2, h⟩
      have P0 : Hid (∀ V, Hid (Both w D X q a xs cap s u u V) → Calls Tryd.prog 12 #[.pointer (some ⟨D, 0, none⟩), .int .i64 (-1)] V fun e B => e = .returned (.int .u64 (dr xs s u : Nat)) ∧ B.cell? ⟨X, 2, none⟩ = some (.int .i64 (u : Int)) ∧ Hid (Both w D X q a xs cap s u u B)) := fun V hV =>
        (hV.out.p12 (by omega) (-1)).mono fun e B ⟨he, h⟩ => ⟨he, h.out.doc.c2, h⟩
      have A0 : Hid (∀ V, Hid (Both w D X q a xs cap s u u V) → Calls Tryd.prog 13 #[.slice a n cap, .int .u64 (s : Int), .int .i64 (u : Int)] V fun e B => e = .returned (.int .u64 (dr xs s u : Nat)) ∧ B.cell? ⟨X, 2, none⟩ = some (.int .i64 (u : Int)) ∧ Hid (Both w D X q a xs cap s u u B)) := fun V hV =>
        (A13.out D X q u u V hV.out u (by omega)).mono fun e B ⟨he, h⟩ => ⟨he, h.out.doc.c2, h⟩
      have K5 : Hid (∀ V, Hid (Both w D X q a xs cap s u u V) → Calls Tryd.prog 5 #[] V fun e B => e = .returned (.bool true) ∧ B.cell? ⟨X, 2, none⟩ = some (.int .i64 (u : Int)) ∧ Hid (Both w D X q a xs cap s u u B)) := fun V hV =>
        hV.out.k5.mono fun e B ⟨he, h⟩ => ⟨he, h.out.doc.c2, h⟩
      have F : Hid (∀ V, Hid (Both w D X q a xs cap s u u V) → Below w.heap.size w V) := fun V hV => hV.out.old
      clear hI C A13
      generalize dr xs s (u + 3) = y3 at *
      generalize dr xs s u = y0 at *
      have e3 : ((y3 : Int) == (y3 : Int)) = true := by simp
      have v3 : IntKind.i64.wrap ((u : Int) + 3) = (u : Int) + 3 := by rw [IntKind.wrap_i64]; omega
      have v3' : wrap64 ((u : Int) + 3) = (u : Int) + 3 := by unfold wrap64; omega
      have e0 : ((y0 : Int) == (y0 : Int)) = true := by simp
      go_wp2_with fail
      go_region_held3 (fun V => V.cell? ⟨X, 2, none⟩ = some (.int .i64 (u : Int))) (first | exact K0.out | assumption) (first
        | (go_at_call 5; refine (K5.out _ h4).mono ?_; rintro e w6 ⟨rfl, k5, h5⟩)
        | (go_at_call 13; refine (A0.out _ h3).mono ?_; rintro e w5 ⟨rfl, k4, h4⟩)
        | (go_at_call 12; refine (P0.out _ h2).mono ?_; rintro e w4 ⟨rfl, k3, h3⟩)
        | (go_at_call 13; refine (A3.out _ h1').mono ?_; rintro e w3 ⟨rfl, k2, h2⟩)
        | (go_at_call 12; refine P3.out.mono ?_; rintro e w2 ⟨rfl, k1, h1'⟩))
      go_wp2
      go_ret
      exact ⟨rfl, F.out _ h5⟩
theorem draws_walk (a : Option Addr) (cap : Nat) (xs : List Int) (s : Nat) (p : Option Addr) (cap' : Nat) (bs : List Int) (w : World) (ht : mx.Steps w) (hn : a = none → xs = []) (hl : xs.length ≤ 17592186044415) (hr : La w a xs) (hs : s < 18446744073709551616) (hb : La w p bs) (hbr : ∀ x ∈ bs, x < 9223372036854775808) :
    Calls Tryd.prog 3 #[.slice a xs.length cap, .int .u64 (s : Int), .slice p bs.length cap'] w fun e B => e = .returned (.bool true) ∧ Below w.heap.size w B := by
  by_cases h60 : bs.length ≤ 60
  · exact draws_some a cap xs s p cap' bs w ht hn hl hr hs hb h60 hbr
  · have h : (60 : Int) < (bs.length : Int) := by omega
    have AW := Lib.hid (awake5 w ht)
    clear hr hl hs hb hbr h60 hn ht
    generalize bs.length = len at *
    generalize xs.length = n at *
    go_enter Tryd.func3, Tryd.ntmps3
    go_wp2_with fail
    refine AW.out.mono ?_
    rintro e w1 ⟨rfl, hb⟩
    go_wp2
    go_ret
    exact ⟨rfl, hb.out⟩
end Go.Proofs.YthbniikenenijaaDoor
