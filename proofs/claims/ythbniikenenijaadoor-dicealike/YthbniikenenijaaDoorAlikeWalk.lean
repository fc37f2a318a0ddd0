/-
  DiceAlike walked: for every two lists of ints and every word it returns true; what was in memory stays.
-/
import Derived.Test.YthbniikenenijaaDoorDrawsWalk
namespace Go.Proofs.YthbniikenenijaaDoor
open Go.RowKit
/-- the dice, behind some draws. -/
structure Sd (w : World) (D : Nat) (q : Option Addr) (xs : List Int) (s u : Nat) (V : World) : Prop where
  old : Below w.heap.size w V
  dice : Dc 39 xs.length V D q xs s u
  hD : w.heap.size ≤ D
  tab : mx.Steps w
/-- .. and a clone beside. -/
structure Two (w : World) (D C : Nat) (q r : Option Addr) (xs : List Int) (s u v : Nat) (V : World) : Prop where
  one : Sd w D q xs s u V
  two : Dc 39 xs.length V C r xs s v
  hC : w.heap.size ≤ C
  ne : D ≠ C
  hq : ∀ b o, q = some ⟨b, o, none⟩ → 0 < xs.length → b ≠ C
  hr : ∀ b o, r = some ⟨b, o, none⟩ → 0 < xs.length → b ≠ D
theorem Dc.list_lt {t cap : Nat} {w : World} {D : Nat} {q : Option Addr} {xs : List Int} {s u : Nat} (h : Dc t cap w D q xs s u) : ∀ b o, q = some ⟨b, o, none⟩ → 0 < xs.length → b < w.heap.size := fun b o hq h0 => by
  obtain ⟨b', o', e, hi⟩ := h.lst h0
  obtain ⟨rfl, rfl⟩ : b = b' ∧ o = o' := by rw [hq] at e; simpa using e
  exact World.block_lt_of_cell? w ⟨b, o + 0, none⟩ (hi 0 h0)
theorem Dc.list_nil {t cap : Nat} {w : World} {D : Nat} {q : Option Addr} {xs : List Int} {s u : Nat} (h : Dc t cap w D q xs s u) (hq : q = none) : xs = [] := by
  rcases Nat.eq_zero_or_pos xs.length with h0 | h0
  · exact List.eq_nil_of_length_eq_zero h0
  · obtain ⟨b, o, e, _⟩ := h.lst h0
    rw [hq] at e
    cases e
section
variable {w V : World} {D C : Nat} {q r : Option Addr} {xs : List Int} {s u v : Nat}
theorem Sd.steps (h : Sd w D q xs s u V) : mx.Steps V := h.tab.below h.old
theorem Sd.below {B : World} (h : Sd w D q xs s u V) (g : Below V.heap.size V B) : Sd w D q xs s u B := ⟨h.old.trans (g.mono h.old.size), h.dice.below g, h.hD, h.tab⟩
theorem Sd.c14 (h : Sd w D q xs s u V) (hl : xs.length ≤ 17592186044415) : Calls Tryd.prog 14 #[.pointer (some ⟨D, 0, none⟩)] V fun e B => ∃ C r, e = .returned (.pointer (some ⟨C, 0, none⟩)) ∧ Hid (Two w D C q r xs s u u B) :=
  (clone14 h.dice hl h.dice.list_nil).mono fun _ B ⟨C, r, he, g⟩ => ⟨C, r, he, h.below g.out.2.2.2, g.out.1, Nat.le_trans h.old.size g.out.2.1, by have := h.dice.lt; have := g.out.2.1; omega, fun b o hq h0 => by
    have := h.dice.list_lt b o hq h0
    have := g.out.2.1
    omega, fun b o hr h0 => by
    have := g.out.2.2.1 b o hr
    have := h.dice.lt
    omega⟩
theorem Two.below {B : World} (h : Two w D C q r xs s u v V) (g : Below V.heap.size V B) : Two w D C q r xs s u v B := ⟨h.one.below g, h.two.below g, h.hC, h.ne, h.hq, h.hr⟩
theorem Two.peekC (h : Two w D C q r xs s u v V) (hv : v ≤ 1000000) : Calls Tryd.prog 12 #[.pointer (some ⟨C, 0, none⟩), .int .i64 0] V fun e B => e = .returned (.int .u64 (dr xs s v : Nat)) ∧ Hid (Two w D C q r xs s u v B) :=
  (peek12 h.two h.one.steps hv 0).mono fun _ _ ⟨he, g⟩ => ⟨he, h.below g.out⟩
theorem Two.peekD (h : Two w D C q r xs s u v V) (hu : u ≤ 1000000) : Calls Tryd.prog 12 #[.pointer (some ⟨D, 0, none⟩), .int .i64 0] V fun e B => e = .returned (.int .u64 (dr xs s u : Nat)) ∧ Hid (Two w D C q r xs s u v B) :=
  (peek12 h.one.dice h.one.steps hu 0).mono fun _ _ ⟨he, g⟩ => ⟨he, h.below g.out⟩
theorem Two.belowD (h : Two w D C q r xs s u v V) (hu : u ≤ 1000000) (n : Int) (hn : n < 9223372036854775808) : Calls Tryd.prog 9 #[.pointer (some ⟨D, 0, none⟩), .int .i64 n] V fun e B => e = .returned (.int .i64 (vlx xs s u n)) ∧ Hid (Two w D C q r xs s (unx u n) v B) :=
  (below9 h.one.dice h.one.steps hu n hn).mono fun _ _ ⟨he, g⟩ => ⟨he, ⟨h.one.old.trans (g.out.2.below (fun k hk e => by have := h.one.hD; omega) h.one.old.size), g.out.1, h.one.hD, h.one.tab⟩, h.two.keep g.out.2 (fun e => h.ne e.symm) h.hr, h.hC, h.ne, h.hq, h.hr⟩
theorem Two.belowC (h : Two w D C q r xs s u v V) (hv : v ≤ 1000000) (n : Int) (hn : n < 9223372036854775808) : Calls Tryd.prog 9 #[.pointer (some ⟨C, 0, none⟩), .int .i64 n] V fun e B => e = .returned (.int .i64 (vlx xs s v n)) ∧ Hid (Two w D C q r xs s u (unx v n) B) :=
  (below9 h.two h.one.steps hv n hn).mono fun _ _ ⟨he, g⟩ => ⟨he, ⟨h.one.old.trans (g.out.2.below (fun k hk e => by have := h.hC; omega) h.one.old.size), h.one.dice.keep g.out.2 h.ne h.hq, h.one.hD, h.one.tab⟩, g.out.1, h.hC, h.ne, h.hq, h.hr⟩
theorem Two.usedD (h : Two w D C q r xs s u v V) : Calls Tryd.prog 11 #[.pointer (some ⟨D, 0, none⟩)] V fun e B => e = .returned (.int .i64 (u : Int)) ∧ B = V := used11 h.one.dice
theorem Two.usedC (h : Two w D C q r xs s u v V) : Calls Tryd.prog 11 #[.pointer (some ⟨C, 0, none⟩)] V fun e B => e = .returned (.int .i64 (v : Int)) ∧ B = V := used11 h.two
end
set_option maxRecDepth 100000 in
set_option maxHeartbeats 2000000 in
theorem alike_some (a : Option Addr) (cap : Nat) (xs : List Int) (s : Nat) (p : Option Addr) (cap' : Nat) (bs : List Int) (w : World) (ht : mx.Steps w) (hn : a = none → xs = []) (hl : xs.length ≤ 17592186044415) (hr : La w a xs) (hs : s < 18446744073709551616) (hb : La w p bs) (hbl : bs.length ≤ 60) (hbr : ∀ x ∈ bs, x < 9223372036854775808) :
    Calls Tryd.prog 4 #[.slice a xs.length cap, .int .u64 (s : Int), .slice p bs.length cap'] w fun e B => e = .returned (.bool true) ∧ Below w.heap.size w B := by
  have N6 := Lib.hid (new6 a xs cap s w hn hl hr hs)
  have S0 : Hid (∀ D q B, Hid (Nw w D q xs s 0 B) → Sd w D q xs s 0 B) := fun D q B h => ⟨h.out.2.2.2, h.out.1, h.out.2.1, ht⟩
  have C14 : Hid (∀ D q u V, Hid (Sd w D q xs s u V) → Calls Tryd.prog 14 #[.pointer (some ⟨D, 0, none⟩)] V fun e B => ∃ C r, e = .returned (.pointer (some ⟨C, 0, none⟩)) ∧ Hid (Two w D C q r xs s u u B)) := fun D q u V h => h.out.c14 hl
  have C : Hid (∀ j, j < bs.length → ∃ (b o : Nat) (x : Int), p = some ⟨b, o, none⟩ ∧ x < 9223372036854775808 ∧ Hid (∀ V, Below w.heap.size w V → V.cell? ⟨b, o + j, none⟩ = some (.int .i64 x))) := fun j hj => int_now hb hbr j hj
  clear hr hb hbr ht hn hs hl
  obtain ⟨len, hlen⟩ : ∃ len, bs.length = len := ⟨_, rfl⟩
  rw [hlen] at C hbl ⊢
  clear hlen
  obtain ⟨n, hn⟩ : ∃ n, xs.length = n := ⟨_, rfl⟩
  rw [hn] at N6 ⊢
  clear hn
  go_enter Tryd.func4, Tryd.ntmps4
  go_wp2_with fail
  refine N6.out.mono ?_
  rintro e w1 ⟨D, q, rfl, N7⟩
  have H0 := Lib.hid (S0.out _ _ _ N7)
  clear N6 N7 S0
  go_wp2_with fail
  go_loopw [8, 9] (fun _ i wr => ∃ j : Nat, j ≤ len ∧ i = .int .i64 j ∧ ∃ u, u ≤ j ∧ Hid (Sd w D q xs s u wr)) (fun _ i _ => len - (intOf i).toNat)
  case atStart => exact ⟨0, by omega, rfl, 0, by omega, H0⟩
  case round =>
    obtain ⟨i, hi, rfl, u, hu, hI⟩ := hrel
    clear H0
    by_cases hlt : i < len
    · obtain ⟨b, o, x, rfl, hx, CY⟩ := C.out i hlt
      have h1 : (0 : Int) ≤ (i : Int) := by omega
      have h2 : (i : Int) < (len : Int) := by omega
      clear C
      have T14 := Lib.hid (C14.out _ _ _ _ hI)
      clear C14 hI
      go_wp2_with fail
      refine T14.out.mono ?_
      rintro e w2 ⟨C, r, rfl, H2⟩
      clear T14
      have T12 := Lib.hid (H2.out.peekC (by omega))
      have T9 : Hid (∀ V, Hid (Two w D C q r xs s u u V) → Calls Tryd.prog 9 #[.pointer (some ⟨D, 0, none⟩), .int .i64 x] V fun e B => e = .returned (.int .i64 (vlx xs s u x)) ∧ Hid (Two w D C q r xs s (unx u x) u B)) := fun V hV => hV.out.belowD (by omega) x hx
      have T9' : Hid (∀ V, Hid (Two w D C q r xs s (unx u x) u V) → Calls Tryd.prog 9 #[.pointer (some ⟨C, 0, none⟩), .int .i64 x] V fun e B => e = .returned (.int .i64 (vlx xs s u x)) ∧ Hid (Two w D C q r xs s (unx u x) (unx u x) B)) := fun V hV => hV.out.belowC (by omega) x hx
      have hu' : unx u x ≤ i + 1 := by unfold unx; split <;> omega
      have DC : Hid (∀ V, Below w.heap.size w V → V.cell? ⟨b, o + i, none⟩ = some (.int .i64 x)) := CY
      clear CY
      by_cases h0 : 0 < x
      · obtain ⟨m, rfl⟩ : ∃ m : Nat, x = (m : Int) := ⟨x.toNat, by omega⟩
        have hm : 0 < m ∧ m < 9223372036854775808 := by omega
        have ey : vlx xs s u (m : Int) = ((dr xs s u % m : Nat) : Int) := by unfold vlx; rw [if_neg (by omega), Int.toNat_natCast]
        have hd := dr_lt xs s u
        have hr := Nat.mod_lt (dr xs s u) hm.1
        have v1 : IntKind.u64.wrap (m : Int) = (m : Int) := by rw [IntKind.wrap_u64]; omega
        rw [ey] at T9 T9'
        clear ey hx h0
        generalize dr xs s u = d at *
        have v2 : IntKind.i64.wrap ((d : Int) % (m : Int)) = ((d % m : Nat) : Int) := by rw [IntKind.wrap_i64]; omega
        generalize unx u (m : Int) = z at *
        go_wp2_with fail
        refine T12.out.mono ?_
        rintro e w3 ⟨rfl, H3⟩
        have d3 := DC.out w3 H3.out.one.old
        have T9v := Lib.hid (T9.out w3 H3)
        clear T12 H2 H3 T9
        go_wp2_with fail
        refine T9v.out.mono ?_
        rintro e w4 ⟨rfl, H4⟩
        clear T9v d3
        have d4 := DC.out w4 H4.out.one.old
        have T9w := Lib.hid (T9'.out w4 H4)
        clear H4 T9'
        go_wp2_with fail
        refine T9w.out.mono ?_
        rintro e w5 ⟨rfl, H5⟩
        clear T9w d4
        have d5 := DC.out w5 H5.out.one.old
        have UD := Lib.hid H5.out.usedD
        have UC := Lib.hid H5.out.usedC
        clear DC
        go_wp2_with fail
        refine UD.out.mono ?_
        rintro e w6 ⟨rfl, h6⟩
        obtain rfl : w5 = w6 := h6.symm
        go_wp2_with fail
        refine UC.out.mono ?_
        rintro e w6 ⟨rfl, h6⟩
        obtain rfl : w5 = w6 := h6.symm
        clear UD UC
        have g1 : ((d % m : Nat) : Int) < (m : Int) := by omega
        go_wp2
        go_roundw
        case rel => exact ⟨i + 1, by omega, by simp, z, by omega, H5.out.one⟩
        case measure => simp [intOf]; omega
      · have hx1 : x < 1 := by omega
        have ey : vlx xs s u x = 0 := by unfold vlx; rw [if_pos hx1]
        have ez : unx u x = u := by unfold unx; rw [if_pos hx1]
        rw [ey, ez] at T9 T9'
        have TP : Hid (∀ V, Hid (Two w D C q r xs s u u V) → Calls Tryd.prog 12 #[.pointer (some ⟨D, 0, none⟩), .int .i64 0] V fun e B => e = .returned (.int .u64 (dr xs s u : Nat)) ∧ Hid (Two w D C q r xs s u u B)) := fun V hV => hV.out.peekD (by omega)
        clear ey ez hu'
        generalize dr xs s u = d at *
        go_wp2_with fail
        refine T12.out.mono ?_
        rintro e w3 ⟨rfl, H3⟩
        have d3 := DC.out w3 H3.out.one.old
        have T9v := Lib.hid (T9.out w3 H3)
        clear T12 H2 H3 T9
        go_wp2_with fail
        refine T9v.out.mono ?_
        rintro e w4 ⟨rfl, H4⟩
        clear T9v d3
        have d4 := DC.out w4 H4.out.one.old
        have T9w := Lib.hid (T9'.out w4 H4)
        clear H4 T9'
        go_wp2_with fail
        refine T9w.out.mono ?_
        rintro e w5 ⟨rfl, H5⟩
        clear T9w d4
        have d5 := DC.out w5 H5.out.one.old
        have UD := Lib.hid H5.out.usedD
        have UC := Lib.hid H5.out.usedC
        have TQ := Lib.hid (TP.out w5 H5)
        clear DC TP H5
        go_wp2_with fail
        refine UD.out.mono ?_
        rintro e w6 ⟨rfl, h6⟩
        obtain rfl : w5 = w6 := h6.symm
        go_wp2_with fail
        refine UC.out.mono ?_
        rintro e w6 ⟨rfl, h6⟩
        obtain rfl : w5 = w6 := h6.symm
        clear UD UC
        go_wp2_with fail
        refine TQ.out.mono ?_
        rintro e w6 ⟨rfl, H6⟩
        clear TQ
        go_wp2
        go_roundw
        case rel => exact ⟨i + 1, by omega, by simp, u, by omega, H6.out.one⟩
        case measure => simp [intOf]; omega
    · obtain rfl : i = len := by omega
      have AW := Lib.hid (awake5 wr hI.out.steps)
      have F : Hid (∀ V, Below wr.heap.size wr V → Below w.heap.size w V) := fun V hV => (hI.out.below hV).old
      clear hI C C14
      go_wp2_with (first
        | (go_at_call 7; refine (none7 wr).mono ?_; rintro e w3 ⟨rfl, e3⟩; obtain rfl : wr = w3 := e3.symm)
        | (go_at_call 9; refine (none9 wr 5 (by decide) (by decide)).mono ?_; rintro e w3 ⟨rfl, e3⟩; obtain rfl : wr = w3 := e3.symm)
        | (go_at_call 11; refine (none11 wr).mono ?_; rintro e w3 ⟨rfl, e3⟩; obtain rfl : wr = w3 := e3.symm)
        | (go_at_call 12; refine (none12 wr 1).mono ?_; rintro e w3 ⟨rfl, e3⟩; obtain rfl : wr = w3 := e3.symm)
        | (go_at_call 14; refine (none14 wr).mono ?_; rintro e w3 ⟨rfl, e3⟩; obtain rfl : wr = w3 := e3.symm)
        | (go_at_call 5; refine AW.out.mono ?_; rintro e w4 ⟨rfl, hb4⟩))
      go_ret
      exact ⟨rfl, F.out _ hb4.out⟩
theorem alike_walk (a : Option Addr) (cap : Nat) (xs : List Int) (s : Nat) (p : Option Addr) (cap' : Nat) (bs : List Int) (w : World) (ht : mx.Steps w) (hn : a = none → xs = []) (hl : xs.length ≤ 17592186044415) (hr : La w a xs) (hs : s < 18446744073709551616) (hb : La w p bs) (hbr : ∀ x ∈ bs, x < 9223372036854775808) :
    Calls Tryd.prog 4 #[.slice a xs.length cap, .int .u64 (s : Int), .slice p bs.length cap'] w fun e B => e = .returned (.bool true) ∧ Below w.heap.size w B := by
  by_cases h60 : bs.length ≤ 60
  · exact alike_some a cap xs s p cap' bs w ht hn hl hr hs hb h60 hbr
  · have h : (60 : Int) < (bs.length : Int) := by omega
    have AW := Lib.hid (awake5 w ht)
    clear hr hl hs hb hbr h60 hn ht
    generalize bs.length = len at *
    generalize xs.length = n at *
    go_enter Tryd.func4, Tryd.ntmps4
    go_wp2_with fail
    refine AW.out.mono ?_
    rintro e w1 ⟨rfl, hb⟩
    go_wp2
    go_ret
    exact ⟨rfl, hb.out⟩
end Go.Proofs.YthbniikenenijaaDoor
