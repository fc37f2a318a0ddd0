/-
  TinyRises, walked: true for every int, every seed and every slice of keys.
-/
import Derived.Test.YthjbkabkoolfdaaDoorTa
namespace Go.Proofs.YthjbkabkoolfdaaDoor
open Go.RowKit
open nb (Keep ct cell_of frozen_of heap_set heap_set_other heap_old heap_next heap_lt addAt mayAdd)
/-- no tiny is pushed onto. -/
theorem push_none (w W : World) (hw : Below w.heap.size w W) (p : Option Addr) (cap : Nat) (l : List Nat) (hk : Keys w p l) (hl : l.length ≤ 1000000) :
    Calls Tryd.prog 8 #[.pointer none, .slice p l.length cap] W fun e B => e = .returned (.tuple #[]) ∧ B = W := by
  have G : Hid (∀ j, j < l.length → ∃ b o x, p = some ⟨b, o, none⟩ ∧ W.cell? ⟨b, o + j, none⟩ = some (.int .u64 (x : Int))) := fun j hj => by
    obtain ⟨b, o, x, hp, _, _, hc⟩ := hk.at_ hw j hj
    exact ⟨b, o, x, hp, hc⟩
  have P := Lib.hid none16
  clear hk hw
  generalize l.length = len at *
  go_enter Tryd.func8, Tryd.ntmps8
  go_wp2_with fail
  go_loopw [8] (fun i wr => ∃ j : Nat, j ≤ len ∧ i = .int .i64 j ∧ wr = W) (fun i _ => len - (intOf i).toNat)
  case atStart => exact ⟨0, by omega, rfl, rfl⟩
  case round =>
    obtain ⟨j, hj, rfl, rfl⟩ := hrel
    by_cases hlt : j < len
    · obtain ⟨b, o, x, rfl, d0⟩ := G.out j hlt
      have h1 : (0 : Int) ≤ (j : Int) := by omega
      have h2 : (j : Int) < (len : Int) := by omega
      clear G
      go_wp2_with fail
      refine (P.out _ _).mono ?_
      rintro e w2 ⟨rfl, rfl⟩
      go_wp2
      go_roundw
      case rel => exact ⟨j + 1, by omega, by simp, by first | rfl | trivial⟩
      case measure => simp [intOf]; omega
    · obtain rfl : j = len := by omega
      go_wp2
      go_end0
      exact ⟨rfl, by first | rfl | trivial⟩
set_option maxRecDepth 20000 in
set_option maxHeartbeats 8000000 in
theorem rises_some (k : Int) (seed : Nat) (hseed : seed < 18446744073709551616) (p : Option Addr) (cap : Nat) (l : List Nat) (w : World) (hs : mx.Since w w) (hl : l.length ≤ 60) (hr : Keys w p l) :
    Calls Tryd.prog 4 #[.int .i64 k, .int .u64 (seed : Int), .slice p l.length cap] w fun e B => e = .returned (.bool true) ∧ Below w.heap.size w B := by
  obtain ⟨y, hy, hyl⟩ : ∃ y : Nat, (seed : Int) % 5 = (y : Int) ∧ y < 18446744073709551616 := ⟨seed % 5, by omega, by omega⟩
  have T6 := Lib.hid (new_any (min k 500) seed hseed w hs)
  have F0 := Fine.start (min k 500) seed
  have O0 := Ok.start (min k 500) seed
  have hlim := lim_pos (min k 500) seed
  generalize csN (min k 500) seed = c at *
  generalize zs0 c = z0 at *
  have C : Hid (∀ W, Below w.heap.size w W → ∀ j, j < l.length → ∃ b o x, p = some ⟨b, o, none⟩ ∧ l[j]? = some x ∧ x < 18446744073709551616 ∧ W.cell? ⟨b, o + j, none⟩ = some (.int .u64 (x : Int))) := fun W hW j hj => hr.at_ hW j hj
  have T13 : Hid (∀ (a : Ad) (z : Zs) (x : Nat) (W : World), x < 18446744073709551616 → Hid (At w a c z W) → Calls Tryd.prog 13 #[.pointer (some ⟨a.T, 0, none⟩), .int .u64 (x : Int)] W fun e B => e = .returned (.int .i64 (estZ c x z : Int)) ∧ Hid (At w a c z B)) := fun a z x W hx hW => (hW.out.est_any x hx).mono fun e B ⟨he, hb⟩ => ⟨he, hW.out.below hb⟩
  have T16 : Hid (∀ (a : Ad) (z : Zs) (x j : Nat) (W : World), x < 18446744073709551616 → j ≤ 60 → Ok c j z → Hid (At w a c z W) → Calls Tryd.prog 16 #[.pointer (some ⟨a.T, 0, none⟩), .int .u64 (x : Int)] W fun e B => e = .returned (.tuple #[]) ∧ Hid (At w a c (addZ c x z) B)) := fun a z x j W hx hj ho hW => (hW.out.add_any x hx ho.1 (by have := ho.2; omega)).mono fun e B ⟨he, h1, _⟩ => ⟨he, h1⟩
  have T10 : Hid (∀ (a : Ad) (z : Zs) (W : World), Hid (At w a c z W) → Calls Tryd.prog 10 #[.pointer (some ⟨a.T, 0, none⟩)] W fun e B => e = .returned (.int .i64 (z.cnt : Int)) ∧ B = W) := fun a z W hW => hW.out.get10
  have T11 : Hid (∀ (a : Ad) (z : Zs) (W : World), Hid (At w a c z W) → Calls Tryd.prog 11 #[.pointer (some ⟨a.T, 0, none⟩)] W fun e B => e = .returned (.int .i64 (z.aged : Int)) ∧ B = W) := fun a z W hW => hW.out.get11
  have T12 : Hid (∀ (a : Ad) (z : Zs) (W : World), Hid (At w a c z W) → Calls Tryd.prog 12 #[.pointer (some ⟨a.T, 0, none⟩)] W fun e B => e = .returned (.int .i64 (c.lim : Int)) ∧ B = W) := fun a z W hW => hW.out.get12
  have T17 : Hid (∀ (a : Ad) (z : Zs) (W : World), Hid (At w a c z W) → Calls Tryd.prog 17 #[.pointer (some ⟨a.T, 0, none⟩)] W fun e B => e = .returned (.pointer (some ⟨a.S, 0, none⟩)) ∧ B = W) := fun a z W hW => hW.out.get17
  have T18 : Hid (∀ (a : Ad) (z : Zs) (W : World), Hid (At w a c z W) → Calls Tryd.prog 18 #[.pointer (some ⟨a.T, 0, none⟩)] W fun e B => e = .returned (.pointer (some ⟨a.D, 0, none⟩)) ∧ B = W) := fun a z W hW => hW.out.get18
  have T5 : Hid (∀ (a : Ad) (z : Zs) (W : World), Hid (At w a c z W) → Calls Tryd.prog 5 #[] W fun e B => e = .returned (.bool true) ∧ Hid (Below w.heap.size w B)) := fun a z W hW => (awake_any w W hW.out.old).mono fun e B ⟨he, hb⟩ => ⟨he, hW.out.old.2.trans (hb.out.mono hW.out.old.2.size)⟩
  have T8 : Hid (∀ (a : Ad) (z : Zs) (W : World), Hid (At w a c z W) → Calls Tryd.prog 8 #[.pointer none, .slice p l.length cap] W fun e B => e = .returned (.tuple #[]) ∧ B = W) := fun a z W hW => push_none w W hW.out.old.2 p cap l hr (by omega)
  have N10 := Lib.hid none10
  have N11 := Lib.hid none11
  have N12 := Lib.hid none12
  have N13 := Lib.hid none13
  have N15 := Lib.hid none15
  have N16 := Lib.hid none16
  have N17 := Lib.hid none17
  have N18 := Lib.hid none18
  have OL : Hid (∀ (a : Ad) (z : Zs) (W : World), Hid (At w a c z W) → Below w.heap.size w W) := fun a z W hW => hW.out.old.2
  have R : Hid (∀ (z : Zs) (x j : Nat), Fine c z → Ok c j z → Fine c (addZ c x z) ∧ Ok c (j + 1) (addZ c x z) ∧ estZ c x (addZ c x z) ≤ 16 ∧ estZ c x z ≤ 16 ∧ ((addZ c x z).aged = z.aged ∧ estZ c x (addZ c x z) = min 16 (estZ c x z + 1) ∧ estZ c y z ≤ estZ c y (addZ c x z) ∨ (addZ c x z).aged = z.aged + 1 ∧ (addZ c x z).cnt = 0 ∧ estZ c x (addZ c x z) ≤ (estZ c x z + 1) / 2)) := fun z x j hF hO => ⟨hF.add x, hO.add x, est_le _ _ _, est_le _ _ _, rises hF x y⟩
  have S0 : Hid (Fine c z0 ∧ Ok c 0 z0) := ⟨F0, O0⟩
  have hL := Lib.hid hlim
  clear hs hr F0 O0 hlim
  have hd2 : ¬ (60 : Int) < (l.length : Int) := by omega
  generalize hlen : l.length = len at *
  go_enter Tryd.func4, Tryd.ntmps4
  go_wp2_with fail
  refine T6.out.mono ?_
  rintro e w1 ⟨a, rfl, h1⟩
  clear T6
  go_wp2_with fail
  go_loopw [9] (fun i wr => ∃ (j : Nat) (z : Zs), j ≤ len ∧ i = .int .i64 j ∧ Hid (At w a c z wr) ∧ Hid (Fine c z ∧ Ok c j z)) (fun i _ => len - (intOf i).toNat)
  case atStart => exact ⟨0, z0, Nat.zero_le _, rfl, h1, S0⟩
  case round =>
    obtain ⟨j, z, hj, rfl, hA, hZ⟩ := hrel
    clear h1 S0
    by_cases hlt : j < len
    · have j1 : (0 : Int) ≤ (j : Int) := by omega
      have j2 : (j : Int) < (len : Int) := by omega
      obtain ⟨b, o, x, rfl, hx, hx64, d0⟩ := C.out wr (OL.out _ _ _ hA) j (by omega)
      have C1 : Hid (∀ W, Below w.heap.size w W → W.cell? ⟨b, o + j, none⟩ = some (.int .u64 (x : Int))) := fun W hW => by
        obtain ⟨b', o', x', e1, e2, _, e4⟩ := C.out W hW j (by omega)
        rw [hx] at e2
        simp only [Option.some.injEq, Addr.mk.injEq, and_true] at e1 e2
        obtain ⟨rfl, rfl⟩ := e1
        subst e2
        exact e4
      obtain ⟨F1, O1, L1, L0, V⟩ := R.out z x j hZ.out.1 hZ.out.2
      have hz := hZ.out.2
      have hlim := O1.1
      have hlim2 := hL.out.2
      have hcl := hz.1
      have hag := hz.2
      have P0 := Lib.hid (T13.out a z x wr hx64 hA)
      have P1 : Hid (∀ W, Hid (At w a c z W) → _) := fun W hW => T13.out a z y W hyl hW
      have P2 : Hid (∀ W, Hid (At w a c z W) → _) := fun W hW => T11.out a z W hW
      have P3 : Hid (∀ W, Hid (At w a c z W) → _) := fun W hW => T16.out a z x j W hx64 (by omega) hz hW
      have S1 : Hid (Fine c (addZ c x z) ∧ Ok c (j + 1) (addZ c x z)) := ⟨F1, O1⟩
      clear hZ F1 O1 hz C R
      generalize addZ c x z = z1 at *
      have P4 : Hid (∀ W, Hid (At w a c z1 W) → _) := fun W hW => T13.out a z1 x W hx64 hW
      have P5 : Hid (∀ W, Hid (At w a c z1 W) → _) := fun W hW => T13.out a z1 y W hyl hW
      have P6 : Hid (∀ W, Hid (At w a c z1 W) → _) := fun W hW => T10.out a z1 W hW
      have P7 : Hid (∀ W, Hid (At w a c z1 W) → _) := fun W hW => T11.out a z1 W hW
      have P8 : Hid (∀ W, Hid (At w a c z1 W) → _) := fun W hW => T12.out a z1 W hW
      generalize hu0 : estZ c x z = u0 at *
      generalize hu1 : estZ c y z = u1 at *
      generalize hu2 : estZ c x z1 = u2 at *
      generalize hu3 : estZ c y z1 = u3 at *
      generalize hg0 : z.aged = g0 at *
      generalize hg1 : z1.aged = g1 at *
      generalize hn1 : z1.cnt = n1 at *
      clear hu0 hu1 hu2 hu3 hg0 hg1 hn1 T13 T16 T10 T11 T12 T17 T18 T5 T8 N10 N11 N12 N13 N15 N16 N17 N18 hx
      have i5 : IntKind.i64.wrap ((u0 : Int) + 1) = (u0 : Int) + 1 := by simp only [IntKind.wrap_i64]; omega
      have i1 : ¬ (u2 : Int) < 0 := by omega
      have i2 : ¬ (16 : Int) < (u2 : Int) := by omega
      have i3 : ¬ (n1 : Int) < 0 := by omega
      have i4 : ¬ (c.lim : Int) ≤ (n1 : Int) := by omega
      rcases V with ⟨v1, v2, v3⟩ | ⟨v1, v2, v3⟩
      · obtain rfl : g1 = g0 := v1
        have k2 : ¬ (u3 : Int) < (u1 : Int) := by omega
        have k3 : (u2 : Int) = min 16 ((u0 : Int) + 1) := by omega
        clear v2 v3 hlim hag L1 L0 hcl hlim2
        generalize (u2 : Int) = U2 at *
        subst k3
        generalize (u0 : Int) = U0 at *
        generalize (u1 : Int) = U1 at *
        generalize (u3 : Int) = U3 at *
        generalize (n1 : Int) = I1 at *
        generalize (g1 : Int) = G1 at *
        generalize (c.lim : Int) = L at *
        go_wp2_with fail
        refine P0.out.mono ?_
        rintro e w2 ⟨rfl, q2⟩
        have P1' := Lib.hid (P1.out _ q2)
        clear P0 P1
        go_wp2_with fail
        refine P1'.out.mono ?_
        rintro e w3 ⟨rfl, q3⟩
        have P2' := Lib.hid (P2.out _ q3)
        have c3 := C1.out _ (OL.out _ _ _ q3)
        clear P1' P2 q2 d0
        go_wp2_with (go_at_call 11; refine P2'.out.mono ?_; rintro e w4 ⟨rfl, e4⟩; obtain rfl : w3 = w4 := e4.symm)
        refine (P3.out _ q3).mono ?_
        rintro e w5 ⟨rfl, q5⟩
        have c5 := C1.out _ (OL.out _ _ _ q5)
        have P4' := Lib.hid (P4.out _ q5)
        clear P2' P3 P4 c3 q3
        go_wp2_with fail
        refine P4'.out.mono ?_
        rintro e w6 ⟨rfl, q6⟩
        have P5' := Lib.hid (P5.out _ q6)
        clear P4' P5 c5 q5
        go_wp2_with fail
        refine P5'.out.mono ?_
        rintro e w7 ⟨rfl, q7⟩
        have P6' := Lib.hid (P6.out _ q7)
        have P7' := Lib.hid (P7.out _ q7)
        have P8' := Lib.hid (P8.out _ q7)
        clear P5' P6 P7 P8 q6 C1
        go_wp2_with (first
          | (go_at_call 10; refine P6'.out.mono ?_; rintro e w8 ⟨rfl, e8⟩; obtain rfl : w7 = w8 := e8.symm)
          | (go_at_call 11; refine P7'.out.mono ?_; rintro e w8 ⟨rfl, e8⟩; obtain rfl : w7 = w8 := e8.symm)
          | (go_at_call 12; refine P8'.out.mono ?_; rintro e w8 ⟨rfl, e8⟩; obtain rfl : w7 = w8 := e8.symm))
        go_roundw
        case rel => exact ⟨j + 1, z1, by omega, by simp, q7, S1⟩
        case measure => simp [intOf]; omega
      · have k1 : ¬ (g1 : Int) = (g0 : Int) := by omega
        obtain rfl : n1 = 0 := v2
        have k3 : ¬ ((u0 : Int) + 1).tdiv 2 < (u2 : Int) := by rw [Int.tdiv_eq_ediv_of_nonneg (by omega)]; omega
        have k4 : ¬ ((u0 : Int) + 1) / 2 < (u2 : Int) := by omega
        have k5 : IntKind.i64.wrap (((u0 : Int) + 1).tdiv 2) = ((u0 : Int) + 1).tdiv 2 := by rw [Int.tdiv_eq_ediv_of_nonneg (by omega)]; simp only [IntKind.wrap_i64]; omega
        clear v1 v3 hlim hag L1 L0 hcl hlim2 i3
        generalize (u2 : Int) = U2 at *
        generalize (u0 : Int) = U0 at *
        generalize (u1 : Int) = U1 at *
        generalize (u3 : Int) = U3 at *
        generalize (g1 : Int) = G1 at *
        generalize (g0 : Int) = G0 at *
        generalize (c.lim : Int) = L at *
        go_wp2_with fail
        refine P0.out.mono ?_
        rintro e w2 ⟨rfl, q2⟩
        have P1' := Lib.hid (P1.out _ q2)
        clear P0 P1
        go_wp2_with fail
        refine P1'.out.mono ?_
        rintro e w3 ⟨rfl, q3⟩
        have P2' := Lib.hid (P2.out _ q3)
        have c3 := C1.out _ (OL.out _ _ _ q3)
        clear P1' P2 q2 d0
        go_wp2_with (go_at_call 11; refine P2'.out.mono ?_; rintro e w4 ⟨rfl, e4⟩; obtain rfl : w3 = w4 := e4.symm)
        refine (P3.out _ q3).mono ?_
        rintro e w5 ⟨rfl, q5⟩
        have c5 := C1.out _ (OL.out _ _ _ q5)
        have P4' := Lib.hid (P4.out _ q5)
        clear P2' P3 P4 c3 q3
        go_wp2_with fail
        refine P4'.out.mono ?_
        rintro e w6 ⟨rfl, q6⟩
        have P5' := Lib.hid (P5.out _ q6)
        clear P4' P5 c5 q5
        go_wp2_with fail
        refine P5'.out.mono ?_
        rintro e w7 ⟨rfl, q7⟩
        have P6' := Lib.hid (P6.out _ q7)
        have P7' := Lib.hid (P7.out _ q7)
        have P8' := Lib.hid (P8.out _ q7)
        clear P5' P6 P7 P8 q6 C1
        go_wp2_with (first
          | (go_at_call 10; refine P6'.out.mono ?_; rintro e w8 ⟨rfl, e8⟩; obtain rfl : w7 = w8 := e8.symm)
          | (go_at_call 11; refine P7'.out.mono ?_; rintro e w8 ⟨rfl, e8⟩; obtain rfl : w7 = w8 := e8.symm)
          | (go_at_call 12; refine P8'.out.mono ?_; rintro e w8 ⟨rfl, e8⟩; obtain rfl : w7 = w8 := e8.symm))
        go_roundw
        case rel => exact ⟨j + 1, z1, by omega, by simp, q7, S1⟩
        case measure => simp [intOf]; omega
    · obtain rfl : j = len := by omega
      have P8 := Lib.hid (T8.out a z wr hA)
      have P17 := Lib.hid (T17.out a z wr hA)
      have P18 := Lib.hid (T18.out a z wr hA)
      have P5 := Lib.hid (T5.out a z wr hA)
      clear C T13 T16 T10 T11 T12 T17 T18 T5 T8 OL R hZ hA
      go_wp2_with fail
      refine (N16.out 1 wr).mono ?_
      rintro e w2 ⟨rfl, e2⟩
      obtain rfl : wr = w2 := e2.symm
      go_wp2_with fail
      refine P8.out.mono ?_
      rintro e w2 ⟨rfl, e2⟩
      obtain rfl : wr = w2 := e2.symm
      go_wp2_with fail
      refine (N15.out wr).mono ?_
      rintro e w2 ⟨rfl, e2⟩
      obtain rfl : wr = w2 := e2.symm
      clear N15 N16 P8
      go_wp2_with (first
        | (go_at_call 13; refine (N13.out _ _).mono ?_; rintro e w8 ⟨rfl, e8⟩; obtain rfl : wr = w8 := e8.symm)
        | (go_at_call 10; refine (N10.out _).mono ?_; rintro e w8 ⟨rfl, e8⟩; obtain rfl : wr = w8 := e8.symm)
        | (go_at_call 11; refine (N11.out _).mono ?_; rintro e w8 ⟨rfl, e8⟩; obtain rfl : wr = w8 := e8.symm)
        | (go_at_call 12; refine (N12.out _).mono ?_; rintro e w8 ⟨rfl, e8⟩; obtain rfl : wr = w8 := e8.symm)
        | (go_at_call 17; refine (N17.out _).mono ?_; rintro e w8 ⟨rfl, e8⟩; obtain rfl : wr = w8 := e8.symm)
        | (go_at_call 18; refine (N18.out _).mono ?_; rintro e w8 ⟨rfl, e8⟩; obtain rfl : wr = w8 := e8.symm)
        | (go_at_call 17; refine P17.out.mono ?_; rintro e w8 ⟨rfl, e8⟩; obtain rfl : wr = w8 := e8.symm)
        | (go_at_call 18; refine P18.out.mono ?_; rintro e w8 ⟨rfl, e8⟩; obtain rfl : wr = w8 := e8.symm)
        | (go_at_call 5; refine P5.out.mono ?_; rintro e w9 ⟨rfl, hb⟩))
      go_ret
      exact ⟨rfl, hb.out⟩
theorem rises_walk (k : Int) (seed : Nat) (hseed : seed < 18446744073709551616) (p : Option Addr) (cap : Nat) (l : List Nat) (w : World) (hs : mx.Since w w) (hr : Keys w p l) :
    Calls Tryd.prog 4 #[.int .i64 k, .int .u64 (seed : Int), .slice p l.length cap] w fun e B => e = .returned (.bool true) ∧ Below w.heap.size w B := by
  by_cases hl : l.length ≤ 60
  · exact rises_some k seed hseed p cap l w hs hl hr
  · have hl1 : (60 : Int) < (l.length : Int) := by omega
    have T := Lib.hid (awake_any w w hs)
    clear hr hl hs
    generalize l.length = len at *
    go_enter Tryd.func4, Tryd.ntmps4
    go_wp2_with fail
    refine T.out.mono ?_
    rintro e B ⟨rfl, hb⟩
    go_wp2
    go_ret
    exact ⟨rfl, hb.out⟩
end Go.Proofs.YthjbkabkoolfdaaDoor
