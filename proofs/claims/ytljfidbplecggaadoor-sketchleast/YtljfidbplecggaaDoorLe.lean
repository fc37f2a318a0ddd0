/-
  SketchLeast, walked: true for every int, every seed and every slice of keys.
-/
import Derived.Test.YtljfidbplecggaaDoorLm
import Derived.Test.YtljfidbplecggaaDoorPy
namespace Go.Proofs.YtljfidbplecggaaDoor
open Go.RowKit
open nb (Keep Nib ct cell_of frozen_of heap_set heap_set_other heap_old heap_next heap_lt getAt mayAdd addAt Q e64 info_parts step_ex app_step told)
/-- the slice at a reads as the keys l. -/
def Keys (w : World) (a : Option Addr) (l : List Nat) : Prop :=
  0 < l.length → ∃ b o, a = some ⟨b, o, none⟩ ∧ ∀ i (h : i < l.length), w.cell? ⟨b, o + i, none⟩ = some (.int .u64 (l[i] : Int)) ∧ l[i] < 18446744073709551616
/-- how often a key came among the first k. -/
theorem count_next (x : Nat) (l : List Nat) (k : Nat) (hk : k < l.length) : (l.take (k + 1)).count x = (l.take k).count x + if l[k] = x then 1 else 0 := by
  rw [List.take_succ_eq_append_getElem hk, List.count_append, List.count_singleton]
  by_cases h : l[k] = x <;> simp [h]
theorem runF_next (seed n : Nat) (l : List Nat) (j : Nat) (hj : j < l.length) : runF seed n (addsOf (l.take (j + 1))) = adds seed n l[j] (runF seed n (addsOf (l.take j))) := by
  rw [List.take_succ_eq_append_getElem hj, addsOf, List.map_append]
  exact (runF_snoc seed n _ _).trans (if_neg (by simp))
set_option maxRecDepth 100000 in
set_option maxHeartbeats 8000000 in
theorem least_some (c : Int) (seed : Nat) (hseed : seed < 18446744073709551616) (a : Option Addr) (cap : Nat) (l : List Nat) (w : World) (hs : mx.Since w w) (hl : l.length ≤ 60) (hr : Keys w a l) :
    Calls Tryd.prog 4 #[.int .i64 c, .int .u64 (seed : Int), .slice a l.length cap] w fun e B => e = .returned (.bool true) ∧ Below w.heap.size w B := by
  obtain ⟨S, hS⟩ : ∃ S, w.heap.size = S := ⟨_, rfl⟩
  obtain ⟨c1, hc1⟩ : ∃ c1, min c 100 = c1 := ⟨_, rfl⟩
  obtain ⟨n, hn⟩ : ∃ n, wdN c1 = n := ⟨_, rfl⟩
  have hn0 : 0 < n := hn ▸ (wdN_bd c1).1
  have T7 : Hid (Calls Tryd.prog 7 #[.int .i64 c1, .int .u64 (seed : Int)] w fun e B => e = .returned (.pointer (some ⟨S, 0, none⟩)) ∧ Hid (At w S seed n (runF seed n (addsOf (l.take 0))) B)) := by
    have := new_any c1 seed hseed w
    rw [hn] at this
    refine this.mono fun e B ⟨he, h1, h2⟩ => ⟨by rw [he, hS], ?_⟩
    have := At.start hs h1 h2
    rw [hS] at this
    exact this
  have C : Hid (∀ W, Below w.heap.size w W → ∀ i, i < l.length → ∃ b o X, a = some ⟨b, o, none⟩ ∧ l[i]? = some X ∧ W.cell? ⟨b, o + i, none⟩ = some (.int .u64 (X : Int)) ∧ X < 18446744073709551616) := fun W hW i hi => by
    obtain ⟨b, o, ha, hc⟩ := hr (by omega)
    obtain ⟨c0, hx⟩ := hc i hi
    exact ⟨b, o, l[i], ha, by simp [hi], (hW.cell (p := ⟨b, o + i, none⟩) (World.block_lt_of_cell? w ⟨b, o + i, none⟩ c0)).trans c0, hx⟩
  obtain ⟨g, hg⟩ : ∃ g : Nat → Nat → List Nat, g = fun j => runF seed n (addsOf (l.take j)) := ⟨_, rfl⟩
  have T12 : Hid (∀ (j X : Nat) (W : World), l[j]? = some X → X < 18446744073709551616 → At w S seed n (g j) W → Calls Tryd.prog 12 #[.pointer (some ⟨S, 0, none⟩), .int .u64 (X : Int)] W fun e B => e = .returned (.tuple #[]) ∧ Hid (At w S seed n (g (j + 1)) B)) := fun j X W h hX hW => by
    obtain ⟨hj, rfl⟩ := List.getElem?_eq_some_iff.1 h
    refine (add_some hW _ hX).mono fun e B ⟨he, h1, _⟩ => ⟨he, ?_⟩
    rw [hg]
    show At w S seed n (runF seed n (addsOf (l.take (j + 1)))) B
    rw [runF_next seed n l j hj]
    rw [hg] at h1
    exact h1
  obtain ⟨cn, hcn⟩ : ∃ cn : Nat → Nat → Nat, cn = fun x k => (l.take k).count x := ⟨_, rfl⟩
  have N0 : Hid (∀ x, cn x 0 = 0) := fun x => by rw [hcn]; simp
  have N1 : Hid (∀ (x k Y : Nat), l[k]? = some Y → cn x (k + 1) = cn x k + if Y = x then 1 else 0) := fun x k Y h => by
    obtain ⟨hk, rfl⟩ := List.getElem?_eq_some_iff.1 h
    rw [hcn]
    exact count_next x l k hk
  have N2 : Hid (∀ x k, cn x k ≤ k) := fun x k => by rw [hcn]; exact Nat.le_trans List.count_le_length (by simp; omega)
  have T16 : Hid (∀ (X : Nat) (W : World), X < 18446744073709551616 → At w S seed n (g l.length) W → ∃ y : Nat, (min (cn X l.length) 15 ≤ y ∧ y ≤ min l.length 15) ∧ ∀ W', Below W.heap.size W W' → Calls Tryd.prog 16 #[.pointer (some ⟨S, 0, none⟩), .int .u64 (X : Int)] W' fun e B => e = .returned (.int .i64 (y : Int)) ∧ Hid (Below W.heap.size W B)) := fun X W hX hW => by
    refine ⟨cntN seed n X (g l.length), ?_, fun W' hb => (count_some (hW.below hb) X hX).mono fun e B ⟨he, h1⟩ => ⟨he, hb.trans (h1.mono hb.size)⟩⟩
    have := least_cnt (seed := seed) hn0 X l
    rw [hg, hcn]
    simpa using this
  have Z0 : Hid (g 0 = runF seed n (addsOf (l.take 0))) := by rw [hg]; rfl
  have T6 := fun W h => Lib.hid (awake_any w W h)
  clear hg hcn hr hs hn hn0
  generalize hlen : l.length = len at *
  have hd2 : ¬ (60 : Int) < (len : Int) := by omega
  have HS := Lib.hid hS
  clear hS
  rw [← Z0.out] at T7
  go_enter Tryd.func4, Tryd.ntmps4
  go_wp2_with fail
  refine T7.out.mono ?_
  rintro e w1 ⟨rfl, h1⟩
  go_wp2_with fail
  clear T7 Z0
  go_loopw [8] (fun i wr => ∃ j : Nat, j ≤ len ∧ i = .int .i64 j ∧ Hid (At w S seed n (g j) wr)) (fun i _ => len - (intOf i).toNat)
  case atStart => exact ⟨0, Nat.zero_le _, rfl, h1⟩
  case round =>
    obtain ⟨j, hj, rfl, hA⟩ := hrel
    clear h1
    by_cases hlt : j < len
    · obtain ⟨b, o, X, rfl, hX, c0, hXl⟩ := C.out wr hA.out.old.2 j hlt
      have T := Lib.hid (T12.out j X wr hX hXl hA.out)
      have j1 : (0 : Int) ≤ (j : Int) := by omega
      have j2 : (j : Int) < (len : Int) := by omega
      clear C hX
      go_wp2_with (go_at_call 12; refine T.out.mono ?_; rintro e w2 ⟨rfl, h2⟩)
      go_roundw
      case rel => exact ⟨j + 1, by omega, by simp, h2⟩
      case measure => simp [intOf]; omega
    · obtain rfl : j = len := by omega
      clear hlt hj T12
      go_wp2_with fail
      go_loopw [9] (fun i wr => ∃ p : Nat, p ≤ j ∧ i = .int .i64 p ∧ Hid (At w S seed n (g j) wr)) (fun i _ => j - (intOf i).toNat)
      case atStart => exact ⟨0, Nat.zero_le _, rfl, hA⟩
      case round =>
        obtain ⟨p, hp, rfl, hB⟩ := hrel
        clear hA
        by_cases hlt : p < j
        · obtain ⟨b, o, X, rfl, hX, c0, hXl⟩ := C.out wr hB.out.old.2 p hlt
          have j1 : (0 : Int) ≤ (p : Int) := by omega
          have j2 : (p : Int) < (j : Int) := by omega
          have hz := N0.out X
          clear c0
          go_wp2_with fail
          go_loopw [10, 11] (fun t i wr => ∃ k : Nat, k ≤ j ∧ i = .int .i64 k ∧ t = .int .i64 (cn X k : Int) ∧ Hid (At w S seed n (g j) wr)) (fun _ i _ => j - (intOf i).toNat)
          case atStart => exact ⟨0, Nat.zero_le _, rfl, by rw [hz]; rfl, hB⟩
          case round =>
            obtain ⟨k, hk, rfl, rfl, hD⟩ := hrel
            clear hB hz
            by_cases hkj : k < j
            · obtain ⟨b', o', Y, e1, hY, c1, hYl⟩ := C.out wr hD.out.old.2 k hkj
              simp only [Option.some.injEq, Addr.mk.injEq, and_true] at e1
              obtain ⟨rfl, rfl⟩ := e1
              obtain ⟨b', o', X', e1, hX', c0, _⟩ := C.out wr hD.out.old.2 p hlt
              simp only [Option.some.injEq, Addr.mk.injEq, and_true] at e1
              obtain ⟨rfl, rfl⟩ := e1
              rw [hX] at hX'
              obtain rfl := Option.some.inj hX'
              have e := Lib.hid (N1.out X k Y hY)
              have hle := N2.out X k
              have k1 : (0 : Int) ≤ (k : Int) := by omega
              have k2 : (k : Int) < (j : Int) := by omega
              clear hX hX' hY C N1 T16
              generalize cn X k = z at *
              by_cases hYX : Y = X
              · have hq : ((Y : Int) == (X : Int)) = true := by simp [hYX]
                have hz1 : z ≤ 100 := by omega
                clear hle
                go_wp2_with fail
                go_quiet (fail)
                go_wp2
                go_roundw
                case rel => exact ⟨k + 1, by omega, by simp, by rw [e.out, if_pos hYX]; simp, hD.out.drewN _⟩
                case measure => simp [intOf]; omega
              · have hq : ((Y : Int) == (X : Int)) = false := by simp; omega
                go_wp2_with fail
                go_quiet (fail)
                go_wp2
                go_roundw
                case rel => exact ⟨k + 1, by omega, by simp, by rw [e.out, if_neg hYX]; rfl, hD.out.drewN _⟩
                case measure => simp [intOf]; omega
            · obtain rfl : k = j := by omega
              obtain ⟨y, ⟨y1, y2⟩, T⟩ := T16.out X wr hXl hD.out
              have T0 := Lib.hid (T wr (Below.refl _ _))
              have T := Lib.hid T
              obtain ⟨b', o', X', e1, hX', c0, _⟩ := C.out wr hD.out.old.2 p hlt
              simp only [Option.some.injEq, Addr.mk.injEq, and_true] at e1
              obtain ⟨rfl, rfl⟩ := e1
              rw [hX] at hX'
              obtain rfl := Option.some.inj hX'
              have C0 : Hid (∀ W, Below wr.heap.size wr W → W.cell? ⟨b, o + p, none⟩ = some (.int .u64 (X : Int))) := fun W hW => (hW.cell (p := ⟨b, o + p, none⟩) (World.block_lt_of_cell? wr ⟨b, o + p, none⟩ c0)).trans c0
              have E : Hid (∀ W, Below wr.heap.size wr W → Hid (At w S seed n (g k) W)) := fun W hW => hD.out.below hW
              clear C hX hX' N0 N1 N2 T16 hkj hk
              generalize cn X k = z at *
              have y3 : decide ((y : Int) < min (z : Int) 15) = false := by simp; omega
              have y4 : decide (min (k : Int) 15 < (y : Int)) = false := by simp; omega
              go_wp2_with fail
              refine T0.out.mono ?_
              rintro e w2 ⟨rfl, b2⟩
              have c2 := C0.out _ b2.out
              have T1 := Lib.hid (T.out _ b2.out)
              clear T T0 c0
              go_wp2_with (go_at_call 16; refine T1.out.mono ?_; rintro e w3 ⟨rfl, b3⟩)
              have hF := E.out _ b3.out
              go_roundw
              case rel => exact ⟨p + 1, by omega, by simp, hF⟩
              case measure => simp [intOf]; omega
        · obtain rfl : p = j := by omega
          have A0 := Lib.hid (T6 wr hB.out.old)
          have D : Hid (∀ W, Below wr.heap.size wr W → Below w.heap.size w W) := fun W hW => hB.out.old.2.trans (hW.mono hB.out.old.2.size)
          have P12 := Lib.hid (add_none 1 wr)
          have P9 := Lib.hid (halve_none wr)
          have P11 := Lib.hid (clear_none wr)
          have P16 := Lib.hid (count_none 1 wr)
          have P20 := Lib.hid (width_none wr)
          have P14 := Lib.hid (full_none wr)
          have P18 := Lib.hid (place_none 1 1 wr)
          clear C N0 N1 N2 T16 T6 hlt hp
          go_wp2_with fail
          refine P12.out.mono ?_
          rintro e w1 ⟨rfl, e1⟩
          subst e1
          go_wp2_with fail
          refine P9.out.mono ?_
          rintro e w1 ⟨rfl, e1⟩
          subst e1
          go_wp2_with fail
          refine P11.out.mono ?_
          rintro e w1 ⟨rfl, e1⟩
          subst e1
          go_wp2_with fail
          refine P16.out.mono ?_
          rintro e w1 ⟨rfl, e1⟩
          subst e1
          go_wp2_with fail
          refine P20.out.mono ?_
          rintro e w1 ⟨rfl, e1⟩
          subst e1
          go_wp2_with fail
          refine P14.out.mono ?_
          rintro e w1 ⟨rfl, e1⟩
          subst e1
          go_wp2_with fail
          refine P18.out.mono ?_
          rintro e w1 ⟨rfl, e1⟩
          subst e1
          go_wp2_with fail
          refine A0.out.mono ?_
          rintro e w1 ⟨rfl, hb⟩
          go_wp2
          go_ret
          exact ⟨rfl, D.out _ hb.out⟩
theorem least_walk (c : Int) (seed : Nat) (hseed : seed < 18446744073709551616) (a : Option Addr) (cap : Nat) (l : List Nat) (w : World) (hs : mx.Since w w) (hr : Keys w a l) :
    Calls Tryd.prog 4 #[.int .i64 c, .int .u64 (seed : Int), .slice a l.length cap] w fun e B => e = .returned (.bool true) ∧ Below w.heap.size w B := by
  by_cases hl : l.length ≤ 60
  · exact least_some c seed hseed a cap l w hs hl hr
  · have hl1 : (60 : Int) < (l.length : Int) := by omega
    have T := Lib.hid (awake_any w w hs)
    clear hr hl hs
    generalize l.length = len at *
    go_enter Tryd.func4, Tryd.ntmps4
    go_wp2_with fail
    refine T.out.mono ?_
    rintro e B ⟨rfl, hb⟩
    go_wp2
    go_ret
    exact ⟨rfl, hb.out⟩
end Go.Proofs.YtljfidbplecggaaDoor
