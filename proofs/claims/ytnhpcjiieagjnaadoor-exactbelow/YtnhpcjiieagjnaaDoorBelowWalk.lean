/-
  ExactBelow walked: for every two numbers and every slice of words it returns true; what was in memory stays.
-/
import Derived.Test.YtnhpcjiieagjnaaDoorBo
import Derived.Deep.RegionHeld3
import Derived.Deep.QuietTactic
namespace Go.Proofs.YtnhpcjiieagjnaaDoor
open Go.RowKit
open rk (Ez addE es0 estE runE run_next run_cnt)
/-- a key of the slice, as it reads now. -/
theorem key_now {w : World} {p : Option Addr} {l : List Nat} (hr : rk.Ks (fun _ => True) w p l) {V : World} (hV : Below w.heap.size w V) (j : Nat) (hj : j < l.length) : ∃ (b o x : Nat), p = some ⟨b, o, none⟩ ∧ V.cell? ⟨b, o + j, none⟩ = some (.int .u64 (x : Int)) ∧ x < 18446744073709551616 ∧ Hid (l[j]? = some x) := by
  obtain ⟨b, o, hp, _, hi⟩ := hr (by omega)
  exact ⟨b, o, l[j], hp, (hV.cell (p := ⟨b, o + j, none⟩) (World.block_lt_of_cell? w ⟨b, o + j, none⟩ (hi j hj).1)).trans (hi j hj).1, (hi j hj).2, by show l[j]? = some l[j]; simp [hj]⟩
/-- both, behind the first i keys. -/
def Bt (w : World) (a : Ad) (c : Cs) (X : Nat) (l : List Nat) (i : Nat) (V : World) : Prop := Both w a c X i (pushZ c (l.take i) (zs0 c)) (runE c.lim (l.take i)) V ∧ Ok c i (pushZ c (l.take i) (zs0 c)) ∧ Dom c (pushZ c (l.take i) (zs0 c)) (runE c.lim (l.take i))
/-- .. and the tiny one key further. -/
def Bt1 (w : World) (a : Ad) (c : Cs) (X : Nat) (l : List Nat) (i x : Nat) (V : World) : Prop := Both w a c X i (addZ c x (pushZ c (l.take i) (zs0 c))) (runE c.lim (l.take i)) V ∧ Ok c i (pushZ c (l.take i) (zs0 c)) ∧ Dom c (pushZ c (l.take i) (zs0 c)) (runE c.lim (l.take i)) ∧ Fine c (pushZ c (l.take i) (zs0 c))
section
variable {w V : World} {a : Ad} {c : Cs} {X i : Nat} {l : List Nat}
theorem Bt.drewN (h : Bt w a c X l i V) (q : Nat) : Bt w a c X l i (V.drewN q) := ⟨h.1.drewN q, h.2⟩
theorem Bt.add8 (h : Bt w a c X l i V) (x : Nat) (hx : x < 18446744073709551616) (hi : i ≤ 1000000) : Calls Tryd.prog 8 #[.pointer (some ⟨a.T, 0, none⟩), .int .u64 (x : Int)] V fun r B => r = .returned (.tuple #[]) ∧ Hid (Bt1 w a c X l i x B) :=
  (h.1.add8 x hx h.2.1.1 (Nat.le_trans h.2.1.2 hi)).mono fun _ _ ⟨he, ho⟩ => ⟨he, ho.out, h.2.1, h.2.2, h.1.ti.fine⟩
theorem Bt1.add9 {x : Nat} (h : Bt1 w a c X l i x V) (hx : l[i]? = some x) (hi : i ≤ 1000000) : Calls Tryd.prog 9 #[.pointer (some ⟨X, 0, none⟩), .int .u64 (x : Int)] V fun r B => r = .returned (.tuple #[]) ∧ Hid (Bt w a c X l (i + 1) B) := by
  have hc : (runE c.lim (l.take i)).cnt < c.lim := by rw [← h.2.2.1.cnt]; exact h.2.1.1
  refine (h.1.add9 x hc hi).mono fun _ B ⟨he, ho⟩ => ⟨he, ?_⟩
  show Bt w a c X l (i + 1) B
  unfold Bt
  rw [push_next c l (zs0 c) i x hx, run_next c.lim l i x hx]
  exact ⟨ho.out, h.2.1.add x, h.2.2.1.add h.2.2.2 x⟩
end
set_option maxRecDepth 100000 in
set_option maxHeartbeats 20000000 in
theorem below_some (k : Int) (seed : Nat) (hseed : seed < 18446744073709551616) (p : Option Addr) (cap : Nat) (l : List Nat) (w : World) (hs : mx.Since w w) (hl : l.length ≤ 80) (hr : rk.Ks (fun _ => True) w p l) :
    Calls Tryd.prog 3 #[.int .i64 k, .int .u64 (seed : Int), .slice p l.length cap] w fun e B => e = .returned (.bool true) ∧ Below w.heap.size w B := by
  have N6 := Lib.hid (both_new (min k 500) seed hseed w hs)
  obtain ⟨c, hc⟩ : ∃ c, csN (min k 500) seed = c := ⟨_, rfl⟩
  have OK : Ok c 0 (zs0 c) := by rw [← hc]; exact Ok.start (min k 500) seed
  rw [hc] at N6
  have S0 : Hid (∀ a X V, Both w a c X 0 (zs0 c) es0 V → Bt w a c X l 0 V) := fun a X V h => ⟨h, OK, Dom.start c⟩
  have C : Hid (∀ V, Below w.heap.size w V → ∀ j, j < l.length → ∃ (b o x : Nat), p = some ⟨b, o, none⟩ ∧ V.cell? ⟨b, o + j, none⟩ = some (.int .u64 (x : Int)) ∧ x < 18446744073709551616 ∧ Hid (l[j]? = some x)) := fun V hV j hj => key_now hr hV j hj
  clear hr hs hseed hc OK
  obtain ⟨len, hlen⟩ : ∃ len, l.length = len := ⟨_, rfl⟩
  have HL := Lib.hid hlen
  rw [hlen] at C hl ⊢
  go_enter Tryd.func3, Tryd.ntmps3
  go_wp2_with fail
  refine N6.out.mono ?_
  rintro e w1 ⟨a, rfl, N7⟩
  go_wp2_with fail
  refine N7.out.mono ?_
  rintro e w2 ⟨X, rfl, h2⟩
  have H0 : Hid (Bt w a c X l 0 w2) := S0.out _ _ _ h2.out
  clear N6 N7 h2 S0
  go_wp2_with fail
  go_loopw [9] (fun i wr => ∃ j : Nat, j ≤ len ∧ i = .int .i64 j ∧ Hid (Bt w a c X l j wr)) (fun i _ => len - (intOf i).toNat)
  case atStart => exact ⟨0, by omega, rfl, H0⟩
  case round =>
    obtain ⟨i, hi, rfl, hI⟩ := hrel
    clear H0
    by_cases hlt : i < len
    · obtain ⟨b, o, x, rfl, d0, hx64, hx⟩ := C.out wr hI.out.1.old i hlt
      have A8 := Lib.hid (hI.out.add8 x hx64 (by omega))
      have h1 : (0 : Int) ≤ (i : Int) := by omega
      have h2 : (i : Int) < (len : Int) := by omega
      clear hI
      go_wp2_with fail
      refine A8.out.mono ?_
      rintro e w3 ⟨rfl, H3⟩
      clear A8 d0
      obtain ⟨b', o', x', hp, d0, _, hx'⟩ := C.out w3 H3.out.1.old i hlt
      simp only [Option.some.injEq, Addr.mk.injEq, and_true] at hp
      obtain ⟨rfl, rfl⟩ := hp
      obtain rfl : x = x' := Option.some.inj (hx.out.symm.trans hx'.out)
      have A9 := Lib.hid (H3.out.add9 hx.out (by omega))
      clear H3 hx hx'
      go_wp2_with fail
      refine A9.out.mono ?_
      rintro e w4 ⟨rfl, H4⟩
      clear A9 d0
      go_wp2_with fail
      go_loopw [10] (fun q wr => ∃ k : Nat, k ≤ len ∧ q = .int .i64 k ∧ Hid (Bt w a c X l (i + 1) wr)) (fun q _ => len - (intOf q).toNat)
      case atStart => exact ⟨0, by omega, rfl, H4⟩
      case round =>
        obtain ⟨j, hj, rfl, hJ⟩ := hrel
        clear H4
        by_cases hjl : j < len
        · obtain ⟨b', o', y, hp, d0, hy64, hy⟩ := C.out wr hJ.out.1.old j hjl
          simp only [Option.some.injEq, Addr.mk.injEq, and_true] at hp
          obtain ⟨rfl, rfl⟩ := hp
          have j1 : (0 : Int) ≤ (j : Int) := by omega
          have j2 : (j : Int) < (len : Int) := by omega
          obtain ⟨z, hz⟩ : ∃ z, pushZ c (l.take (i + 1)) (zs0 c) = z := ⟨_, rfl⟩
          obtain ⟨e, he⟩ : ∃ e, runE c.lim (l.take (i + 1)) = e := ⟨_, rfl⟩
          obtain ⟨EZ, hEZ⟩ : ∃ EZ, estZ c y z = EZ := ⟨_, rfl⟩
          obtain ⟨EE, hEE⟩ : ∃ EE, estE y e = EE := ⟨_, rfl⟩
          have hle : EE ≤ EZ := by
            have := hJ.out.2.2.est y
            rw [hz, he, hEZ, hEE] at this
            exact this
          have hlt' : ¬ (EZ : Int) < (EE : Int) := by omega
          have CY : Hid (∀ V, Both w a c X (i + 1) z e V → V.cell? ⟨b, o + j, none⟩ = some (.int .u64 (y : Int))) := fun V hV => by
            obtain ⟨b', o', y', hp, d0, _, hy'⟩ := C.out V hV.old j hjl
            simp only [Option.some.injEq, Addr.mk.injEq, and_true] at hp
            obtain ⟨rfl, rfl⟩ := hp
            obtain rfl : y = y' := Option.some.inj (hy.out.symm.trans hy'.out)
            exact d0
          have J1 : Hid (Both w a c X (i + 1) z e wr.drew) := by
            have := hJ.out.1.drewN 1
            rw [hz, he] at this
            exact this
          have E10 : Hid (Calls Tryd.prog 10 #[.pointer (some ⟨a.T, 0, none⟩), .int .u64 (y : Int)] wr.drew fun r B => r = .returned (.int .i64 (EZ : Int)) ∧ B.cell? ⟨b, o + j, none⟩ = some (.int .u64 (y : Int)) ∧ Hid (Both w a c X (i + 1) z e B)) := by
            have := J1.out.est10 y hy64
            rw [hEZ] at this
            exact this.mono fun r B ⟨h1, h2⟩ => ⟨h1, CY.out B h2.out, h2⟩
          have E11 : Hid (∀ V, Hid (Both w a c X (i + 1) z e V) → Calls Tryd.prog 11 #[.pointer (some ⟨X, 0, none⟩), .int .u64 (y : Int)] V fun r B => r = .returned (.int .i64 (EE : Int)) ∧ B.cell? ⟨b, o + j, none⟩ = some (.int .u64 (y : Int)) ∧ Hid (Both w a c X (i + 1) z e B)) := fun V hV => by
            have := hV.out.est11 y
            rw [hEE] at this
            exact this.mono fun r B ⟨h1, h2⟩ => ⟨h1, CY.out B h2.out, h2⟩
          have K0 := Lib.hid (CY.out _ J1.out)
          have FIN : Hid (∀ V, Hid (Both w a c X (i + 1) z e V) → Hid (Bt w a c X l (i + 1) V)) := fun V hV => by
            show Bt w a c X l (i + 1) V
            have h3 := hJ.out.2
            unfold Bt
            rw [hz, he] at h3 ⊢
            exact ⟨hV.out, h3⟩
          clear hJ hz he hEZ hEE hle hy CY J1 C d0
          go_wp2_with fail
          go_region_held3 (fun V => V.cell? ⟨b, o + j, none⟩ = some (.int .u64 (y : Int))) (first | exact K0.out | assumption) (first
            | (go_at_call 11; refine (E11.out _ h10).mono ?_; rintro r w6 ⟨rfl, k6, h11⟩)
            | (go_at_call 10; refine E10.out.mono ?_; rintro r w5 ⟨rfl, k5, h10⟩))
          go_wp2
          go_roundw
          case rel => exact ⟨j + 1, by omega, by simp, FIN.out _ h11⟩
          case measure => simp [intOf]; omega
        · obtain rfl : j = len := by omega
          go_wp2
          go_roundw
          case rel => exact ⟨i + 1, by omega, by simp, hJ⟩
          case measure => simp [intOf]; omega
    · obtain rfl : i = len := by omega
      have hcnt := hI.out.2.2.cnt
      have K12 := Lib.hid hI.out.1.cnt12
      have K13 := Lib.hid hI.out.1.cnt13
      have HO := Lib.hid hI.out.1.old
      rw [hcnt] at K12
      generalize (runE c.lim (l.take i)).cnt = m at *
      have he : ((m : Int) == (m : Int)) = true := by simp
      have AW := Lib.hid (rk.awake_any wr)
      clear hI hcnt C HL
      go_wp2_with (first
        | (go_at_call 12; refine K12.out.mono ?_; rintro e w3 ⟨rfl, e3⟩; obtain rfl : wr = w3 := e3)
        | (go_at_call 13; refine K13.out.mono ?_; rintro e w3 ⟨rfl, e3⟩; obtain rfl : wr = w3 := e3)
        | (go_at_call 5; refine AW.out.mono ?_; rintro e w4 ⟨rfl, hb4⟩))
      go_ret
      exact ⟨rfl, HO.out.trans (hb4.out.mono HO.out.size)⟩
theorem below_walk (k : Int) (seed : Nat) (hseed : seed < 18446744073709551616) (p : Option Addr) (cap : Nat) (l : List Nat) (w : World) (hs : mx.Since w w) (hr : rk.Ks (fun _ => True) w p l) :
    Calls Tryd.prog 3 #[.int .i64 k, .int .u64 (seed : Int), .slice p l.length cap] w fun e B => e = .returned (.bool true) ∧ Below w.heap.size w B := by
  by_cases hl : l.length ≤ 80
  · exact below_some k seed hseed p cap l w hs hl hr
  · have h : (80 : Int) < (l.length : Int) := by omega
    have AW := Lib.hid (rk.awake_any w)
    clear hr hl hs
    generalize l.length = len at *
    go_enter Tryd.func3, Tryd.ntmps3
    go_wp2_with fail
    refine AW.out.mono ?_
    rintro e w1 ⟨rfl, hb⟩
    go_wp2
    go_ret
    exact ⟨rfl, hb.out⟩
end Go.Proofs.YtnhpcjiieagjnaaDoor
