/-
  DoorPlays, walked: true for every int, every seed and every slice of keys.
-/
import Derived.Test.YtmfdobppihjjkaaDoorTr
import Derived.Deep.RegionHeld3
import Derived.Deep.DeepCutAuto
import Derived.Deep.CutRange
namespace Go.Proofs.YtmfdobppihjjkaaDoor
open Go.RowKit
set_option maxRecDepth 100000 in
set_option maxHeartbeats 8000000 in
theorem plays_some (c : Int) (seed : Nat) (hseed : seed < 18446744073709551616) (a : Option Addr) (cap : Nat) (l : List Nat) (w : World) (hs : mx.Since w w) (hc : c ≤ 100) (hl : l.length ≤ 40) (hr : Keys w a l) :
    Calls Tryd.prog 3 #[.int .i64 c, .int .u64 (seed : Int), .slice a l.length cap] w fun e B => e = .returned (.bool true) ∧ Below w.heap.size w B := by
  obtain ⟨-, hm0, hm1⟩ := bdN_bd c
  have T6 : Hid (Calls Tryd.prog 6 #[.int .i64 c, .int .u64 (seed : Int)] w fun e B => ∃ S G, e = .returned (.pointer (some ⟨S, 0, none⟩)) ∧ Hid (At w S G (mixF seed) (List.replicate (bdN c) 0) B)) := new_any c seed hseed w hs
  have T7 : Hid (∀ (S G : Nat) (W : World), At w S G (mixF seed) (List.replicate (bdN c) 0) W → Calls Tryd.prog 7 #[.int .i64 c, .int .u64 (seed : Int)] W fun e B => ∃ a k, e = .returned (dv (.slice a (8 * bdN c) k) seed) ∧ Hid (Ps w S G (mixF seed) B.heap.size seed (List.replicate (bdN c) 0) (.slice a (8 * bdN c) k) (B.alloc (.cells #[.slice a (8 * bdN c) k, .int .u64 (seed : Int)] 29)))) := fun S G W hW =>
    (refnew_any c seed W).mono fun e B ⟨a, k, he, hq, hb, ho⟩ => ⟨a, k, he, Ps.start hseed hW hb hq ho hm0⟩
  generalize bdN c = m at *
  have hsd := Lib.hid (rfl : mixF seed = mixF seed)
  obtain ⟨t, ht⟩ : ∃ t, mixF seed = t := ⟨_, rfl⟩
  rw [ht] at T6 T7
  obtain ⟨rb, hrb⟩ : ∃ rb : Nat → List Nat, rb = fun j => runB t m (l.take j) := ⟨_, rfl⟩
  have R0 : Hid (List.replicate m 0 = rb 0) := by rw [hrb]; rfl
  have R1 : Hid (∀ j X, l[j]? = some X → putB (plN t (8 * m) X) (rb j) = rb (j + 1)) := by rw [hrb]; exact fun j X h => (runB_next t m l j X h).symm
  have R2 : Hid (∀ j, (rb j).length = m) := by rw [hrb]; exact fun j => runB_len _ _ _
  have C : Hid (∀ W, Below w.heap.size w W → ∀ i, i < l.length → ∃ b o X, a = some ⟨b, o, none⟩ ∧ l[i]? = some X ∧ W.cell? ⟨b, o + i, none⟩ = some (.int .u64 (X : Int)) ∧ X < 18446744073709551616) := fun W hW i hi => by
    obtain ⟨b, o, ha, hc⟩ := hr (by omega)
    obtain ⟨c0, hx⟩ := hc i hi
    exact ⟨b, o, l[i], ha, by simp [hi], (hW.cell (p := ⟨b, o + i, none⟩) (World.block_lt_of_cell? w ⟨b, o + i, none⟩ c0)).trans c0, hx⟩
  have hd1 : decide (100 < c) = false := by simpa using hc
  have hd2 : ¬ (40 : Int) < (l.length : Int) := by omega
  rw [R0.out] at T6 T7
  clear hr hs ht hrb R0 hsd
  generalize hlen : l.length = len at *
  go_enter Tryd.func3, Tryd.ntmps3
  go_wp2_with fail
  refine T6.out.mono ?_
  rintro e w1 ⟨S, G, rfl, h1⟩
  have T7 := Lib.hid (T7.out S G _ h1.out)
  clear T6 h1
  go_wp2_with fail
  refine T7.out.mono ?_
  rintro e w2 ⟨a1, k1, rfl, h2⟩
  clear T7
  go_wp2_with fail
  obtain ⟨V, hV⟩ : ∃ V, w2.heap.size = V := ⟨_, rfl⟩
  rw [hV] at h2
  rw [hV]
  generalize w2.alloc (.cells #[.slice a1 (8 * m) k1, .int .u64 (seed : Int)] 29) = W0 at *
  clear hV
  go_loopw [9] (fun i wr => ∃ (j : Nat) (v : Value), j ≤ len ∧ i = .int .i64 j ∧ Hid (Ps w S G t V seed (rb j) v wr)) (fun i _ => len - (intOf i).toNat)
  case atStart => exact ⟨0, _, by omega, rfl, h2⟩
  case round =>
    obtain ⟨j, v, hj, rfl, hH⟩ := hrel
    clear h2
    by_cases hlt : j < len
    · obtain ⟨b, o, X, rfl, hX, d0, hXl⟩ := C.out wr hH.out.old j hlt
      have j1 : (0 : Int) ≤ (j : Int) := by omega
      have j2 : (j : Int) < (len : Int) := by omega
      obtain ⟨a2, k2, rfl⟩ : ∃ a k, v = .slice a (8 * m) k := by
        obtain ⟨a, k, hv⟩ := hH.out.slice
        rw [R2.out j] at hv
        exact ⟨a, k, hv⟩
      obtain ⟨X1, hX1, hX1l⟩ : ∃ X1 : Nat, IntKind.u64.wrap ((X : Int) + 1) = (X1 : Int) ∧ X1 < 18446744073709551616 := ⟨(X + 1) % 18446744073709551616, by simp only [IntKind.wrap_u64]; omega, Nat.mod_lt _ (by decide)⟩
      have Z : Hid (∀ W, Ps w S G t V seed (rb j) (.slice a2 (8 * m) k2) W → (W.cell? ⟨b, o + j, none⟩ = some (.int .u64 (X : Int)) ∧ W.cell? ⟨V, 0, none⟩ = some (.slice a2 (8 * m) k2) ∧ W.cell? ⟨V, 1, none⟩ = some (.int .u64 (seed : Int)))) := fun W hW => by
        obtain ⟨b', o', X', hv, hX', hc2, _⟩ := C.out W hW.old j hlt
        simp only [Option.some.injEq, Addr.mk.injEq, and_true] at hv
        obtain ⟨rfl, rfl⟩ := hv
        rw [hX] at hX'
        obtain rfl := Option.some.inj hX'
        exact ⟨hc2, hW.cells.1, hW.cells.2.1⟩
      have K8 : Hid (∀ W, Ps w S G t V seed (rb j) (.slice a2 (8 * m) k2) W → Calls Tryd.prog 8 #[.pointer (some ⟨S, 0, none⟩), .int .u64 (X : Int)] W fun e B => e = .returned (pv (plN t (8 * m) X)) ∧ (B.cell? ⟨b, o + j, none⟩ = some (.int .u64 (X : Int)) ∧ B.cell? ⟨V, 0, none⟩ = some (.slice a2 (8 * m) k2) ∧ B.cell? ⟨V, 1, none⟩ = some (.int .u64 (seed : Int))) ∧ Hid (Ps w S G t V seed (rb j) (.slice a2 (8 * m) k2) B) ∧ Hid (Below W.heap.size W B)) := fun W hW => by
        have := hW.k8 X hXl
        rw [R2.out j] at this
        exact this.mono fun e B ⟨he, h1, h2⟩ => ⟨he, Z.out B h1.out, h1, h2⟩
      have K9 : Hid (∀ (Y : Nat) W, Y < 18446744073709551616 → Ps w S G t V seed (rb j) (.slice a2 (8 * m) k2) W → Calls Tryd.prog 9 #[dv (.slice a2 (8 * m) k2) seed, .int .u64 (Y : Int)] W fun e B => ∃ b1 c1, e = .returned (.slice (some ⟨b1, 0, none⟩) 4 c1) ∧ (B.cell? ⟨b, o + j, none⟩ = some (.int .u64 (X : Int)) ∧ B.cell? ⟨V, 0, none⟩ = some (.slice a2 (8 * m) k2) ∧ B.cell? ⟨V, 1, none⟩ = some (.int .u64 (seed : Int))) ∧ Hid (Ps w S G t V seed (rb j) (.slice a2 (8 * m) k2) B) ∧ Hid (Below W.heap.size W B) ∧ Hid (At4 b1 (plN t (8 * m) Y) B ∧ W.heap.size ≤ b1)) := fun Y W hY hW => by
        have := hW.k9 Y hY
        rw [R2.out j] at this
        exact this.mono fun e B ⟨b1, c1, he, h1, h2, h3⟩ => ⟨b1, c1, he, Z.out B h1.out, h1, h2, h3⟩
      have K9a : Hid (∀ W, _ → _) := fun W => K9.out X W hXl
      have K9b : Hid (∀ W, _ → _) := fun W => K9.out X1 W hX1l
      have AL : Hid (∀ W o, Ps w S G t V seed (rb j) (.slice a2 (8 * m) k2) W → Ps w S G t V seed (rb j) (.slice a2 (8 * m) k2) (W.alloc o)) := fun W o h => h.alloc o
      have H0 : Hid (Ps w S G t V seed (rb j) (.slice a2 (8 * m) k2) wr.drew) := hH.out.drewN 1
      have AW : Hid (∀ k, wr.heap.size ≤ k → Away w S G V (.slice a2 (8 * m) k2) k) := fun k hk => hH.out.away k hk
      generalize hpx : plN t (8 * m) X = p at *
      generalize hqx : plN t (8 * m) X1 = q at *
      have D0 := Lib.hid (Z.out _ H0.out)
      clear K9
      have RJ := Lib.hid (R2.out j)
      go_wp2_with fail
      go_cut [10, 11, 12] (fun u10 u11 u12 wx => ∃ A1 b1 c1 b2 c2, u10 = .pointer (some ⟨A1, 0, none⟩) ∧ u11 = .slice (some ⟨b1, 0, none⟩) 4 c1 ∧ u12 = .slice (some ⟨b2, 0, none⟩) 4 c2 ∧ Hid (Tri w S G t V seed (rb j) (.slice a2 (8 * m) k2) A1 b1 b2 p q wx))
      case first =>
        as_aux_lemma =>
          clear d0
          go_region_held3 (fun W => W.cell? ⟨b, o + j, none⟩ = some (.int .u64 (X : Int)) ∧ W.cell? ⟨V, 0, none⟩ = some (.slice a2 (8 * m) k2) ∧ W.cell? ⟨V, 1, none⟩ = some (.int .u64 (seed : Int))) (first
              | (refine Z.out _ ?_; first | exact h11.out | exact AL.out _ _ h11.out | exact h10.out | exact AL.out _ _ h10.out | exact h8.out | exact AL.out _ _ h8.out | exact H0.out | exact AL.out _ _ H0.out | exact (Tri.of_set h11.out p1.out q11.out.1 z11.out a8.out n1.out n2.out).ps)
              | fail "keep") (first
            | (go_at_call_of 9 (Value.int IntKind.u64 (X1 : Int)); refine (K9b.out _ (by first | exact h10.out | exact AL.out _ _ h10.out)).mono ?_; rintro e w11 ⟨b2, c2, rfl, S11, h11, B11, q11⟩; clear S11; first
              | (have z11 := Lib.hid (Z31.below z10.out B11.out); have n2 := Lib.hid (Nat.ne_of_lt (Nat.lt_of_lt_of_le z10.out.lt q11.out.2)); have p1 := Lib.hid (q10.out.1.below B11.out); obtain ⟨y0, y1, y2, y3, g0, g1, g2, g3⟩ := z11.out.cells)
              | (have z11 := Lib.hid (Z31.below (Z31.new w10) B11.out); have n2 := Lib.hid (Nat.ne_of_lt (Nat.lt_of_lt_of_le (Z31.new w10).lt q11.out.2)); have n1 := Lib.hid (Nat.ne_of_gt q10.out.1.lt); have a8 := Lib.hid (AW.out _ (Nat.le_trans B8.out.size B10.out.size)); have p1 := Lib.hid ((q10.out.1.alloc _).below B11.out); obtain ⟨y0, y1, y2, y3, g0, g1, g2, g3⟩ := z11.out.cells)
              | (have p1 := Lib.hid (q10.out.1.below B11.out)))
            | (go_at_call_of 9 (Value.int IntKind.u64 (X : Int)); refine (K9a.out _ (by first | exact h8.out | exact AL.out _ _ h8.out)).mono ?_; rintro e w10 ⟨b1, c1, rfl, S10, h10, B10, q10⟩; clear S10; first
              | (have z10 := Lib.hid (Z31.below z8.out B10.out); have n1 := Lib.hid (Nat.ne_of_lt (Nat.lt_of_lt_of_le z8.out.lt q10.out.2)))
              | (have z10 := Lib.hid (Z31.below (Z31.new w8) B10.out); have n1 := Lib.hid (Nat.ne_of_lt (Nat.lt_of_lt_of_le (Z31.new w8).lt q10.out.2)); have a8 := Lib.hid (AW.out _ B8.out.size))
              | skip)
            | (go_at_call 8; refine (K8.out _ (by first | exact H0.out | exact AL.out _ _ H0.out)).mono ?_; rintro e w8 ⟨rfl, S8, h8, B8⟩; clear S8; first
              | (have z8 := Lib.hid (Z31.below (Z31.drew (Z31.new wr)) B8.out); have a8 := Lib.hid (AW.out _ (Nat.le_refl _)))
              | skip))
          all_goals (go_wp2_with fail)
          all_goals go_meet
          all_goals first
            | exact ⟨_, _, _, _, _, rfl, rfl, rfl, Tri.of_set h11.out p1.out q11.out.1 z11.out a8.out n1.out n2.out⟩
            | exact ⟨_, _, _, _, _, rfl, rfl, rfl, Tri.of_alloc h11.out p1.out q11.out.1⟩
      case rest =>
        obtain ⟨A1, b1, c1, b2, c2, rfl, rfl, rfl, hT⟩ := hcut
        clear K8 K9a K9b AL H0 AW D0
        go_wp2_with fail
        go_cut [13] (fun u13 wx => u13 = .bool (alike p q) ∧ Hid (Tri w S G t V seed (rb j) (.slice a2 (8 * m) k2) A1 b1 b2 p q wx))
        case first =>
          as_aux_lemma =>
            obtain ⟨y0, y1, y2, y3⟩ := hT.out.p1.all
            obtain ⟨z0, z1, z2, z3⟩ := hT.out.p2.all
            have hal : Hid (alike p q = (p 0 == q 0 && p 1 == q 1 && p 2 == q 2 && p 3 == q 3)) := (rfl : alike p q = _)
            have HT : Hid (∀ q', Tri w S G t V seed (rb j) (.slice a2 (8 * m) k2) A1 b1 b2 p q (wc.drewN q')) := fun q' => hT.out.drewN q'
            clear hT Z
            have HPX := Lib.hid hpx
            have HQX := Lib.hid hqx
            clear hpx hqx
            generalize p 0 = p0 at *
            generalize p 1 = p1 at *
            generalize p 2 = p2 at *
            generalize p 3 = p3 at *
            generalize q 0 = q0 at *
            generalize q 1 = q1 at *
            generalize q 2 = q2 at *
            generalize q 3 = q3 at *
            by_cases e0 : p0 = q0
            · have f0 : ((p0 : Int) == (q0 : Int)) = true := by simp [e0]
              have b0 : Hid ((p0 == q0) = true) := by show (p0 == q0) = true; simp [e0]
              by_cases e1 : p1 = q1
              · have f1 : ((p1 : Int) == (q1 : Int)) = true := by simp [e1]
                have b1' : Hid ((p1 == q1) = true) := by show (p1 == q1) = true; simp [e1]
                by_cases e2 : p2 = q2
                · have f2 : ((p2 : Int) == (q2 : Int)) = true := by simp [e2]
                  have b2' : Hid ((p2 == q2) = true) := by show (p2 == q2) = true; simp [e2]
                  by_cases e3 : p3 = q3
                  · have f3 : ((p3 : Int) == (q3 : Int)) = true := by simp [e3]
                    have b3' : Hid ((p3 == q3) = true) := by show (p3 == q3) = true; simp [e3]
                    clear e0 e1 e2 e3
                    go_quiet (fail)
                    go_wp2_with fail
                    go_meet
                    exact ⟨by rw [hal.out, b0.out, b1'.out, b2'.out, b3'.out]; rfl, HT.out _⟩
                  · have f3 : ((p3 : Int) == (q3 : Int)) = false := by simp; omega
                    have g3 : ¬ (p3 : Int) = (q3 : Int) := by omega
                    have b3' : Hid ((p3 == q3) = false) := by show (p3 == q3) = false; simpa using e3
                    clear e0 e1 e2 e3
                    go_quiet (fail)
                    go_wp2_with fail
                    go_meet
                    exact ⟨by rw [hal.out, b0.out, b1'.out, b2'.out, b3'.out]; rfl, HT.out _⟩
                · have f2 : ((p2 : Int) == (q2 : Int)) = false := by simp; omega
                  have g2 : ¬ (p2 : Int) = (q2 : Int) := by omega
                  have b2' : Hid ((p2 == q2) = false) := by show (p2 == q2) = false; simpa using e2
                  clear e0 e1 e2
                  go_quiet (fail)
                  go_wp2_with fail
                  go_meet
                  exact ⟨by rw [hal.out, b0.out, b1'.out, b2'.out]; rfl, HT.out _⟩
              · have f1 : ((p1 : Int) == (q1 : Int)) = false := by simp; omega
                have g1 : ¬ (p1 : Int) = (q1 : Int) := by omega
                have b1' : Hid ((p1 == q1) = false) := by show (p1 == q1) = false; simpa using e1
                clear e0 e1
                go_quiet (fail)
                go_wp2_with fail
                go_meet
                exact ⟨by rw [hal.out, b0.out, b1'.out]; rfl, HT.out _⟩
            · have f0 : ((p0 : Int) == (q0 : Int)) = false := by simp; omega
              have g0 : ¬ (p0 : Int) = (q0 : Int) := by omega
              have b0 : Hid ((p0 == q0) = false) := by show (p0 == q0) = false; simpa using e0
              clear e0
              go_quiet (fail)
              go_wp2_with fail
              go_meet
              exact ⟨by rw [hal.out, b0.out]; rfl, HT.out _⟩
        case rest =>
          obtain ⟨rfl, hU⟩ := hcut
          have Z9 : Hid (∀ W, Tri w S G t V seed (rb j) (.slice a2 (8 * m) k2) A1 b1 b2 p q W → (W.cell? ⟨b, o + j, none⟩ = some (.int .u64 (X : Int)) ∧ W.cell? ⟨V, 0, none⟩ = some (.slice a2 (8 * m) k2) ∧ W.cell? ⟨V, 1, none⟩ = some (.int .u64 (seed : Int)) ∧ W.cell? ⟨A1, 0, none⟩ = some (.int .i64 (p 0 : Int)) ∧ W.cell? ⟨A1, 1, none⟩ = some (.int .i64 (p 1 : Int)) ∧ W.cell? ⟨A1, 2, none⟩ = some (.int .i64 (p 2 : Int)) ∧ W.cell? ⟨A1, 3, none⟩ = some (.int .i64 (p 3 : Int)) ∧ W.cell? ⟨b1, 0, none⟩ = some (.int .i64 (p 0 : Int)) ∧ W.cell? ⟨b1, 1, none⟩ = some (.int .i64 (p 1 : Int)) ∧ W.cell? ⟨b1, 2, none⟩ = some (.int .i64 (p 2 : Int)) ∧ W.cell? ⟨b1, 3, none⟩ = some (.int .i64 (p 3 : Int)))) := fun W hW => by
            obtain ⟨a0, a1, a2⟩ := Z.out W hW.ps
            obtain ⟨x0, x1, x2, x3⟩ := hW.pa.all
            obtain ⟨y0, y1, y2, y3⟩ := hW.p1.all
            exact ⟨a0, a1, a2, x0, x1, x2, x3, y0, y1, y2, y3⟩
          have HU0 : Hid (Tri w S G t V seed (rb j) (.slice a2 (8 * m) k2) A1 b1 b2 p q wc.drew) := hU.out.drewN 1
          have P10 : Hid (∀ W, Tri w S G t V seed (rb j) (.slice a2 (8 * m) k2) A1 b1 b2 p q W → Calls Tryd.prog 10 #[.pointer (some ⟨S, 0, none⟩), .int .u64 (X : Int), .int .u64 (X1 : Int)] W fun e B => e = .returned (.bool (alike p q)) ∧ Hid (Tri w S G t V seed (rb j) (.slice a2 (8 * m) k2) A1 b1 b2 p q B)) := fun W hW => by
            have := hW.ps.k10 X X1 hXl hX1l
            rw [R2.out j, hpx, hqx] at this
            exact this.mono fun e B ⟨he, h1⟩ => ⟨he, hW.below h1.out⟩
          have P11a : Hid (∀ W, Tri w S G t V seed (rb j) (.slice a2 (8 * m) k2) A1 b1 b2 p q W → Calls Tryd.prog 11 #[.pointer (some ⟨S, 0, none⟩), .int .u64 (X : Int)] W fun e B => e = .returned (.bool (hasB p (rb j))) ∧ Hid (Tri w S G t V seed (rb j) (.slice a2 (8 * m) k2) A1 b1 b2 p q B)) := fun W hW => by
            have := hW.ps.k11 X hXl
            rw [R2.out j, hpx] at this
            exact this.mono fun e B ⟨he, h1⟩ => ⟨he, hW.below h1.out⟩
          have P11b : Hid (∀ W, Tri w S G t V seed (rb j) (.slice a2 (8 * m) k2) A1 b1 b2 p q W → Calls Tryd.prog 11 #[.pointer (some ⟨S, 0, none⟩), .int .u64 (X1 : Int)] W fun e B => e = .returned (.bool (hasB q (rb j))) ∧ Hid (Tri w S G t V seed (rb j) (.slice a2 (8 * m) k2) A1 b1 b2 p q B)) := fun W hW => by
            have := hW.ps.k11 X1 hX1l
            rw [R2.out j, hqx] at this
            exact this.mono fun e B ⟨he, h1⟩ => ⟨he, hW.below h1.out⟩
          have P12a : Hid (∀ W, Tri w S G t V seed (rb j) (.slice a2 (8 * m) k2) A1 b1 b2 p q W → Calls Tryd.prog 12 #[dv (.slice a2 (8 * m) k2) seed, .int .u64 (X : Int)] W fun e B => e = .returned (.bool (hasB p (rb j))) ∧ Hid (Tri w S G t V seed (rb j) (.slice a2 (8 * m) k2) A1 b1 b2 p q B)) := fun W hW => by
            have := hW.ps.k12 X hXl
            rw [R2.out j, hpx] at this
            exact this.mono fun e B ⟨he, h1⟩ => ⟨he, hW.below h1.out⟩
          have P12b : Hid (∀ W, Tri w S G t V seed (rb j) (.slice a2 (8 * m) k2) A1 b1 b2 p q W → Calls Tryd.prog 12 #[dv (.slice a2 (8 * m) k2) seed, .int .u64 (X1 : Int)] W fun e B => e = .returned (.bool (hasB q (rb j))) ∧ Hid (Tri w S G t V seed (rb j) (.slice a2 (8 * m) k2) A1 b1 b2 p q B)) := fun W hW => by
            have := hW.ps.k12 X1 hX1l
            rw [R2.out j, hqx] at this
            exact this.mono fun e B ⟨he, h1⟩ => ⟨he, hW.below h1.out⟩
          have hq : ∀ w, (Op.equalIn 10000 31 (.agg #[.int .i64 (p 0 : Int), .int .i64 (p 1 : Int), .int .i64 (p 2 : Int), .int .i64 (p 3 : Int)]) (.agg #[.int .i64 (p 0 : Int), .int .i64 (p 1 : Int), .int .i64 (p 2 : Int), .int .i64 (p 3 : Int)])).run Tryd.prog w = .ok true w := fun w => by rw [eql4]; simp
          generalize hasB q (rb j) = hb at *
          generalize hha : hasB p (rb j) = ha at *
          have HHA := Lib.hid hha
          clear hha d0
          go_wp2_with fail
          go_cut [151] (fun u wx => u = .bool false ∧ Hid (Tri w S G t V seed (rb j) (.slice a2 (8 * m) k2) A1 b1 b2 p q wx))
          case first =>
           as_aux_lemma =>
             go_region_held3 (fun W => W.cell? ⟨b, o + j, none⟩ = some (.int .u64 (X : Int)) ∧ W.cell? ⟨V, 0, none⟩ = some (.slice a2 (8 * m) k2) ∧ W.cell? ⟨V, 1, none⟩ = some (.int .u64 (seed : Int)) ∧ W.cell? ⟨A1, 0, none⟩ = some (.int .i64 (p 0 : Int)) ∧ W.cell? ⟨A1, 1, none⟩ = some (.int .i64 (p 1 : Int)) ∧ W.cell? ⟨A1, 2, none⟩ = some (.int .i64 (p 2 : Int)) ∧ W.cell? ⟨A1, 3, none⟩ = some (.int .i64 (p 3 : Int)) ∧ W.cell? ⟨b1, 0, none⟩ = some (.int .i64 (p 0 : Int)) ∧ W.cell? ⟨b1, 1, none⟩ = some (.int .i64 (p 1 : Int)) ∧ W.cell? ⟨b1, 2, none⟩ = some (.int .i64 (p 2 : Int)) ∧ W.cell? ⟨b1, 3, none⟩ = some (.int .i64 (p 3 : Int))) (first
                | (refine Z9.out _ ?_; first | exact t5.out | exact t4.out | exact t3.out | exact t2.out | exact t1.out | exact HU0.out)
                | fail "keep") (first
              | (go_at_call_of 12 (Value.int IntKind.u64 (X1 : Int)); refine (P12b.out _ t4.out).mono ?_; rintro e v5 ⟨rfl, t5⟩)
              | (go_at_call_of 11 (Value.int IntKind.u64 (X1 : Int)); refine (P11b.out _ t3.out).mono ?_; rintro e v4 ⟨rfl, t4⟩)
              | (go_at_call_of 12 (Value.int IntKind.u64 (X : Int)); refine (P12a.out _ t2.out).mono ?_; rintro e v3 ⟨rfl, t3⟩)
              | (go_at_call_of 11 (Value.int IntKind.u64 (X : Int)); refine (P11a.out _ t1.out).mono ?_; rintro e v2 ⟨rfl, t2⟩)
              | (go_at_call 10; refine (P10.out _ HU0.out).mono ?_; rintro e v1 ⟨rfl, t1⟩))
             go_wp2_with fail
             go_meet
             exact ⟨rfl, t5⟩
          case rest =>
            obtain ⟨rfl, hU2⟩ := hcut
            clear P10 P11a P11b P12a P12b Z9 HU0 hU hT hq
            have hP : Hid (Ps w S G t V seed (rb j) (.slice a2 (8 * m) k2) wc.drew) := hU2.out.ps.drewN 1
            have P13 : Hid (∀ W, Ps w S G t V seed (rb j) (.slice a2 (8 * m) k2) W → Calls Tryd.prog 13 #[dv (.slice a2 (8 * m) k2) seed, .int .u64 (X : Int)] W fun e B => ∃ a3 k3, e = .returned (.tuple #[dv (.slice a3 (8 * m) k3) seed, .bool (!ha)]) ∧ Hid (Ps w S G t V seed (rb j) (.slice a2 (8 * m) k2) B) ∧ Hid (Below W.heap.size W B) ∧ Hid (Nv B G V (8 * m) (rb (j + 1)) (.slice a3 (8 * m) k3)) ∧ Hid (∀ b, (Value.slice a3 (8 * m) k3).ownBlock = some b → (Value.slice a2 (8 * m) k2).ownBlock = some b ∨ W.heap.size ≤ b)) := fun W hW => by
              have := hW.k13 X hXl
              rw [R2.out j, hpx, HHA.out, ← hpx, R1.out j X hX] at this
              exact this.mono fun e B ⟨v', he, h1, h2, h3, h4⟩ => by
                obtain ⟨a3, k3, rfl⟩ := h3.out.sl
                exact ⟨a3, k3, he, h1, h2, h3, h4⟩
            have AW : Hid (∀ k, wc.heap.size ≤ k → Away w S G V (.slice a2 (8 * m) k2) k) := fun k hk => hU2.out.ps.away k hk
            have AL : Hid (∀ W o, Ps w S G t V seed (rb j) (.slice a2 (8 * m) k2) W → Ps w S G t V seed (rb j) (.slice a2 (8 * m) k2) (W.alloc o)) := fun W o h => h.alloc o
            have RE := Lib.hid (R2.out j)
            go_wp2_with fail
            go_cut [14, 15] (fun u14 u15 wx => ∃ V2 a3 k3, u14 = .pointer (some ⟨V2, 0, none⟩) ∧ u15 = .bool (!ha) ∧ Hid (Nx w S G t V seed (rb j) (.slice a2 (8 * m) k2) V2 (rb (j + 1)) (.slice a3 (8 * m) k3) wx))
            case first =>
              as_aux_lemma =>
                go_region_held3 (fun W => W.cell? ⟨b, o + j, none⟩ = some (.int .u64 (X : Int)) ∧ W.cell? ⟨V, 0, none⟩ = some (.slice a2 (8 * m) k2) ∧ W.cell? ⟨V, 1, none⟩ = some (.int .u64 (seed : Int))) (first
                    | (refine Z.out _ ?_; first | exact h13.out | exact AL.out _ _ h13.out | exact hP.out | exact AL.out _ _ hP.out | exact (Nx.of_set' (congrArg (8 * ·) RE.out) h13.out n13.out z13.out a13.out o13.out).ps)
                    | fail "keep") (first
                  | (go_at_call 13; refine (P13.out _ (by first | exact hP.out | exact AL.out _ _ hP.out)).mono ?_; rintro e w13 ⟨a3, k3, rfl, h13, B13, n13, q13⟩; first
                    | (have z13 := Lib.hid (Z29.below (Z29.drew (Z29.new wc)) B13.out); have a13 := Lib.hid (AW.out _ (Nat.le_refl _)); have o13 := Lib.hid (own_away a13.out (Z29.drew (Z29.new wc)).lt q13.out); obtain ⟨y0, y1, g0, g1⟩ := z13.out.cells)
                    | skip))
                all_goals (go_wp2_with fail)
                all_goals go_meet
                all_goals first
                  | exact ⟨_, _, _, rfl, rfl, Nx.of_set' (congrArg (8 * ·) RE.out) h13.out n13.out z13.out a13.out o13.out⟩
                  | exact ⟨_, _, _, rfl, rfl, Nx.of_alloc' (congrArg (8 * ·) RE.out) h13.out n13.out⟩
            case rest =>
              obtain ⟨V2, a3, k3, rfl, rfl, hN⟩ := hcut
              clear P13 AW AL hP hU2
              have Zx : Hid (∀ W, Nx w S G t V seed (rb j) (.slice a2 (8 * m) k2) V2 (rb (j + 1)) (.slice a3 (8 * m) k3) W → (W.cell? ⟨b, o + j, none⟩ = some (.int .u64 (X : Int)) ∧ W.cell? ⟨V2, 0, none⟩ = some (.slice a3 (8 * m) k3) ∧ W.cell? ⟨V2, 1, none⟩ = some (.int .u64 (seed : Int)))) := fun W hW => ⟨(Z.out W hW.ps).1, hW.cells.1, hW.cells.2⟩
              have Zy : Hid (∀ W, Ny w S G t V seed (.slice a2 (8 * m) k2) V2 (rb (j + 1)) (.slice a3 (8 * m) k3) W → (W.cell? ⟨b, o + j, none⟩ = some (.int .u64 (X : Int)) ∧ W.cell? ⟨V2, 0, none⟩ = some (.slice a3 (8 * m) k3) ∧ W.cell? ⟨V2, 1, none⟩ = some (.int .u64 (seed : Int)))) := fun W hW => by
                obtain ⟨b', o', X', hv, hX', hc2, _⟩ := C.out W hW.at_.old.2 j hlt
                simp only [Option.some.injEq, Addr.mk.injEq, and_true] at hv
                obtain ⟨rfl, rfl⟩ := hv
                rw [hX] at hX'
                obtain rfl := Option.some.inj hX'
                exact ⟨hc2, hW.cells.1.1, hW.cells.1.2⟩
              have P14 : Hid (∀ W, Nx w S G t V seed (rb j) (.slice a2 (8 * m) k2) V2 (rb (j + 1)) (.slice a3 (8 * m) k3) W → Calls Tryd.prog 14 #[.pointer (some ⟨S, 0, none⟩), .int .u64 (X : Int)] W fun e B => e = .returned (.bool (!ha)) ∧ Hid (Ny w S G t V seed (.slice a2 (8 * m) k2) V2 (rb (j + 1)) (.slice a3 (8 * m) k3) B)) := fun W hW => by
                have e := R1.out j X hX
                rw [← e] at hW ⊢
                have hl := R2.out j
                have := Nx.k14 (bs := rb j) X hXl (by rw [hl]; exact hW)
                rw [hl, hpx, HHA.out] at this
                rw [hpx]
                exact this
              have P15 : Hid (∀ W, Ny w S G t V seed (.slice a2 (8 * m) k2) V2 (rb (j + 1)) (.slice a3 (8 * m) k3) W → Calls Tryd.prog 15 #[.pointer (some ⟨S, 0, none⟩)] W fun e B => e = .returned (.int .i64 (fullB (rb (j + 1)) : Int)) ∧ Hid (Ny w S G t V seed (.slice a2 (8 * m) k2) V2 (rb (j + 1)) (.slice a3 (8 * m) k3) B)) := fun W hW => hW.k15.mono fun e B ⟨he, hb⟩ => ⟨he, hb ▸ hW⟩
              have P16 : Hid (∀ W, Ny w S G t V seed (.slice a2 (8 * m) k2) V2 (rb (j + 1)) (.slice a3 (8 * m) k3) W → Calls Tryd.prog 16 #[dv (.slice a3 (8 * m) k3) seed] W fun e B => e = .returned (.int .i64 (fullB (rb (j + 1)) : Int)) ∧ Hid (Ny w S G t V seed (.slice a2 (8 * m) k2) V2 (rb (j + 1)) (.slice a3 (8 * m) k3) B)) := fun W hW => hW.k16.mono fun e B ⟨he, hb⟩ => ⟨he, hW.below hb.out⟩
              have hN0 : Hid (Nx w S G t V seed (rb j) (.slice a2 (8 * m) k2) V2 (rb (j + 1)) (.slice a3 (8 * m) k3) wc.drew) := hN.out.drewN 1
              have FIN : Hid (∀ W, Ny w S G t V seed (.slice a2 (8 * m) k2) V2 (rb (j + 1)) (.slice a3 (8 * m) k3) W → ((W.cell? ⟨V2, 0, none⟩ = some (.slice a3 (8 * m) k3) ∧ W.cell? ⟨V2, 1, none⟩ = some (.int .u64 (seed : Int))) ∧ W.cell? ⟨V, 0, none⟩ = some (.slice a2 (8 * m) k2) ∧ W.cell? ⟨V, 1, none⟩ = some (.int .u64 (seed : Int)) ∧ W.frozen? ⟨V, 0, none⟩ = false ∧ W.frozen? ⟨V, 1, none⟩ = false) ∧ Hid (Ps w S G t V seed (rb (j + 1)) (.slice a3 (8 * m) k3) ((W.setCell ⟨V, 0, none⟩ (.slice a3 (8 * m) k3)).setCell ⟨V, 1, none⟩ (.int .u64 (seed : Int))))) := fun W hW => ⟨hW.cells, hW.set⟩
              clear HHA
              generalize fullB (rb (j + 1)) = fb at *
              go_wp2_with fail
              go_cut [175] (fun u wx => u = .bool false ∧ Hid (Ny w S G t V seed (.slice a2 (8 * m) k2) V2 (rb (j + 1)) (.slice a3 (8 * m) k3) wx))
              case first =>
                as_aux_lemma =>
                  go_region_held3 (fun W => W.cell? ⟨b, o + j, none⟩ = some (.int .u64 (X : Int)) ∧ W.cell? ⟨V2, 0, none⟩ = some (.slice a3 (8 * m) k3) ∧ W.cell? ⟨V2, 1, none⟩ = some (.int .u64 (seed : Int))) (first
                      | (refine Zy.out _ ?_; first | exact t16.out | exact t15.out | exact t14.out)
                      | (refine Zx.out _ ?_; exact hN0.out)
                      | fail "keep") (first
                    | (go_at_call 16; refine (P16.out _ t15.out).mono ?_; rintro e v3 ⟨rfl, t16⟩)
                    | (go_at_call 15; refine (P15.out _ t14.out).mono ?_; rintro e v2 ⟨rfl, t15⟩)
                    | (go_at_call 14; refine (P14.out _ hN0.out).mono ?_; rintro e v1 ⟨rfl, t14⟩))
                  go_wp2_with fail
                  go_meet
                  exact ⟨rfl, t16⟩
              case rest =>
                obtain ⟨rfl, hY⟩ := hcut
                obtain ⟨⟨⟨x0, x1⟩, y0, y1, g0, g1⟩, hF⟩ := FIN.out _ hY.out
                clear P14 P15 P16 Zx Zy hN0 hN FIN
                go_wp2_with fail
                go_roundw
                case rel => exact ⟨j + 1, _, by omega, by simp, hF⟩
                case measure => simp [intOf]; omega
    · obtain rfl : j = len := by omega
      as_aux_lemma =>
        obtain ⟨a2, k2, rfl⟩ : ∃ a k, v = .slice a (8 * m) k := by
          obtain ⟨a, k, hv⟩ := hH.out.slice
          rw [R2.out j] at hv
          exact ⟨a, k, hv⟩
        have d0 := hH.out.cells.1
        have T17 : Hid (∀ q, Calls Tryd.prog 17 #[.pointer (some ⟨S, 0, none⟩)] (wr.drewN q) fun e B => e = .returned (.int .i64 ((8 * m : Nat) : Int)) ∧ B = wr.drewN q) := fun q => by
          have := bits_some (hH.out.drewN q).at_.dr
          rwa [R2.out j] at this
        have T18 : Hid (∀ q, Calls Tryd.prog 18 #[.pointer (some ⟨S, 0, none⟩)] (wr.drewN q) fun e B => e = .returned (.tuple #[]) ∧ Hid (At w S G t (List.replicate m 0) B)) := fun q => by
          have := clear_some (hH.out.drewN q).at_
          rw [R2.out j] at this
          exact this.mono fun _ _ ⟨he, h1, _⟩ => ⟨he, h1⟩
        have T11 : Hid (∀ W X, X < 18446744073709551616 → At w S G t (List.replicate m 0) W → Calls Tryd.prog 11 #[.pointer (some ⟨S, 0, none⟩), .int .u64 ((X : Nat) : Int)] W fun e B => e = .returned (.bool false) ∧ Hid (At w S G t (List.replicate m 0) B)) := fun W X hX hW => by
          have := has_some hW.dr hW.old X hX
          rw [has_zeros] at this
          exact this.mono fun _ _ ⟨he, hb⟩ => ⟨he, hW.below hb⟩
        have T15 : Hid (∀ W, At w S G t (List.replicate m 0) W → Calls Tryd.prog 15 #[.pointer (some ⟨S, 0, none⟩)] W fun e B => e = .returned (.int .i64 0) ∧ B = W) := fun W hW => by
          have := full_some hW.dr
          rwa [full_zeros] at this
        have T5 : Hid (∀ W, At w S G t (List.replicate m 0) W → Calls Tryd.prog 5 #[] W fun e B => e = .returned (.bool true) ∧ Hid (Below w.heap.size w B)) := fun W hW => (awake_any w W hW.old).mono fun e B ⟨he, hb⟩ => ⟨he, hW.old.2.trans (hb.out.mono hW.old.2.size)⟩
        have HO : Hid (∀ W, At w S G t (List.replicate m 0) W → Below w.heap.size w W) := fun W hW => hW.old.2
        clear hH R1 R2
        generalize List.replicate m 0 = zs at *
        generalize hn : 8 * m = n at *
        have hne : ((n : Int) != (n : Int)) = false := by simp
        clear hn
        go_wp2_with fail
        go_quiet ((go_at_call 17; exact Calls.quiet_of_same (T17.out _)))
        go_wp2_with fail
        refine (T18.out _).mono ?_
        rintro e w3 ⟨rfl, h3⟩
        clear T17 T18 d0
        go_wp2_with fail
        go_loopw [16] (fun i wr => ∃ k : Nat, k ≤ j ∧ i = .int .i64 k ∧ Hid (At w S G t zs wr)) (fun i _ => j - (intOf i).toNat)
        case atStart => exact ⟨0, by omega, rfl, h3⟩
        case round =>
          obtain ⟨k, hk, rfl, hK⟩ := hrel
          clear h3
          by_cases hlt : k < j
          · obtain ⟨b, o, X, rfl, hX, d0, hXl⟩ := C.out wr (HO.out wr hK.out) k hlt
            have T := Lib.hid (T11.out wr X hXl hK.out)
            have j1 : (0 : Int) ≤ (k : Int) := by omega
            have j2 : (k : Int) < (j : Int) := by omega
            clear C T11 T15 T5 HO
            go_wp2_with fail
            refine T.out.mono ?_
            rintro e w4 ⟨rfl, h4⟩
            go_wp2
            go_roundw
            case rel => exact ⟨k + 1, by omega, by simp, h4⟩
            case measure => simp [intOf]; omega
          · obtain rfl : k = j := by omega
            have T := Lib.hid (T15.out wr hK.out)
            have T5 := Lib.hid (T5.out wr hK.out)
            clear C T11 T15
            go_wp2_with (first
              | (go_at_call 15; refine T.out.mono ?_; rintro e w4 ⟨rfl, e4⟩; obtain rfl : wr = w4 := e4.symm)
              | (go_at_call 5; refine T5.out.mono ?_; rintro e w5 ⟨rfl, h5⟩))
            go_ret
            exact ⟨rfl, h5.out⟩
set_option maxRecDepth 100000 in
set_option maxHeartbeats 1000000 in
theorem plays_walk (c : Int) (seed : Nat) (hseed : seed < 18446744073709551616) (a : Option Addr) (cap : Nat) (l : List Nat) (w : World) (hs : mx.Since w w) (hr : Keys w a l) :
    Calls Tryd.prog 3 #[.int .i64 c, .int .u64 (seed : Int), .slice a l.length cap] w fun e B => e = .returned (.bool true) ∧ Below w.heap.size w B := by
  by_cases hn : c ≤ 100
  · by_cases hl : l.length ≤ 40
    · exact plays_some c seed hseed a cap l w hs hn hl hr
    · have hd1 : decide (100 < c) = false := by simpa using hn
      have hl1 : (40 : Int) < (l.length : Int) := by omega
      have T := Lib.hid (awake_any w w hs)
      clear hr hl hs
      generalize l.length = len at *
      go_enter Tryd.func3, Tryd.ntmps3
      go_wp2_with fail
      refine T.out.mono ?_
      rintro e B ⟨rfl, hb⟩
      go_wp2
      go_ret
      exact ⟨rfl, hb.out⟩
  · have hn1 : 100 < c := by omega
    have hd1 : decide (100 < c) = true := by simpa using hn1
    have T := Lib.hid (awake_any w w hs)
    clear hr hn hs
    generalize l.length = len at *
    go_enter Tryd.func3, Tryd.ntmps3
    go_wp2_with fail
    refine T.out.mono ?_
    rintro e B ⟨rfl, hb⟩
    go_wp2
    go_ret
    exact ⟨rfl, hb.out⟩
end Go.Proofs.YtmfdobppihjjkaaDoor
