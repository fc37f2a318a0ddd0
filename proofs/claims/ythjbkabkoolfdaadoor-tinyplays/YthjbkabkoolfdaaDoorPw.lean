/-
  TinyPlays, walked: true for every int, every seed and every slice of slices of keys.
-/
import Derived.Test.YthjbkabkoolfdaaDoorPt
import Derived.Deep.DeepCutAuto
import Derived.Deep.CutRange
import Derived.StillTailTactics
import Derived.Deep.RegionHeld3
namespace Go.Proofs.YthjbkabkoolfdaaDoor
open Go.RowKit
open nb (Keep ct cell_of frozen_of heap_set heap_set_other heap_old heap_next heap_lt addAt mayAdd)
/-- both alike, and whatever lies in the box. -/
def Pe (w : World) (a : Ad) (c : Cs) (z : Zs) (V : Nat) (W : World) : Prop := ∃ a1 k1 a2 k2, Pt w a c z z V (.slice a1 4 k1) (.slice a2 (8 * c.m) k2) W
set_option maxRecDepth 20000 in
set_option maxHeartbeats 16000000 in
theorem plays_some (k : Int) (seed : Nat) (hseed : seed < 18446744073709551616) (p : Option Addr) (cap : Nat) (ls : List (List Nat)) (w : World) (hs : mx.Since w w) (hn : k ≤ 64) (hl : ls.length ≤ 12) (hr : Lists w p ls) :
    Calls Tryd.prog 3 #[.int .i64 k, .int .u64 (seed : Int), .slice p ls.length cap] w fun e B => e = .returned (.bool true) ∧ Below w.heap.size w B := by
  have T6 := Lib.hid (new_any k seed hseed w hs)
  have O0 := Ok.start k seed
  have EZ : Hid (∀ x, estZ (csN k seed) x ⟨zerosS (csN k seed), zerosD (csN k seed), 0, 0⟩ = 0) := fun x => est_zero _ _ _ _
  have T7 : Hid (∀ (a : Ad) (W : World), Hid (At w a (csN k seed) (zs0 (csN k seed)) W) → Calls Tryd.prog 7 #[.int .i64 k, .int .u64 (seed : Int)] W fun e B => ∃ a1 k1 a2 k2, e = .returned (tv (csN k seed) 0 0 (.slice a1 4 k1) (.slice a2 (8 * (csN k seed).m) k2)) ∧ Hid (Pe w a (csN k seed) (zs0 (csN k seed)) B.heap.size (B.alloc (.cells (tc (csN k seed) 0 0 (.slice a1 4 k1) (.slice a2 (8 * (csN k seed).m) k2)) 34)))) := fun a W hW =>
    (refnew13 k seed hseed W (fun b => W.heap.size ≤ b) fun _ h => h).mono fun e B ⟨v, u, he, h1, h2⟩ => by
      obtain ⟨a1, k1, rfl⟩ := h1.vs
      obtain ⟨a2, k2, rfl⟩ := h1.us
      exact ⟨a1, k1, a2, k2, he, a1, k1, a2, k2, Pt.start (z := zs0 (csN k seed)) hW.out h2 h1⟩
  generalize csN k seed = c at *
  have S0 : Hid (Ok c (12 * 0) (zs0 c)) := O0
  generalize zs0 c = z0 at *
  have C : Hid (∀ i, i < ls.length → ∃ b o q cap l, p = some ⟨b, o, none⟩ ∧ ls[i]? = some l ∧ Hid (∀ W, Below w.heap.size w W → W.cell? ⟨b, o + i, none⟩ = some (.slice q l.length cap)) ∧ Hid (Keys w q l)) := fun i hi => by
    obtain ⟨b, o, rfl, hj⟩ := hr (by omega)
    obtain ⟨q, cap, h1, h2⟩ := hj i hi
    exact ⟨b, o, q, cap, ls[i], rfl, by simp [hi], fun W hW => (hW.cell (p := ⟨b, o + i, none⟩) (World.block_lt_of_cell? w ⟨b, o + i, none⟩ h1)).trans h1, h2⟩
  clear hs hr O0
  have hd1 : decide (64 < k) = false := by simpa using hn
  have hd2 : ¬ (12 : Int) < (ls.length : Int) := by omega
  generalize hlen : ls.length = len at *
  go_enter Tryd.func3, Tryd.ntmps3
  go_wp2_with fail
  refine T6.out.mono ?_
  rintro e w1 ⟨a, rfl, h1⟩
  have T7 := Lib.hid (T7.out a w1 h1)
  clear T6
  go_wp2_with fail
  refine T7.out.mono ?_
  rintro e w2 ⟨a1, k1, a2, k2, rfl, h2⟩
  clear T7 h1
  go_wp2_with fail
  obtain ⟨V, hV⟩ : ∃ V, w2.heap.size = V := ⟨_, rfl⟩
  rw [hV] at h2
  rw [hV]
  generalize w2.alloc (.cells (tc c 0 0 (.slice a1 4 k1) (.slice a2 (8 * c.m) k2)) 34) = W0 at *
  clear hV
  go_loopw [9] (fun i wr => ∃ (j : Nat) (z : Zs), j ≤ len ∧ i = .int .i64 j ∧ Hid (Pe w a c z V wr) ∧ Hid (Ok c (12 * j) z) ∧ Hid (∀ g l, g < j → ls[g]? = some l → l.length ≤ 12)) (fun i _ => len - (intOf i).toNat)
  case atStart => exact ⟨0, z0, Nat.zero_le _, rfl, h2, S0, fun g l h => absurd h (by omega)⟩
  case round =>
    obtain ⟨j, z, hj, rfl, hP, hZ, hB⟩ := hrel
    clear h2 S0
    obtain ⟨a1, k1, a2, k2, hPt⟩ := hP.out
    have hPt := Lib.hid hPt
    by_cases hlt : j < len
    · have j1 : (0 : Int) ≤ (j : Int) := by omega
      have j2 : (j : Int) < (len : Int) := by omega
      obtain ⟨b, o, q, cap1, l, rfl, hlj, C1, hk⟩ := C.out j (by omega)
      have d0 := C1.out wr hPt.out.old
      by_cases hl12 : l.length ≤ 12
      · have O1 : Hid (Ok c (12 * (j + 1)) (pushZ c l z)) := (hZ.out.push (l := l)).mono (by omega)
        have P8 := Lib.hid (hPt.out.k8 (cap := cap1) hk.out (12 * j) hZ.out (by omega))
        have P9 : Hid (∀ W, Hid (Pt w a c (pushZ c l z) z V (.slice a1 4 k1) (.slice a2 (8 * c.m) k2) W) → _) := fun W hW => hW.out.drew.k9 (cap := cap1) hk.out (12 * j) hZ.out (by omega)
        have hB1 : Hid (∀ g l, g < j + 1 → ls[g]? = some l → l.length ≤ 12) := fun g l' hg hl' => by
          by_cases e : g = j
          · subst e
            rw [hlj] at hl'
            obtain rfl := Option.some.inj hl'
            exact hl12
          · exact hB.out g l' (by omega) hl'
        clear hB hlj
        have i12 : ¬ (12 : Int) < (l.length : Int) := by omega
        generalize pushZ c l z = z1 at *
        generalize l.length = len1 at *
        clear hk hZ hPt hP
        go_wp2_with fail
        refine P8.out.mono ?_
        rintro e w3 ⟨rfl, h3⟩
        have d3 := C1.out w3 h3.out.old
        obtain ⟨x0, x1, x2, x3, x4, x5, x6, x7, x8, x9⟩ := h3.out.cells
        have P9' := Lib.hid (P9.out w3 h3)
        clear P8 P9 d0
        go_wp2_with fail
        go_cut [8] (fun u wx => u = .pointer (some ⟨V, 0, none⟩) ∧ Hid (Pe w a c z1 V wx))
        case first =>
          go_still_tail 5, (by kernel_rfl)
          change wpList _ _ _ _ _ w3.drew
          go_wp2_with fail
          refine P9'.out.mono ?_
          rintro e w4 ⟨b1, m1, b2, m2, rfl, ⟨⟨y0, y1, y2, y3, y4, y5, y6, y7, y8, y9⟩, fr⟩, q4⟩
          have f0 := fr 0
          have f1 := fr 1
          have f2 := fr 2
          have f3 := fr 3
          have f4 := fr 4
          have f5 := fr 5
          have f6 := fr 6
          have f7 := fr 7
          have f8 := fr 8
          have f9 := fr 9
          unfold set10 at q4
          clear x0 x1 x2 x3 x4 x5 x6 x7 x8 x9 d3
          go_wp2_with fail
          go_meet
          have q5 : Hid (Pe w a c z1 V _) := ⟨b1, m1, b2, m2, q4.out⟩
          exact ⟨rfl, q5⟩
        case rest =>
          obtain ⟨rfl, h5⟩ := hcut
          clear d3 x0 x1 x2 x3 x4 x5 x6 x7 x8 x9 P9' h3
          obtain ⟨b1, m1, b2, m2, hQ⟩ := h5.out
          obtain ⟨x0, x1, x2, x3, x4, x5, x6, x7, x8, x9⟩ := hQ.cells
          have T10 : Hid (∀ q, Calls Tryd.prog 10 #[.pointer (some ⟨a.T, 0, none⟩)] (wc.drewN q) fun e B => e = .returned (.int .i64 (z1.cnt : Int)) ∧ B = wc.drewN q) := fun q => (hQ.drewN q).at_.get10
          have T11 : Hid (∀ q, Calls Tryd.prog 11 #[.pointer (some ⟨a.T, 0, none⟩)] (wc.drewN q) fun e B => e = .returned (.int .i64 (z1.aged : Int)) ∧ B = wc.drewN q) := fun q => (hQ.drewN q).at_.get11
          have T12 : Hid (∀ q, Calls Tryd.prog 12 #[.pointer (some ⟨a.T, 0, none⟩)] (wc.drewN q) fun e B => e = .returned (.int .i64 (c.lim : Int)) ∧ B = wc.drewN q) := fun q => (hQ.drewN q).at_.get12
          have HN : Hid (∀ q, Pe w a c z1 V (wc.drewN q)) := fun q => ⟨b1, m1, b2, m2, hQ.drewN q⟩
          clear hQ h5 C1
          generalize hI1 : (z1.cnt : Int) = I1 at *
          generalize hG1 : (z1.aged : Int) = G1 at *
          have hI1 := Lib.hid hI1
          have hG1 := Lib.hid hG1
          have t1 : (I1 != I1) = false := by simp
          have t2 : (G1 != G1) = false := by simp
          have t3 : ((c.lim : Int) != (c.lim : Int)) = false := by simp
          go_wp2_with fail
          go_quiet (first
            | (go_at_call 10; refine Calls.quiet_of_same (T10.out _))
            | (go_at_call 11; refine Calls.quiet_of_same (T11.out _))
            | (go_at_call 12; refine Calls.quiet_of_same (T12.out _)))
          go_wp2_with fail
          have H0 := Lib.hid (HN.out nq)
          clear HN T10 T11 T12 x0 x1 x2 x3 x4 x5 x6 x7 x8 x9 t1 t2 t3 hlt
          generalize wc.drewN nq = wd at *
          go_loopw [10] (fun i wr => ∃ g : Nat, g ≤ j + 1 ∧ i = .int .i64 g ∧ Hid (Pe w a c z1 V wr)) (fun i _ => j + 1 - (intOf i).toNat)
          case atStart => exact ⟨0, Nat.zero_le _, rfl, H0⟩
          case round =>
            obtain ⟨g, hg, rfl, h6⟩ := hrel
            clear H0
            by_cases hgj : g ≤ j
            · have g3 : (g : Int) ≤ (j : Int) := by omega
              have g1 : (0 : Int) ≤ (g : Int) := by omega
              have g2 : (g : Int) < (len : Int) := by omega
              obtain ⟨b', o', q2, cap2, l2, e1, hl2', C2, hk2⟩ := C.out g (by omega)
              have hb12 := hB1.out g l2 (by omega) hl2'
              clear hl2'
              simp only [Option.some.injEq, Addr.mk.injEq, and_true] at e1
              obtain ⟨rfl, rfl⟩ := e1
              go_wp2_with fail
              generalize hl2 : l2.length = len2 at *
              go_loopw [11] (fun i wr => ∃ h : Nat, h ≤ len2 ∧ i = .int .i64 h ∧ Hid (Pe w a c z1 V wr)) (fun i _ => len2 - (intOf i).toNat)
              case atStart => exact ⟨0, Nat.zero_le _, rfl, h6⟩
              case round =>
                obtain ⟨h, hh, rfl, h7⟩ := hrel
                clear h6
                obtain ⟨b1, m1, b2, m2, hQ⟩ := h7.out
                have d2 := C2.out wr hQ.old
                by_cases hlt2 : h < len2
                · have h1 : (0 : Int) ≤ (h : Int) := by omega
                  have h2 : (h : Int) < (len2 : Int) := by omega
                  obtain ⟨b3, o3, rfl, hi⟩ := hk2.out (by omega)
                  obtain ⟨x, hx⟩ : ∃ x, l2[h]'(by omega) = x := ⟨_, rfl⟩
                  obtain ⟨hc, hx64⟩ := hi h (by omega)
                  rw [hx] at hc hx64
                  have D4 : Hid (∀ W, Below w.heap.size w W → W.cell? ⟨b3, o3 + h, none⟩ = some (.int .u64 (x : Int))) := fun W hW => (hW.cell (p := ⟨b3, o3 + h, none⟩) (World.block_lt_of_cell? w ⟨b3, o3 + h, none⟩ hc)).trans hc
                  have Z : Hid (∀ W, Pt w a c z1 z1 V (.slice b1 4 m1) (.slice b2 (8 * c.m) m2) W → (W.cell? ⟨V, 0, none⟩ = some (.slice b1 4 m1) ∧ W.cell? ⟨V, 1, none⟩ = some (.int .i64 (c.n : Int)) ∧ W.cell? ⟨V, 2, none⟩ = some (.int .u64 (c.seed : Int)) ∧ W.cell? ⟨V, 3, none⟩ = some (.slice b2 (8 * c.m) m2) ∧ W.cell? ⟨V, 4, none⟩ = some (.int .u64 (c.seed : Int)) ∧ W.cell? ⟨V, 5, none⟩ = some (.int .i64 I1) ∧ W.cell? ⟨V, 6, none⟩ = some (.int .i64 (c.lim : Int)) ∧ W.cell? ⟨V, 7, none⟩ = some (.int .i64 G1) ∧ W.cell? ⟨V, 8, none⟩ = some (.int .i64 0) ∧ W.cell? ⟨V, 9, none⟩ = some (.int .u64 (c.seed : Int)) ∧ W.cell? ⟨b, o + g, none⟩ = some (.slice (some ⟨b3, o3, none⟩) len2 cap2) ∧ W.cell? ⟨b3, o3 + h, none⟩ = some (.int .u64 (x : Int)))) := fun W hW => by
                    obtain ⟨x0, x1, x2, x3, x4, x5, x6, x7, x8, x9⟩ := hW.cells
                    rw [hI1.out] at x5
                    rw [hG1.out] at x7
                    exact ⟨x0, x1, x2, x3, x4, x5, x6, x7, x8, x9, C2.out W hW.old, D4.out W hW.old⟩
                  have HQ := Lib.hid hQ.drew
                  have P13 : Hid (Calls Tryd.prog 13 #[.pointer (some ⟨a.T, 0, none⟩), .int .u64 (x : Int)] wr.drew fun e B => e = .returned (.int .i64 (estZ c x z1 : Int)) ∧ Hid (Pt w a c z1 z1 V (.slice b1 4 m1) (.slice b2 (8 * c.m) m2) B)) := hQ.drew.k13 x hx64
                  have P14 : Hid (∀ W, Hid (Pt w a c z1 z1 V (.slice b1 4 m1) (.slice b2 (8 * c.m) m2) W) → Calls Tryd.prog 14 #[tv c I1 G1 (.slice b1 4 m1) (.slice b2 (8 * c.m) m2), .int .u64 (x : Int)] W fun e B => e = .returned (.int .i64 (estZ c x z1 : Int)) ∧ Hid (Pt w a c z1 z1 V (.slice b1 4 m1) (.slice b2 (8 * c.m) m2) B)) := fun W hW => by
                    have := hW.out.k14 x hx64
                    rw [hI1.out, hG1.out] at this
                    exact this
                  clear D4 hQ h7 hi hc hx
                  generalize (estZ c x z1 : Int) = E1 at *
                  go_wp2_with fail
                  go_region_held3 (fun W => W.cell? ⟨V, 0, none⟩ = some (.slice b1 4 m1) ∧ W.cell? ⟨V, 1, none⟩ = some (.int .i64 (c.n : Int)) ∧ W.cell? ⟨V, 2, none⟩ = some (.int .u64 (c.seed : Int)) ∧ W.cell? ⟨V, 3, none⟩ = some (.slice b2 (8 * c.m) m2) ∧ W.cell? ⟨V, 4, none⟩ = some (.int .u64 (c.seed : Int)) ∧ W.cell? ⟨V, 5, none⟩ = some (.int .i64 I1) ∧ W.cell? ⟨V, 6, none⟩ = some (.int .i64 (c.lim : Int)) ∧ W.cell? ⟨V, 7, none⟩ = some (.int .i64 G1) ∧ W.cell? ⟨V, 8, none⟩ = some (.int .i64 0) ∧ W.cell? ⟨V, 9, none⟩ = some (.int .u64 (c.seed : Int)) ∧ W.cell? ⟨b, o + g, none⟩ = some (.slice (some ⟨b3, o3, none⟩) len2 cap2) ∧ W.cell? ⟨b3, o3 + h, none⟩ = some (.int .u64 (x : Int))) (first
                    | (refine Z.out _ ?_; first | exact h10.out | exact h9.out | exact HQ.out)
                    | fail "keep") (first
                    | (go_at_call 14; refine (P14.out _ h9).mono ?_; rintro e w10 ⟨rfl, h10⟩)
                    | (go_at_call 13; refine P13.out.mono ?_; rintro e w9 ⟨rfl, h9⟩))
                  clear h9 P13 P14 HQ Z
                  go_wp2
                  go_roundw
                  case rel => exact ⟨h + 1, by omega, by simp, b1, m1, b2, m2, h10.out⟩
                  case measure => simp [intOf]; omega
                · obtain rfl : h = len2 := by omega
                  go_wp2
                  go_roundw
                  case rel => exact ⟨g + 1, by omega, by simp, h7⟩
                  case measure => simp [intOf]; omega
            · have g3 : ¬ (g : Int) ≤ (j : Int) := by omega
              go_wp2
              go_roundw
              case rel => exact ⟨j + 1, z1, by omega, by simp, h6, O1, hB1⟩
              case measure => simp [intOf]; omega
      · have i12 : (12 : Int) < (l.length : Int) := by omega
        have P5 := Lib.hid hPt.out.k5
        clear hk hZ hPt hP hB hlj C1 C hl12
        generalize l.length = len1 at *
        go_wp2_with fail
        refine P5.out.mono ?_
        rintro e B ⟨rfl, hb⟩
        go_wp2
        go_ret
        exact ⟨rfl, hb.out⟩
    · obtain rfl : j = len := by omega
      have P15 := Lib.hid hPt.out.k15
      have T10 : Hid (∀ W, Hid (Pt w a c ⟨zerosS c, zerosD c, 0, 0⟩ z V (.slice a1 4 k1) (.slice a2 (8 * c.m) k2) W) → Calls Tryd.prog 10 #[.pointer (some ⟨a.T, 0, none⟩)] W fun e B => e = .returned (.int .i64 0) ∧ B = W) := fun W hW => hW.out.at_.get10
      have T11 : Hid (∀ W, Hid (Pt w a c ⟨zerosS c, zerosD c, 0, 0⟩ z V (.slice a1 4 k1) (.slice a2 (8 * c.m) k2) W) → Calls Tryd.prog 11 #[.pointer (some ⟨a.T, 0, none⟩)] W fun e B => e = .returned (.int .i64 0) ∧ B = W) := fun W hW => hW.out.at_.get11
      have T13 : Hid (∀ W, Hid (Pt w a c ⟨zerosS c, zerosD c, 0, 0⟩ z V (.slice a1 4 k1) (.slice a2 (8 * c.m) k2) W) → Calls Tryd.prog 13 #[.pointer (some ⟨a.T, 0, none⟩), .int .u64 (seed : Int)] W fun e B => e = .returned (.int .i64 0) ∧ Hid (Calls Tryd.prog 5 #[] B fun e B2 => e = .returned (.bool true) ∧ Hid (Below w.heap.size w B2))) := fun W hW => by
        have := hW.out.k13 seed hseed
        rw [EZ.out] at this
        exact this.mono fun e B ⟨he, h1⟩ => ⟨he, h1.out.k5⟩
      clear EZ C hP hZ hB hPt
      generalize (⟨zerosS c, zerosD c, 0, 0⟩ : Zs) = zz at *
      go_wp2_with fail
      refine P15.out.mono ?_
      rintro e w3 ⟨rfl, h3⟩
      have P10 := Lib.hid (T10.out w3 h3)
      have P11 := Lib.hid (T11.out w3 h3)
      have P13 := Lib.hid (T13.out w3 h3)
      clear P15 T10 T11 T13 h3
      go_wp2_with (first
        | (go_at_call 10; refine P10.out.mono ?_; rintro e w8 ⟨rfl, e8⟩; obtain rfl : w3 = w8 := e8.symm)
        | (go_at_call 11; refine P11.out.mono ?_; rintro e w8 ⟨rfl, e8⟩; obtain rfl : w3 = w8 := e8.symm)
        | (go_at_call 13; refine P13.out.mono ?_; rintro e w9 ⟨rfl, P5⟩)
        | (go_at_call 5; refine P5.out.mono ?_; rintro e w10 ⟨rfl, hb⟩))
      go_ret
      exact ⟨rfl, hb.out⟩
theorem plays_walk (k : Int) (seed : Nat) (hseed : seed < 18446744073709551616) (p : Option Addr) (cap : Nat) (ls : List (List Nat)) (w : World) (hs : mx.Since w w) (hr : Lists w p ls) :
    Calls Tryd.prog 3 #[.int .i64 k, .int .u64 (seed : Int), .slice p ls.length cap] w fun e B => e = .returned (.bool true) ∧ Below w.heap.size w B := by
  by_cases hn : k ≤ 64
  · by_cases hl : ls.length ≤ 12
    · exact plays_some k seed hseed p cap ls w hs hn hl hr
    · have hd1 : decide (64 < k) = false := by simpa using hn
      have hl1 : (12 : Int) < (ls.length : Int) := by omega
      have T := Lib.hid (awake_any w w hs)
      clear hr hl hs
      generalize ls.length = len at *
      go_enter Tryd.func3, Tryd.ntmps3
      go_wp2_with fail
      refine T.out.mono ?_
      rintro e B ⟨rfl, hb⟩
      go_wp2
      go_ret
      exact ⟨rfl, hb.out⟩
  · have hn1 : 64 < k := by omega
    have hd1 : decide (64 < k) = true := by simpa using hn1
    have T := Lib.hid (awake_any w w hs)
    clear hr hn hs
    generalize ls.length = len at *
    go_enter Tryd.func3, Tryd.ntmps3
    go_wp2_with fail
    refine T.out.mono ?_
    rintro e B ⟨rfl, hb⟩
    go_wp2
    go_ret
    exact ⟨rfl, hb.out⟩
end Go.Proofs.YthjbkabkoolfdaaDoor
