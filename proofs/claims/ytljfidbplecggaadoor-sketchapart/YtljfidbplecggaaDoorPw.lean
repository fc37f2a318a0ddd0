/-
  SketchPlays, walked: true for every int, every seed and every slice of steps.
-/
import Derived.Test.YtljfidbplecggaaDoorPy
namespace Go.Proofs.YtljfidbplecggaaDoor
open Go.RowKit
open nb (Keep Nib ct cell_of frozen_of heap_set heap_set_other heap_old heap_next heap_lt getAt mayAdd addAt Q e64 info_parts step_ex app_step told)
/-- the slice at a reads as the steps ks. -/
def Steps (w : World) (a : Option Addr) (ks : List (Nat × Nat)) : Prop :=
  0 < ks.length → ∃ b o, a = some ⟨b, o, none⟩ ∧ ∀ i (h : i < ks.length), w.cell? ⟨b, o + i * 2, none⟩ = some (.int .u64 (ks[i].1 : Int)) ∧ w.cell? ⟨b, o + i * 2 + 1, none⟩ = some (.int .u64 (ks[i].2 : Int)) ∧ ks[i].2 < 18446744073709551616
/-- the state between two steps: both alike. -/
def Pe (w : World) (S V seed n : Nat) (v : Value) (W : World) : Prop := ∃ f, Ps w S V seed n f f v W
theorem Pe.slice {w W : World} {S V seed n : Nat} {v : Value} (h : Pe w S V seed n v W) : ∃ a k, v = .slice a 4 k := by obtain ⟨f, h⟩ := h; exact h.slice
theorem Pe.old {w W : World} {S V seed n : Nat} {v : Value} (h : Pe w S V seed n v W) : Below w.heap.size w W := by obtain ⟨f, h⟩ := h; exact h.at_.old.2
/-- the first state. -/
theorem Pe.start {w w1 w2 : World} {S seed n : Nat} {a : Option Addr} {k : Nat} (h1 : At w S seed n (fun _ => List.replicate n 0) w1) (hb : Below w1.heap.size w1 w2) (hr : Rr (fun b => w1.heap.size ≤ b) w2 (.slice a 4 k) 4 (fun _ => List.replicate n 0)) :
    Hid (Pe w S w2.heap.size seed n (.slice a 4 k) (w2.alloc (.cells #[.slice a 4 k, .int .i64 (n : Int), .int .u64 (seed : Int)] 29))) := by
  have hs := h1.sk.lt
  have hz := hb.size
  have ha : At w S seed n (fun _ => List.replicate n 0) (w2.alloc (.cells #[.slice a 4 k, .int .i64 (n : Int), .int .u64 (seed : Int)] 29)) := (h1.below hb).below ((Below.refl _ _).alloc (Nat.le_refl _) _)
  refine ⟨_, ha, ?_, heap_next rfl _, by omega, fun _ _ => by simp, fun i j _ => by rw [nb.ct_zeros]; omega⟩
  obtain ⟨b, o, cap, vs, hv, hc, hb', hi⟩ := hr
  have hlt : ∀ i, i < 4 → b < w2.heap.size := fun i hik => World.block_lt_of_cell? w2 ⟨b, o + i, none⟩ (hi i hik).1
  have hk : Keep (fun _ => True) w2 (w2.alloc (.cells #[.slice a 4 k, .int .i64 (n : Int), .int .u64 (seed : Int)] 29)) := .alloc _ _ _
  have hl0 := hlt 0 (by decide)
  refine ⟨b, o, cap, vs, hv, hc, ⟨.inr (by omega), by omega⟩, fun i hik => ⟨(hk.cell (p := ⟨b, o + i, none⟩) hl0 trivial).trans (hi i hik).1, (hi i hik).2.1.keep hk fun _ _ => trivial, fun b' hb2 => ?_⟩⟩
  have h3 := (hi i hik).2.2 b' hb2
  have h4 := q_lt (hi i hik).2.1 (by simpa using h1.sk.pos) b' hb2
  exact ⟨.inr (by omega), by omega⟩
set_option maxRecDepth 100000 in
set_option maxHeartbeats 8000000 in
theorem plays_some (c : Int) (seed : Nat) (hseed : seed < 18446744073709551616) (a : Option Addr) (cap : Nat) (ks : List (Nat × Nat)) (w : World) (hs : mx.Since w w) (hc : c ≤ 64) (hl : ks.length ≤ 60) (hr : Steps w a ks) :
    Calls Tryd.prog 3 #[.int .i64 c, .int .u64 (seed : Int), .slice a ks.length cap] w fun e B => e = .returned (.bool true) ∧ Below w.heap.size w B := by
  obtain ⟨S, hS⟩ : ∃ S, w.heap.size = S := ⟨_, rfl⟩
  obtain ⟨n, hn⟩ : ∃ n, wdN c = n := ⟨_, rfl⟩
  have T7 : Hid (Calls Tryd.prog 7 #[.int .i64 c, .int .u64 (seed : Int)] w fun e B => e = .returned (.pointer (some ⟨S, 0, none⟩)) ∧ Hid (At w S seed n (fun _ => List.replicate n 0) B)) := by
    have := new_any c seed hseed w
    rw [hn] at this
    refine this.mono fun e B ⟨he, h1, h2⟩ => ⟨by rw [he, hS], ?_⟩
    have := At.start hs h1 h2
    rw [hS] at this
    exact this
  have T8 : Hid (∀ W, At w S seed n (fun _ => List.replicate n 0) W → Calls Tryd.prog 8 #[.int .i64 c, .int .u64 (seed : Int)] W fun e B => ∃ a k, e = .returned (sv (.slice a 4 k) n seed) ∧ Hid (Pe w S B.heap.size seed n (.slice a 4 k) (B.alloc (.cells #[.slice a 4 k, .int .i64 (n : Int), .int .u64 (seed : Int)] 29)))) := fun W hW => by
    have := refnew_any c seed W (fun b => W.heap.size ≤ b) fun _ h => h
    rw [hn] at this
    exact this.mono fun e B ⟨a, k, he, h1, h2⟩ => ⟨a, k, he, Pe.start hW h2 h1⟩
  -- what came in, as it reads now
  have C : Hid (∀ W, Below w.heap.size w W → ∀ i, i < ks.length → ∃ b o K X, a = some ⟨b, o, none⟩ ∧ ks[i]? = some (K, X) ∧ W.cell? ⟨b, o + i * 2, none⟩ = some (.int .u64 (K : Int)) ∧ W.cell? ⟨b, o + i * 2 + 1, none⟩ = some (.int .u64 (X : Int)) ∧ X < 18446744073709551616) := fun W hW i hi => by
    obtain ⟨b, o, ha, hc⟩ := hr (by omega)
    obtain ⟨c0, c1, hx⟩ := hc i hi
    refine ⟨b, o, ks[i].1, ks[i].2, ha, by simp [hi], ?_, ?_, hx⟩
    · exact (hW.cell (p := ⟨b, o + i * 2, none⟩) (World.block_lt_of_cell? w ⟨b, o + i * 2, none⟩ c0)).trans c0
    · exact (hW.cell (p := ⟨b, o + i * 2 + 1, none⟩) (World.block_lt_of_cell? w ⟨b, o + i * 2 + 1, none⟩ c1)).trans c1
  have HS := Lib.hid hS
  have HN := Lib.hid hn
  clear hr hs hn
  have hd1 : decide (64 < c) = false := by simpa using hc
  have hd2 : ¬ (60 : Int) < (ks.length : Int) := by omega
  generalize hlen : ks.length = len at *
  go_enter Tryd.func3, Tryd.ntmps3
  go_wp2_with fail
  refine T7.out.mono ?_
  rintro e w1 ⟨rfl, h1⟩
  have T8 := Lib.hid (T8.out _ h1.out)
  go_wp2_with fail
  refine T8.out.mono ?_
  rintro e w2 ⟨a1, k1, rfl, h2⟩
  go_wp2_with fail
  obtain ⟨V, hV⟩ : ∃ V, w2.heap.size = V := ⟨_, rfl⟩
  rw [hV] at h2
  rw [hV]
  generalize w2.alloc (.cells #[.slice a1 4 k1, .int .i64 (n : Int), .int .u64 (seed : Int)] 29) = W0 at *
  clear hV T7 T8 h1
  go_loopw [9] (fun i wr => ∃ (j : Nat) (v : Value), j ≤ len ∧ i = .int .i64 j ∧ Hid (Pe w S V seed n v wr)) (fun i _ => len - (intOf i).toNat)
  case atStart => exact ⟨0, _, Nat.zero_le _, rfl, h2⟩
  case round =>
    obtain ⟨j, v, hj, rfl, hS0⟩ := hrel
    clear h2
    by_cases hlt : j < len
    · obtain ⟨b, o, K, X, rfl, hk, c0, c1, hX⟩ := C.out wr hS0.out.old j (by omega)
      obtain ⟨f, hPs⟩ := hS0.out
      obtain ⟨a2, k2, rfl⟩ := hPs.slice
      have C1 : Hid (∀ W, Below w.heap.size w W → W.cell? ⟨b, o + j * 2 + 1, none⟩ = some (.int .u64 (X : Int))) := fun W hW => by
        obtain ⟨b', o', K', A', e1, e2, _, e4, _⟩ := C.out W hW j (by omega)
        rw [hk] at e2
        simp only [Option.some.injEq, Addr.mk.injEq, and_true, Prod.mk.injEq] at e1 e2
        obtain ⟨rfl, rfl⟩ := e1
        obtain ⟨rfl, rfl⟩ := e2
        exact e4
      obtain ⟨d, hd, hd8⟩ : ∃ d : Nat, (K : Int) % 8 = (d : Int) ∧ d < 8 := ⟨K % 8, by omega, Nat.mod_lt _ (by decide)⟩
      have H0 := Lib.hid hPs
      have j1 : (0 : Int) ≤ (j : Int) := by omega
      have j2 : (j : Int) < (len : Int) := by omega
      clear hPs hS0 hk
      have ways : d = 6 ∨ d = 7 ∨ (d ≠ 6 ∧ d ≠ 7) := by omega
      rcases ways with rfl | rfl | ⟨d6, d7⟩
      case' inl =>
        have P9 := Lib.hid H0.out.k9
        go_wp2_with fail
        refine P9.out.mono ?_
        rintro e w3 ⟨rfl, h3⟩
        obtain ⟨x0, x1, x2⟩ := h3.out.cells
        have P10 := Lib.hid h3.out.k10
        clear P9
        go_wp2_with fail
        refine P10.out.mono ?_
        rintro e w4 ⟨a4, k4, rfl, ⟨y0, y1, y2, fr⟩, h4⟩
        have f0 := fr 0
        have f1 := fr 1
        have f2 := fr 2
        clear P10 fr x0 x1 x2
        go_wp2_with fail
        have h5 : Hid (Pe w S V seed n (.slice a4 4 k4) _) := ⟨_, h4.out⟩
        clear h3 h4 H0 y0 y1 y2 f0 f1 f2 c0 c1
        generalize ((w4.setCell ⟨V, 0, none⟩ (.slice a4 4 k4)).setCell ⟨V, 1, none⟩ (.int .i64 (n : Int))).setCell ⟨V, 2, none⟩ (.int .u64 (seed : Int)) = w5 at *
      case' inr.inl =>
        have P11 := Lib.hid H0.out.k11
        go_wp2_with fail
        refine P11.out.mono ?_
        rintro e w3 ⟨rfl, h3⟩
        have P8 := Lib.hid (h3.out.k8 c HN.out)
        clear P11
        go_wp2_with fail
        refine P8.out.mono ?_
        rintro e w4 ⟨a4, k4, rfl, ⟨y0, y1, y2, fr⟩, h4⟩
        have f0 := fr 0
        have f1 := fr 1
        have f2 := fr 2
        clear P8 fr
        go_wp2_with fail
        have h5 : Hid (Pe w S V seed n (.slice a4 4 k4) _) := ⟨_, h4.out⟩
        clear h3 h4 H0 y0 y1 y2 f0 f1 f2 c0 c1
        generalize ((w4.setCell ⟨V, 0, none⟩ (.slice a4 4 k4)).setCell ⟨V, 1, none⟩ (.int .i64 (n : Int))).setCell ⟨V, 2, none⟩ (.int .u64 (seed : Int)) = w5 at *
      case' inr.inr =>
        have P12 := Lib.hid (H0.out.k12 X hX)
        have i6 : ¬ (d : Int) = 6 := by omega
        have i7 : ¬ (d : Int) = 7 := by omega
        clear d6 d7
        go_wp2_with fail
        refine P12.out.mono ?_
        rintro e w3 ⟨rfl, h3⟩
        obtain ⟨x0, x1, x2⟩ := h3.out.cells
        have z1 := C1.out w3 h3.out.at_.old.2
        have P13 := Lib.hid (h3.out.drew.k13 X hX)
        clear P12 c0 c1
        go_wp2_with fail
        go_region_with (first | (go_at_call 13; refine P13.out.mono ?_; rintro e w4 ⟨a4, k4, rfl, ⟨y0, y1, y2, fr⟩, h4⟩; have f0 := fr 0; have f1 := fr 1; have f2 := fr 2))
        all_goals (
          have h5 : Hid (Pe w S V seed n (.slice a4 4 k4) _) := ⟨_, h4.out⟩
          go_wp2_with fail
          clear h3 h4 H0 y0 y1 y2 f0 f1 f2 x0 x1 x2 z1 P13 fr
          generalize ((w4.setCell ⟨V, 0, none⟩ (.slice a4 4 k4)).setCell ⟨V, 1, none⟩ (.int .i64 (n : Int))).setCell ⟨V, 2, none⟩ (.int .u64 (seed : Int)) = w5 at *)
      all_goals (
        obtain ⟨f5, hP5⟩ := h5.out
        have K0 : Hid (Ps.C3 V seed n (.slice a4 4 k4) w5.drew) := hP5.drew.cells
        have P14 := Lib.hid hP5.drew.k14
        have P15 : Hid (∀ W, Ps w S V seed n f5 f5 (.slice a4 4 k4) W → Calls Tryd.prog 15 #[sv (.slice a4 4 k4) n seed] W fun e B => e = .returned (.int .i64 (fullTo f5 4 : Int)) ∧ Ps.C3 V seed n (.slice a4 4 k4) B ∧ Hid (Ps w S V seed n f5 f5 (.slice a4 4 k4) B)) := fun W h => h.k15
        clear hP5 h5
        generalize fullTo f5 4 = F at *
        go_region_held3 (fun W => W.cell? ⟨V, 0, none⟩ = some (.slice a4 4 k4) ∧ W.cell? ⟨V, 1, none⟩ = some (.int .i64 (n : Int)) ∧ W.cell? ⟨V, 2, none⟩ = some (.int .u64 (seed : Int))) (first | exact K0.out | assumption) (first
          | (go_at_call 15; refine (P15.out _ h6.out).mono ?_; rintro e w7 ⟨rfl, S7, h7⟩)
          | (go_at_call 14; refine P14.out.mono ?_; rintro e w6 ⟨rfl, S6, h6⟩))
        clear S6 S7 h6 P14 P15 K0
        go_wp2_with fail
        clear hd hd8 hX C1
        go_loopw [10] (fun q wr => ∃ p : Nat, p ≤ j + 1 ∧ q = .int .i64 p ∧ Hid (Ps w S V seed n f5 f5 (.slice a4 4 k4) wr)) (fun q _ => j + 1 - (intOf q).toNat)
        case atStart => exact ⟨0, Nat.zero_le _, rfl, h7⟩
        case round =>
          obtain ⟨p, hp, rfl, h8⟩ := hrel
          clear h7
          by_cases hpj : p ≤ j
          · obtain ⟨b', o', K', Y, e1, hk', c0, c1, hY⟩ := C.out wr h8.out.at_.old.2 p (by omega)
            simp only [Option.some.injEq, Addr.mk.injEq, and_true] at e1
            obtain ⟨rfl, rfl⟩ := e1
            have C2 : Hid (∀ W, Below w.heap.size w W → W.cell? ⟨b, o + p * 2 + 1, none⟩ = some (.int .u64 (Y : Int))) := fun W hW => by
              obtain ⟨b', o', K2, A', e1, e2, _, e4, _⟩ := C.out W hW p (by omega)
              rw [hk'] at e2
              simp only [Option.some.injEq, Addr.mk.injEq, and_true, Prod.mk.injEq] at e1 e2
              obtain ⟨rfl, rfl⟩ := e1
              obtain ⟨rfl, rfl⟩ := e2
              exact e4
            have P16 : Hid (Calls Tryd.prog 16 #[.pointer (some ⟨S, 0, none⟩), .int .u64 (Y : Int)] wr.drew fun e B => e = .returned (.int .i64 (cntN seed n Y f5 : Int)) ∧ (B.cell? ⟨V, 0, none⟩ = some (.slice a4 4 k4) ∧ B.cell? ⟨V, 1, none⟩ = some (.int .i64 (n : Int)) ∧ B.cell? ⟨V, 2, none⟩ = some (.int .u64 (seed : Int)) ∧ B.cell? ⟨b, o + p * 2 + 1, none⟩ = some (.int .u64 (Y : Int))) ∧ Hid (Ps w S V seed n f5 f5 (.slice a4 4 k4) B)) :=
              (h8.out.drew.k16 Y hY).mono fun e B ⟨he, hc, hP⟩ => ⟨he, ⟨hc.1, hc.2.1, hc.2.2, C2.out B hP.out.at_.old.2⟩, hP⟩
            have P17 : Hid (∀ W, Ps w S V seed n f5 f5 (.slice a4 4 k4) W → Calls Tryd.prog 17 #[sv (.slice a4 4 k4) n seed, .int .u64 (Y : Int)] W fun e B => e = .returned (.int .i64 (cntN seed n Y f5 : Int)) ∧ (B.cell? ⟨V, 0, none⟩ = some (.slice a4 4 k4) ∧ B.cell? ⟨V, 1, none⟩ = some (.int .i64 (n : Int)) ∧ B.cell? ⟨V, 2, none⟩ = some (.int .u64 (seed : Int)) ∧ B.cell? ⟨b, o + p * 2 + 1, none⟩ = some (.int .u64 (Y : Int))) ∧ Hid (Ps w S V seed n f5 f5 (.slice a4 4 k4) B)) := fun W h =>
              (h.k17 Y hY).mono fun e B ⟨he, hc, hP⟩ => ⟨he, ⟨hc.1, hc.2.1, hc.2.2, C2.out B hP.out.at_.old.2⟩, hP⟩
            have K0 : Hid (wr.drew.cell? ⟨V, 0, none⟩ = some (.slice a4 4 k4) ∧ wr.drew.cell? ⟨V, 1, none⟩ = some (.int .i64 (n : Int)) ∧ wr.drew.cell? ⟨V, 2, none⟩ = some (.int .u64 (seed : Int)) ∧ wr.drew.cell? ⟨b, o + p * 2 + 1, none⟩ = some (.int .u64 (Y : Int))) :=
              ⟨h8.out.drew.cells.1, h8.out.drew.cells.2.1, h8.out.drew.cells.2.2, C2.out _ h8.out.drew.at_.old.2⟩
            have p1 : (0 : Int) ≤ (p : Int) := by omega
            have p2 : (p : Int) < (len : Int) := by omega
            have p3 : (p : Int) ≤ (j : Int) := by omega
            clear c0 c1 hk' C2 C
            generalize cntN seed n Y f5 = y at *
            go_wp2_with fail
            go_region_held3 (fun W => W.cell? ⟨V, 0, none⟩ = some (.slice a4 4 k4) ∧ W.cell? ⟨V, 1, none⟩ = some (.int .i64 (n : Int)) ∧ W.cell? ⟨V, 2, none⟩ = some (.int .u64 (seed : Int)) ∧ W.cell? ⟨b, o + p * 2 + 1, none⟩ = some (.int .u64 (Y : Int))) (first | exact K0.out | assumption) (first
              | (go_at_call 17; refine (P17.out _ h9.out).mono ?_; rintro e w10 ⟨rfl, S10, h10⟩)
              | (go_at_call 16; refine P16.out.mono ?_; rintro e w9 ⟨rfl, S9, h9⟩))
            clear S9 S10 h9 P16 P17 K0
            go_wp2
            go_roundw
            case rel => exact ⟨p + 1, by omega, by simp, h10⟩
            case measure => simp [intOf]; omega
          · have p3 : ¬ (p : Int) ≤ (j : Int) := by omega
            go_wp2
            go_roundw
            case rel => exact ⟨j + 1, _, by omega, by simp, _, h8.out⟩
            case measure => simp [intOf]; omega)
    · obtain rfl : j = len := by omega
      obtain ⟨f, hPs⟩ := hS0.out
      obtain ⟨a2, k2, rfl⟩ := hPs.slice
      have H0 := Lib.hid hPs
      clear hPs hS0 C
      go_wp2_with fail
      clear hlt hj
      go_loopw [11] (fun q wr => ∃ z : Nat, z ≤ 6 ∧ q = .int .i64 ((z : Int) - 1) ∧ Hid (Ps w S V seed n f f (.slice a2 4 k2) wr)) (fun q _ => (5 - intOf q).toNat)
      case atStart => exact ⟨0, by omega, rfl, H0⟩
      case round =>
        obtain ⟨z, hz, rfl, h8⟩ := hrel
        clear H0
        obtain ⟨k, hk⟩ : ∃ k : Int, (z : Int) - 1 = k := ⟨_, rfl⟩
        rw [hk]
        have k0 : -1 ≤ k := by omega
        by_cases hz6 : z < 6
        · have k1 : k < 5 := by omega
          have P18 := Lib.hid (h8.out.drew.k18 seed hseed k)
          have P19 : Hid (∀ W, Ps w S V seed n f f (.slice a2 4 k2) W → Calls Tryd.prog 19 #[sv (.slice a2 4 k2) n seed, .int .u64 (seed : Int), .int .i64 k] W fun e B => e = .returned (.int .i64 (Ps.plZ seed n seed k : Int)) ∧ Ps.C3 V seed n (.slice a2 4 k2) B ∧ Hid (Ps w S V seed n f f (.slice a2 4 k2) B)) := fun W h => h.k19 seed hseed k
          have K0 : Hid (Ps.C3 V seed n (.slice a2 4 k2) wr.drew) := h8.out.drew.cells
          have HZ := Lib.hid hk
          clear hk hz h8
          generalize Ps.plZ seed n seed k = y at *
          go_wp2_with fail
          go_region_held3 (fun W => W.cell? ⟨V, 0, none⟩ = some (.slice a2 4 k2) ∧ W.cell? ⟨V, 1, none⟩ = some (.int .i64 (n : Int)) ∧ W.cell? ⟨V, 2, none⟩ = some (.int .u64 (seed : Int))) (first | exact K0.out | assumption) (first
            | (go_at_call 19; refine (P19.out _ h9.out).mono ?_; rintro e w10 ⟨rfl, S10, h10⟩)
            | (go_at_call 18; refine P18.out.mono ?_; rintro e w9 ⟨rfl, S9, h9⟩))
          clear S9 S10 h9 P18 P19 K0
          go_wp2
          go_roundw
          case rel => exact ⟨z + 1, by omega, by have := HZ.out; simp; omega, h10⟩
          case measure => simp [intOf]; omega
        · have k1 : ¬ k < 5 := by omega
          have P20 := Lib.hid h8.out.drew.k20
          have P6 : Hid (∀ W, Ps w S V seed n f f (.slice a2 4 k2) W → Calls Tryd.prog 6 #[] W fun e B => e = .returned (.bool true) ∧ Ps.C3 V seed n (.slice a2 4 k2) B ∧ Hid (Below w.heap.size w B)) := fun W h => h.k6
          have K0 : Hid (Ps.C3 V seed n (.slice a2 4 k2) wr.drew) := h8.out.drew.cells
          have b1 : ((n : Int) == (n : Int)) = true := by simp
          clear hk hz h8
          go_wp2_with fail
          go_region_held3 (fun W => W.cell? ⟨V, 0, none⟩ = some (.slice a2 4 k2) ∧ W.cell? ⟨V, 1, none⟩ = some (.int .i64 (n : Int)) ∧ W.cell? ⟨V, 2, none⟩ = some (.int .u64 (seed : Int))) (first | exact K0.out | assumption) (first
            | (go_at_call 6; refine (P6.out _ h9.out).mono ?_; rintro e w10 ⟨rfl, S10, h10⟩)
            | (go_at_call 20; refine P20.out.mono ?_; rintro e w9 ⟨rfl, S9, h9⟩))
          go_wp2
          go_ret
          exact ⟨rfl, h10.out⟩
theorem plays_walk (c : Int) (seed : Nat) (hseed : seed < 18446744073709551616) (a : Option Addr) (cap : Nat) (ks : List (Nat × Nat)) (w : World) (hs : mx.Since w w) (hr : Steps w a ks) :
    Calls Tryd.prog 3 #[.int .i64 c, .int .u64 (seed : Int), .slice a ks.length cap] w fun e B => e = .returned (.bool true) ∧ Below w.heap.size w B := by
  by_cases hn : c ≤ 64
  · by_cases hl : ks.length ≤ 60
    · exact plays_some c seed hseed a cap ks w hs hn hl hr
    · have hd1 : decide (64 < c) = false := by simpa using hn
      have hl1 : (60 : Int) < (ks.length : Int) := by omega
      have T := Lib.hid (awake_any w w hs)
      clear hr hl hs
      generalize ks.length = len at *
      go_enter Tryd.func3, Tryd.ntmps3
      go_wp2_with fail
      refine T.out.mono ?_
      rintro e B ⟨rfl, hb⟩
      go_wp2
      go_ret
      exact ⟨rfl, hb.out⟩
  · have hn1 : 64 < c := by omega
    have hd1 : decide (64 < c) = true := by simpa using hn1
    have T := Lib.hid (awake_any w w hs)
    clear hr hn hs
    generalize ks.length = len at *
    go_enter Tryd.func3, Tryd.ntmps3
    go_wp2_with fail
    refine T.out.mono ?_
    rintro e B ⟨rfl, hb⟩
    go_wp2
    go_ret
    exact ⟨rfl, hb.out⟩
end Go.Proofs.YtljfidbplecggaaDoor
