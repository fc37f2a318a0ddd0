/-
  The four sums of the reference, by their contract: what they are behind all whole blocks of any bytes; what was there stays as it was.
-/
import Derived.Test.YtmjcdondogpceaaDoorXxSum
namespace Go.Proofs.YtmjcdondogpceaaDoor.xx
open Go.ChangeShapes Go.WideShapes Go.ChangeAt Go.RowKit
/-- the four sums lie in block g. -/
structure Four (w : World) (g : Nat) (s : Nat → Nat) : Prop where
  block : w.heap[g]? = some (.cells #[.int .u64 (s 0 : Nat), .int .u64 (s 1 : Nat), .int .u64 (s 2 : Nat), .int .u64 (s 3 : Nat)] 24 (0, 0))
  word : ∀ i, s i < 18446744073709551616
theorem Four.cell {w : World} {g : Nat} {s : Nat → Nat} (h : Four w g s) (j : Nat) (hj : j < 4) : w.cell? ⟨g, j, none⟩ = some (.int .u64 (s j : Nat)) := by
  rcases (show j = 0 ∨ j = 1 ∨ j = 2 ∨ j = 3 from by omega) with e | e | e | e <;> subst e <;> simp [World.cell?, h.block]
theorem Four.frozen {w : World} {g : Nat} {s : Nat → Nat} (h : Four w g s) (j : Nat) : w.frozen? ⟨g, j, none⟩ = false := by simp [World.frozen?, h.block]
theorem Four.lt {w : World} {g : Nat} {s : Nat → Nat} (h : Four w g s) : g < w.heap.size := lt_of_block h.block
theorem Four.below {w w' : World} {g : Nat} {s : Nat → Nat} (h : Four w g s) (hb : Below w.heap.size w w') : Four w' g s := ⟨(hb.block g h.lt).trans h.block, h.word⟩
theorem Four.drew {w : World} {g : Nat} {s : Nat → Nat} (h : Four w g s) : Four w.drew g s := ⟨h.block, h.word⟩
theorem Four.store {w : World} {g : Nat} {s : Nat → Nat} (h : Four w g s) (j v : Nat) (hj : j < 4) (hv : v < 18446744073709551616) : Four (w.setCell ⟨g, j, none⟩ (.int .u64 (v : Nat))) g (put s j v) := by
  refine ⟨?_, fun i => ?_⟩
  · rw [setCell_eq_setRow w g j _ _ _ _ h.block, setRow_heap w g _ _ _ _ h.block]
    rcases (show j = 0 ∨ j = 1 ∨ j = 2 ∨ j = 3 from by omega) with e | e | e | e <;> subst e <;> rfl
  · unfold put; split
    · exact hv
    · exact h.word i
theorem Four.congr {w : World} {g : Nat} {s s' : Nat → Nat} (h : Four w g s) (h0 : s 0 = s' 0) (h1 : s 1 = s' 1) (h2 : s 2 = s' 2) (h3 : s 3 = s' 3) (hw : ∀ i, s' i < 18446744073709551616) : Four w g s' :=
  ⟨by rw [h.block, h0, h1, h2, h3], hw⟩
theorem Row.below {w w' : World} {a : Option Addr} {n : Nat} {l : List Nat} (h : Row w a n l) (hb : Below w.heap.size w w') (ha : 0 < n → ∀ x, a = some x → x.block < w.heap.size) : Row w' a n l := by
  refine ⟨h.1, fun hn => ?_⟩
  obtain ⟨b, off, rfl, hcell⟩ := h.2 hn
  exact ⟨b, off, rfl, fun i hi => (hb.cell (p := ⟨b, off + i, none⟩) (show b < w.heap.size from ha hn ⟨b, off, none⟩ rfl)).trans (hcell i hi)⟩
theorem new_four (w : World) (s : Nat → Nat) (hs : ∀ i, s i < 18446744073709551616) : Four (w.alloc (.cells #[.int .u64 (s 0 : Nat), .int .u64 (s 1 : Nat), .int .u64 (s 2 : Nat), .int .u64 (s 3 : Nat)] 24)) w.heap.size s := ⟨heap_new w _, hs⟩
/-- lane j of the block at 'at'. -/
theorem lane_of (l : List Nat) (q at_ j : Nat) (hj : j < 4) (hq : q = at_ + 8 * j) : (l.drop q).take 8 = ((((l.drop at_).take 32).drop (8 * j)).take 8) := by
  subst hq
  rw [List.drop_take, List.drop_drop, List.take_take, Nat.min_eq_left (by omega)]
theorem refnumber_is {w : World} {b off n cap q m x : Nat} {l : List Nat} (h : Row w (some ⟨b, off, none⟩) n l) (hl : bytes l) (hq : q + 8 ≤ n) (hm : m = 8) (hx : num ((l.drop q).take 8) = x) :
    Calls Tryd.prog 39 #[.slice (some ⟨b, off + q, none⟩) m cap] w fun e w' => e = .returned (.int .u64 (x : Nat)) ∧ w = w' := by
  rw [← hx, hm]
  exact refnumber_any _ _ _ _ _ ((h.drop (k := q) (by omega)).take (by omega)) (by omega) (bytes_take (bytes_drop hl _) _)
theorem lane_four {w : World} {g : Nat} {s : Nat → Nat} {B : List Nat} {j x : Nat} (h : Four w g (part s B j)) (hj : j < 4) (hx : num ((B.drop (8 * j)).take 8) = x) :
    Four (w.setCell ⟨g, j, none⟩ (.int .u64 (rnd (s j) x : Nat))) g (part s B (j + 1)) := by
  rw [← part_succ]
  have : blk s B j = rnd (s j) x := by rw [← hx]; rfl
  rw [this]
  exact h.store j (rnd (s j) x) hj (rnd_lt _ _)
set_option maxHeartbeats 1600000 in
set_option maxRecDepth 100000 in
theorem refsums_any (a : Option Addr) (n cap : Nat) (l : List Nat) (seed : Nat) (w : World) (hr : Row w a n l) (hl : bytes l) (hn : 32 ≤ n) (hnn : n ≤ 4611686018427387904) (hcap : n ≤ cap) (hs : seed < 18446744073709551616) (ha : ∀ x, a = some x → x.block < w.heap.size) :
    Calls Tryd.prog 36 #[.slice a n cap, .int .u64 seed] w fun e w' => ∃ g, e = .returned (.slice (some ⟨g, 0, none⟩) 4 4) ∧ Four w' g (run (seedS seed) l) ∧ Below w.heap.size w w' ∧ w.heap.size ≤ g := by
  obtain ⟨b, off, rfl, hx⟩ := hr.2 (by omega)
  clear hx
  have ea := seed_a seed
  have eb := seed_b seed
  have ed := seed_d seed
  have HR := Lib.hid hr
  have HL := Lib.hid hl
  have HA := Lib.hid ha
  clear hr hl ha
  go_enter Tryd.func36, Tryd.ntmps36
  go_wp2_with fail
  refine (p1_any _).mono ?_
  rintro e w1 ⟨rfl, b1⟩
  go_wp2_with fail
  refine (p2_any _).mono ?_
  rintro e w2 ⟨rfl, b2⟩
  go_wp2_with fail
  refine (p2_any _).mono ?_
  rintro e w3 ⟨rfl, b3⟩
  go_wp2_with fail
  refine (p1_any _).mono ?_
  rintro e w4 ⟨rfl, b4⟩
  have B4 := Lib.hid (bnext (bnext (bnext b1 b2) b3) b4)
  clear b1 b2 b3 b4
  go_wp2
  have hF : Four (w4.alloc (.cells #[.int .u64 (up12 seed : Nat), .int .u64 (up2 seed : Nat), .int .u64 (seed : Nat), .int .u64 (low1 seed : Nat)] 24)) w4.heap.size (seedS seed) := new_four w4 (seedS seed) (seedS_lt seed hs)
  have hB := B4.out.alloc B4.out.size (.cells #[.int .u64 (up12 seed : Nat), .int .u64 (up2 seed : Nat), .int .u64 (seed : Nat), .int .u64 (low1 seed : Nat)] 24)
  have hlg := B4.out.size
  clear B4 ea eb ed
  generalize w4.alloc (.cells #[.int .u64 (up12 seed : Nat), .int .u64 (up2 seed : Nat), .int .u64 (seed : Nat), .int .u64 (low1 seed : Nat)] 24) = w5 at *
  generalize w4.heap.size = lg at *
  have HF := Lib.hid hF
  have HB := Lib.hid hB
  clear hF hB
  have hbw : b < w.heap.size := HA.out _ rfl
  go_loopw [6] (fun i wr => ∃ (p : Nat) (s' : Nat → Nat), i = .int .i64 p ∧ p ≤ n ∧ Four wr lg s' ∧ Below w.heap.size w wr ∧ run s' (l.drop p) = run (seedS seed) l) (fun i _ => n - (intOf i).toNat)
  case atStart => exact ⟨0, seedS seed, rfl, by omega, HF.out, HB.out, by rw [List.drop_zero]⟩
  case round =>
    obtain ⟨p, s', rfl, hpn, hF', hB', hrun⟩ := hrel
    have HF' := Lib.hid hF'
    have HB' := Lib.hid hB'
    have HRUN := Lib.hid hrun
    clear hF' hB' hrun HF HB
    by_cases h32 : p + 32 ≤ n
    · have h32i : (p : Int) + 32 ≤ (n : Int) := by omega
      have hdec : decide ((p : Int) + 32 ≤ (n : Int)) = true := decide_eq_true h32i
      go_wp2
      go_loopw [7] (fun i wr' => ∃ (j : Nat), i = .int .i64 j ∧ j ≤ 4 ∧ Four wr' lg (part s' ((l.drop p).take 32) j) ∧ Below w.heap.size w wr') (fun i _ => 4 - (intOf i).toNat)
      case atStart => exact ⟨0, rfl, by omega, by rw [part_zero]; exact HF'.out, HB'.out⟩
      case round =>
        obtain ⟨j, rfl, hj4, hF2, hB2⟩ := hrel
        by_cases hj : j < 4
        · have hc := hF2.cell j hj
          rw [show part s' ((l.drop p).take 32) j j = s' j from by simp [part]] at hc
          have hf := hF2.frozen j
          obtain ⟨u, hu, hu'⟩ : ∃ u : Nat, u = 8 * j ∧ IntKind.i64.wrap (8 * (j : Int)) = (u : Int) := ⟨8 * j, rfl, by rw [IntKind.wrap_i64]; omega⟩
          obtain ⟨q, hq, hq'⟩ : ∃ q : Nat, q = p + u ∧ IntKind.i64.wrap ((p : Int) + u) = (q : Int) := ⟨p + u, rfl, by rw [IntKind.wrap_i64]; omega⟩
          obtain ⟨q8, hq8, hq8'⟩ : ∃ q8 : Nat, q8 = q + 8 ∧ IntKind.i64.wrap ((q : Int) + 8) = (q8 : Int) := ⟨q + 8, rfl, by rw [IntKind.wrap_i64]; omega⟩
          have hle1 : q ≤ q8 := by omega
          have hle2 : q8 ≤ cap := by omega
          have hne : ¬ cap = q := by omega
          have hm8 : q8 - q = 8 := by omega
          have hqn : q + 8 ≤ n := by omega
          obtain ⟨x, hx⟩ : ∃ x, num ((l.drop q).take 8) = x := ⟨_, rfl⟩
          have hx2 := hx
          rw [lane_of l q p j hj (by omega)] at hx2
          have HX := Lib.hid hx
          have HX2 := Lib.hid hx2
          have HF2 := Lib.hid hF2
          have HB2 := Lib.hid hB2
          have HR2 := Lib.hid (HR.out.below (hB2.mono (Nat.le_refl _)) (fun _ => HA.out))
          clear hF2 hB2 hx hx2
          have HQ := Lib.hid hq
          have HU := Lib.hid hu
          have HQ8 := Lib.hid hq8
          clear hq hu hq8
          go_wp2
          go_region_with (first
            | (go_at_call 39; refine (refnumber_is HR2.out.drew HL.out hqn rfl HX.out).mono ?_; rintro e w1 ⟨rfl, rfl⟩)
            | (go_at_call 38; refine (refround_any _ _ _).mono ?_; rintro e w1 ⟨rfl, hb1⟩; have hF3 := HF2.out.drew.below hb1; have hc1 := hF3.cell j hj; have hf1 := hF3.frozen j; have HB1 := Lib.hid hb1; have HF3 := Lib.hid hF3; clear hb1 hF3))
          all_goals
            go_wp2
            go_roundw
            case rel => exact ⟨j + 1, by go_num, by omega, lane_four HF3.out hj HX2.out, (bnext HB2.out.drew HB1.out).setCell (p := ⟨lg, j, none⟩) hlg _⟩
            case measure => simp [intOf]; omega
        · obtain rfl : j = 4 := by omega
          have hF3 : Four wr lg (blk s' ((l.drop p).take 32)) := hF2.congr (by simp [part]) (by simp [part]) (by simp [part]) (by simp [part]) (fun i => blk_lt _ _ i)
          have HF3 := Lib.hid hF3
          have HB2 := Lib.hid hB2
          clear hF2 hB2 hF3
          go_wp2
          go_roundw
          case rel => exact ⟨p + 32, blk s' ((l.drop p).take 32), by go_num, by omega, HF3.out, HB2.out, by
            rw [← HRUN.out, run_big s' (l.drop p) (by rw [List.length_drop]; have := HR.out.1; omega), List.drop_drop]⟩
          case measure => simp [intOf]; omega
    · have e : s' = run (seedS seed) l := by rw [← HRUN.out, run_small s' (l.drop p) (by rw [List.length_drop]; have := HR.out.1; omega)]
      have E := Lib.hid e
      clear e
      go_wp2
      go_ret
      exact ⟨lg, rfl, by rw [← E.out]; exact HF'.out, HB'.out, hlg⟩
end Go.Proofs.YtmjcdondogpceaaDoor.xx
