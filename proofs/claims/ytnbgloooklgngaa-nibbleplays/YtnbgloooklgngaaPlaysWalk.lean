/-
  NibblePlays, walked: true for every int, every slice of steps and every number of times.
-/
import Derived.Test.YtnbgloooklgngaaPlays
namespace Go.Proofs.Ytnbgloooklgngaa
open Go.RowKit
/-- the state between two steps: row and list alike. -/
def Se (w : World) (N m : Nat) (v : Value) (W : World) : Prop := ∃ cs, St w N m cs cs v W
set_option maxRecDepth 100000 in
set_option maxHeartbeats 4000000 in
theorem plays_some (n : Int) (a : Option Addr) (cap : Nat) (ks : List (Nat × Int)) (times : Nat) (w : World) (hn : n ≤ 40) (hl : ks.length ≤ 60) (hr : Steps w a ks) :
    Calls Try.prog 3 #[.int .i64 n, .slice a ks.length cap, .int .u64 (times : Int)] w fun e B => e = .returned (.bool true) ∧ Below w.heap.size w B := by
  obtain ⟨N, hN⟩ : ∃ N, w.heap.size = N := ⟨_, rfl⟩
  obtain ⟨m, hm, hm40⟩ : ∃ m : Nat, max 0 n = (m : Int) ∧ m ≤ 40 := ⟨(max 0 n).toNat, by omega, by omega⟩
  have T7 : Hid (Calls Try.prog 7 #[.int .i64 n] w fun e B => e = .returned (.pointer (some ⟨N + 1, 0, none⟩)) ∧ Hid (Se w N m (.slice (some ⟨B.heap.size, 0, none⟩) m m) (B.alloc (.cells (madeCells #[.int .i64 0] m) 3)))) :=
    (new_any n m (by omega) w).mono fun e B ⟨he, h1, h2⟩ => by
      rw [hN] at he h1 h2
      exact ⟨he, _, St.new hN h1 h2 hm40⟩
  have hmk := fun w => run_make_row' (P := Try.prog) 27 3 (.int .i64 0) 8 Try.underlying27 info_i rfl .i64 .i64 m (by omega) (by omega) w
  -- what came in, as it reads now
  have C : Hid (∀ W, Below N w W → ∀ i, i < ks.length → ∃ b o K A, a = some ⟨b, o, none⟩ ∧ ks[i]? = some (K, A) ∧ W.cell? ⟨b, o + i * 2, none⟩ = some (.int .u64 (K : Int)) ∧ W.cell? ⟨b, o + i * 2 + 1, none⟩ = some (.int .i64 A)) := fun W hW i hi => by
    obtain ⟨b, o, ha, hc⟩ := hr (by omega)
    obtain ⟨c0, c1⟩ := hc i hi
    refine ⟨b, o, ks[i].1, ks[i].2, ha, by simp [hi], ?_, ?_⟩
    · exact (hW.cell (p := ⟨b, o + i * 2, none⟩) (hN ▸ World.block_lt_of_cell? w ⟨b, o + i * 2, none⟩ c0)).trans c0
    · exact (hW.cell (p := ⟨b, o + i * 2 + 1, none⟩) (hN ▸ World.block_lt_of_cell? w ⟨b, o + i * 2 + 1, none⟩ c1)).trans c1
  obtain ⟨T, hT, hT20⟩ : ∃ T : Nat, (times : Int) % 20 = (T : Int) ∧ T < 20 := ⟨times % 20, by omega, Nat.mod_lt _ (by decide)⟩
  have F : Hid (∀ v W, Se w N m v W → Calls Try.prog 15 #[.pointer (some ⟨N + 1, 0, none⟩), v] W fun e B => e = .returned (.bool true) ∧ Hid (Se w N m v B)) := fun v W h => by
    obtain ⟨cs, h⟩ := h
    exact h.k15.mono fun e B ⟨he, hB⟩ => ⟨he, cs, hB⟩
  have E : Hid (∀ v W, Se w N m v W → Calls Try.prog 6 #[] W fun e B => e = .returned (.bool true) ∧ Hid (Below N w B)) := fun v W h => by
    obtain ⟨cs, h⟩ := h
    exact h.k6
  rw [hN]
  clear hr hN
  have hd1 : decide (40 < n) = false := by simpa using hn
  have hd2 : ¬ (60 : Int) < (ks.length : Int) := by omega
  generalize hnn : ks.length = len at *
  generalize hZ : madeCells #[Value.int .i64 0] m = Z at *
  have HZ := Lib.hid hZ
  clear hZ
  go_enter Try.func3, Try.ntmps3
  go_wp2_with fail
  refine T7.out.mono ?_
  rintro e w1 ⟨rfl, h1⟩
  go_wp2_with fail
  go_loopw [8, 9] (fun x i wr => ∃ j : Nat, j ≤ len ∧ i = .int .i64 j ∧ (∃ a c, x = .slice a m c) ∧ Hid (Se w N m x wr)) (fun _ i _ => len - (intOf i).toNat)
  case atStart => exact ⟨0, Nat.zero_le _, rfl, ⟨_, _, rfl⟩, h1⟩
  case round =>
    obtain ⟨j, hj, rfl, ⟨ax, cx, rfl⟩, hS⟩ := hrel
    clear h1 T7
    by_cases hlt : j < len
    · go_wp2_with fail
      obtain ⟨wo, ho⟩ : ∃ wo, wo = wr := ⟨_, rfl⟩
      rw [← ho] at hS
      rw [← ho]
      clear ho
      go_loopw [8, 10] (fun x k wr => ∃ q : Nat, q ≤ T + 1 ∧ k = .int .i64 q ∧ (∃ a c, x = .slice a m c) ∧ Hid (Se w N m x wr)) (fun _ k _ => T + 1 - (intOf k).toNat)
      case atStart => exact ⟨0, Nat.zero_le _, rfl, ⟨_, _, rfl⟩, hS⟩
      case round =>
        obtain ⟨q, hq, rfl, ⟨ay, cy, rfl⟩, hS1⟩ := hrel
        clear hS
        by_cases hqt : q ≤ T
        · obtain ⟨cs, hSt⟩ := hS1.out
          obtain ⟨b, o, K, A, rfl, hk, c0, c1⟩ := C.out wr hSt.old j (by omega)
          have C1 : Hid (∀ W, Below N w W → W.cell? ⟨b, o + j * 2 + 1, none⟩ = some (.int .i64 A)) := fun W hW => by
            obtain ⟨b', o', K', A', e1, e2, _, e4⟩ := C.out W hW j (by omega)
            rw [hk] at e2
            simp only [Option.some.injEq, Addr.mk.injEq, and_true, Prod.mk.injEq] at e1 e2
            obtain ⟨rfl, rfl⟩ := e1
            obtain ⟨rfl, rfl⟩ := e2
            exact e4
          obtain ⟨d, hd, hd11⟩ : ∃ d : Nat, (K : Int) % 11 = (d : Int) ∧ d < 11 := ⟨K % 11, by omega, Nat.mod_lt _ (by decide)⟩
          have HS := Lib.hid hSt
          have hqt' : (q : Int) ≤ (T : Int) := by omega
          clear hSt hS1 C hk F E
          by_cases h8 : d = 8
          · subst h8
            have P8 := Lib.hid HS.out.k8
            go_wp2_with fail
            refine P8.out.mono ?_
            rintro e w2 ⟨rfl, h2⟩
            have P9 := Lib.hid h2.k9
            clear h2 c0 c1
            go_wp2_with fail
            refine P9.out.mono ?_
            rintro e w3 ⟨a3, c3, rfl, h3⟩
            have H3 := Lib.hid h3
            clear h3
            go_wp2
            go_roundw
            case rel => exact ⟨q + 1, by omega, by simp, ⟨_, _, rfl⟩, _, H3.out⟩
            case measure => simp [intOf]; omega
          · by_cases h9 : d = 9
            · subst h9
              have P10 := Lib.hid HS.out.k10
              clear h8
              go_wp2_with fail
              refine P10.out.mono ?_
              rintro e w2 ⟨rfl, h2⟩
              have H2 := Lib.hid h2
              clear h2 c0 c1
              go_wp2
              go_roundw
              case rel => exact ⟨q + 1, by omega, by simp, ⟨_, _, rfl⟩, _, HZ.out ▸ H2.out.zeros⟩
              case measure => simp [intOf]; omega
            · by_cases h10 : d = 10
              · subst h10
                have P11 := Lib.hid (HS.out.k11 A)
                have P12 := Lib.hid (HS.out.k12 A)
                generalize getAt cs A = y at *
                clear h8 h9
                go_wp2_with fail
                go_quiet (first
                  | (go_at_call 11; exact Calls.quiet_of (P11.out _))
                  | (go_at_call 12; exact Calls.quiet_of_same (P12.out _)))
                go_wp2
                go_roundw
                case rel => exact ⟨q + 1, by omega, by simp, ⟨_, _, rfl⟩, _, HS.out.drewN _⟩
                case measure => simp [intOf]; omega
              · have P13 := Lib.hid (HS.out.k13 A)
                have i8 : ¬ (d : Int) = 8 := by omega
                have i9 : ¬ (d : Int) = 9 := by omega
                have i10 : ¬ (d : Int) = 10 := by omega
                clear h8 h9 h10
                go_wp2_with fail
                refine P13.out.mono ?_
                rintro e w2 ⟨a2, c2, rfl, h2⟩
                have P14 := Lib.hid (h2.k14 A)
                have d1 := C1.out w2 h2.old
                generalize mayAdd cs A = bm at *
                clear h2 c0 c1 P13
                go_wp2_with fail
                refine P14.out.mono ?_
                rintro e w3 ⟨rfl, h3⟩
                have H3 := Lib.hid h3
                clear h3
                go_wp2
                go_roundw
                case rel => exact ⟨q + 1, by omega, by simp, ⟨_, _, rfl⟩, _, H3.out⟩
                case measure => simp [intOf]; omega
        · have hqt' : ¬ (q : Int) ≤ (T : Int) := by omega
          have F1 := Lib.hid (F.out _ _ hS1.out)
          clear F E C hS1
          go_wp2_with fail
          refine F1.out.mono ?_
          rintro e w2 ⟨rfl, h2⟩
          go_wp2
          go_roundw
          case rel => exact ⟨j + 1, by omega, by simp, ⟨_, _, rfl⟩, h2⟩
          case measure => simp [intOf]; omega
    · obtain rfl : j = len := by omega
      have E1 := Lib.hid (E.out _ _ hS.out)
      clear E F C hS
      go_wp2_with fail
      refine E1.out.mono ?_
      rintro e B ⟨rfl, hB⟩
      go_wp2
      go_ret
      exact ⟨rfl, hB.out⟩
theorem plays_walk (n : Int) (a : Option Addr) (cap : Nat) (ks : List (Nat × Int)) (times : Nat) (w : World) (hr : Steps w a ks) :
    Calls Try.prog 3 #[.int .i64 n, .slice a ks.length cap, .int .u64 (times : Int)] w fun e B => e = .returned (.bool true) ∧ Below w.heap.size w B := by
  by_cases hn : n ≤ 40
  · by_cases hl : ks.length ≤ 60
    · exact plays_some n a cap ks times w hn hl hr
    · have hd1 : decide (40 < n) = false := by simpa using hn
      have hl1 : (60 : Int) < (ks.length : Int) := by omega
      clear hr hl
      generalize ks.length = len at *
      go_enter Try.func3, Try.ntmps3
      go_wp2_with fail
      refine (awake_any w).mono ?_
      rintro e B ⟨rfl, hb⟩
      go_wp2
      go_ret
      exact ⟨rfl, hb.out⟩
  · have hn1 : 40 < n := by omega
    have hd1 : decide (40 < n) = true := by simpa using hn1
    clear hr hn
    generalize ks.length = len at *
    go_enter Try.func3, Try.ntmps3
    go_wp2_with fail
    refine (awake_any w).mono ?_
    rintro e B ⟨rfl, hb⟩
    go_wp2
    go_ret
    exact ⟨rfl, hb.out⟩
end Go.Proofs.Ytnbgloooklgngaa
