/-
  The three laws of layer 2, walked call by call: each returns true for every input, and what was in memory stays.
-/
import Derived.Test.YtgienoomodlfdaaSum
import Derived.IntWalk
import Derived.Deep.QuietTactic
import Derived.BigQuiet
namespace Go.Proofs.Ytgienoomodlfdaa
open Go.ChangeShapes Go.WideShapes Go.ChangeAt Go.RowKit
theorem i64_bd {n : Int} (h : (Lit.int .i64 n).wf = true) : fits n := by
  have := Go.bounds_i64 h
  unfold fits; omega
set_option maxHeartbeats 800000 in
theorem adds_walk (a b : Int) (ha : fits a) (hb : fits b) (w : World) :
    Calls Try.prog 3 #[.int .i64 a, .int .i64 b] w fun e w' => e = .returned (.bool true) ∧ Below w.heap.size w w' := by
  have HA := Lib.hid ha
  have HB := Lib.hid hb
  clear ha hb
  go_enter Try.func3, Try.ntmps3
  go_wp2_with fail
  refine (add_any _ _ _ HA.out HB.out).mono ?_
  rintro e w1 ⟨rfl, hb1⟩
  go_wp2_with fail
  refine (refadd_any _ _ _).mono ?_
  rintro e w2 ⟨rfl, rfl⟩
  go_wp2_with fail
  refine (right_any _ _).mono ?_
  rintro e w2 ⟨rfl, rfl⟩
  go_wp2_with fail
  refine (refright_any _ _).mono ?_
  rintro e w2 ⟨rfl, rfl⟩
  go_wp2_with fail
  refine (cut_any _ _).mono ?_
  rintro e w2 ⟨rfl, rfl⟩
  go_wp2_with fail
  refine (refcut_any _ _).mono ?_
  rintro e w2 ⟨rfl, rfl⟩
  go_wp2_with fail
  refine (awake_any _).mono ?_
  rintro e w2 ⟨rfl, hb2⟩
  go_wp2
  go_ret
  exact ⟨rfl, hb1.trans (hb2.mono hb1.size)⟩
theorem u64_nat {n : Int} (h : (Lit.int .u64 n).wf = true) : ∃ m : Nat, n = (m : Int) ∧ m < 18446744073709551616 := by
  have := Go.bounds_u64 h
  exact ⟨n.toNat, by omega, by omega⟩
theorem Row.below {w w' : World} {a : Option Addr} {n : Nat} {l : List Int} (h : Row w a n l) (hc : ∀ b o, b < w.heap.size → w'.cell? ⟨b, o, none⟩ = w.cell? ⟨b, o, none⟩) (hlt : ∀ x, a = some x → x.block < w.heap.size) : Row w' a n l := by
  refine ⟨h.1, fun hn => ?_⟩
  obtain ⟨b, off, rfl, hcell⟩ := h.2 hn
  exact ⟨b, off, rfl, fun i hi => (hc b _ (hlt _ rfl)).trans (hcell i hi)⟩
theorem Row.drop {w : World} {b off n k : Nat} {l : List Int} (h : Row w (some ⟨b, off, none⟩) n l) (hk : k < n) : Row w (some ⟨b, off + k, none⟩) (n - k) (l.drop k) := by
  refine ⟨by rw [List.length_drop, h.1], fun _ => ⟨b, off + k, rfl, fun i hi => ?_⟩⟩
  obtain ⟨b', off', e, hc⟩ := h.2 (by omega)
  injection e with e
  injection e with e1 e2
  subst e1 e2
  have := hc (k + i) (by omega)
  rw [← Nat.add_assoc] at this
  rw [this]
  simp [List.getD, List.getElem?_drop]
theorem Row.take {w : World} {a : Option Addr} {n k : Nat} {l : List Int} (h : Row w a n l) (hk : k ≤ n) : Row w a k (l.take k) := by
  refine ⟨by rw [List.length_take, h.1]; omega, fun hp => ?_⟩
  obtain ⟨b, off, e, hc⟩ := h.2 (by omega)
  exact ⟨b, off, e, fun i hi => by rw [hc i (by omega)]; simp [List.getD, hi]⟩
theorem Row.none_ (w : World) (a : Option Addr) : Row w a 0 [] := ⟨rfl, fun h => absurd h (by omega)⟩
theorem ints_take {l : List Int} (h : ints l) (k : Nat) : ints (l.take k) := fun n hn => h n (List.mem_of_mem_take hn)
theorem ints_drop {l : List Int} (h : ints l) (k : Nat) : ints (l.drop k) := fun n hn => h n (List.mem_of_mem_drop hn)
theorem sumV_fits (l : List Int) : fits (sumV l) := by
  unfold sumV fits
  split
  · rename_i h
    have := fine_pos h
    have := h.2
    omega
  · omega
set_option maxHeartbeats 1600000 in
theorem sums_walk (b off n cap x : Nat) (l : List Int) (hn : 0 < n) (hcap : n ≤ cap) (hm : cap ≤ 9223372036854775807) (hx : x < 18446744073709551616) (w : World)
    (hr : Row w (some ⟨b, off, none⟩) n l) (hi : ints l) :
    Calls Try.prog 4 #[.slice (some ⟨b, off, none⟩) n cap, .int .u64 x] w fun e w' => e = .returned (.bool true) ∧ Below w.heap.size w w' := by
  obtain ⟨k, hk, hkn⟩ : ∃ k : Nat, wrap64 ((x : Int) % (n : Int)) = (k : Int) ∧ k < n := by
    have h1 : (x : Int) % (n : Int) < n := Int.emod_lt_of_pos _ (by omega)
    have h2 : 0 ≤ (x : Int) % (n : Int) := Int.emod_nonneg _ (by omega)
    refine ⟨((x : Int) % (n : Int)).toNat, ?_, by omega⟩
    unfold wrap64
    omega
  have hkc : ¬ cap = k := by omega
  have hp := parts l k
  have HP := Lib.hid hp
  have HR := Lib.hid hr
  have HI := Lib.hid hi
  clear hr hi hp
  go_enter Try.func4, Try.ntmps4
  go_wp2_with fail
  refine (sum_any _ _ _ l _ HR.out (by omega) HI.out).mono ?_
  rintro e w1 ⟨rfl, rfl⟩
  go_wp2_with fail
  refine (refsum_any _ _ _ l _ HR.out (by omega) HI.out).mono ?_
  rintro e w1 ⟨rfl, rfl⟩
  go_wp2_with fail
  refine (sum_any _ _ _ (l.drop k) _ (HR.out.drop hkn) (by omega) (ints_drop HI.out k)).mono ?_
  rintro e w1 ⟨rfl, rfl⟩
  go_wp2_with fail
  refine (sum_any _ _ _ (l.take k) _ (HR.out.take (by omega)) (by omega) (ints_take HI.out k)).mono ?_
  rintro e w1 ⟨rfl, rfl⟩
  go_wp2_with fail
  refine (add_any _ _ _ (sumV_fits _) (sumV_fits _)).mono ?_
  rintro e w1 ⟨rfl, hb1⟩
  obtain ⟨hp1, hp2⟩ := HP.out
  clear HP HR HI
  generalize addV (sumV (List.drop k l)) (sumV (List.take k l)) = v at *
  generalize addB (sumV (List.drop k l)) (sumV (List.take k l)) = vb at *
  generalize sumB (List.drop k l) = db at *
  generalize sumB (List.take k l) = tb at *
  generalize sumB l = sb at *
  generalize sumV l = sv at *
  cases sb
  · clear hp2
    cases db
    · clear hp1
      go_wp2_with fail
      refine (awake_any _).mono ?_
      rintro e w2 ⟨rfl, hb2⟩
      go_wp2
      go_ret
      exact ⟨rfl, hb1.trans (hb2.mono hb1.size)⟩
    · cases tb
      · clear hp1
        go_wp2_with fail
        refine (awake_any _).mono ?_
        rintro e w2 ⟨rfl, hb2⟩
        go_wp2
        go_ret
        exact ⟨rfl, hb1.trans (hb2.mono hb1.size)⟩
      · obtain rfl : vb = false := by simpa using hp1.symm
        clear hp1
        go_wp2_with fail
        refine (awake_any _).mono ?_
        rintro e w2 ⟨rfl, hb2⟩
        go_wp2
        go_ret
        exact ⟨rfl, hb1.trans (hb2.mono hb1.size)⟩
  · obtain ⟨⟨rfl, rfl⟩, rfl⟩ : (db = true ∧ tb = true) ∧ vb = true := by simpa using hp1.symm
    obtain rfl : v = sv := hp2 rfl
    clear hp1 hp2
    go_wp2_with fail
    refine (awake_any _).mono ?_
    rintro e w2 ⟨rfl, hb2⟩
    go_wp2
    go_ret
    exact ⟨rfl, hb1.trans (hb2.mono hb1.size)⟩
theorem sum_none (a : Option Addr) (cap : Nat) (w : World) : Calls Try.prog 13 #[.slice a 0 cap] w fun e w' => e = .returned (.tuple #[.int .i64 0, .bool true]) ∧ w = w' :=
  sum_any a 0 cap [] w (Row.none_ w a) (by omega) (fun _ h => by cases h)
theorem refsum_none (a : Option Addr) (cap : Nat) (w : World) : Calls Try.prog 14 #[.slice a 0 cap] w fun e w' => e = .returned (.tuple #[.int .i64 0, .bool true]) ∧ w = w' :=
  refsum_any a 0 cap [] w (Row.none_ w a) (by omega) (fun _ h => by cases h)
theorem add_00 (w : World) : Calls Try.prog 6 #[.int .i64 0, .int .i64 0] w fun e w' => e = .returned (.tuple #[.int .i64 0, .bool true]) ∧ Below w.heap.size w w' :=
  add_any 0 0 w (by decide) (by decide)
set_option maxHeartbeats 800000 in
/-- the same of a slice without elements: nil. -/
theorem sums_nil (x : Nat) (w : World) (_hx : x < 18446744073709551616) :
    Calls Try.prog 4 #[.slice none 0 0, .int .u64 x] w fun e w' => e = .returned (.bool true) ∧ Below w.heap.size w w' := by
  go_enter Try.func4, Try.ntmps4
  go_wp2_with (first | (go_at_call 13; refine (sum_none _ _ _).mono ?_; rintro e w1 ⟨rfl, rfl⟩) | (go_at_call 14; refine (refsum_none _ _ _).mono ?_; rintro e w1 ⟨rfl, rfl⟩))
  refine (add_00 _).mono ?_
  rintro e w1 ⟨rfl, hb1⟩
  go_wp2_with fail
  refine (awake_any _).mono ?_
  rintro e w2 ⟨rfl, hb2⟩
  go_wp2
  go_ret
  exact ⟨rfl, hb1.trans (hb2.mono hb1.size)⟩
set_option maxHeartbeats 800000 in
/-- .. and any other one. -/
theorem sums_empty (y : Addr) (cap x : Nat) (w : World) (_hx : x < 18446744073709551616) (_hm : cap ≤ 9223372036854775807) :
    Calls Try.prog 4 #[.slice (some y) 0 cap, .int .u64 x] w fun e w' => e = .returned (.bool true) ∧ Below w.heap.size w w' := by
  go_enter Try.func4, Try.ntmps4
  go_wp2_with (first | (go_at_call 13; refine (sum_none _ _ _).mono ?_; rintro e w1 ⟨rfl, rfl⟩) | (go_at_call 14; refine (refsum_none _ _ _).mono ?_; rintro e w1 ⟨rfl, rfl⟩))
  all_goals
    refine (add_00 _).mono ?_
    rintro e w1 ⟨rfl, hb1⟩
    go_wp2_with fail
    refine (awake_any _).mono ?_
    rintro e w2 ⟨rfl, hb2⟩
    go_wp2
    go_ret
    exact ⟨rfl, hb1.trans (hb2.mono hb1.size)⟩
theorem below_new (w : World) (o : Obj) (n : Nat) : Below w.heap.size w ((w.alloc o).drewN n) :=
  ((Below.refl w.heap.size w).alloc (Nat.le_refl _) o).trans ⟨rfl, rfl, rfl, Nat.le_refl _, fun _ _ => rfl⟩
theorem moveV_fits (u o n : Int) : fits (moveV u o n) := by
  unfold moveV fits
  split <;> omega
set_option maxHeartbeats 1600000 in
set_option maxRecDepth 100000 in
theorem moves_walk (m u o n : Int) (hu : fits u) (ho : fits o) (hn : fits n) (w : World) :
    Calls Try.prog 5 #[.int .i64 m, .int .i64 u, .agg #[.int .i64 o, .int .i64 n]] w fun e w' => e = .returned (.bool true) ∧ Below w.heap.size w w' := by
  have HU := Lib.hid hu
  have HO := Lib.hid ho
  have HN := Lib.hid hn
  have hm := move_back u o n
  have HM := Lib.hid hm
  clear hu ho hn hm
  go_enter Try.func5, Try.ntmps5
  go_wp2_with fail
  go_quiet (fail)
  go_wp2_with fail
  refine (room_any _ _ _).mono ?_
  rintro e w1 ⟨rfl, rfl⟩
  go_wp2_with fail
  refine (refroom_any _ _ _).mono ?_
  rintro e w1 ⟨rfl, rfl⟩
  go_wp2_with fail
  refine (move_any _ _ _ _ HN.out).mono ?_
  rintro e w1 ⟨rfl, hb1⟩
  go_wp2_with fail
  refine (refmove_any _ _ _ _).mono ?_
  rintro e w2 ⟨rfl, rfl⟩
  obtain hm := HM.out
  clear HM
  have hs := moveV_fits u o n
  generalize moveB u o n = mb at *
  generalize moveV u o n = mv at *
  cases mb
  · clear hm
    go_wp2_with fail
    refine (awake_any _).mono ?_
    rintro e w2 ⟨rfl, hb2⟩
    go_wp2
    go_ret
    have h0 := below_new w (.cells #[.int .i64 o, .int .i64 n] 33) nq
    have h1 := h0.trans (hb1.mono h0.size)
    exact ⟨rfl, h1.trans (hb2.mono h1.size)⟩
  · obtain ⟨m1, m2⟩ := hm rfl
    have HM1 := Lib.hid m1
    have HM2 := Lib.hid m2
    clear hm m1 m2
    go_wp2_with fail
    refine (move_any _ _ _ _ HO.out).mono ?_
    rintro e w2 ⟨rfl, hb2⟩
    rw [HM1.out, HM2.out]
    go_wp2_with fail
    refine (awake_any _).mono ?_
    rintro e w3 ⟨rfl, hb3⟩
    go_wp2
    go_ret
    have h0 := below_new w (.cells #[.int .i64 o, .int .i64 n] 33) nq
    have h1 := h0.trans (hb1.mono h0.size)
    have h2 := h1.trans (hb2.mono h1.size)
    exact ⟨rfl, h2.trans (hb3.mono h2.size)⟩
end Go.Proofs.Ytgienoomodlfdaa
