/-
  Int and Below of package tape, and the document's, by their contracts, for every tape; each function of none.
-/
import Derived.Test.YtfhcgildokdppaaTpTi
import Derived.WalkMore
namespace Go.Proofs.Ytfhcgildokdppaa.tp
open Go.RowKit
theorem w64 (n : Int) : IntKind.i64.wrap n = wrap64 n := by unfold wrap64; rw [IntKind.wrap_i64]
/-- the first k of eight bytes read. -/
theorem nm_step (bs : List Nat) (a k : Nat) : nm bs a (k + 1) = 256 * nm bs a k + bt bs (ad bs a k) := rfl
theorem ad_step (bs : List Nat) (a k : Nat) : ad bs a (k + 1) = nx bs (ad bs a k) := rfl
set_option maxRecDepth 100000 in
set_option maxHeartbeats 2000000 in
theorem int7 {w : World} {D cap : Nat} {q : Option Addr} {bs : List Nat} {a : Nat} (h : Tp 76 cap w D q bs a) :
    Calls Try.prog 37 #[.pointer (some ⟨D, 0, none⟩)] w fun e B => e = .returned (.int .i64 (iv bs a)) ∧ Hid (Go1 76 cap w D q bs (ia bs a) B) := by
  have T := Lib.hid (byte9 h)
  have hb := bt_lt h.bys a
  by_cases h2 : bt bs a < 200
  · have e1 : iv bs a = (bt bs a : Int) := by unfold iv; rw [if_pos h2]
    have e2 : ia bs a = nx bs a := by unfold ia; rw [if_pos h2]
    rw [e1, e2]
    clear e1 e2 h
    generalize bt bs a = y at *
    have z1 : (y : Int) < 200 := by omega
    go_enter Try.func37, Try.ntmps37
    go_wp2_with fail
    go_step3
    go_wp2_with fail
    refine T.out.mono ?_
    rintro e w1 ⟨rfl, g⟩
    clear T
    go_wp2_with fail
    go_step3
    go_wp2_with fail
    go_loopw [4, 7] (fun n k wr => n = .int .i64 0 ∧ k = .int .i64 0 ∧ wr = w1) (fun _ _ _ => 1)
    case atStart => exact ⟨rfl, rfl, rfl⟩
    case round =>
      obtain ⟨rfl, rfl, rfl⟩ := hrel
      go_wp2
      rw [Exit.noGoto_ret]
      go_ret
      exact ⟨rfl, g⟩
  · have hlt : a < bs.length := by
      by_cases hlt : a < bs.length
      · exact hlt
      · rw [bt_out (by omega)] at h2
        omega
    by_cases h5 : bt bs a < 255
    · have e1 : iv bs a = (((bt bs a - 200) * 256 + 200 + bt bs (nx bs a) : Nat) : Int) := by unfold iv; rw [if_neg h2, if_pos h5]
      have e2 : ia bs a = nx bs (nx bs a) := by unfold ia; rw [if_neg h2, if_pos h5]
      rw [e1, e2]
      have N : Hid (∀ V, Hid (Go1 76 cap w D q bs (nx bs a) V) → Calls Try.prog 40 #[.pointer (some ⟨D, 0, none⟩)] V fun e B => e = .returned (.int .i64 (bt bs (nx bs a) : Int)) ∧ Hid (Go1 76 cap w D q bs (nx bs (nx bs a)) B)) := fun V g =>
        (byte9 g.out.1).mono fun e B ⟨he, k⟩ => ⟨he, g.out.trans k.out⟩
      have hb2 := bt_lt h.bys (nx bs a)
      clear e1 e2 h
      generalize bt bs (nx bs a) = z at *
      generalize bt bs a = y at *
      have e3 : ((((y - 200) * 256 + 200 + z : Nat)) : Int) = ((y : Int) - 200) * 256 + 200 + (z : Int) := by omega
      rw [e3]
      have z1 : ¬ (y : Int) < 200 := by omega
      have z2 : (y : Int) < 255 := by omega
      clear e3
      go_enter Try.func37, Try.ntmps37
      go_wp2_with fail
      go_step3
      go_wp2_with fail
      refine T.out.mono ?_
      rintro e w1 ⟨rfl, g⟩
      clear T
      go_wp2_with fail
      go_step3
      go_wp2_with fail
      go_loopw [4, 7] (fun n k wr => n = .int .i64 0 ∧ k = .int .i64 0 ∧ wr = w1) (fun _ _ _ => 1)
      case atStart => exact ⟨rfl, rfl, rfl⟩
      case round =>
        obtain ⟨rfl, rfl, rfl⟩ := hrel
        go_wp2_with fail
        refine (N.out _ g).mono ?_
        rintro e w2 ⟨rfl, g2⟩
        go_wp2
        rw [Exit.noGoto_ret]
        go_ret
        exact ⟨rfl, g2⟩
    · have e1 : iv bs a = IntKind.i64.wrap (nm bs (nx bs a) 8 : Nat) := by unfold iv; rw [if_neg h2, if_neg h5]
      have e2 : ia bs a = ad bs (nx bs a) 8 := by unfold ia; rw [if_neg h2, if_neg h5]
      rw [e1, e2]
      have N : Hid (∀ k V, Hid (Go1 76 cap w D q bs (ad bs (nx bs a) k) V) → ∃ y : Nat, y < 256 ∧ bits .or .i64 (IntKind.i64.wrap (IntKind.i64.wrap (nm bs (nx bs a) k : Nat) * 256)) (y : Int) = IntKind.i64.wrap (nm bs (nx bs a) (k + 1) : Nat) ∧
          Hid (Calls Try.prog 40 #[.pointer (some ⟨D, 0, none⟩)] V fun e B => e = .returned (.int .i64 (y : Int)) ∧ Hid (Go1 76 cap w D q bs (ad bs (nx bs a) (k + 1)) B))) := fun k V g =>
        ⟨bt bs (ad bs (nx bs a) k), bt_lt h.bys _, or_step _ _ (bt_lt h.bys _), (byte9 g.out.1).mono fun e B ⟨he, k⟩ => ⟨he, g.out.trans k.out⟩⟩
      obtain ⟨f, hf⟩ : ∃ f : Nat → Int, ∀ k, IntKind.i64.wrap (nm bs (nx bs a) k : Nat) = f k := ⟨_, fun _ => rfl⟩
      have f0 : f 0 = 0 := by rw [← hf]; rfl
      simp only [hf] at N ⊢
      have T' : Hid (Calls Try.prog 40 #[.pointer (some ⟨D, 0, none⟩)] w fun e B => e = .returned (.int .i64 (bt bs a : Int)) ∧ Hid (Go1 76 cap w D q bs (ad bs (nx bs a) 0) B)) := T.out
      clear e1 e2 h hf T
      generalize bt bs a = y at *
      have z1 : ¬ (y : Int) < 200 := by omega
      have z2 : ¬ (y : Int) < 255 := by omega
      have F0 := Lib.hid f0
      clear f0
      go_enter Try.func37, Try.ntmps37
      go_wp2_with fail
      go_step3
      go_wp2_with fail
      refine T'.out.mono ?_
      rintro e w1 ⟨rfl, g⟩
      clear T'
      go_wp2_with fail
      go_step3
      go_wp2_with fail
      go_loopw [4, 7] (fun n i wr => ∃ k : Nat, k ≤ 8 ∧ i = .int .i64 k ∧ n = .int .i64 (f k) ∧ Hid (Go1 76 cap w D q bs (ad bs (nx bs a) k) wr)) (fun _ i _ => 8 - (intOf i).toNat)
      case atStart => exact ⟨0, by omega, rfl, by rw [F0.out], g⟩
      case round =>
        obtain ⟨k, hk, rfl, rfl, gk⟩ := hrel
        clear g
        by_cases hlt8 : k < 8
        · obtain ⟨b, hb8, ho, K⟩ := N.out k _ gk
          clear N gk
          generalize hf1 : f (k + 1) = fk1 at *
          have HF := Lib.hid hf1
          clear hf1
          generalize f k = fk at *
          have hk8 : (k : Int) < 8 := by omega
          have ho' : bits .or .i64 (wrap64 (fk * 256)) (b : Int) = fk1 := by rw [← ho, w64]
          go_wp2_with fail
          refine K.out.mono ?_
          rintro e w2 ⟨rfl, g2⟩
          go_wp2
          go_roundw
          case rel => exact ⟨k + 1, by omega, by simp, by rw [HF.out], g2⟩
          case measure => simp [intOf]; omega
        · obtain rfl : k = 8 := by omega
          go_wp2
          rw [Exit.noGoto_ret]
          go_ret
          exact ⟨rfl, gk⟩
/-- the word of the document's number, step by step. -/
theorem wn_step (x b : Nat) : IntKind.u64.wrap (IntKind.u64.wrap (256 * (x : Int)) + (b : Int)) = ((256 * x + b : Nat) : Int) % 18446744073709551616 := by
  rw [IntKind.wrap_u64, IntKind.wrap_u64]
  omega
set_option maxRecDepth 100000 in
set_option maxHeartbeats 2000000 in
theorem int8 {w : World} {D cap : Nat} {q : Option Addr} {bs : List Nat} {a : Nat} (h : Tp 63 cap w D q bs a) :
    Calls Try.prog 41 #[.pointer (some ⟨D, 0, none⟩)] w fun e B => e = .returned (.int .i64 (iv bs a)) ∧ Hid (Go1 63 cap w D q bs (ia bs a) B) := by
  have T := Lib.hid (byte10 h)
  have hb := bt_lt h.bys a
  by_cases h2 : bt bs a < 200
  · have e1 : iv bs a = (bt bs a : Int) := by unfold iv; rw [if_pos h2]
    have e2 : ia bs a = nx bs a := by unfold ia; rw [if_pos h2]
    rw [e1, e2]
    clear e1 e2 h
    generalize bt bs a = y at *
    have z1 : (y : Int) < 200 := by omega
    go_enter Try.func41, Try.ntmps41
    go_wp2_with fail
    refine T.out.mono ?_
    rintro e w1 ⟨rfl, g⟩
    clear T
    go_wp2
    go_ret
    exact ⟨rfl, g⟩
  · by_cases h5 : bt bs a < 255
    · have e1 : iv bs a = (((bt bs a - 200) * 256 + 200 + bt bs (nx bs a) : Nat) : Int) := by unfold iv; rw [if_neg h2, if_pos h5]
      have e2 : ia bs a = nx bs (nx bs a) := by unfold ia; rw [if_neg h2, if_pos h5]
      rw [e1, e2]
      have N : Hid (∀ V, Hid (Go1 63 cap w D q bs (nx bs a) V) → Calls Try.prog 44 #[.pointer (some ⟨D, 0, none⟩)] V fun e B => e = .returned (.int .i64 (bt bs (nx bs a) : Int)) ∧ Hid (Go1 63 cap w D q bs (nx bs (nx bs a)) B)) := fun V g =>
        (byte10 g.out.1).mono fun e B ⟨he, k⟩ => ⟨he, g.out.trans k.out⟩
      have hb2 := bt_lt h.bys (nx bs a)
      clear e1 e2 h
      generalize bt bs (nx bs a) = z at *
      generalize bt bs a = y at *
      have e3 : ((((y - 200) * 256 + 200 + z : Nat)) : Int) = ((y : Int) - 200) * 256 + 200 + (z : Int) := by omega
      rw [e3]
      have z1 : ¬ (y : Int) < 200 := by omega
      have z2 : (y : Int) < 255 := by omega
      clear e3
      go_enter Try.func41, Try.ntmps41
      go_wp2_with fail
      refine T.out.mono ?_
      rintro e w1 ⟨rfl, g⟩
      clear T
      go_wp2_with fail
      refine (N.out _ g).mono ?_
      rintro e w2 ⟨rfl, g2⟩
      go_wp2
      go_ret
      exact ⟨rfl, g2⟩
    · have e1 : iv bs a = IntKind.i64.wrap (nm bs (nx bs a) 8 : Nat) := by unfold iv; rw [if_neg h2, if_neg h5]
      have e2 : ia bs a = ad bs (nx bs a) 8 := by unfold ia; rw [if_neg h2, if_neg h5]
      rw [e1, e2]
      have hn8 : ∀ k, k ≤ 8 → nm bs (nx bs a) k < 18446744073709551616 := fun k hk => Nat.lt_of_lt_of_le (nm_lt h.bys _ k) (Nat.pow_le_pow_right (by decide) hk)
      have N : Hid (∀ k V, k < 8 → Hid (Go1 63 cap w D q bs (ad bs (nx bs a) k) V) → ∃ y : Nat, y < 256 ∧ IntKind.u64.wrap (y : Int) = (y : Int) ∧ IntKind.u64.wrap (IntKind.u64.wrap (256 * ((nm bs (nx bs a) k : Nat) : Int)) + (y : Int)) = ((nm bs (nx bs a) (k + 1) : Nat) : Int) ∧
          Hid (Calls Try.prog 44 #[.pointer (some ⟨D, 0, none⟩)] V fun e B => e = .returned (.int .i64 (y : Int)) ∧ Hid (Go1 63 cap w D q bs (ad bs (nx bs a) (k + 1)) B))) := fun k V hk g => by
        have hy := bt_lt h.bys (ad bs (nx bs a) k)
        refine ⟨bt bs (ad bs (nx bs a) k), hy, by rw [IntKind.wrap_u64]; omega, ?_, (byte10 g.out.1).mono fun e B ⟨he, k⟩ => ⟨he, g.out.trans k.out⟩⟩
        have := hn8 (k + 1) (by omega)
        rw [wn_step]
        rw [nm_step] at *
        omega
      obtain ⟨f, hf⟩ : ∃ f : Nat → Nat, ∀ k, nm bs (nx bs a) k = f k := ⟨_, fun _ => rfl⟩
      have f0 : f 0 = 0 := by rw [← hf]; rfl
      simp only [hf] at N ⊢
      have T' : Hid (Calls Try.prog 44 #[.pointer (some ⟨D, 0, none⟩)] w fun e B => e = .returned (.int .i64 (bt bs a : Int)) ∧ Hid (Go1 63 cap w D q bs (ad bs (nx bs a) 0) B)) := T.out
      clear e1 e2 h hf T hn8
      generalize bt bs a = y at *
      have z1 : ¬ (y : Int) < 200 := by omega
      have z2 : ¬ (y : Int) < 255 := by omega
      have F0 := Lib.hid f0
      clear f0
      go_enter Try.func41, Try.ntmps41
      go_wp2_with fail
      refine T'.out.mono ?_
      rintro e w1 ⟨rfl, g⟩
      clear T'
      go_wp2_with fail
      go_loopw [4, 5] (fun n i wr => ∃ k : Nat, k ≤ 8 ∧ i = .int .i64 k ∧ n = .int .u64 (f k : Nat) ∧ Hid (Go1 63 cap w D q bs (ad bs (nx bs a) k) wr)) (fun _ i _ => 8 - (intOf i).toNat)
      case atStart => exact ⟨0, by omega, rfl, by rw [F0.out]; rfl, g⟩
      case round =>
        obtain ⟨k, hk, rfl, rfl, gk⟩ := hrel
        clear g
        by_cases hlt8 : k < 8
        · obtain ⟨b, hb8, hbw, ho, K⟩ := N.out k _ hlt8 gk
          clear N gk
          generalize hf1 : f (k + 1) = fk1 at *
          have HF := Lib.hid hf1
          clear hf1
          generalize f k = fk at *
          have hk8 : (k : Int) < 8 := by omega
          go_wp2_with fail
          refine K.out.mono ?_
          rintro e w2 ⟨rfl, g2⟩
          go_wp2
          go_roundw
          case rel => exact ⟨k + 1, by omega, by simp, by rw [HF.out], g2⟩
          case measure => simp [intOf]; omega
        · obtain rfl : k = 8 := by omega
          go_wp2
          go_ret
          exact ⟨by rw [w64]; rfl, gk⟩
/-- a byte's rest. -/
theorem bv_some (bs : List Nat) (a : Nat) (n : Int) (h : ¬ n < 1) : bv bs a n = (bt bs a : Int) % n ∧ ba bs a n = nx bs a := by
  unfold bv ba
  rw [if_neg h, if_neg h]
  exact ⟨rfl, rfl⟩
theorem bv_none (bs : List Nat) (a : Nat) (n : Int) (h : n < 1) : bv bs a n = 0 ∧ ba bs a n = a := by
  unfold bv ba
  rw [if_pos h, if_pos h]
  exact ⟨rfl, rfl⟩
set_option maxHeartbeats 1000000 in
theorem below11 {w : World} {D cap : Nat} {q : Option Addr} {bs : List Nat} {a : Nat} (h : Tp 76 cap w D q bs a) (n : Int) (hn : n < 9223372036854775808) :
    Calls Try.prog 36 #[.pointer (some ⟨D, 0, none⟩), .int .i64 n] w fun e B => e = .returned (.int .i64 (bv bs a n)) ∧ Hid (Go1 76 cap w D q bs (ba bs a n) B) := by
  by_cases h1 : n < 1
  · rw [(bv_none bs a n h1).1, (bv_none bs a n h1).2]
    have E : Hid (Go1 76 cap w D q bs a w) := Go1.still h (Below.refl _ _)
    clear h
    go_enter Try.func36, Try.ntmps36
    go_wp2
    go_ret
    exact ⟨rfl, E⟩
  · rw [(bv_some bs a n h1).1, (bv_some bs a n h1).2]
    have T := Lib.hid (byte9 h)
    have hb := bt_lt h.bys a
    clear h
    generalize bt bs a = y at *
    obtain ⟨m, rfl⟩ : ∃ m : Nat, n = (m : Int) := ⟨n.toNat, by omega⟩
    have hm : 0 < m ∧ m < 9223372036854775808 := by omega
    go_enter Try.func36, Try.ntmps36
    go_wp2_with fail
    refine T.out.mono ?_
    rintro e w3 ⟨rfl, E⟩
    clear T
    go_wp2
    go_ret
    exact ⟨rfl, E⟩
set_option maxHeartbeats 1000000 in
theorem below12 {w : World} {D cap : Nat} {q : Option Addr} {bs : List Nat} {a : Nat} (h : Tp 63 cap w D q bs a) (n : Int) (hn : n < 9223372036854775808) :
    Calls Try.prog 42 #[.pointer (some ⟨D, 0, none⟩), .int .i64 n] w fun e B => e = .returned (.int .i64 (bv bs a n)) ∧ Hid (Go1 63 cap w D q bs (ba bs a n) B) := by
  by_cases h1 : n < 1
  · rw [(bv_none bs a n h1).1, (bv_none bs a n h1).2]
    have E : Hid (Go1 63 cap w D q bs a w) := Go1.still h (Below.refl _ _)
    clear h
    go_enter Try.func42, Try.ntmps42
    go_wp2
    go_ret
    exact ⟨rfl, E⟩
  · rw [(bv_some bs a n h1).1, (bv_some bs a n h1).2]
    have T := Lib.hid (byte10 h)
    have hb := bt_lt h.bys a
    clear h
    generalize bt bs a = y at *
    obtain ⟨m, rfl⟩ : ∃ m : Nat, n = (m : Int) := ⟨n.toNat, by omega⟩
    have hm : 0 < m ∧ m < 9223372036854775808 := by omega
    go_enter Try.func42, Try.ntmps42
    go_wp2_with fail
    refine T.out.mono ?_
    rintro e w3 ⟨rfl, E⟩
    clear T
    go_wp2
    go_ret
    exact ⟨rfl, E⟩
end Go.Proofs.Ytfhcgildokdppaa.tp
