/-
  What package xx does of the bytes that are left behind whole blocks (addRest), by its contract.
-/
import Derived.Test.YtmjcdondogpceaaDoorXxSteps
namespace Go.Proofs.YtmjcdondogpceaaDoor.xx
open Go.ChangeShapes Go.WideShapes Go.ChangeAt Go.RowKit
def lenOf : Value → Nat
  | .slice _ n _ => n
  | _ => 0
theorem Row.drop {w : World} {b off n k : Nat} {l : List Nat} (h : Row w (some ⟨b, off, none⟩) n l) (hk : k ≤ n) : Row w (some ⟨b, off + k, none⟩) (n - k) (l.drop k) := by
  refine ⟨by rw [List.length_drop, h.1], fun _ => ⟨b, off + k, rfl, fun i hi => ?_⟩⟩
  obtain ⟨b', off', e, hc⟩ := h.2 (by omega)
  injection e with e
  injection e with e1 e2
  subst e1 e2
  have := hc (k + i) (by omega)
  rw [← Nat.add_assoc] at this
  rw [this]
  simp [List.getD, List.getElem?_drop]
theorem Row.take {w : World} {a : Option Addr} {n k : Nat} {l : List Nat} (h : Row w a n l) (hk : k ≤ n) : Row w a k (l.take k) := by
  refine ⟨by rw [List.length_take, h.1]; omega, fun hp => ?_⟩
  obtain ⟨b, off, e, hc⟩ := h.2 (by omega)
  exact ⟨b, off, e, fun i hi => by rw [hc i (by omega)]; simp [List.getD, hi]⟩
theorem Row.none_ (w : World) (a : Option Addr) : Row w a 0 [] := ⟨rfl, fun h => absurd h (by omega)⟩
theorem mul_add_expr (t c d : Nat) : IntKind.u64.wrap (IntKind.u64.wrap ((t : Int) * c) + d) = (((t * c % M + d) % M : Nat) : Int) := by
  rw [mul_expr, add_expr]
/-- eight bytes: what is reckoned. -/
theorem s8_expr (h x : Nat) (hh : h < 18446744073709551616) : ∃ y t : Nat, bits BinOp.xor IntKind.u64 (h : Int) ((rnd 0 x : Nat) : Int) = (y : Int) ∧ y < 18446744073709551616 ∧ turnN y 27 = t ∧
    IntKind.u64.wrap (IntKind.u64.wrap ((t : Int) * 11400714785074694791) + 9650029242287828579) = ((s8 h x : Nat) : Int) :=
  ⟨h ^^^ rnd 0 x, turnN (h ^^^ rnd 0 x) 27, xor_expr _ _ hh (rnd_lt _ _), xor_lt _ _ hh (rnd_lt _ _), rfl, by rw [s8_eq]; exact mul_add_expr _ 11400714785074694791 9650029242287828579⟩
theorem s4_expr (h x : Nat) (hh : h < 18446744073709551616) : ∃ z y t : Nat, IntKind.u64.wrap ((x : Int) * 11400714785074694791) = (z : Int) ∧ bits BinOp.xor IntKind.u64 (h : Int) (z : Int) = (y : Int) ∧ y < 18446744073709551616 ∧ turnN y 23 = t ∧
    IntKind.u64.wrap (IntKind.u64.wrap ((t : Int) * 14029467366897019727) + 1609587929392839161) = ((s4 h x : Nat) : Int) :=
  ⟨x * 11400714785074694791 % M, h ^^^ (x * 11400714785074694791 % M), turnN (h ^^^ (x * 11400714785074694791 % M)) 23, mul_expr x 11400714785074694791, xor_expr _ _ hh (Nat.mod_lt _ (by decide)), xor_lt _ _ hh (Nat.mod_lt _ (by decide)), rfl,
    by rw [s4_eq]; exact mul_add_expr _ 14029467366897019727 1609587929392839161⟩
theorem s1_expr (h x : Nat) (hh : h < 18446744073709551616) : ∃ z y t : Nat, IntKind.u64.wrap ((x : Int) * 2870177450012600261) = (z : Int) ∧ bits BinOp.xor IntKind.u64 (h : Int) (z : Int) = (y : Int) ∧ y < 18446744073709551616 ∧ turnN y 11 = t ∧
    IntKind.u64.wrap ((t : Int) * 11400714785074694791) = ((s1 h x : Nat) : Int) :=
  ⟨x * 2870177450012600261 % M, h ^^^ (x * 2870177450012600261 % M), turnN (h ^^^ (x * 2870177450012600261 % M)) 11, mul_expr x 2870177450012600261, xor_expr _ _ hh (Nat.mod_lt _ (by decide)), xor_lt _ _ hh (Nat.mod_lt _ (by decide)), rfl,
    by rw [s1_eq]; exact mul_expr _ 11400714785074694791⟩
theorem turn_27 (y t : Nat) (hy : y < 18446744073709551616) (ht : turnN y 27 = t) (w : World) : Calls Tryd.prog 54 #[.int .u64 y, .int .i64 27] w fun e w' => e = .returned (.int .u64 (t : Nat)) ∧ w = w' := by rw [← ht]; exact turn_any y 27 hy w
theorem turn_23 (y t : Nat) (hy : y < 18446744073709551616) (ht : turnN y 23 = t) (w : World) : Calls Tryd.prog 54 #[.int .u64 y, .int .i64 23] w fun e w' => e = .returned (.int .u64 (t : Nat)) ∧ w = w' := by rw [← ht]; exact turn_any y 23 hy w
theorem turn_11 (y t : Nat) (hy : y < 18446744073709551616) (ht : turnN y 11 = t) (w : World) : Calls Tryd.prog 54 #[.int .u64 y, .int .i64 11] w fun e w' => e = .returned (.int .u64 (t : Nat)) ∧ w = w' := by rw [← ht]; exact turn_any y 11 hy w
set_option maxHeartbeats 800000 in
theorem addRest_any (h : Nat) (a : Option Addr) (n cap : Nat) (l : List Nat) (w : World) (hh : h < 18446744073709551616) (hr : Row w a n l) (hl : bytes l) (hn : n ≤ 31) (hcap : n < cap) (hcap2 : cap ≤ 32) :
    Calls Tryd.prog 47 #[.int .u64 h, .slice a n cap] w fun e w' => e = .returned (.int .u64 (rest h l : Nat)) ∧ w = w' := by
  have HR := Lib.hid hr
  have HL := Lib.hid hl
  clear hr hl
  go_enter Tryd.func47, Tryd.ntmps47
  go_wp2
  go_loop [0, 1] (fun x v => ∃ (g : Nat) (a' : Option Addr) (m cap' : Nat) (c : List Nat), x = .int .u64 g ∧ g < 18446744073709551616 ∧ v = .slice a' m cap' ∧ m ≤ 31 ∧ m < cap' ∧ cap' ≤ 32 ∧ Row w a' m c ∧ bytes c ∧ rest g c = rest h l) (fun _ v => lenOf v)
  case atStart => exact ⟨h, a, n, cap, l, rfl, hh, rfl, hn, hcap, hcap2, HR.out, HL.out, rfl⟩
  case round =>
    obtain ⟨g, a', m, cap', c, rfl, hg, rfl, hm, hmc, hc32, hrow, hby, hrest⟩ := hrel
    have HW := Lib.hid hrow
    have HB := Lib.hid hby
    have HE := Lib.hid hrest
    clear hrow hby hrest HR HL hh
    by_cases h8 : 8 ≤ m
    · obtain ⟨b, off, rfl, _⟩ := HW.out.2 (by omega)
      have hne : ¬ cap' = 8 := by omega
      obtain ⟨y, t, x1, x2, x3, x4⟩ := s8_expr g (num (c.take 8)) hg
      have X3 := Lib.hid x3
      clear x3
      go_wp2_with fail
      refine (number_any _ _ _ (c.take 8) _ (HW.out.take h8) (by omega) (bytes_take HB.out 8)).mono ?_
      rintro e w1 ⟨rfl, rfl⟩
      generalize hx : num (c.take 8) = x at *
      have HX := Lib.hid hx
      clear hx
      go_wp2_with fail
      refine (round_any _ _ _).mono ?_
      rintro e w1 ⟨rfl, rfl⟩
      go_wp2_with fail
      refine (turn_27 _ _ x2 X3.out _).mono ?_
      rintro e w1 ⟨rfl, rfl⟩
      go_wp2
      go_round
      case rel => exact ⟨s8 g x, some ⟨b, off + 8, none⟩, m - 8, cap' - 8, c.drop 8, rfl, s8_lt _ _, by go_num, by omega, by omega, by omega, HW.out.drop h8, bytes_drop HB.out 8, by rw [← HX.out, ← rest_big g c (by have := HW.out.1; omega)]; exact HE.out⟩
      case measure => simp [lenOf]; omega
    · have hs := rest_small g c (by have := HW.out.1; omega)
      rw [HE.out] at hs
      have HS := Lib.hid hs
      clear hs
      by_cases h4 : 4 ≤ m
      · obtain ⟨b, off, rfl, _⟩ := HW.out.2 (by omega)
        have hne : ¬ cap' = 4 := by omega
        obtain ⟨z, y, t, x0, x1, x2, x3, x4⟩ := s4_expr g (num (c.take 4)) hg
        have hf : few g c = tl (s4 g (num (c.take 4))) (c.drop 4) := by unfold few; rw [if_neg (by have := HW.out.1; omega)]
        rw [hf] at HS
        have X3 := Lib.hid x3
        clear x3 hf
        go_wp2_with fail
        refine (number_any _ _ _ (c.take 4) _ (HW.out.take h4) (by omega) (bytes_take HB.out 4)).mono ?_
        rintro e w1 ⟨rfl, rfl⟩
        generalize hx : num (c.take 4) = x at *
        have HX := Lib.hid hx
        clear hx
        go_wp2_with fail
        refine (turn_23 _ _ x2 X3.out _).mono ?_
        rintro e w1 ⟨rfl, rfl⟩
        go_wp2
        have hlt := s4_lt g x
        have HW2 := Lib.hid (HW.out.drop h4)
        have HB2 := Lib.hid (bytes_drop HB.out 4)
        clear HW HB HE HX X3 x0 x1 x2 x4
        generalize c.drop 4 = c at *
        generalize s4 g x = g at *
        go_loop [0, 37] (fun x i => ∃ q k : Nat, k ≤ m - 4 ∧ i = .int .i64 k ∧ x = .int .u64 q ∧ q < 18446744073709551616 ∧ tl q (c.drop k) = rest h l) (fun _ i => (m - 4) - (intOf i).toNat)
        case atStart => exact ⟨g, 0, by omega, rfl, rfl, hlt, HS.out.symm⟩
        case round =>
          obtain ⟨q, k, hk, rfl, rfl, hq, ht⟩ := hrel
          have HT := Lib.hid ht
          clear ht
          by_cases hkm : k < m - 4
          · obtain ⟨b', off', e, hc⟩ := HW2.out.2 (by omega)
            injection e with e
            injection e with e1 e2
            subst e1 e2
            have hcell := hc k hkm
            clear hc
            obtain ⟨z, y, t, x0, x1, x2, x3, x4⟩ := s1_expr q (c.getD k 0) hq
            have hs := tl_step q c k (by have := HW2.out.1; omega)
            have HS2 := Lib.hid hs
            have X3 := Lib.hid x3
            clear x3 hs
            have hb := bytes_get HB2.out k
            generalize c.getD k 0 = v at *
            go_wp2_with fail
            refine (turn_11 _ _ x2 X3.out _).mono ?_
            rintro e w1 ⟨rfl, rfl⟩
            go_wp2
            go_round
            case rel => exact ⟨s1 q v, k + 1, by omega, by go_num, rfl, s1_lt _ _, by rw [← HS2.out]; exact HT.out⟩
            case measure => simp [intOf]; omega
          · have hd : c.drop k = [] := List.drop_eq_nil_of_le (by have := HW2.out.1; omega)
            have E : Hid (q = rest h l) := by
              have := HT.out
              rw [hd, tl_nil] at this
              exact this
            clear hd HT
            go_wp2
            go_ret
            exact ⟨ret_nat E.out, rfl⟩
      · have hf : few g c = tl g c := by unfold few; rw [if_pos (by have := HW.out.1; omega)]
        rw [hf] at HS
        clear hf
        go_wp2
        go_loop [0, 37] (fun x i => ∃ q k : Nat, k ≤ m ∧ i = .int .i64 k ∧ x = .int .u64 q ∧ q < 18446744073709551616 ∧ tl q (c.drop k) = rest h l) (fun _ i => m - (intOf i).toNat)
        case atStart => exact ⟨g, 0, by omega, rfl, rfl, hg, HS.out.symm⟩
        case round =>
          obtain ⟨q, k, hk, rfl, rfl, hq, ht⟩ := hrel
          have HT := Lib.hid ht
          clear ht
          by_cases hkm : k < m
          · obtain ⟨b, off, rfl, hc⟩ := HW.out.2 (by omega)
            have hcell := hc k hkm
            clear hc
            obtain ⟨z, y, t, x0, x1, x2, x3, x4⟩ := s1_expr q (c.getD k 0) hq
            have hs := tl_step q c k (by have := HW.out.1; omega)
            have HS2 := Lib.hid hs
            have X3 := Lib.hid x3
            clear x3 hs
            have hb := bytes_get HB.out k
            generalize c.getD k 0 = v at *
            go_wp2_with fail
            refine (turn_11 _ _ x2 X3.out _).mono ?_
            rintro e w1 ⟨rfl, rfl⟩
            go_wp2
            go_round
            case rel => exact ⟨s1 q v, k + 1, by omega, by go_num, rfl, s1_lt _ _, by rw [← HS2.out]; exact HT.out⟩
            case measure => simp [intOf]; omega
          · have hd : c.drop k = [] := List.drop_eq_nil_of_le (by have := HW.out.1; omega)
            have E : Hid (q = rest h l) := by
              have := HT.out
              rw [hd, tl_nil] at this
              exact this
            clear hd HT
            go_wp2
            go_ret
            exact ⟨ret_nat E.out, rfl⟩
end Go.Proofs.YtmjcdondogpceaaDoor.xx
