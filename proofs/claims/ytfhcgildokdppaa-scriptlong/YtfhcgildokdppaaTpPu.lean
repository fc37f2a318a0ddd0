/-
  appended and Put of package tape by their contracts: bytes, and behind them those of each number.
-/
import Derived.Test.YtfhcgildokdppaaTpTi
namespace Go.Proofs.Ytfhcgildokdppaa.tp
open Go.RowKit
/-- a row of one's own (its block at base or above), made so far; what lay below base stands. -/
def Made (base : Nat) (w : World) (v : Value) (ys : List Nat) (W : World) : Prop := W.ownsRow base 5 1 v ys.length (ys.map e8) ∧ Keep (fun k => k < base) w W ∧ base ≤ w.heap.size
theorem Made.trans {base : Nat} {w V W : World} {v v' : Value} {ys zs : List Nat} (h : Made base w v ys V) (k : Made base V v' zs W) : Made base w v' zs W := ⟨k.1, h.2.1.trans k.2.1, h.2.2⟩
theorem Made.size {base : Nat} {w W : World} {v : Value} {ys : List Nat} (h : Made base w v ys W) : base ≤ W.heap.size := Nat.le_trans h.2.2 h.2.1.size
theorem la_lit (w : World) (c : Array Value) (zs : List Nat) (h : c = (zs.map e8).toArray) : La e8 (w.alloc (.cells c 5)) (some ⟨w.heap.size, 0, none⟩) zs := fun _ => ⟨_, _, rfl, fun i hi => by
  rw [cell_of (heap_next rfl _), h]
  simp [hi]⟩
/-- bytes appended that stand in a literal. -/
theorem push_lit {base : Nat} {w W : World} {v : Value} {ys : List Nat} (h : Made base w v ys W) (zs : List Nat) (m : Nat) (hm : zs.length = m) (c : Array Value) (hc : c = (zs.map e8).toArray) (hl : ys.length + m ≤ 100000000000000) (ty : TypeId) :
    ∃ v' w', (Builtin.append_ #[35, 35] ty #[v, .slice (some ⟨W.heap.size, 0, none⟩) m m]).run Try.prog (W.alloc (.cells c 5)) = .ok v' w' ∧ ((∃ a c, v' = .slice a (ys.length + m) c) ∧ Hid (Made base w v' (ys ++ zs) w')) := by
  subst hm
  obtain ⟨v', w', hr, h1, h2⟩ := app_b (zs := zs) (a := some ⟨W.heap.size, 0, none⟩) (cap := zs.length) (h.1.alloc (.cells c 5)) (la_lit W c zs hc) (by simp) hl (by have := h.size; simp; omega) ty
  refine ⟨v', w', hr, own_slice h1, by rw [List.length_append]; exact h1, h.2.1.trans ((Keep.alloc _ _ _).trans (Keep.grown h2 fun j hj h' => ?_)), h.2.2⟩
  have := (World.ownsRow.lt h.1 j hj).1
  omega
theorem Made.sl {base : Nat} {w W : World} {v : Value} {ys : List Nat} (h : Made base w v ys W) : ∃ a c, v = .slice a ys.length c := own_slice h.1
/-- the byte of an int. -/
theorem u8_low (n : Int) : IntKind.u8.wrap n = ((n % 256).toNat : Int) := by
  rw [IntKind.wrap_u8']
  omega
set_option maxHeartbeats 2000000 in
theorem appended19 {base : Nat} {w W : World} {v : Value} {ys : List Nat} (h : Made base w v ys W) (n : Int) (hn : -9223372036854775808 ≤ n) (hn' : n < 9223372036854775808) (hl : ys.length ≤ 1000000) :
    Calls Try.prog 59 #[v, .int .i64 n] W fun e B => ∃ a c, e = .returned (.slice a (ys.length + (en n).length) c) ∧ Hid (Made base w (.slice a (ys.length + (en n).length) c) (ys ++ en n) B) := by
  obtain ⟨a, c, rfl⟩ := h.sl
  by_cases h1 : 0 ≤ n ∧ n < 200
  · have e : en n = [n.toNat] := by unfold en; rw [if_pos h1]
    rw [e]
    obtain ⟨m, rfl⟩ : ∃ m : Nat, n = (m : Int) := ⟨n.toNat, by omega⟩
    rw [Int.toNat_natCast]
    have P := Lib.hid (push_lit h [m] 1 rfl #[.int .u8 (m : Int)] rfl (by omega))
    have z1 : (m : Int) < 200 := h1.2
    have z0 : (0 : Int) ≤ (m : Int) := by omega
    have z2 : IntKind.u8.wrap (m : Int) = (m : Int) := by rw [IntKind.wrap_u8']; omega
    have hm : m < 200 := by omega
    clear h e hn hn' h1
    show Calls _ _ _ _ fun e B => ∃ a c, e = .returned (.slice a (ys.length + 1) c) ∧ Hid (Made base w (.slice a (ys.length + 1) c) (ys ++ [m]) B)
    generalize ys.length = k at *
    go_enter Try.func59, Try.ntmps59
    go_wp2_with (at_builtin; refine app_step _ rfl _ _ 35 rfl _ _ rfl rfl (P.out _) ?_; rintro v2 w2 ⟨⟨a2, c2, rfl⟩, q2⟩)
    go_ret
    exact ⟨_, _, rfl, q2⟩
  · by_cases h2 : 200 ≤ n ∧ n < 14280
    · have e : en n = [200 + (n.toNat - 200) / 256, (n.toNat - 200) % 256] := by unfold en; rw [if_neg h1, if_pos h2]
      rw [e]
      obtain ⟨d, rfl⟩ : ∃ d : Nat, n = (d : Int) + 200 := ⟨(n - 200).toNat, by omega⟩
      rw [show ((d : Int) + 200).toNat - 200 = d by omega]
      obtain ⟨x, hx⟩ : ∃ x, d / 256 = x := ⟨_, rfl⟩
      obtain ⟨y, hy⟩ : ∃ y, d % 256 = y := ⟨_, rfl⟩
      have hd : d < 14080 := by omega
      have z4 : (d : Int) / 256 = (x : Int) := by omega
      have z5 : (d : Int) % 256 = (y : Int) := by omega
      rw [hx, hy]
      have P := Lib.hid (push_lit h [200 + x, y] 2 rfl #[.int .u8 (200 + (x : Int)), .int .u8 (y : Int)] (by simp [e8]) (by omega))
      have z1 : (200 : Int) ≤ (d : Int) + 200 := by omega
      have z2 : (d : Int) + 200 < 14280 := by omega
      have z3 : (d : Int) + 200 - 200 = (d : Int) := by omega
      have z6 : IntKind.u8.wrap (200 + (x : Int)) = 200 + (x : Int) := by rw [IntKind.wrap_u8']; omega
      have z7 : IntKind.u8.wrap (y : Int) = (y : Int) := by rw [IntKind.wrap_u8']; omega
      have z8 : ¬ (d : Int) + 200 < 200 := by omega
      have z9 : (0 : Int) ≤ (d : Int) + 200 := by omega
      have hxl : x ≤ 55 := by omega
      have hyl : y < 256 := by omega
      clear h e hn hn' h1 h2 hx hy
      show Calls _ _ _ _ fun e B => ∃ a c, e = .returned (.slice a (ys.length + 2) c) ∧ Hid (Made base w (.slice a (ys.length + 2) c) (ys ++ [200 + x, y]) B)
      generalize ys.length = k at *
      go_enter Try.func59, Try.ntmps59
      go_wp2_with (at_builtin; refine app_step _ rfl _ _ 35 rfl _ _ rfl rfl (P.out _) ?_; rintro v2 w2 ⟨⟨a2, c2, rfl⟩, q2⟩)
      go_ret
      exact ⟨_, _, rfl, q2⟩
    · have e : en n = 255 :: be8 (wd n) := by unfold en; rw [if_neg h1, if_neg h2]
      have e9 : (en n).length = 9 := by rw [e]; simp [be8_len]
      rw [e9, e]
      have P := Lib.hid (push_lit h [255] 1 rfl #[.int .u8 255] rfl (by omega))
      have R : Hid (∀ (p : Nat) (v : Value) (W : World), p < 8 → Hid (Made base w v (ys ++ 255 :: (be8 (wd n)).take (7 - p)) W) → ∃ y : Nat, y < 256 ∧ IntKind.u8.wrap (n / 2 ^ (8 * p)) = (y : Int) ∧
          Hid (∀ ty, ∃ v' w', (Builtin.append_ #[35, 35] ty #[v, .slice (some ⟨W.heap.size, 0, none⟩) 1 1]).run Try.prog (W.alloc (.cells #[.int .u8 (y : Int)] 5)) = .ok v' w' ∧ ((∃ a c, v' = .slice a (ys.length + 1 + (8 - p)) c) ∧ Hid (Made base w v' (ys ++ 255 :: (be8 (wd n)).take (8 - p)) w')))) := fun p v W hj hM => by
        have hb := wd_byte n p (by omega)
        refine ⟨wd n / 256 ^ p % 256, Nat.mod_lt _ (by decide), ?_, fun ty => ?_⟩
        · rw [← hb, IntKind.wrap_u8']
          rw [show (256 : Nat) ^ p = 2 ^ (8 * p) from by rw [Nat.pow_mul], Int.natCast_pow]
          rfl
        · have hlen : (ys ++ 255 :: (be8 (wd n)).take (7 - p)).length = ys.length + 1 + (7 - p) := by simp [be8_len]; omega
          obtain ⟨v', w', hr, ⟨a, c, hv⟩, hM'⟩ := push_lit hM.out [wd n / 256 ^ p % 256] 1 rfl #[.int .u8 ((wd n / 256 ^ p % 256 : Nat) : Int)] rfl (by rw [hlen]; omega) ty
          refine ⟨v', w', hr, ⟨a, c, by rw [hv, hlen, show ys.length + 1 + (7 - p) + 1 = ys.length + 1 + (8 - p) by omega]⟩, ?_⟩
          have hk := be8_take (wd n) (7 - p) (by omega)
          rw [show 7 - (7 - p) = p by omega, show 7 - p + 1 = 8 - p by omega] at hk
          rw [List.append_assoc, List.cons_append, hk] at hM'
          exact hM'
      have P' : Hid (∀ ty, ∃ v' w', (Builtin.append_ #[35, 35] ty #[.slice a ys.length c, .slice (some ⟨W.heap.size, 0, none⟩) 1 1]).run Try.prog (W.alloc (.cells #[.int .u8 255] 5)) = .ok v' w' ∧ ((∃ a c, v' = .slice a (ys.length + 1 + 0) c) ∧ Hid (Made base w v' (ys ++ 255 :: (be8 (wd n)).take 0) w'))) := P.out
      have E : Hid (∀ v W, Hid (Made base w v (ys ++ 255 :: (be8 (wd n)).take 8) W) → Hid (Made base w v (ys ++ 255 :: be8 (wd n)) W)) := fun v W h => by
        rw [List.take_of_length_le (by rw [be8_len]; omega)] at h
        exact h
      have z1 : decide (0 ≤ n) = true ∧ decide (n < 200) = false ∨ decide (0 ≤ n) = false := by
        by_cases h0 : 0 ≤ n
        · exact .inl ⟨by simpa using h0, by simpa using fun h => h1 ⟨h0, h⟩⟩
        · exact .inr (by simpa using h0)
      have z2 : decide (200 ≤ n) = true ∧ decide (n < 14280) = false ∨ decide (200 ≤ n) = false := by
        by_cases h0 : 200 ≤ n
        · exact .inl ⟨by simpa using h0, by simpa using fun h => h2 ⟨h0, h⟩⟩
        · exact .inr (by simpa using h0)
      clear h e h1 h2 e9 P
      generalize ys.length = k at *
      show Calls _ _ _ _ fun e B => ∃ a c, e = .returned (.slice a (k + 9) c) ∧ Hid (Made base w (.slice a (k + 9) c) (ys ++ 255 :: be8 (wd n)) B)
      go_enter Try.func59, Try.ntmps59
      rcases z1 with ⟨y1, y2⟩ | y1 <;> rcases z2 with ⟨y3, y4⟩ | y3
      all_goals (
        go_wp2_with (at_builtin; refine app_step _ rfl _ _ 35 rfl _ _ rfl rfl (P'.out _) ?_; rintro v2 w2 ⟨⟨a2, c2, rfl⟩, q2⟩)
        go_loopw [0, 5] (fun b i wr => ∃ (q : Nat) (z : Int), q ≤ 8 ∧ i = .int .i64 z ∧ z + 1 = (q : Int) ∧ (∃ a c, b = .slice a (k + 1 + (8 - q)) c) ∧ Hid (Made base w b (ys ++ 255 :: (be8 (wd n)).take (8 - q)) wr)) (fun _ i _ => (intOf i + 1).toNat)
        case' atStart => exact ⟨8, 7, by omega, rfl, rfl, ⟨_, _, rfl⟩, q2⟩
        case' round =>
          obtain ⟨q, z, hq, rfl, hz, ⟨a3, c3, rfl⟩, hM⟩ := hrel
          clear q2 P')
      all_goals (
        by_cases h0 : q = 0
        · subst h0
          obtain rfl : z = -1 := by omega
          have F := Lib.hid (E.out _ _ hM)
          clear hM E R
          go_wp2
          go_ret
          exact ⟨_, _, rfl, F.out⟩
        · obtain ⟨p, rfl⟩ : ∃ p, q = p + 1 := ⟨q - 1, by omega⟩
          obtain rfl : z = (p : Int) := by omega
          rw [show 8 - (p + 1) = 7 - p by omega] at hM ⊢
          obtain ⟨y, hy, hs, A⟩ := R.out p _ _ (by omega) hM
          clear R hM E hz
          have hp8 : (p : Int) < 8 := by omega
          have s1 : (0 : Int) ≤ 8 * (p : Int) := by omega
          have s2 : 8 * (p : Int) ≤ 64 := by omega
          have s3 : (8 * (p : Int)).toNat = 8 * p := by omega
          have s4 : min (8 * p) IntKind.i64.bits = 8 * p := by show min (8 * p) 64 = 8 * p; omega
          have s5 : n.fdiv (2 ^ (8 * p)) = n / 2 ^ (8 * p) := Int.fdiv_eq_ediv_of_nonneg _ (Int.pow_nonneg (by decide))
          go_wp2_with (at_builtin; refine app_step _ rfl _ _ 35 rfl _ _ rfl rfl (A.out _) ?_; rintro v4 w4 ⟨⟨a4, c4, rfl⟩, q4⟩)
          go_roundw
          case rel => exact ⟨p, _, by omega, rfl, by omega, ⟨_, _, rfl⟩, q4⟩
          case measure => simp [intOf])
theorem Cl.made {w B : World} {v : Value} {bs : List Nat} (h : Cl w v bs B) : Made w.heap.size w v bs B := ⟨h.1, Keep.of_below h.2, Nat.le_refl _⟩
theorem Made.cl {w B : World} {v : Value} {bs : List Nat} (h : Made w.heap.size w v bs B) : Cl w v bs B := ⟨h.1, h.2.1.below (fun _ h => h) (Nat.le_refl _)⟩
set_option maxHeartbeats 1000000 in
theorem put16 (a : Option Addr) (cap : Nat) (bs : List Nat) (p : Option Addr) (cap' : Nat) (ls : List Int) (w : World) (hn : a = none → bs = [] ∧ cap = 0) (hb : bs.length ≤ 100000) (hr : La e8 w a bs) (hl : ls.length ≤ 90000) (hp : La eI w p ls) (hx : ∀ x ∈ ls, -9223372036854775808 ≤ x ∧ x < 9223372036854775808) :
    Calls Try.prog 45 #[.slice a bs.length cap, .slice p ls.length cap'] w fun e B => ∃ v k c, e = .returned (.slice v k c) ∧ k = (bs ++ ens ls).length ∧ Hid (Cl w (.slice v k c) (bs ++ ens ls) B) := by
  have T := Lib.hid (clone18 a bs cap w hn (by omega) hr)
  have S : Hid (∀ v c B, Hid (Cl w (.slice v bs.length c) bs B) → Hid (Made w.heap.size w (.slice v bs.length c) (bs ++ ens (ls.take 0)) B)) := fun v c B h => by
    rw [List.take_zero, show ens [] = [] from rfl, List.append_nil]
    exact h.out.made
  have N : Hid (∀ j v W, j < ls.length → Hid (Made w.heap.size w v (bs ++ ens (ls.take j)) W) → ∃ (b o : Nat) (x : Int), p = some ⟨b, o, none⟩ ∧ W.cell? ⟨b, o + j, none⟩ = some (.int .i64 x) ∧ Hid (Calls Try.prog 59 #[v, .int .i64 x] W fun e B => ∃ a k c, e = .returned (.slice a k c) ∧ Hid (Made w.heap.size w (.slice a k c) (bs ++ ens (ls.take (j + 1))) B))) := fun j v W hj h => by
    obtain ⟨b, o, hp', hc⟩ := now hp j hj
    have hr := hx _ (List.getElem_mem hj)
    have hlen := ens_len (ls.take j)
    rw [List.length_take] at hlen
    refine ⟨b, o, ls[j], hp', hc.out W h.out.cl.2, (appended19 h.out ls[j] hr.1 hr.2 (by rw [List.length_append]; omega)).mono fun e B ⟨a, c, he, k⟩ => ⟨a, _, c, he, ?_⟩⟩
    rw [List.append_assoc, ens_take ls j hj] at k
    exact k
  have D : Hid (∀ v k c W, Hid (Made w.heap.size w (.slice v k c) (bs ++ ens (ls.take ls.length)) W) → k = (bs ++ ens ls).length ∧ Hid (Cl w (.slice v k c) (bs ++ ens ls) W)) := fun v k c W h => by
    rw [List.take_length] at h
    obtain ⟨_, _, e⟩ := h.out.sl
    injection e with _ e _
    exact ⟨e, h.out.cl⟩
  clear hr hp hx hn
  generalize ls.length = L at *
  generalize bs.length = n at *
  go_enter Try.func45, Try.ntmps45
  go_wp2_with fail
  refine T.out.mono ?_
  rintro e w1 ⟨v, c, rfl, K⟩
  have K0 := S.out _ _ _ K
  clear T S K
  go_wp2_with fail
  go_loopw [5, 12] (fun b i wr => ∃ j : Nat, j ≤ L ∧ i = .int .i64 j ∧ (∃ a k c, b = .slice a k c) ∧ Hid (Made w.heap.size w b (bs ++ ens (ls.take j)) wr)) (fun _ i _ => L - (intOf i).toNat)
  case atStart => exact ⟨0, by omega, rfl, ⟨_, _, _, rfl⟩, K0⟩
  case round =>
    obtain ⟨j, hj, rfl, ⟨a2, k2, c2, rfl⟩, hM⟩ := hrel
    clear K0
    by_cases hlt : j < L
    · obtain ⟨b, o, x, rfl, hc, A⟩ := N.out j _ _ hlt hM
      have h1 : (j : Int) < (L : Int) := by omega
      clear N D hM
      go_wp2_with fail
      refine A.out.mono ?_
      rintro e w3 ⟨a3, k3, c3, rfl, K3⟩
      go_wp2
      go_roundw
      case rel => exact ⟨j + 1, by omega, by simp, ⟨_, _, _, rfl⟩, K3⟩
      case measure => simp [intOf]; omega
    · obtain rfl : j = L := by omega
      have F := D.out _ _ _ _ hM
      clear D N hM
      go_wp2
      go_ret
      exact ⟨_, _, _, rfl, F.1, F.2⟩
end Go.Proofs.Ytfhcgildokdppaa.tp
