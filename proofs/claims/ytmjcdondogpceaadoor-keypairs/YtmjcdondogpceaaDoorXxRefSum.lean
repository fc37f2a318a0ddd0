/-
  The digest of the reference, by its contract: what it returns for any bytes and any seed; what was there stays as it was.
-/
import Derived.Test.YtmjcdondogpceaaDoorXxRefSums
import Derived.Deep.RegionHeld3
namespace Go.Proofs.YtmjcdondogpceaaDoor.xx
open Go.ChangeShapes Go.WideShapes Go.ChangeAt Go.RowKit
theorem refturn_by (k : Nat) (hk : k < 64) (y t : Nat) (hy : y < 18446744073709551616) (ht : turnN y k = t) (w : World) : Calls Tryd.prog 37 #[.int .u64 y, .int .i64 k] w fun e w' => e = .returned (.int .u64 (t : Nat)) ∧ Below w.heap.size w w' := by
  rw [← ht, show turnN y k = turnN y ((k : Int) % 64).toNat from by congr 1; omega]; exact refturn_any y k hy (by omega) (by omega) w
/-- the cells of the four sums, and all else of W, stand in w. -/
def Kept (W : World) (g : Nat) (s : Nat → Nat) (w : World) : Prop :=
  w.cell? ⟨g, 0, none⟩ = some (.int .u64 (s 0 : Nat)) ∧ w.cell? ⟨g, 1, none⟩ = some (.int .u64 (s 1 : Nat)) ∧ w.cell? ⟨g, 2, none⟩ = some (.int .u64 (s 2 : Nat)) ∧ w.cell? ⟨g, 3, none⟩ = some (.int .u64 (s 3 : Nat)) ∧ Below W.heap.size W w
theorem kept_of {W : World} {g : Nat} {s : Nat → Nat} {w : World} (h : Four W g s) (hb : Below W.heap.size W w) : Kept W g s w :=
  ⟨(hb.cell (p := ⟨g, 0, none⟩) h.lt).trans (h.cell 0 (by decide)), (hb.cell (p := ⟨g, 1, none⟩) h.lt).trans (h.cell 1 (by decide)), (hb.cell (p := ⟨g, 2, none⟩) h.lt).trans (h.cell 2 (by decide)), (hb.cell (p := ⟨g, 3, none⟩) h.lt).trans (h.cell 3 (by decide)), hb⟩
theorem turn_keep {W : World} {g : Nat} {s : Nat → Nat} (h : Four W g s) (k : Nat) (hk : k < 64) (y t : Nat) (hy : y < 18446744073709551616) (ht : turnN y k = t) (w : World) (hw : Below W.heap.size W w) :
    Calls Tryd.prog 37 #[.int .u64 y, .int .i64 k] w fun e w' => e = .returned (.int .u64 (t : Nat)) ∧ Kept W g s w' :=
  (refturn_by k hk y t hy ht w).mono fun _ _ ⟨he, hb⟩ => ⟨he, kept_of h (bnext hw hb)⟩
theorem fin_expr (h : Nat) : ∃ x y : Nat, IntKind.u64.wrap (((foZ h 33 : Nat) : Int) * 14029467366897019727) = (x : Int) ∧ IntKind.u64.wrap (((foZ x 29 : Nat) : Int) * 1609587929392839161) = (y : Int) ∧ foZ y 32 = fin h ∧ x < 18446744073709551616 ∧ y < 18446744073709551616 :=
  ⟨fo 33 h * 14029467366897019727 % M, fo 29 (fo 33 h * 14029467366897019727 % M) * 1609587929392839161 % M, fold_mul h 33 14029467366897019727 (by decide), fold_mul (fo 33 h * 14029467366897019727 % M) 29 1609587929392839161 (by decide),
    by rw [fin_eq]; exact foZ_fo _ 32 (by decide), Nat.mod_lt _ (by decide), Nat.mod_lt _ (by decide)⟩
theorem refnumber4_is {w : World} {b off n cap q m x : Nat} {l : List Nat} (h : Row w (some ⟨b, off, none⟩) n l) (hl : bytes l) (hq : q + 4 ≤ n) (hm : m = 4) (hx : num ((l.drop q).take 4) = x) :
    Calls Tryd.prog 39 #[.slice (some ⟨b, off + q, none⟩) m cap] w fun e w' => e = .returned (.int .u64 (x : Nat)) ∧ w = w' := by
  rw [← hx, hm]
  exact refnumber_any _ _ _ _ _ ((h.drop (k := q) (by omega)).take (by omega)) (by omega) (bytes_take (bytes_drop hl _) _)
theorem xx_none (seed z : Nat) (hs : start seed [] = z) (hz : z < M) : xx [] seed = fin z := by
  rw [xx_eq, hs, left_small _ (by decide), rest_small _ _ (by decide), few, if_pos (by decide), tl_nil]
  rw [show (z + ([] : List Nat).length) % M = z from Nat.mod_eq_of_lt hz]
theorem xx_nil (seed : Nat) : ∃ z : Nat, z = (seed + 2870177450012600261) % M ∧ xx [] seed = fin z ∧ z < 18446744073709551616 :=
  ⟨_, rfl, xx_none seed _ (by unfold start; rw [if_pos (by decide)]) (Nat.mod_lt _ (by decide)), Nat.mod_lt _ (by decide)⟩
theorem Row.at_ {w : World} {b off n : Nat} {l : List Nat} (h : Row w (some ⟨b, off, none⟩) n l) (hn : 0 < n) : ∀ i, i < n → w.cell? ⟨b, off + i, none⟩ = some (.int .u8 ((l.getD i 0 : Nat) : Int)) := by
  obtain ⟨b', off', e, hc⟩ := h.2 hn
  injection e with e
  injection e with e1 e2
  subst e1 e2
  exact hc
set_option maxHeartbeats 1600000 in
set_option maxRecDepth 100000 in
theorem refsum_zero (a : Option Addr) (n cap : Nat) (l : List Nat) (seed : Nat) (w : World) (hr : Row w a n l) (hn : n = 0) :
    Calls Tryd.prog 23 #[.slice a n cap, .int .u64 seed] w fun e w' => e = .returned (.int .u64 (xx l seed : Nat)) ∧ Below w.heap.size w w' := by
  subst hn
  have hl0 : l = [] := List.eq_nil_of_length_eq_zero hr.1
  subst hl0
  have e5 : IntKind.u64.wrap ((seed : Int) + 2870177450012600261) = (((seed + 2870177450012600261) % M : Nat) : Int) := add_expr seed 2870177450012600261
  obtain ⟨z0, hz, hxx, hz0⟩ := xx_nil seed
  rw [← hz] at e5
  clear hz
  have hid : IntKind.u64.wrap (z0 : Int) = (z0 : Int) := by rw [IntKind.wrap_u64]; omega
  obtain ⟨u, v, e1, e2, e3, l1, l2⟩ := fin_expr z0
  rw [← hxx] at e3
  have E3 := Lib.hid e3
  clear hxx e3 hr
  go_enter Tryd.func23, Tryd.ntmps23
  go_wp2_with fail
  refine (p5_any _).mono ?_
  rintro e w1 ⟨rfl, b1⟩
  have HB := Lib.hid b1
  clear b1
  go_wp2
  go_loopw [5, 8] (fun h i wr => h = .int .u64 z0 ∧ i = .int .i64 0 ∧ Below w.heap.size w wr) (fun _ _ _ => 0)
  case atStart => exact ⟨rfl, rfl, HB.out⟩
  case round =>
    obtain ⟨rfl, rfl, hb⟩ := hrel
    have HB1 := Lib.hid hb
    clear hb
    go_wp2
    go_loopw [5, 8] (fun h i wr => h = .int .u64 z0 ∧ i = .int .i64 0 ∧ Below w.heap.size w wr) (fun _ _ _ => 0)
    case atStart => exact ⟨rfl, rfl, HB1.out⟩
    case round =>
      obtain ⟨rfl, rfl, hb⟩ := hrel
      have HB2 := Lib.hid hb
      clear hb
      go_wp2_with fail
      refine (reffold_any _ _ hz0 _).mono ?_
      rintro e w7 ⟨rfl, rfl⟩
      go_wp2_with fail
      refine (p2_any _).mono ?_
      rintro e w7 ⟨rfl, b7⟩
      go_wp2_with fail
      refine (reffold_any _ _ l1 _).mono ?_
      rintro e w8 ⟨rfl, rfl⟩
      go_wp2_with fail
      refine (p3_any _).mono ?_
      rintro e w8 ⟨rfl, b8⟩
      go_wp2_with fail
      refine (reffold_any _ _ l2 _).mono ?_
      rintro e w9 ⟨rfl, rfl⟩
      rw [E3.out]
      go_wp2
      go_ret
      exact ⟨rfl, bnext (bnext HB2.out b7) b8⟩
set_option maxHeartbeats 3200000 in
set_option maxRecDepth 100000 in
theorem refsum_any (a : Option Addr) (n cap : Nat) (l : List Nat) (seed : Nat) (w : World) (hr : Row w a n l) (hl : bytes l) (hnn : n ≤ 4611686018427387904) (hcap : n ≤ cap) (hs : seed < 18446744073709551616) (ha : 0 < n → ∀ x, a = some x → x.block < w.heap.size) :
    Calls Tryd.prog 23 #[.slice a n cap, .int .u64 seed] w fun e w' => e = .returned (.int .u64 (xx l seed : Nat)) ∧ Below w.heap.size w w' := by
  have HR := Lib.hid hr
  have HL := Lib.hid hl
  have HA := Lib.hid ha
  clear hr hl ha
  by_cases h32 : 32 ≤ n
  · obtain ⟨b, off, rfl, hx⟩ := HR.out.2 (by omega)
    clear hx
    go_enter Tryd.func23, Tryd.ntmps23
    go_wp2_with fail
    refine (p5_any _).mono ?_
    rintro e w1 ⟨rfl, b1⟩
    go_wp2_with fail
    refine (refsums_any _ n cap l seed _ (HR.out.below b1 HA.out) HL.out h32 hnn hcap hs (fun x hx => Nat.lt_of_lt_of_le (HA.out (by omega) x hx) b1.size)).mono ?_
    rintro e w2 ⟨g, rfl, hF, b2, hg⟩
    have hword := hF.word
    generalize hrun : run (seedS seed) l = s at *
    obtain ⟨t0, ht0⟩ : ∃ t, turnN (s 0) 1 = t := ⟨_, rfl⟩
    obtain ⟨t1, ht1⟩ : ∃ t, turnN (s 1) 7 = t := ⟨_, rfl⟩
    obtain ⟨t2, ht2⟩ : ∃ t, turnN (s 2) 12 = t := ⟨_, rfl⟩
    obtain ⟨t3, ht3⟩ : ∃ t, turnN (s 3) 18 = t := ⟨_, rfl⟩
    have eg : IntKind.u64.wrap (IntKind.u64.wrap (IntKind.u64.wrap ((t0 : Int) + t1) + t2) + t3) = ((tg s : Nat) : Int) := by
      rw [add_expr, add_expr, add_expr, ← ht0, ← ht1, ← ht2, ← ht3]; rfl
    have hlt := tg_lt s
    have HW := Lib.hid hword
    have HRUN := Lib.hid hrun
    have HF := Lib.hid hF
    have K0 := Lib.hid (kept_of hF (Below.refl _ _).drew)
    have T0 := Lib.hid (turn_keep hF 1 (by decide) (s 0) t0 (hword 0) ht0)
    have T1 := Lib.hid (turn_keep hF 7 (by decide) (s 1) t1 (hword 1) ht1)
    have T2 := Lib.hid (turn_keep hF 12 (by decide) (s 2) t2 (hword 2) ht2)
    have T3 := Lib.hid (turn_keep hF 18 (by decide) (s 3) t3 (hword 3) ht3)
    have B2 := Lib.hid (bnext b1 b2)
    clear hF hword hrun ht0 ht1 ht2 ht3 b1 b2
    generalize hz : tg s = z at *
    have HZ := Lib.hid hz
    clear hz
    go_wp2_with fail
    go_region_held3 (fun w' => w'.cell? ⟨g, 0, none⟩ = some (.int .u64 (s 0 : Nat)) ∧ w'.cell? ⟨g, 1, none⟩ = some (.int .u64 (s 1 : Nat)) ∧ w'.cell? ⟨g, 2, none⟩ = some (.int .u64 (s 2 : Nat)) ∧ w'.cell? ⟨g, 3, none⟩ = some (.int .u64 (s 3 : Nat)) ∧ Below w2.heap.size w2 w') (first | exact K0.out | assumption) (first
      | (go_at_call_of 37 (Value.int IntKind.i64 1); refine (T0.out _ (by first | exact K0.out.2.2.2.2 | (rename_i hk; exact hk.2.2.2.2))).mono ?_; rintro e w3 ⟨rfl, hk3⟩)
      | (go_at_call_of 37 (Value.int IntKind.i64 7); refine (T1.out _ hk3.2.2.2.2).mono ?_; rintro e w4 ⟨rfl, hk4⟩)
      | (go_at_call_of 37 (Value.int IntKind.i64 12); refine (T2.out _ hk4.2.2.2.2).mono ?_; rintro e w5 ⟨rfl, hk5⟩)
      | (go_at_call_of 37 (Value.int IntKind.i64 18); refine (T3.out _ hk5.2.2.2.2).mono ?_; rintro e w6 ⟨rfl, hk6⟩))
    have HB6 := Lib.hid hk6.2.2.2.2
    clear hk3 hk4 hk5 hk6 K0 T0 T1 T2 T3
    go_wp2
    go_loopw [5, 7] (fun h i wr => ∃ j : Nat, j ≤ 4 ∧ i = .int .i64 j ∧ h = .int .u64 ((mp s z j : Nat) : Int) ∧ Below w2.heap.size w2 wr) (fun _ i _ => 4 - (intOf i).toNat)
    case atStart => exact ⟨0, by omega, rfl, rfl, HB6.out⟩
    case round =>
      obtain ⟨j, hj4, rfl, rfl, hb⟩ := hrel
      have hq := mp_lt s z hlt j
      have HB := Lib.hid hb
      by_cases hj : j < 4
      · have hc := (HF.out.below hb).cell j hj
        obtain ⟨y, e1, e2⟩ := mg_expr (mp s z j) (s j) hq
        rw [show mg (mp s z j) (s j) = mp s z (j + 1) from rfl] at e2
        clear hb
        generalize mp s z j = q at *
        generalize hz1 : mp s z (j + 1) = z1 at *
        have HZ1 := Lib.hid hz1
        clear hz1
        go_wp2_with fail
        refine (refround_any _ _ _).mono ?_
        rintro e w7 ⟨rfl, b7⟩
        have HB7 := Lib.hid (bnext HB.out b7)
        clear b7
        go_wp2_with fail
        refine (p1_any _).mono ?_
        rintro e w8 ⟨rfl, b8⟩
        have HB8 := Lib.hid (bnext HB7.out b8)
        clear b8
        go_wp2_with fail
        refine (p4_any _).mono ?_
        rintro e w9 ⟨rfl, b9⟩
        have HB9 := Lib.hid (bnext HB8.out b9)
        clear b9
        go_wp2
        go_roundw
        case rel => exact ⟨j + 1, by omega, by go_num, by rw [HZ1.out], HB9.out⟩
        case measure => simp [intOf]; omega
      · have hst : start seed l = mp s z j := by
          unfold start
          rw [if_neg (by have := HR.out.1; omega), HRUN.out, HZ.out, show j = 4 from by omega, mp_four]
        have HST0 := Lib.hid hst
        have HBW := Lib.hid (bnext B2.out hb)
        clear hst hb HB HB6 HZ HRUN HF HW eg
        generalize mp s z j = z0 at *
        obtain ⟨k, hk, hk'⟩ : ∃ k, n % 32 = k ∧ k < 32 := ⟨_, rfl, Nat.mod_lt _ (by decide)⟩
        have hk32 : (n : Int) % 32 = (k : Int) := by omega
        have hkn : k ≤ n := by omega
        obtain ⟨p0, hp0, hp0'⟩ : ∃ p0 : Nat, p0 = n - k ∧ (n : Int) - (k : Int) = (p0 : Int) := ⟨n - k, rfl, by omega⟩
        have hp0n : p0 ≤ n := by omega
        have hleft : l.drop p0 = left l := by unfold left; congr 1; have := HR.out.1; omega
        have hcv : IntKind.u64.wrap (n : Int) = (n : Int) := by rw [IntKind.wrap_u64]; omega
        have he := add_expr z0 n
        have hylt : (z0 + n) % M < 18446744073709551616 := Nat.mod_lt _ (by decide)
        generalize hy : (z0 + n) % M = y at *
        have hy2 : y = (start seed l + l.length) % M := by rw [HST0.out, HR.out.1]; exact hy.symm
        have HY := Lib.hid hy2
        have HLE := Lib.hid hleft
        clear hy hy2 hleft
        have HP0 := Lib.hid hp0
        clear hp0
        go_wp2
        go_loopw [5, 8] (fun h i wr => ∃ (x p : Nat), h = .int .u64 x ∧ x < 18446744073709551616 ∧ i = .int .i64 p ∧ p ≤ n ∧ rest x (l.drop p) = rest y (left l) ∧ Below w.heap.size w wr) (fun _ i _ => n - (intOf i).toNat)
        case atStart => exact ⟨y, p0, rfl, hylt, rfl, hp0n, by rw [HLE.out], HBW.out⟩
        case round =>
          clear HBW HLE HP0 he hcv hk32 hp0'
          obtain ⟨x, p, rfl, hx, rfl, hp, ht, hb⟩ := hrel
          have HT := Lib.hid ht
          have HB := Lib.hid hb
          clear ht
          by_cases h8 : p + 8 ≤ n
          · have HR2 := Lib.hid (HR.out.below hb HA.out)
            clear hb
            have h8i : (p : Int) + 8 ≤ (n : Int) := by omega
            have hne : ¬ cap = p := by omega
            obtain ⟨v, hv⟩ : ∃ v, num ((l.drop p).take 8) = v := ⟨_, rfl⟩
            obtain ⟨y1, t1, x1, x2, x3, x4⟩ := s8_expr x v hx
            have X3 := Lib.hid x3
            have HV := Lib.hid hv
            clear x3 hv
            go_wp2_with fail
            refine (refnumber_is HR2.out HL.out h8 (by omega) HV.out).mono ?_
            rintro e w7 ⟨rfl, rfl⟩
            go_wp2_with fail
            refine (refround_any _ _ _).mono ?_
            rintro e w7 ⟨rfl, b7⟩
            have HB7 := Lib.hid (bnext HB.out b7)
            clear b7
            go_wp2_with fail
            refine (refturn_by 27 (by decide) _ _ x2 X3.out _).mono ?_
            rintro e w8 ⟨rfl, b8⟩
            have HB8 := Lib.hid (bnext HB7.out b8)
            clear b8
            go_wp2_with fail
            refine (p1_any _).mono ?_
            rintro e w9 ⟨rfl, b9⟩
            have HB9 := Lib.hid (bnext HB8.out b9)
            clear b9
            go_wp2_with fail
            refine (p4_any _).mono ?_
            rintro e w10 ⟨rfl, b10⟩
            have HB10 := Lib.hid (bnext HB9.out b10)
            clear b10
            go_wp2
            go_roundw
            case rel => exact ⟨s8 x v, p + 8, rfl, s8_lt _ _, by go_num, by omega, by rw [← HT.out, rest_big x (l.drop p) (by rw [List.length_drop]; have := HR.out.1; omega), HV.out, List.drop_drop], HB10.out⟩
            case measure => simp [intOf]; omega
          · have hrs := rest_small x (l.drop p) (by rw [List.length_drop]; have := HR.out.1; omega)
            rw [HT.out] at hrs
            by_cases h4 : p + 4 ≤ n
            · have HR2 := Lib.hid (HR.out.below hb HA.out)
              clear hb
              have h4i : (p : Int) + 4 ≤ (n : Int) := by omega
              have hne : ¬ cap = p := by omega
              have hf : few x (l.drop p) = tl (s4 x (num ((l.drop p).take 4))) (l.drop (p + 4)) := by
                unfold few; rw [if_neg (by rw [List.length_drop]; have := HR.out.1; omega), List.drop_drop]
              obtain ⟨v, hv⟩ : ∃ v, num ((l.drop p).take 4) = v := ⟨_, rfl⟩
              rw [hv] at hf
              rw [hf] at hrs
              obtain ⟨z1, y1, t1, x0, x1, x2, x3, x4⟩ := s4_expr x v hx
              have X3 := Lib.hid x3
              have HV := Lib.hid hv
              have HS3 := Lib.hid hrs.symm
              clear x3 hv hf hrs HT
              go_wp2_with fail
              refine (refnumber4_is HR2.out HL.out h4 (by omega) HV.out).mono ?_
              rintro e w7 ⟨rfl, rfl⟩
              go_wp2_with fail
              refine (p1_any _).mono ?_
              rintro e w7 ⟨rfl, b7⟩
              have HB7 := Lib.hid (bnext HB.out b7)
              clear b7
              go_wp2_with fail
              refine (refturn_by 23 (by decide) _ _ x2 X3.out _).mono ?_
              rintro e w8 ⟨rfl, b8⟩
              have HB8 := Lib.hid (bnext HB7.out b8)
              clear b8
              go_wp2_with fail
              refine (p2_any _).mono ?_
              rintro e w9 ⟨rfl, b9⟩
              have HB9 := Lib.hid (bnext HB8.out b9)
              clear b9
              go_wp2_with fail
              refine (p3_any _).mono ?_
              rintro e w10 ⟨rfl, b10⟩
              have HB3 := Lib.hid (bnext HB9.out b10)
              clear b10
              go_wp2
              have hs4 := s4_lt x v
              clear x0 x1 x2 x4 X3 HV HB9 HB8 HB7 HB hx
              generalize s4 x v = x at *
              go_loopw [5, 8] (fun h i wr => ∃ (x p : Nat), h = .int .u64 x ∧ x < 18446744073709551616 ∧ i = .int .i64 p ∧ p ≤ n ∧ tl x (l.drop p) = rest y (left l) ∧ Below w.heap.size w wr) (fun _ i _ => n - (intOf i).toNat)
              case atStart => exact ⟨x, (p + 4), rfl, hs4, by go_num, by omega, HS3.out, HB3.out⟩
              case round =>
                clear HS3 HB3
                obtain ⟨x, p, rfl, hx, rfl, hp, ht, hb⟩ := hrel
                have HT := Lib.hid ht
                have HB := Lib.hid hb
                clear ht
                by_cases hpn : p < n
                · have hc := HR.out.at_ (by omega)
                  have hcell := hc p hpn
                  have hbw : b < w.heap.size := HA.out (by omega) ⟨b, off, none⟩ rfl
                  have hcell2 := (hb.cell (p := ⟨b, off + p, none⟩) hbw).trans hcell
                  have hst := tl_step x l p (by have := HR.out.1; omega)
                  have hby := bytes_get HL.out p
                  generalize l.getD p 0 = v at *
                  obtain ⟨z1, y1, t1, x0, x1, x2, x3, x4⟩ := s1_expr x v hx
                  have X3 := Lib.hid x3
                  have HST := Lib.hid hst
                  have HCELL := Lib.hid hcell
                  have HK := Lib.hid (show Below w.heap.size w wr.drew from hb.drew)
                  clear x3 hst hc hcell hb
                  go_wp2_with fail
                  go_region_with (first
                    | (go_at_call 35; refine (p5_any _).mono ?_; rintro e w7 ⟨rfl, hb7⟩; have hc7 := ((bnext HK.out hb7).cell (p := ⟨b, off + p, none⟩) hbw).trans HCELL.out; have HB7 := Lib.hid (bnext HK.out hb7); clear hb7))
                  all_goals
                    go_wp2_with fail
                    refine (refturn_by 11 (by decide) _ _ x2 X3.out _).mono ?_
                    rintro e w8 ⟨rfl, hb8⟩
                    have HB8 := Lib.hid (bnext HB7.out hb8)
                    clear hb8
                    go_wp2_with fail
                    refine (p1_any _).mono ?_
                    rintro e w9 ⟨rfl, hb9⟩
                    have HB9 := Lib.hid (bnext HB8.out hb9)
                    clear hb9
                    go_wp2
                    go_roundw
                    case rel => exact ⟨s1 x v, p + 1, rfl, s1_lt _ _, by go_num, by omega, by rw [← HST.out]; exact HT.out, HB9.out⟩
                    case measure => simp [intOf]; omega
                · have hd : l.drop p = [] := List.drop_eq_nil_of_le (by have := HR.out.1; omega)
                  have hxr : x = rest y (left l) := by
                    have := HT.out
                    rw [hd, tl_nil] at this
                    exact this
                  have hfin : fin x = xx l seed := by rw [hxr, xx_eq, ← HY.out]
                  obtain ⟨u, v, e1, e2, e3, l1, l2⟩ := fin_expr x
                  rw [hfin] at e3
                  have E3 := Lib.hid e3
                  clear hd HT hxr hfin e3
                  go_wp2_with fail
                  refine (reffold_any _ _ hx _).mono ?_
                  rintro e w7 ⟨rfl, rfl⟩
                  go_wp2_with fail
                  refine (p2_any _).mono ?_
                  rintro e w7 ⟨rfl, b7⟩
                  go_wp2_with fail
                  refine (reffold_any _ _ l1 _).mono ?_
                  rintro e w8 ⟨rfl, rfl⟩
                  go_wp2_with fail
                  refine (p3_any _).mono ?_
                  rintro e w8 ⟨rfl, b8⟩
                  go_wp2_with fail
                  refine (reffold_any _ _ l2 _).mono ?_
                  rintro e w9 ⟨rfl, rfl⟩
                  rw [E3.out]
                  go_wp2
                  go_ret
                  exact ⟨rfl, bnext (bnext HB.out b7) b8⟩
            · have hf : few x (l.drop p) = tl x (l.drop p) := by
                unfold few; rw [if_pos (by rw [List.length_drop]; have := HR.out.1; omega)]
              rw [hf] at hrs
              have HS3 := Lib.hid hrs.symm
              have HB3 := Lib.hid hb
              clear hf hrs HT hb
              go_wp2
              go_loopw [5, 8] (fun h i wr => ∃ (x p : Nat), h = .int .u64 x ∧ x < 18446744073709551616 ∧ i = .int .i64 p ∧ p ≤ n ∧ tl x (l.drop p) = rest y (left l) ∧ Below w.heap.size w wr) (fun _ i _ => n - (intOf i).toNat)
              case atStart => exact ⟨x, p, rfl, hx, by go_num, by omega, HS3.out, HB3.out⟩
              case round =>
                clear HS3 HB3
                obtain ⟨x, p, rfl, hx, rfl, hp, ht, hb⟩ := hrel
                have HT := Lib.hid ht
                have HB := Lib.hid hb
                clear ht
                by_cases hpn : p < n
                · have hc := HR.out.at_ (by omega)
                  have hcell := hc p hpn
                  have hbw : b < w.heap.size := HA.out (by omega) ⟨b, off, none⟩ rfl
                  have hcell2 := (hb.cell (p := ⟨b, off + p, none⟩) hbw).trans hcell
                  have hst := tl_step x l p (by have := HR.out.1; omega)
                  have hby := bytes_get HL.out p
                  generalize l.getD p 0 = v at *
                  obtain ⟨z1, y1, t1, x0, x1, x2, x3, x4⟩ := s1_expr x v hx
                  have X3 := Lib.hid x3
                  have HST := Lib.hid hst
                  have HCELL := Lib.hid hcell
                  have HK := Lib.hid (show Below w.heap.size w wr.drew from hb.drew)
                  clear x3 hst hc hcell hb
                  go_wp2_with fail
                  go_region_with (first
                    | (go_at_call 35; refine (p5_any _).mono ?_; rintro e w7 ⟨rfl, hb7⟩; have hc7 := ((bnext HK.out hb7).cell (p := ⟨b, off + p, none⟩) hbw).trans HCELL.out; have HB7 := Lib.hid (bnext HK.out hb7); clear hb7))
                  all_goals
                    go_wp2_with fail
                    refine (refturn_by 11 (by decide) _ _ x2 X3.out _).mono ?_
                    rintro e w8 ⟨rfl, hb8⟩
                    have HB8 := Lib.hid (bnext HB7.out hb8)
                    clear hb8
                    go_wp2_with fail
                    refine (p1_any _).mono ?_
                    rintro e w9 ⟨rfl, hb9⟩
                    have HB9 := Lib.hid (bnext HB8.out hb9)
                    clear hb9
                    go_wp2
                    go_roundw
                    case rel => exact ⟨s1 x v, p + 1, rfl, s1_lt _ _, by go_num, by omega, by rw [← HST.out]; exact HT.out, HB9.out⟩
                    case measure => simp [intOf]; omega
                · have hd : l.drop p = [] := List.drop_eq_nil_of_le (by have := HR.out.1; omega)
                  have hxr : x = rest y (left l) := by
                    have := HT.out
                    rw [hd, tl_nil] at this
                    exact this
                  have hfin : fin x = xx l seed := by rw [hxr, xx_eq, ← HY.out]
                  obtain ⟨u, v, e1, e2, e3, l1, l2⟩ := fin_expr x
                  rw [hfin] at e3
                  have E3 := Lib.hid e3
                  clear hd HT hxr hfin e3
                  go_wp2_with fail
                  refine (reffold_any _ _ hx _).mono ?_
                  rintro e w7 ⟨rfl, rfl⟩
                  go_wp2_with fail
                  refine (p2_any _).mono ?_
                  rintro e w7 ⟨rfl, b7⟩
                  go_wp2_with fail
                  refine (reffold_any _ _ l1 _).mono ?_
                  rintro e w8 ⟨rfl, rfl⟩
                  go_wp2_with fail
                  refine (p3_any _).mono ?_
                  rintro e w8 ⟨rfl, b8⟩
                  go_wp2_with fail
                  refine (reffold_any _ _ l2 _).mono ?_
                  rintro e w9 ⟨rfl, rfl⟩
                  rw [E3.out]
                  go_wp2
                  go_ret
                  exact ⟨rfl, bnext (bnext HB.out b7) b8⟩
  · rcases Nat.eq_zero_or_pos n with hn0 | hn0
    · exact refsum_zero a n cap l seed w HR.out hn0
    obtain ⟨b, off, rfl, hx⟩ := HR.out.2 hn0
    clear hx
    have hst : start seed l = (seed + 2870177450012600261) % M := by
      unfold start
      rw [if_pos (by have := HR.out.1; omega)]
    have e5 : IntKind.u64.wrap ((seed : Int) + 2870177450012600261) = (((seed + 2870177450012600261) % M : Nat) : Int) := add_expr seed 2870177450012600261
    have HST0 := Lib.hid hst
    clear hst
    generalize (seed + 2870177450012600261) % M = z0 at *
    go_enter Tryd.func23, Tryd.ntmps23
    go_wp2_with fail
    refine (p5_any _).mono ?_
    rintro e w1 ⟨rfl, b1⟩
    have HBW := Lib.hid b1
    clear b1
    obtain ⟨k, hk, hk'⟩ : ∃ k, n % 32 = k ∧ k < 32 := ⟨_, rfl, Nat.mod_lt _ (by decide)⟩
    have hk32 : (n : Int) % 32 = (k : Int) := by omega
    have hkn : k ≤ n := by omega
    obtain ⟨p0, hp0, hp0'⟩ : ∃ p0 : Nat, p0 = n - k ∧ (n : Int) - (k : Int) = (p0 : Int) := ⟨n - k, rfl, by omega⟩
    have hp0n : p0 ≤ n := by omega
    have hleft : l.drop p0 = left l := by unfold left; congr 1; have := HR.out.1; omega
    have hcv : IntKind.u64.wrap (n : Int) = (n : Int) := by rw [IntKind.wrap_u64]; omega
    have he := add_expr z0 n
    have hylt : (z0 + n) % M < 18446744073709551616 := Nat.mod_lt _ (by decide)
    generalize hy : (z0 + n) % M = y at *
    have hy2 : y = (start seed l + l.length) % M := by rw [HST0.out, HR.out.1]; exact hy.symm
    have HY := Lib.hid hy2
    have HLE := Lib.hid hleft
    clear hy hy2 hleft
    have HP0 := Lib.hid hp0
    clear hp0
    go_wp2
    go_loopw [5, 8] (fun h i wr => ∃ (x p : Nat), h = .int .u64 x ∧ x < 18446744073709551616 ∧ i = .int .i64 p ∧ p ≤ n ∧ rest x (l.drop p) = rest y (left l) ∧ Below w.heap.size w wr) (fun _ i _ => n - (intOf i).toNat)
    case atStart => exact ⟨y, p0, rfl, hylt, rfl, hp0n, by rw [HLE.out], HBW.out⟩
    case round =>
      clear HBW HLE HP0 he hcv hk32 hp0'
      obtain ⟨x, p, rfl, hx, rfl, hp, ht, hb⟩ := hrel
      have HT := Lib.hid ht
      have HB := Lib.hid hb
      clear ht
      by_cases h8 : p + 8 ≤ n
      · have HR2 := Lib.hid (HR.out.below hb HA.out)
        clear hb
        have h8i : (p : Int) + 8 ≤ (n : Int) := by omega
        have hne : ¬ cap = p := by omega
        obtain ⟨v, hv⟩ : ∃ v, num ((l.drop p).take 8) = v := ⟨_, rfl⟩
        obtain ⟨y1, t1, x1, x2, x3, x4⟩ := s8_expr x v hx
        have X3 := Lib.hid x3
        have HV := Lib.hid hv
        clear x3 hv
        go_wp2_with fail
        refine (refnumber_is HR2.out HL.out h8 (by omega) HV.out).mono ?_
        rintro e w7 ⟨rfl, rfl⟩
        go_wp2_with fail
        refine (refround_any _ _ _).mono ?_
        rintro e w7 ⟨rfl, b7⟩
        have HB7 := Lib.hid (bnext HB.out b7)
        clear b7
        go_wp2_with fail
        refine (refturn_by 27 (by decide) _ _ x2 X3.out _).mono ?_
        rintro e w8 ⟨rfl, b8⟩
        have HB8 := Lib.hid (bnext HB7.out b8)
        clear b8
        go_wp2_with fail
        refine (p1_any _).mono ?_
        rintro e w9 ⟨rfl, b9⟩
        have HB9 := Lib.hid (bnext HB8.out b9)
        clear b9
        go_wp2_with fail
        refine (p4_any _).mono ?_
        rintro e w10 ⟨rfl, b10⟩
        have HB10 := Lib.hid (bnext HB9.out b10)
        clear b10
        go_wp2
        go_roundw
        case rel => exact ⟨s8 x v, p + 8, rfl, s8_lt _ _, by go_num, by omega, by rw [← HT.out, rest_big x (l.drop p) (by rw [List.length_drop]; have := HR.out.1; omega), HV.out, List.drop_drop], HB10.out⟩
        case measure => simp [intOf]; omega
      · have hrs := rest_small x (l.drop p) (by rw [List.length_drop]; have := HR.out.1; omega)
        rw [HT.out] at hrs
        by_cases h4 : p + 4 ≤ n
        · have HR2 := Lib.hid (HR.out.below hb HA.out)
          clear hb
          have h4i : (p : Int) + 4 ≤ (n : Int) := by omega
          have hne : ¬ cap = p := by omega
          have hf : few x (l.drop p) = tl (s4 x (num ((l.drop p).take 4))) (l.drop (p + 4)) := by
            unfold few; rw [if_neg (by rw [List.length_drop]; have := HR.out.1; omega), List.drop_drop]
          obtain ⟨v, hv⟩ : ∃ v, num ((l.drop p).take 4) = v := ⟨_, rfl⟩
          rw [hv] at hf
          rw [hf] at hrs
          obtain ⟨z1, y1, t1, x0, x1, x2, x3, x4⟩ := s4_expr x v hx
          have X3 := Lib.hid x3
          have HV := Lib.hid hv
          have HS3 := Lib.hid hrs.symm
          clear x3 hv hf hrs HT
          go_wp2_with fail
          refine (refnumber4_is HR2.out HL.out h4 (by omega) HV.out).mono ?_
          rintro e w7 ⟨rfl, rfl⟩
          go_wp2_with fail
          refine (p1_any _).mono ?_
          rintro e w7 ⟨rfl, b7⟩
          have HB7 := Lib.hid (bnext HB.out b7)
          clear b7
          go_wp2_with fail
          refine (refturn_by 23 (by decide) _ _ x2 X3.out _).mono ?_
          rintro e w8 ⟨rfl, b8⟩
          have HB8 := Lib.hid (bnext HB7.out b8)
          clear b8
          go_wp2_with fail
          refine (p2_any _).mono ?_
          rintro e w9 ⟨rfl, b9⟩
          have HB9 := Lib.hid (bnext HB8.out b9)
          clear b9
          go_wp2_with fail
          refine (p3_any _).mono ?_
          rintro e w10 ⟨rfl, b10⟩
          have HB3 := Lib.hid (bnext HB9.out b10)
          clear b10
          go_wp2
          have hs4 := s4_lt x v
          clear x0 x1 x2 x4 X3 HV HB9 HB8 HB7 HB hx
          generalize s4 x v = x at *
          go_loopw [5, 8] (fun h i wr => ∃ (x p : Nat), h = .int .u64 x ∧ x < 18446744073709551616 ∧ i = .int .i64 p ∧ p ≤ n ∧ tl x (l.drop p) = rest y (left l) ∧ Below w.heap.size w wr) (fun _ i _ => n - (intOf i).toNat)
          case atStart => exact ⟨x, (p + 4), rfl, hs4, by go_num, by omega, HS3.out, HB3.out⟩
          case round =>
            clear HS3 HB3
            obtain ⟨x, p, rfl, hx, rfl, hp, ht, hb⟩ := hrel
            have HT := Lib.hid ht
            have HB := Lib.hid hb
            clear ht
            by_cases hpn : p < n
            · have hc := HR.out.at_ (by omega)
              have hcell := hc p hpn
              have hbw : b < w.heap.size := HA.out (by omega) ⟨b, off, none⟩ rfl
              have hcell2 := (hb.cell (p := ⟨b, off + p, none⟩) hbw).trans hcell
              have hst := tl_step x l p (by have := HR.out.1; omega)
              have hby := bytes_get HL.out p
              generalize l.getD p 0 = v at *
              obtain ⟨z1, y1, t1, x0, x1, x2, x3, x4⟩ := s1_expr x v hx
              have X3 := Lib.hid x3
              have HST := Lib.hid hst
              have HCELL := Lib.hid hcell
              have HK := Lib.hid (show Below w.heap.size w wr.drew from hb.drew)
              clear x3 hst hc hcell hb
              go_wp2_with fail
              go_region_with (first
                | (go_at_call 35; refine (p5_any _).mono ?_; rintro e w7 ⟨rfl, hb7⟩; have hc7 := ((bnext HK.out hb7).cell (p := ⟨b, off + p, none⟩) hbw).trans HCELL.out; have HB7 := Lib.hid (bnext HK.out hb7); clear hb7))
              all_goals
                go_wp2_with fail
                refine (refturn_by 11 (by decide) _ _ x2 X3.out _).mono ?_
                rintro e w8 ⟨rfl, hb8⟩
                have HB8 := Lib.hid (bnext HB7.out hb8)
                clear hb8
                go_wp2_with fail
                refine (p1_any _).mono ?_
                rintro e w9 ⟨rfl, hb9⟩
                have HB9 := Lib.hid (bnext HB8.out hb9)
                clear hb9
                go_wp2
                go_roundw
                case rel => exact ⟨s1 x v, p + 1, rfl, s1_lt _ _, by go_num, by omega, by rw [← HST.out]; exact HT.out, HB9.out⟩
                case measure => simp [intOf]; omega
            · have hd : l.drop p = [] := List.drop_eq_nil_of_le (by have := HR.out.1; omega)
              have hxr : x = rest y (left l) := by
                have := HT.out
                rw [hd, tl_nil] at this
                exact this
              have hfin : fin x = xx l seed := by rw [hxr, xx_eq, ← HY.out]
              obtain ⟨u, v, e1, e2, e3, l1, l2⟩ := fin_expr x
              rw [hfin] at e3
              have E3 := Lib.hid e3
              clear hd HT hxr hfin e3
              go_wp2_with fail
              refine (reffold_any _ _ hx _).mono ?_
              rintro e w7 ⟨rfl, rfl⟩
              go_wp2_with fail
              refine (p2_any _).mono ?_
              rintro e w7 ⟨rfl, b7⟩
              go_wp2_with fail
              refine (reffold_any _ _ l1 _).mono ?_
              rintro e w8 ⟨rfl, rfl⟩
              go_wp2_with fail
              refine (p3_any _).mono ?_
              rintro e w8 ⟨rfl, b8⟩
              go_wp2_with fail
              refine (reffold_any _ _ l2 _).mono ?_
              rintro e w9 ⟨rfl, rfl⟩
              rw [E3.out]
              go_wp2
              go_ret
              exact ⟨rfl, bnext (bnext HB.out b7) b8⟩
        · have hf : few x (l.drop p) = tl x (l.drop p) := by
            unfold few; rw [if_pos (by rw [List.length_drop]; have := HR.out.1; omega)]
          rw [hf] at hrs
          have HS3 := Lib.hid hrs.symm
          have HB3 := Lib.hid hb
          clear hf hrs HT hb
          go_wp2
          go_loopw [5, 8] (fun h i wr => ∃ (x p : Nat), h = .int .u64 x ∧ x < 18446744073709551616 ∧ i = .int .i64 p ∧ p ≤ n ∧ tl x (l.drop p) = rest y (left l) ∧ Below w.heap.size w wr) (fun _ i _ => n - (intOf i).toNat)
          case atStart => exact ⟨x, p, rfl, hx, by go_num, by omega, HS3.out, HB3.out⟩
          case round =>
            clear HS3 HB3
            obtain ⟨x, p, rfl, hx, rfl, hp, ht, hb⟩ := hrel
            have HT := Lib.hid ht
            have HB := Lib.hid hb
            clear ht
            by_cases hpn : p < n
            · have hc := HR.out.at_ (by omega)
              have hcell := hc p hpn
              have hbw : b < w.heap.size := HA.out (by omega) ⟨b, off, none⟩ rfl
              have hcell2 := (hb.cell (p := ⟨b, off + p, none⟩) hbw).trans hcell
              have hst := tl_step x l p (by have := HR.out.1; omega)
              have hby := bytes_get HL.out p
              generalize l.getD p 0 = v at *
              obtain ⟨z1, y1, t1, x0, x1, x2, x3, x4⟩ := s1_expr x v hx
              have X3 := Lib.hid x3
              have HST := Lib.hid hst
              have HCELL := Lib.hid hcell
              have HK := Lib.hid (show Below w.heap.size w wr.drew from hb.drew)
              clear x3 hst hc hcell hb
              go_wp2_with fail
              go_region_with (first
                | (go_at_call 35; refine (p5_any _).mono ?_; rintro e w7 ⟨rfl, hb7⟩; have hc7 := ((bnext HK.out hb7).cell (p := ⟨b, off + p, none⟩) hbw).trans HCELL.out; have HB7 := Lib.hid (bnext HK.out hb7); clear hb7))
              all_goals
                go_wp2_with fail
                refine (refturn_by 11 (by decide) _ _ x2 X3.out _).mono ?_
                rintro e w8 ⟨rfl, hb8⟩
                have HB8 := Lib.hid (bnext HB7.out hb8)
                clear hb8
                go_wp2_with fail
                refine (p1_any _).mono ?_
                rintro e w9 ⟨rfl, hb9⟩
                have HB9 := Lib.hid (bnext HB8.out hb9)
                clear hb9
                go_wp2
                go_roundw
                case rel => exact ⟨s1 x v, p + 1, rfl, s1_lt _ _, by go_num, by omega, by rw [← HST.out]; exact HT.out, HB9.out⟩
                case measure => simp [intOf]; omega
            · have hd : l.drop p = [] := List.drop_eq_nil_of_le (by have := HR.out.1; omega)
              have hxr : x = rest y (left l) := by
                have := HT.out
                rw [hd, tl_nil] at this
                exact this
              have hfin : fin x = xx l seed := by rw [hxr, xx_eq, ← HY.out]
              obtain ⟨u, v, e1, e2, e3, l1, l2⟩ := fin_expr x
              rw [hfin] at e3
              have E3 := Lib.hid e3
              clear hd HT hxr hfin e3
              go_wp2_with fail
              refine (reffold_any _ _ hx _).mono ?_
              rintro e w7 ⟨rfl, rfl⟩
              go_wp2_with fail
              refine (p2_any _).mono ?_
              rintro e w7 ⟨rfl, b7⟩
              go_wp2_with fail
              refine (reffold_any _ _ l1 _).mono ?_
              rintro e w8 ⟨rfl, rfl⟩
              go_wp2_with fail
              refine (p3_any _).mono ?_
              rintro e w8 ⟨rfl, b8⟩
              go_wp2_with fail
              refine (reffold_any _ _ l2 _).mono ?_
              rintro e w9 ⟨rfl, rfl⟩
              rw [E3.out]
              go_wp2
              go_ret
              exact ⟨rfl, bnext (bnext HB.out b7) b8⟩
end Go.Proofs.YtmjcdondogpceaaDoor.xx
