/-
  Sum of a digest, by their contracts, where the table of turns lies in memory as its text lays it.
-/
import Derived.Test.YtmjcdondogpceaaDoorXxWrite
namespace Go.Proofs.YtmjcdondogpceaaDoor.xx
open Go.ChangeShapes Go.WideShapes Go.ChangeAt Go.RowKit
/-- the table of turns lies in block 1. -/
structure Turns (w : World) : Prop where
  pos : 1 < w.heap.size
  t0 : w.cell? ⟨1, 0, none⟩ = some (.int .i64 1)
  t1 : w.cell? ⟨1, 1, none⟩ = some (.int .i64 7)
  t2 : w.cell? ⟨1, 2, none⟩ = some (.int .i64 12)
  t3 : w.cell? ⟨1, 3, none⟩ = some (.int .i64 18)
theorem Turns.of_block {w w' : World} (h : Turns w) (hb : w'.heap[1]? = w.heap[1]?) (hs : w.heap.size ≤ w'.heap.size) : Turns w' := by
  have hc : ∀ i, w'.cell? ⟨1, i, none⟩ = w.cell? ⟨1, i, none⟩ := fun i => World.cell?_of_block (w := w) (w' := w') (a := ⟨1, i, none⟩) hb
  exact ⟨Nat.lt_of_lt_of_le h.pos hs, (hc 0).trans h.t0, (hc 1).trans h.t1, (hc 2).trans h.t2, (hc 3).trans h.t3⟩
def tn : Nat → Nat
  | 0 => 1
  | 1 => 7
  | 2 => 12
  | _ => 18
/-- the first j sums turned and added. -/
def tp (s : Nat → Nat) : Nat → Nat
  | 0 => 0
  | j + 1 => (tp s j + turnN (s j) (tn j)) % M
theorem tp_lt (s : Nat → Nat) (j : Nat) : tp s j < 18446744073709551616 := by
  cases j with
  | zero => show 0 < _; decide
  | succ j => exact Nat.mod_lt _ (by decide)
theorem tp_four (s : Nat → Nat) (h : s 0 < 18446744073709551616) : tp s 4 = tg s := by
  have e : tp s 1 = turnN (s 0) 1 := by
    show (0 + turnN (s 0) 1) % M = _
    rw [Nat.zero_add]
    exact Nat.mod_eq_of_lt (turn_lt _ _ h)
  show (((tp s 1 + turnN (s 1) 7) % M + turnN (s 2) 12) % M + turnN (s 3) 18) % M = _
  rw [e]
  rfl
/-- .. and put to h. -/
noncomputable def mp (s : Nat → Nat) (h : Nat) : Nat → Nat
  | 0 => h
  | j + 1 => mg (mp s h j) (s j)
theorem mp_lt (s : Nat → Nat) (h : Nat) (hh : h < 18446744073709551616) (j : Nat) : mp s h j < 18446744073709551616 := by
  cases j with
  | zero => exact hh
  | succ j => exact mg_lt _ _
theorem mp_four (s : Nat → Nat) (h : Nat) : mp s h 4 = mgs s h := rfl
theorem mg_expr (h x : Nat) (hh : h < 18446744073709551616) : ∃ y : Nat, bits BinOp.xor IntKind.u64 (h : Int) ((rnd 0 x : Nat) : Int) = (y : Int) ∧
    IntKind.u64.wrap (IntKind.u64.wrap ((y : Int) * 11400714785074694791) + 9650029242287828579) = ((mg h x : Nat) : Int) :=
  ⟨h ^^^ rnd 0 x, xor_expr _ _ hh (rnd_lt _ _), by rw [mg_eq]; exact mul_add_expr _ 11400714785074694791 9650029242287828579⟩
theorem turn_by (k : Nat) (hk : k < 64) (y t : Nat) (hy : y < 18446744073709551616) (ht : turnN y k = t) (w : World) : Calls Tryd.prog 54 #[.int .u64 y, .int .i64 k] w fun e w' => e = .returned (.int .u64 (t : Nat)) ∧ w = w' := by
  rw [← ht, show turnN y k = turnN y ((k : Int) % 64).toNat from by congr 1; omega]; exact turn_any y k hy w
/-- the number that the sums leave. -/
noncomputable def tog (s : Nat → Nat) (n : Nat) : Nat := if n < 32 then (s 2 + 2870177450012600261) % M else mgs s (tg s)
theorem tog_start (seed : Nat) (l : List Nat) : tog (run (seedS seed) l) l.length = start seed l := by
  unfold tog start
  by_cases h : l.length < 32
  · rw [if_pos h, if_pos h, run_small _ _ h]; rfl
  · rw [if_neg h, if_neg h]
theorem tog_lt (s : Nat → Nat) (n : Nat) : tog s n < 18446744073709551616 := by
  unfold tog; split
  · exact Nat.mod_lt _ (by decide)
  · exact mg_lt _ _
set_option maxHeartbeats 1600000 in
set_option maxRecDepth 100000 in
theorem together_any (g : Nat) (s : Nat → Nat) (r : List Nat) (n : Nat) (w : World) (hd : Dig w g s r n) (hT : Turns w) :
    Calls Tryd.prog 46 #[.pointer (some ⟨g, 0, none⟩)] w fun e w' => e = .returned (.int .u64 (tog s n : Nat)) ∧ w = w' := by
  have c0 := hd.c0
  have c1 := hd.c1
  have c2 := hd.c2
  have c3 := hd.c3
  have c36 := hd.c36
  have hw := hd.word
  have HW := Lib.hid hw
  clear hd hw
  by_cases h32 : n < 32
  · have e : IntKind.u64.wrap (((s 2 : Nat) : Int) + 2870177450012600261) = ((tog s n : Nat) : Int) := by
      unfold tog; rw [if_pos h32]; exact add_expr _ 2870177450012600261
    generalize tog s n = z at *
    go_enter Tryd.func46, Tryd.ntmps46
    go_wp2
    go_ret
    exact ⟨rfl, rfl⟩
  · have e : tog s n = mgs s (tg s) := by unfold tog; rw [if_neg h32]
    rw [e]
    clear e
    obtain ⟨_, t0, t1, t2, t3⟩ := hT
    go_enter Tryd.func46, Tryd.ntmps46
    go_wp2
    go_loop [3, 23] (fun h i => ∃ j : Nat, j ≤ 4 ∧ i = .int .i64 j ∧ h = .int .u64 ((tp s j : Nat) : Int)) (fun _ i => 4 - (intOf i).toNat)
    case atStart => exact ⟨0, by omega, rfl, rfl⟩
    case round =>
      obtain ⟨j, hj, rfl, rfl⟩ := hrel
      rcases (show j = 0 ∨ j = 1 ∨ j = 2 ∨ j = 3 ∨ j = 4 from by omega) with h | h | h | h | h
      · subst h
        have hi := idx4_0
        obtain ⟨t, ht⟩ : ∃ t, turnN (s 0) 1 = t := ⟨_, rfl⟩
        have e : IntKind.u64.wrap (((tp s 0 : Nat) : Int) + (t : Int)) = ((tp s 1 : Nat) : Int) := by rw [← ht]; exact add_expr _ _
        have hlt := tp_lt s 0
        have HT := Lib.hid ht
        clear ht
        generalize hq : tp s 0 = q at *
        generalize hz : tp s 1 = z at *
        clear hq
        have HZ := Lib.hid hz
        clear hz
        go_wp2_with fail
        refine (turn_by 1 (by decide) _ _ (HW.out 0) HT.out _).mono ?_
        rintro e w1 ⟨rfl, rfl⟩
        go_wp2
        go_round
        case rel => exact ⟨1, by omega, rfl, by rw [HZ.out]⟩
        case measure => simp [intOf]
      · subst h
        have hi := idx4_1
        obtain ⟨t, ht⟩ : ∃ t, turnN (s 1) 7 = t := ⟨_, rfl⟩
        have e : IntKind.u64.wrap (((tp s 1 : Nat) : Int) + (t : Int)) = ((tp s 2 : Nat) : Int) := by rw [← ht]; exact add_expr _ _
        have hlt := tp_lt s 1
        have HT := Lib.hid ht
        clear ht
        generalize hq : tp s 1 = q at *
        generalize hz : tp s 2 = z at *
        clear hq
        have HZ := Lib.hid hz
        clear hz
        go_wp2_with fail
        refine (turn_by 7 (by decide) _ _ (HW.out 1) HT.out _).mono ?_
        rintro e w1 ⟨rfl, rfl⟩
        go_wp2
        go_round
        case rel => exact ⟨2, by omega, rfl, by rw [HZ.out]⟩
        case measure => simp [intOf]
      · subst h
        have hi := idx4_2
        obtain ⟨t, ht⟩ : ∃ t, turnN (s 2) 12 = t := ⟨_, rfl⟩
        have e : IntKind.u64.wrap (((tp s 2 : Nat) : Int) + (t : Int)) = ((tp s 3 : Nat) : Int) := by rw [← ht]; exact add_expr _ _
        have hlt := tp_lt s 2
        have HT := Lib.hid ht
        clear ht
        generalize hq : tp s 2 = q at *
        generalize hz : tp s 3 = z at *
        clear hq
        have HZ := Lib.hid hz
        clear hz
        go_wp2_with fail
        refine (turn_by 12 (by decide) _ _ (HW.out 2) HT.out _).mono ?_
        rintro e w1 ⟨rfl, rfl⟩
        go_wp2
        go_round
        case rel => exact ⟨3, by omega, rfl, by rw [HZ.out]⟩
        case measure => simp [intOf]
      · subst h
        have hi := idx4_3
        obtain ⟨t, ht⟩ : ∃ t, turnN (s 3) 18 = t := ⟨_, rfl⟩
        have e : IntKind.u64.wrap (((tp s 3 : Nat) : Int) + (t : Int)) = ((tp s 4 : Nat) : Int) := by rw [← ht]; exact add_expr _ _
        have hlt := tp_lt s 3
        have HT := Lib.hid ht
        clear ht
        generalize hq : tp s 3 = q at *
        generalize hz : tp s 4 = z at *
        clear hq
        have HZ := Lib.hid hz
        clear hz
        go_wp2_with fail
        refine (turn_by 18 (by decide) _ _ (HW.out 3) HT.out _).mono ?_
        rintro e w1 ⟨rfl, rfl⟩
        go_wp2
        go_round
        case rel => exact ⟨4, by omega, rfl, by rw [HZ.out]⟩
        case measure => simp [intOf]
      · subst h
        have e4 := tp_four s (HW.out 0)
        have hlt := tp_lt s 4
        rw [e4] at hlt ⊢
        clear e4
        generalize hg : tg s = h0 at *
        have HG := Lib.hid hg
        clear hg
        go_wp2
        go_loop [3, 39] (fun h i => ∃ j : Nat, j ≤ 4 ∧ i = .int .i64 j ∧ h = .int .u64 ((mp s h0 j : Nat) : Int)) (fun _ i => 4 - (intOf i).toNat)
        case atStart => exact ⟨0, by omega, rfl, rfl⟩
        case round =>
          obtain ⟨j, hj, rfl, rfl⟩ := hrel
          have hq := mp_lt s h0 hlt j
          rcases (show j = 0 ∨ j = 1 ∨ j = 2 ∨ j = 3 ∨ j = 4 from by omega) with h | h | h | h | h
          · subst h
            have hi := idx4_0
            obtain ⟨y, e1, e2⟩ := mg_expr (mp s h0 0) (s 0) hq
            rw [show mg (mp s h0 0) (s 0) = mp s h0 1 from rfl] at e2
            generalize mp s h0 0 = q at *
            generalize hz : mp s h0 1 = z at *
            have HZ := Lib.hid hz
            clear hz
            go_wp2_with fail
            refine (round_any _ _ _).mono ?_
            rintro e w1 ⟨rfl, rfl⟩
            go_wp2
            go_round
            case rel => exact ⟨1, by omega, rfl, by rw [HZ.out]⟩
            case measure => simp [intOf]
          · subst h
            have hi := idx4_1
            obtain ⟨y, e1, e2⟩ := mg_expr (mp s h0 1) (s 1) hq
            rw [show mg (mp s h0 1) (s 1) = mp s h0 2 from rfl] at e2
            generalize mp s h0 1 = q at *
            generalize hz : mp s h0 2 = z at *
            have HZ := Lib.hid hz
            clear hz
            go_wp2_with fail
            refine (round_any _ _ _).mono ?_
            rintro e w1 ⟨rfl, rfl⟩
            go_wp2
            go_round
            case rel => exact ⟨2, by omega, rfl, by rw [HZ.out]⟩
            case measure => simp [intOf]
          · subst h
            have hi := idx4_2
            obtain ⟨y, e1, e2⟩ := mg_expr (mp s h0 2) (s 2) hq
            rw [show mg (mp s h0 2) (s 2) = mp s h0 3 from rfl] at e2
            generalize mp s h0 2 = q at *
            generalize hz : mp s h0 3 = z at *
            have HZ := Lib.hid hz
            clear hz
            go_wp2_with fail
            refine (round_any _ _ _).mono ?_
            rintro e w1 ⟨rfl, rfl⟩
            go_wp2
            go_round
            case rel => exact ⟨3, by omega, rfl, by rw [HZ.out]⟩
            case measure => simp [intOf]
          · subst h
            have hi := idx4_3
            obtain ⟨y, e1, e2⟩ := mg_expr (mp s h0 3) (s 3) hq
            rw [show mg (mp s h0 3) (s 3) = mp s h0 4 from rfl] at e2
            generalize mp s h0 3 = q at *
            generalize hz : mp s h0 4 = z at *
            have HZ := Lib.hid hz
            clear hz
            go_wp2_with fail
            refine (round_any _ _ _).mono ?_
            rintro e w1 ⟨rfl, rfl⟩
            go_wp2
            go_round
            case rel => exact ⟨4, by omega, rfl, by rw [HZ.out]⟩
            case measure => simp [intOf]
          · subst h
            have e4 : mp s h0 4 = mgs s (tg s) := by rw [HG.out, mp_four]
            have E4 := Lib.hid e4
            clear e4
            go_wp2
            go_ret
            exact ⟨ret_nat E4.out, rfl⟩
theorem rest_to (g k : Nat) (hk : k < 32) (W : World) : (Instr.sliceAt 58 (.pointer (some ⟨g, 4, none⟩)) none (some (.int .i64 k)) none).run Tryd.prog W = .ok (.slice (some ⟨g, 4, none⟩) k 32) W := by
  have hl : Tryd.prog.arrayLen 58 = 32 := by kernel_rfl
  have hs : (sizeOf (Tryd.prog.elem 58)).run Tryd.prog W = .ok 1 W := by kernel_rfl
  have e : (⟨g, 4, none⟩ : Addr).add 0 = ⟨g, 4, none⟩ := by unfold Addr.add; split <;> simp_all
  rw [run_sliceAt_array_h W 58 _ (by kernel_rfl) .i64 k (by omega) (by rw [hl]; omega), hs, hl]
  simp [slicedAt, e, Result.andThen]
theorem quiet_still {P : Program} {f : FuncId} {args : Array Value} {w : World} {n : Nat} {v : Value}
    (h : Calls P f args (w.drewN n) fun e w' => e = .returned v ∧ w.drewN n = w') : Calls P f args (w.drewN n) fun e w'' => e = .returned v ∧ ∃ m, w'' = w.drewN m :=
  h.mono fun _ _ ⟨he, hm⟩ => ⟨he, n, hm.symm⟩
theorem quiet_still2 {P : Program} {f : FuncId} {args : Array Value} {w : World} {q n : Nat} {v : Value}
    (h : Calls P f args (w.drewN (q + n)) fun e w' => e = .returned v ∧ w.drewN (q + n) = w') : Calls P f args (w.drewN (q + n)) fun e w'' => e = .returned v ∧ ∃ m, w'' = w.drewN (q + m) :=
  h.mono fun _ _ ⟨he, hm⟩ => ⟨he, n, hm.symm⟩
theorem Dig.drewN {w : World} {g : Nat} {s : Nat → Nat} {r : List Nat} {n : Nat} (h : Dig w g s r n) (k : Nat) : Dig (w.drewN k) g s r n := ⟨h.block, h.len, h.small, h.word⟩
theorem Turns.drewN {w : World} (h : Turns w) (k : Nat) : Turns (w.drewN k) := ⟨h.pos, h.t0, h.t1, h.t2, h.t3⟩
theorem Row.drewN {w : World} {a : Option Addr} {n : Nat} {l : List Nat} (h : Row w a n l) (k : Nat) : Row (w.drewN k) a n l := h
theorem together_is {g : Nat} {s : Nat → Nat} {r : List Nat} {n z : Nat} {w : World} (hd : Dig w g s r n) (hT : Turns w) (hz : tog s n = z) :
    Calls Tryd.prog 46 #[.pointer (some ⟨g, 0, none⟩)] w fun e w' => e = .returned (.int .u64 (z : Nat)) ∧ w = w' := by
  rw [← hz]; exact together_any g s r n w hd hT
theorem sum_nil (w : World) : Calls Tryd.prog 32 #[.pointer none] w fun e w' => e = .returned (.int .u64 0) ∧ w = w' := by
  go_enter Tryd.func32, Tryd.ntmps32
  go_wp2
  go_ret
  exact ⟨rfl, rfl⟩
set_option maxHeartbeats 1600000 in
set_option maxRecDepth 100000 in
theorem sum_any (g seed : Nat) (l : List Nat) (w : World) (hh : Holds w g seed l) (hl : bytes l) (hT : Turns w) (hn : l.length ≤ 4611686018427387904) :
    Calls Tryd.prog 32 #[.pointer (some ⟨g, 0, none⟩)] w fun e w' => e = .returned (.int .u64 (xx l seed : Nat)) ∧ Below w.heap.size w w' := by
  obtain ⟨r, hd, hleft⟩ := hh
  have c36 := hd.c36
  obtain ⟨k, hk, hk'⟩ : ∃ k, l.length % 32 = k ∧ k < 32 := ⟨_, rfl, Nat.mod_lt _ (by decide)⟩
  have hk32 : (l.length : Int) % 32 = (k : Int) := by omega
  have hkt : (l.length : Int).tmod 32 = (k : Int) := by rw [Int.tmod_eq_emod_of_nonneg (by omega)]; exact hk32
  have hsl := rest_to g k hk'
  have hcv : IntKind.u64.wrap (l.length : Int) = (l.length : Int) := by rw [IntKind.wrap_u64]; omega
  have he := add_expr (start seed l) l.length
  have hx := xx_eq l seed
  have hto := tog_start seed l
  have hh1 : (start seed l + l.length) % M < 18446744073709551616 := Nat.mod_lt _ (by decide)
  have hh2 := rest_lt (left l).length ((start seed l + l.length) % M) (left l) (Nat.le_refl _) hh1
  generalize hz : start seed l = z at *
  generalize hy : (z + l.length) % M = y at *
  have hrow := hd.row.take (k := k) (by omega)
  rw [hk] at hleft
  rw [hleft] at hrow
  have HROW := Lib.hid hrow
  have HD := Lib.hid hd
  have HT := Lib.hid hT
  have HX := Lib.hid hx
  have HTO := Lib.hid hto
  have HL := Lib.hid (left_bytes hl)
  clear hd hleft hx hto hl hT hrow hz hy
  have hrest : ∀ q, Calls Tryd.prog 47 #[.int .u64 y, .slice (some ⟨g, 4, none⟩) k 32] (w.drewN q) fun e w' => e = .returned (.int .u64 (rest y (left l) : Nat)) ∧ w.drewN q = w' :=
    fun q => addRest_any y _ k 32 (left l) _ hh1 (HROW.out.drewN q) HL.out (by omega) hk' (by omega)
  have HREST := Lib.hid hrest
  clear hrest
  generalize l.length = n at *
  go_enter Tryd.func32, Tryd.ntmps32
  go_wp2
  go_quiet ((go_at_call 46; exact quiet_still (together_is (HD.out.drewN _) (HT.out.drewN _) HTO.out)))
  go_wp2
  go_quiet ((go_at_call 47; exact quiet_still2 (HREST.out _)))
  go_wp2_with fail
  refine (ended_any _ hh2 _).mono ?_
  rintro e w1 ⟨rfl, rfl⟩
  go_wp2
  go_ret
  exact ⟨ret_nat HX.out.symm, ⟨rfl, rfl, rfl, Nat.le_refl _, fun _ _ => rfl⟩⟩
