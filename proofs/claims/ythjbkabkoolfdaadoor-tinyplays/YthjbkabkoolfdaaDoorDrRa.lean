/-
  The document's door (cortadoref12): New and Places by their contracts.
-/
import Derived.Test.YthjbkabkoolfdaaDoorDrNe
import Derived.Deep.RegionLaw
namespace Go.Proofs.YthjbkabkoolfdaaDoor.dr
open Go.RowKit
/-- a bit as the document's door has it. -/
abbrev eb (c : Nat) : Value := .bool (c == 1)
/-- the document's door as a value. -/
abbrev dv (v : Value) (seed : Nat) : Value := .agg #[v, .int .u64 (seed : Int)]
theorem info_o : (Tryd.prog.info? 4).map (fun i => (i.zero, i.size, i.bytes)) = some (some (.bool false), 1, 1) := by kernel_rfl
theorem made_bools (n : Nat) : madeCells #[Value.bool false] n = ((List.replicate n 0).map eb).toArray := by
  refine Array.ext (by simp [madeCells]) fun i h1 h2 => ?_
  simp [madeCells, eb, Nat.mod_one]
theorem falses_q (W : World) (m : Nat) : Q eb (W.alloc (.cells (madeCells #[.bool false] m) 4)) (.slice (some ⟨W.heap.size, 0, none⟩) m m) (List.replicate m 0) :=
  .inr ⟨W.heap.size, 0, m, by simp, by simp, fun i hi => by
    simp at hi
    rw [cell_of (heap_next rfl _), made_bools]
    simp [hi]⟩
/-- what lies in a box of two. -/
theorem put2 {W : World} {b : Nat} {x y : Value} {t : TypeId} (a0 a1 : Value) (h : W.heap[b]? = some (.cells #[x, y] t (0, 0))) : ((W.setCell ⟨b, 0, none⟩ a0).setCell ⟨b, 1, none⟩ a1).heap[b]? = some (.cells #[a0, a1] t (0, 0)) := by
  rw [heap_set (heap_set h 0 a0) 1 a1]
  rfl
theorem refnew_any (c : Int) (seed : Nat) (w : World) : Calls Tryd.prog 22 #[.int .i64 c, .int .u64 (seed : Int)] w fun e B => ∃ a k, e = .returned (dv (.slice a (8 * bdN c) k) seed) ∧ Q eb B (.slice a (8 * bdN c) k) (List.replicate (8 * bdN c) 0) ∧ Below w.heap.size w B ∧ ∀ b, (Value.slice a (8 * bdN c) k).ownBlock = some b → w.heap.size ≤ b := by
  obtain ⟨e8, hp, hl⟩ := bdN_bd c
  obtain ⟨m, hm⟩ : ∃ m : Int, max 1 (min c 4096) = m := ⟨_, rfl⟩
  have hm1 : 1 ≤ m ∧ m ≤ 4096 := by omega
  have P := Lib.hid (wd.refpower_any (8 * m))
  rw [show 8 * m = 8 * min (max c 1) 4096 by omega, ← e8, show 8 * min (max c 1) 4096 = 8 * m by omega] at P
  obtain ⟨n, hn⟩ : ∃ n, 8 * bdN c = n := ⟨_, rfl⟩
  rw [hn] at P ⊢
  have hl : n ≤ 32768 := by omega
  have hmk := fun w => run_make_row' (P := Tryd.prog) 30 4 (.bool false) 1 Tryd.underlying30 info_o rfl .i64 .i64 n (by omega) (by omega) w
  obtain ⟨N, hN⟩ : ∃ N, w.heap.size = N := ⟨_, rfl⟩
  obtain ⟨W1, hW1⟩ : ∃ W1, (w.alloc (.cells #[.slice none 0 0, .int .u64 0] 32)).alloc (.cells (madeCells #[.bool false] n) 4) = W1 := ⟨_, rfl⟩
  have hq : Q eb W1 (.slice (some ⟨N + 1, 0, none⟩) n n) (List.replicate n 0) := by
    have := falses_q (w.alloc (.cells #[.slice none 0 0, .int .u64 0] 32)) n
    rw [hW1] at this
    simpa [hN] using this
  have hr1 : W1.heap[N]? = some (.cells #[.slice none 0 0, .int .u64 0] 32 (0, 0)) := by rw [← hW1]; exact heap_old (heap_next hN.symm _)
  have hb1 : Below N w W1 := by rw [← hW1]; exact ((Below.refl _ _).alloc (by omega) _).alloc (by simp; omega) _
  have c0 : W1.cell? ⟨N, 0, none⟩ = some (.slice none 0 0) := by rw [cell_of hr1]; rfl
  have c1 : W1.cell? ⟨N, 1, none⟩ = some (.int .u64 0) := by rw [cell_of hr1]; rfl
  have f0 := frozen_of hr1 0
  have f1 := frozen_of hr1 1
  have h2 := put2 (.slice (some ⟨N + 1, 0, none⟩) n n) (.int .u64 (seed : Int)) hr1
  have hk : Keep (fun b => b ≠ N) W1 ((W1.setCell ⟨N, 0, none⟩ (.slice (some ⟨N + 1, 0, none⟩) n n)).setCell ⟨N, 1, none⟩ (.int .u64 (seed : Int))) := (Keep.setCell _ _ _ fun h => h rfl).trans (Keep.setCell _ _ _ fun h => h rfl)
  have D : Hid (Q eb ((W1.setCell ⟨N, 0, none⟩ (.slice (some ⟨N + 1, 0, none⟩) n n)).setCell ⟨N, 1, none⟩ (.int .u64 (seed : Int))) (.slice (some ⟨N + 1, 0, none⟩) n n) (List.replicate n 0) ∧ Below N w ((W1.setCell ⟨N, 0, none⟩ (.slice (some ⟨N + 1, 0, none⟩) n n)).setCell ⟨N, 1, none⟩ (.int .u64 (seed : Int)))) :=
    ⟨hq.keep hk fun b hb => by simp [Value.ownBlock] at hb; omega, hb1.trans (hk.below (fun b hb => by show b ≠ N; omega) (by have := heap_lt hr1; omega))⟩
  have b0 : ((W1.setCell ⟨N, 0, none⟩ (.slice (some ⟨N + 1, 0, none⟩) n n)).setCell ⟨N, 1, none⟩ (.int .u64 (seed : Int))).cell? ⟨N, 0, none⟩ = some (.slice (some ⟨N + 1, 0, none⟩) n n) := by rw [cell_of h2]; rfl
  have b1 : ((W1.setCell ⟨N, 0, none⟩ (.slice (some ⟨N + 1, 0, none⟩) n n)).setCell ⟨N, 1, none⟩ (.int .u64 (seed : Int))).cell? ⟨N, 1, none⟩ = some (.int .u64 (seed : Int)) := by rw [cell_of h2]; rfl
  clear hq h2 hk e8
  generalize madeCells #[Value.bool false] n = Z at *
  go_enter Tryd.func22, Tryd.ntmps22
  go_wp2_with (go_at_call 33; refine (P.out _).mono ?_; rintro e w1 ⟨rfl, rfl⟩)
  generalize (W1.setCell ⟨N, 0, none⟩ (.slice (some ⟨N + 1, 0, none⟩) n n)).setCell ⟨N, 1, none⟩ (.int .u64 (seed : Int)) = B3 at *
  refine bodyPost_ret (v := dv (.slice (some ⟨N + 1, 0, none⟩) n n) seed) ?_ rfl ⟨_, _, rfl, D.out.1, hN ▸ D.out.2, fun b hb => by simp [Value.ownBlock] at hb; omega⟩
  simp [results, Tryd.results22, go_sem, b0, b1]
theorem refmix_f (x : Nat) (hx : x < 18446744073709551616) (w : World) : Calls Tryd.prog 53 #[.int .u64 (x : Int)] w fun e w' => e = .returned (.int .u64 (mixF x : Int)) ∧ w = w' := by
  rw [mixF_eq]
  exact mx.refmix_any x hx w
theorem reftwist_f (x : Nat) (hx : x < 18446744073709551616) (w : World) : Calls Tryd.prog 54 #[.int .u64 (x : Int)] w fun e w' => e = .returned (.int .u64 (twF x : Int)) ∧ w = w' := by
  rw [twF_eq]
  exact mx.reftwist_any x hx w
/-- four places as a list. -/
def pl4 (p : Nat → Nat) (k : Nat) : List Nat := (List.range k).map p
theorem pl4_len (p : Nat → Nat) (k : Nat) : (pl4 p k).length = k := by simp [pl4]
theorem pl4_next (p : Nat → Nat) (k : Nat) : pl4 p k ++ [p k] = pl4 p (k + 1) := by simp [pl4, List.range_succ]
theorem pl4_at (p : Nat → Nat) (i k : Nat) (h : i < k) : ct (pl4 p k) i = p i := by simp [pl4, ct, h]
set_option maxHeartbeats 2000000 in
theorem refplaces_any (a : Option Addr) (n k seed : Nat) (hn : 0 < n) (hl : n ≤ 32768) (hs : seed < 18446744073709551616) (x : Nat) (hx : x < 18446744073709551616) (w : World) :
    Calls Tryd.prog 40 #[dv (.slice a n k) seed, .int .u64 (x : Int)] w fun e B => ∃ b c, e = .returned (.slice (some ⟨b, 0, none⟩) 4 c) ∧ Q e64 B (.slice (some ⟨b, 0, none⟩) 4 c) (pl4 (plN (mixF seed) n x) 4) ∧ w.heap.size ≤ b ∧ Below w.heap.size w B := by
  obtain ⟨N, hN⟩ : ∃ N, w.heap.size = N := ⟨_, rfl⟩
  have hml := mixF_lt seed
  have X0 := Lib.hid (refmix_f seed hs)
  generalize mixF seed = t at *
  have hx2 : bits BinOp.xor IntKind.u64 (x : Int) (t : Int) = ((x ^^^ t : Nat) : Int) := u64_xor_nat _ _ hx hml
  have hx3 := xor_lt x t hx hml
  have X1 := Lib.hid (refmix_f _ hx3)
  have X2 := Lib.hid (reftwist_f _ hx3)
  have E2 : Hid (∀ j : Nat, j < 4 → ∃ m1 m2 : Nat, IntKind.u64.wrap ((j : Int) * (odd (twF (x ^^^ t)) : Int)) = (m1 : Int) ∧ IntKind.u64.wrap ((mixF (x ^^^ t) : Int) + (m1 : Int)) = (m2 : Int) ∧ wrap64 ((m2 : Int) % (n : Int)) = (plN t n x j : Int)) := fun j hj => by
    have e : plN t n x j = (mixF (x ^^^ t) + j * odd (twF (x ^^^ t))) % 18446744073709551616 % n := by rw [plN_eq, smN_eq]
    have hz := Nat.mod_lt ((mixF (x ^^^ t) + j * odd (twF (x ^^^ t))) % 18446744073709551616) hn
    refine ⟨j * odd (twF (x ^^^ t)) % 18446744073709551616, (mixF (x ^^^ t) + j * odd (twF (x ^^^ t))) % 18446744073709551616, ?_, ?_, ?_⟩
    · simp only [IntKind.wrap_u64]
      simp
    · simp only [IntKind.wrap_u64]
      generalize j * odd (twF (x ^^^ t)) = z at *
      omega
    · rw [e]
      generalize (mixF (x ^^^ t) + j * odd (twF (x ^^^ t))) % 18446744073709551616 = z at *
      have e1 : (z : Int) % (n : Int) = ((z % n : Nat) : Int) := by simp
      rw [e1]
      unfold wrap64
      omega
  have hol := twF_lt (x ^^^ t)
  have hml2 := mixF_lt (x ^^^ t)
  obtain ⟨W1, hW1⟩ : ∃ W1, w.alloc (.cells #[.slice a n k, .int .u64 (seed : Int)] 32) = W1 := ⟨_, rfl⟩
  have hr1 : W1.heap[N]? = some (.cells #[.slice a n k, .int .u64 (seed : Int)] 32 (0, 0)) := by rw [← hW1]; exact heap_next hN.symm _
  have hb1 : Below N w W1 := by rw [← hW1]; exact (Below.refl _ _).alloc (by omega) _
  have hz1 : W1.heap.size = N + 1 := by rw [← hW1]; simp [hN]
  have c1 : W1.cell? ⟨N, 1, none⟩ = some (.int .u64 (seed : Int)) := by rw [cell_of hr1]; rfl
  have S0 : Hid (Made e64 3 W1 (.slice none 0 0) 0 (pl4 (plN t n x) 0) W1) := ⟨World.ownsRow_nil _ _ _ _, .refl _ _⟩
  have C : Hid (∀ (j : Nat) (v : Value) (W : World), j < 4 → Made e64 3 W1 v j (pl4 (plN t n x) j) W → W.cell? ⟨N, 0, none⟩ = some (.slice a n k) ∧ Hid (∀ ty, ∃ v' w', (Builtin.append_ #[70, 70] ty #[v, .slice (some ⟨W.heap.size, 0, none⟩) 1 1]).run Tryd.prog (W.alloc (.cells #[.int .i64 (plN t n x j : Int)] 3)) = .ok v' w' ∧ ((∃ a c, v' = .slice a (j + 1) c) ∧ Hid (Made e64 3 W1 v' (j + 1) (pl4 (plN t n x) (j + 1)) w')))) := fun j v W hj hW => by
    refine ⟨by rw [cell_of ((hW.2.block N (by omega) (by omega)).trans hr1)]; rfl, fun ty => ?_⟩
    obtain ⟨v', w', hr, h1, h2⟩ := push_i hW.1 hW.size (by omega) (plN t n x j) ty
    exact ⟨v', w', hr, h1, pl4_next (plN t n x) j ▸ h2.out.1, hW.2.trans h2.out.2⟩
  have D : Hid (∀ (v : Value) (W : World), Made e64 3 W1 v 4 (pl4 (plN t n x) 4) W → ∃ b c, v = .slice (some ⟨b, 0, none⟩) 4 c ∧ Q e64 W (.slice (some ⟨b, 0, none⟩) 4 c) (pl4 (plN t n x) 4) ∧ N ≤ b ∧ Below N w W) := fun v W hW => by
    have h1 := hW.1
    rcases h1.2 with ⟨_, h0⟩ | ⟨g, cap, cur, rfl, hb, hrest⟩
    · omega
    · exact ⟨g, cap, rfl, Q.of_own (e := 3) (base := W1.heap.size) (by rw [pl4_len]; exact h1), by omega, hb1.trans (hW.old.mono (by omega))⟩
  have WAYS : (twF (x ^^^ t) % 2 = 0 ∧ odd (twF (x ^^^ t)) = twF (x ^^^ t) + 1 ∧ (twF (x ^^^ t) : Int) % 2 = 0) ∨ (twF (x ^^^ t) % 2 = 1 ∧ odd (twF (x ^^^ t)) = twF (x ^^^ t) ∧ (twF (x ^^^ t) : Int) % 2 = 1) := by
    unfold odd
    rcases Nat.mod_two_eq_zero_or_one (twF (x ^^^ t)) with h | h
    · exact .inl ⟨h, if_pos h, by omega⟩
    · exact .inr ⟨h, if_neg (by omega), by omega⟩
  have WAYS := Lib.hid WAYS
  have HB1 := Lib.hid hb1
  clear hr1 hz1 hb1
  rw [hN]
  generalize twF (x ^^^ t) = tw at *
  generalize odd tw = od at *
  generalize mixF (x ^^^ t) = mi at *
  generalize x ^^^ t = y at *
  generalize plN t n x = p at *
  go_enter Tryd.func40, Tryd.ntmps40
  go_wp2_with fail
  have HN := Lib.hid hN
  clear hN hW1
  refine (X0.out _).mono ?_
  rintro e w1 ⟨rfl, rfl⟩
  go_wp2_with fail
  refine (X1.out _).mono ?_
  rintro e w1 ⟨rfl, rfl⟩
  go_wp2_with fail
  refine (X2.out _).mono ?_
  rintro e w1 ⟨rfl, rfl⟩
  clear X0 X1 X2
  rcases WAYS.out with ⟨-, ho, hz⟩ | ⟨-, ho, hz⟩
  case' inl =>
    have hw : IntKind.u64.wrap ((tw : Int) + 1) = (od : Int) := by simp only [IntKind.wrap_u64]; omega
    have HO := Lib.hid ho
    clear ho WAYS
    go_wp2_with fail
    clear hz hw
  case' inr =>
    subst ho
    clear WAYS
    go_wp2_with fail
    clear hz
  all_goals (
    go_loopw [8, 9] (fun o i wr => ∃ j : Nat, j ≤ 4 ∧ i = .int .i64 j ∧ (∃ a c, o = .slice a j c) ∧ Hid (Made e64 3 W1 o j (pl4 p j) wr)) (fun _ i _ => 4 - (intOf i).toNat)
    case atStart => exact ⟨0, by omega, rfl, ⟨_, _, rfl⟩, S0⟩
    case round =>
      obtain ⟨j, hj, rfl, ⟨a1, c1, rfl⟩, hH⟩ := hrel
      clear S0
      by_cases hlt : j < 4
      · obtain ⟨d0, hN⟩ := C.out j _ wr hlt hH.out
        obtain ⟨m1, m2, e1, e2, e3⟩ := E2.out j hlt
        have h2 : (j : Int) < 4 := by omega
        have HE1 := Lib.hid e1
        clear C E2 D
        generalize p j = q at *
        go_wp2_with (at_builtin; refine app_step _ rfl _ _ 70 rfl _ _ rfl rfl (hN.out _) ?_; rintro v2 w2 ⟨⟨a2, c3, rfl⟩, q2⟩)
        go_roundw
        case rel => exact ⟨j + 1, by omega, by simp, ⟨_, _, rfl⟩, q2⟩
        case measure => simp [intOf]; omega
      · obtain rfl : j = 4 := by omega
        obtain ⟨b, c, hv, hq, hb, hB⟩ := D.out _ _ hH.out
        obtain ⟨rfl, -, rfl⟩ := Value.slice.inj hv
        clear C E2 D
        have HQ := Lib.hid hq
        have HB := Lib.hid hB
        clear hq hB hv
        go_wp2
        go_ret
        exact ⟨_, _, rfl, HQ.out, hb, HB.out⟩)
end Go.Proofs.YthjbkabkoolfdaaDoor.dr
