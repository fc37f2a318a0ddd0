/-
  The document's door (cortadoref12): New and Places by their contracts.
  The document's door (cortadoref12): Has and Full by their contracts.
  The document's Lonely (cortadoref12), by its contract.
  The document's sketch (cortadoref11): Place by its contract.
  Of no function: the rows of the document's sketch as they lie in memory ('Rr'), and as they are made one by one ('Bu').
  The document's sketch (cortadoref11): New by its contract.
  The document's sketch (cortadoref11): Halve by its contract.
  The document's Lonely (cortadoref11), by its contract.
  The document's tiny as a value ('Rv', 'tv'), in a box ('Rb'); what turns one of its parts.
  The document's Add and New by their contracts.
  The document's New and Push by their contracts.
-/
import Derived.Test.YtnhpcjiieagjnaaDoorDrNe
import Derived.Deep.RegionLaw
import Derived.Deep.RegionHeld3
import Derived.BigQuiet
import Derived.Deep.QuietTactic
import Derived.Test.YtnhpcjiieagjnaaDoorSkSk
import Derived.Test.YtnhpcjiieagjnaaDoorSkDo
import Derived.Deep.AppendLies
import Derived.Lib.MinMax
import Derived.RegionTactic
import Derived.Test.YtnhpcjiieagjnaaDoorTp
namespace Go.Proofs.YtnhpcjiieagjnaaDoor.dr
open Go.RowKit
/-- a bit as the document's door has it. -/
abbrev eb (c : Nat) : Value := .bool (c == 1)
/-- the document's door as a value. -/
abbrev dv (v : Value) (seed : Nat) : Value := .agg #[v, .int .u64 (seed : Int)]
theorem info_o : (Tryd.prog.info? 4).map (fun i => (i.zero, i.size, i.bytes)) = some (some (.bool false), 1, 1) := by kernel_rfl
theorem made_bools (n : Nat) : madeCells #[Value.bool false] n = ((List.replicate n 0).map eb).toArray := by
  refine Array.ext (by simp [madeCells]) fun i h1 h2 => ?_
  simp [madeCells, eb, Nat.mod_one]
theorem falses_q (W : World) (m : Nat) : Q eb (W.alloc (.cells (madeCells #[.bool false] m) 4)) (.slice (some ⟨W.heap.size, 0, none⟩) m m) (List.replicate m 0) :=
  .inr ⟨W.heap.size, 0, m, by simp, by simp, fun i hi => by
    simp at hi
    rw [cell_of (heap_next rfl _), made_bools]
    simp [hi]⟩
/-- what lies in a box of two. -/
theorem put2 {W : World} {b : Nat} {x y : Value} {t : TypeId} (a0 a1 : Value) (h : W.heap[b]? = some (.cells #[x, y] t (0, 0))) : ((W.setCell ⟨b, 0, none⟩ a0).setCell ⟨b, 1, none⟩ a1).heap[b]? = some (.cells #[a0, a1] t (0, 0)) := by
  rw [heap_set (heap_set h 0 a0) 1 a1]
  rfl
theorem refnew_any (c : Int) (seed : Nat) (w : World) : Calls Tryd.prog 38 #[.int .i64 c, .int .u64 (seed : Int)] w fun e B => ∃ a k, e = .returned (dv (.slice a (8 * bdN c) k) seed) ∧ Q eb B (.slice a (8 * bdN c) k) (List.replicate (8 * bdN c) 0) ∧ Below w.heap.size w B ∧ ∀ b, (Value.slice a (8 * bdN c) k).ownBlock = some b → w.heap.size ≤ b := by
  obtain ⟨e8, hp, hl⟩ := bdN_bd c
  obtain ⟨m, hm⟩ : ∃ m : Int, max 1 (min c 4096) = m := ⟨_, rfl⟩
  have hm1 : 1 ≤ m ∧ m ≤ 4096 := by omega
  have P := Lib.hid (wd.refpower_any (8 * m))
  rw [show 8 * m = 8 * min (max c 1) 4096 by omega, ← e8, show 8 * min (max c 1) 4096 = 8 * m by omega] at P
  obtain ⟨n, hn⟩ : ∃ n, 8 * bdN c = n := ⟨_, rfl⟩
  rw [hn] at P ⊢
  have hl : n ≤ 32768 := by omega
  have hmk := fun w => run_make_row' (P := Tryd.prog) 38 4 (.bool false) 1 Tryd.underlying38 info_o rfl .i64 .i64 n (by omega) (by omega) w
  obtain ⟨N, hN⟩ : ∃ N, w.heap.size = N := ⟨_, rfl⟩
  obtain ⟨W1, hW1⟩ : ∃ W1, (w.alloc (.cells #[.slice none 0 0, .int .u64 0] 40)).alloc (.cells (madeCells #[.bool false] n) 4) = W1 := ⟨_, rfl⟩
  have hq : Q eb W1 (.slice (some ⟨N + 1, 0, none⟩) n n) (List.replicate n 0) := by
    have := falses_q (w.alloc (.cells #[.slice none 0 0, .int .u64 0] 40)) n
    rw [hW1] at this
    simpa [hN] using this
  have hr1 : W1.heap[N]? = some (.cells #[.slice none 0 0, .int .u64 0] 40 (0, 0)) := by rw [← hW1]; exact heap_old (heap_next hN.symm _)
  have hb1 : Below N w W1 := by rw [← hW1]; exact ((Below.refl _ _).alloc (by omega) _).alloc (by simp; omega) _
  have c0 : W1.cell? ⟨N, 0, none⟩ = some (.slice none 0 0) := by rw [cell_of hr1]; rfl
  have c1 : W1.cell? ⟨N, 1, none⟩ = some (.int .u64 0) := by rw [cell_of hr1]; rfl
  have f0 := frozen_of hr1 0
  have f1 := frozen_of hr1 1
  have h2 := put2 (.slice (some ⟨N + 1, 0, none⟩) n n) (.int .u64 (seed : Int)) hr1
  have hk : Keep (fun b => b ≠ N) W1 ((W1.setCell ⟨N, 0, none⟩ (.slice (some ⟨N + 1, 0, none⟩) n n)).setCell ⟨N, 1, none⟩ (.int .u64 (seed : Int))) := (Keep.setCell _ _ _ fun h => h rfl).trans (Keep.setCell _ _ _ fun h => h rfl)
  have D : Hid (Q eb ((W1.setCell ⟨N, 0, none⟩ (.slice (some ⟨N + 1, 0, none⟩) n n)).setCell ⟨N, 1, none⟩ (.int .u64 (seed : Int))) (.slice (some ⟨N + 1, 0, none⟩) n n) (List.replicate n 0) ∧ Below N w ((W1.setCell ⟨N, 0, none⟩ (.slice (some ⟨N + 1, 0, none⟩) n n)).setCell ⟨N, 1, none⟩ (.int .u64 (seed : Int)))) :=
    ⟨hq.keep hk fun b hb => by simp [Value.ownBlock] at hb; omega, hb1.trans (hk.below (fun b hb => by show b ≠ N; omega) (by have := heap_lt hr1; omega))⟩
  have b0 : ((W1.setCell ⟨N, 0, none⟩ (.slice (some ⟨N + 1, 0, none⟩) n n)).setCell ⟨N, 1, none⟩ (.int .u64 (seed : Int))).cell? ⟨N, 0, none⟩ = some (.slice (some ⟨N + 1, 0, none⟩) n n) := by rw [cell_of h2]; rfl
  have b1 : ((W1.setCell ⟨N, 0, none⟩ (.slice (some ⟨N + 1, 0, none⟩) n n)).setCell ⟨N, 1, none⟩ (.int .u64 (seed : Int))).cell? ⟨N, 1, none⟩ = some (.int .u64 (seed : Int)) := by rw [cell_of h2]; rfl
  clear hq h2 hk e8
  generalize madeCells #[Value.bool false] n = Z at *
  go_enter Tryd.func38, Tryd.ntmps38
  go_wp2_with (go_at_call 64; refine (P.out _).mono ?_; rintro e w1 ⟨rfl, rfl⟩)
  generalize (W1.setCell ⟨N, 0, none⟩ (.slice (some ⟨N + 1, 0, none⟩) n n)).setCell ⟨N, 1, none⟩ (.int .u64 (seed : Int)) = B3 at *
  refine bodyPost_ret (v := dv (.slice (some ⟨N + 1, 0, none⟩) n n) seed) ?_ rfl ⟨_, _, rfl, D.out.1, hN ▸ D.out.2, fun b hb => by simp [Value.ownBlock] at hb; omega⟩
  simp [results, Tryd.results38, go_sem, b0, b1]
theorem refmix_f (x : Nat) (hx : x < 18446744073709551616) (w : World) : Calls Tryd.prog 82 #[.int .u64 (x : Int)] w fun e w' => e = .returned (.int .u64 (mixF x : Int)) ∧ w = w' := by
  rw [mixF_eq]
  exact mx.refmix_any x hx w
theorem reftwist_f (x : Nat) (hx : x < 18446744073709551616) (w : World) : Calls Tryd.prog 83 #[.int .u64 (x : Int)] w fun e w' => e = .returned (.int .u64 (twF x : Int)) ∧ w = w' := by
  rw [twF_eq]
  exact mx.reftwist_any x hx w
/-- four places as a list. -/
def pl4 (p : Nat → Nat) (k : Nat) : List Nat := (List.range k).map p
theorem pl4_len (p : Nat → Nat) (k : Nat) : (pl4 p k).length = k := by simp [pl4]
theorem pl4_next (p : Nat → Nat) (k : Nat) : pl4 p k ++ [p k] = pl4 p (k + 1) := by simp [pl4, List.range_succ]
theorem pl4_at (p : Nat → Nat) (i k : Nat) (h : i < k) : ct (pl4 p k) i = p i := by simp [pl4, ct, h]
set_option maxHeartbeats 2000000 in
theorem refplaces_any (a : Option Addr) (n k seed : Nat) (hn : 0 < n) (hl : n ≤ 32768) (hs : seed < 18446744073709551616) (x : Nat) (hx : x < 18446744073709551616) (w : World) :
    Calls Tryd.prog 63 #[dv (.slice a n k) seed, .int .u64 (x : Int)] w fun e B => ∃ b c, e = .returned (.slice (some ⟨b, 0, none⟩) 4 c) ∧ Q e64 B (.slice (some ⟨b, 0, none⟩) 4 c) (pl4 (plN (mixF seed) n x) 4) ∧ w.heap.size ≤ b ∧ Below w.heap.size w B := by
  obtain ⟨N, hN⟩ : ∃ N, w.heap.size = N := ⟨_, rfl⟩
  have hml := mixF_lt seed
  have X0 := Lib.hid (refmix_f seed hs)
  generalize mixF seed = t at *
  have hx2 : bits BinOp.xor IntKind.u64 (x : Int) (t : Int) = ((x ^^^ t : Nat) : Int) := u64_xor_nat _ _ hx hml
  have hx3 := xor_lt x t hx hml
  have X1 := Lib.hid (refmix_f _ hx3)
  have X2 := Lib.hid (reftwist_f _ hx3)
  have E2 : Hid (∀ j : Nat, j < 4 → ∃ m1 m2 : Nat, IntKind.u64.wrap ((j : Int) * (odd (twF (x ^^^ t)) : Int)) = (m1 : Int) ∧ IntKind.u64.wrap ((mixF (x ^^^ t) : Int) + (m1 : Int)) = (m2 : Int) ∧ wrap64 ((m2 : Int) % (n : Int)) = (plN t n x j : Int)) := fun j hj => by
    have e : plN t n x j = (mixF (x ^^^ t) + j * odd (twF (x ^^^ t))) % 18446744073709551616 % n := by rw [plN_eq, smN_eq]
    have hz := Nat.mod_lt ((mixF (x ^^^ t) + j * odd (twF (x ^^^ t))) % 18446744073709551616) hn
    refine ⟨j * odd (twF (x ^^^ t)) % 18446744073709551616, (mixF (x ^^^ t) + j * odd (twF (x ^^^ t))) % 18446744073709551616, ?_, ?_, ?_⟩
    · simp only [IntKind.wrap_u64]
      simp
    · simp only [IntKind.wrap_u64]
      generalize j * odd (twF (x ^^^ t)) = z at *
      omega
    · rw [e]
      generalize (mixF (x ^^^ t) + j * odd (twF (x ^^^ t))) % 18446744073709551616 = z at *
      have e1 : (z : Int) % (n : Int) = ((z % n : Nat) : Int) := by simp
      rw [e1]
      unfold wrap64
      omega
  have hol := twF_lt (x ^^^ t)
  have hml2 := mixF_lt (x ^^^ t)
  obtain ⟨W1, hW1⟩ : ∃ W1, w.alloc (.cells #[.slice a n k, .int .u64 (seed : Int)] 40) = W1 := ⟨_, rfl⟩
  have hr1 : W1.heap[N]? = some (.cells #[.slice a n k, .int .u64 (seed : Int)] 40 (0, 0)) := by rw [← hW1]; exact heap_next hN.symm _
  have hb1 : Below N w W1 := by rw [← hW1]; exact (Below.refl _ _).alloc (by omega) _
  have hz1 : W1.heap.size = N + 1 := by rw [← hW1]; simp [hN]
  have c1 : W1.cell? ⟨N, 1, none⟩ = some (.int .u64 (seed : Int)) := by rw [cell_of hr1]; rfl
  have S0 : Hid (Made e64 3 W1 (.slice none 0 0) 0 (pl4 (plN t n x) 0) W1) := ⟨World.ownsRow_nil _ _ _ _, .refl _ _⟩
  have C : Hid (∀ (j : Nat) (v : Value) (W : World), j < 4 → Made e64 3 W1 v j (pl4 (plN t n x) j) W → W.cell? ⟨N, 0, none⟩ = some (.slice a n k) ∧ Hid (∀ ty, ∃ v' w', (Builtin.append_ #[63, 63] ty #[v, .slice (some ⟨W.heap.size, 0, none⟩) 1 1]).run Tryd.prog (W.alloc (.cells #[.int .i64 (plN t n x j : Int)] 3)) = .ok v' w' ∧ ((∃ a c, v' = .slice a (j + 1) c) ∧ Hid (Made e64 3 W1 v' (j + 1) (pl4 (plN t n x) (j + 1)) w')))) := fun j v W hj hW => by
    refine ⟨by rw [cell_of ((hW.2.block N (by omega) (by omega)).trans hr1)]; rfl, fun ty => ?_⟩
    obtain ⟨v', w', hr, h1, h2⟩ := push_i hW.1 hW.size (by omega) (plN t n x j) ty
    exact ⟨v', w', hr, h1, pl4_next (plN t n x) j ▸ h2.out.1, hW.2.trans h2.out.2⟩
  have D : Hid (∀ (v : Value) (W : World), Made e64 3 W1 v 4 (pl4 (plN t n x) 4) W → ∃ b c, v = .slice (some ⟨b, 0, none⟩) 4 c ∧ Q e64 W (.slice (some ⟨b, 0, none⟩) 4 c) (pl4 (plN t n x) 4) ∧ N ≤ b ∧ Below N w W) := fun v W hW => by
    have h1 := hW.1
    rcases h1.2 with ⟨_, h0⟩ | ⟨g, cap, cur, rfl, hb, hrest⟩
    · omega
    · exact ⟨g, cap, rfl, Q.of_own (e := 3) (base := W1.heap.size) (by rw [pl4_len]; exact h1), by omega, hb1.trans (hW.old.mono (by omega))⟩
  have WAYS : (twF (x ^^^ t) % 2 = 0 ∧ odd (twF (x ^^^ t)) = twF (x ^^^ t) + 1 ∧ (twF (x ^^^ t) : Int) % 2 = 0) ∨ (twF (x ^^^ t) % 2 = 1 ∧ odd (twF (x ^^^ t)) = twF (x ^^^ t) ∧ (twF (x ^^^ t) : Int) % 2 = 1) := by
    unfold odd
    rcases Nat.mod_two_eq_zero_or_one (twF (x ^^^ t)) with h | h
    · exact .inl ⟨h, if_pos h, by omega⟩
    · exact .inr ⟨h, if_neg (by omega), by omega⟩
  have WAYS := Lib.hid WAYS
  have HB1 := Lib.hid hb1
  clear hr1 hz1 hb1
  rw [hN]
  generalize twF (x ^^^ t) = tw at *
  generalize odd tw = od at *
  generalize mixF (x ^^^ t) = mi at *
  generalize x ^^^ t = y at *
  generalize plN t n x = p at *
  go_enter Tryd.func63, Tryd.ntmps63
  go_wp2_with fail
  have HN := Lib.hid hN
  clear hN hW1
  refine (X0.out _).mono ?_
  rintro e w1 ⟨rfl, rfl⟩
  go_wp2_with fail
  refine (X1.out _).mono ?_
  rintro e w1 ⟨rfl, rfl⟩
  go_wp2_with fail
  refine (X2.out _).mono ?_
  rintro e w1 ⟨rfl, rfl⟩
  clear X0 X1 X2
  rcases WAYS.out with ⟨-, ho, hz⟩ | ⟨-, ho, hz⟩
  case' inl =>
    have hw : IntKind.u64.wrap ((tw : Int) + 1) = (od : Int) := by simp only [IntKind.wrap_u64]; omega
    have HO := Lib.hid ho
    clear ho WAYS
    go_wp2_with fail
    clear hz hw
  case' inr =>
    subst ho
    clear WAYS
    go_wp2_with fail
    clear hz
  all_goals (
    go_loopw [8, 9] (fun o i wr => ∃ j : Nat, j ≤ 4 ∧ i = .int .i64 j ∧ (∃ a c, o = .slice a j c) ∧ Hid (Made e64 3 W1 o j (pl4 p j) wr)) (fun _ i _ => 4 - (intOf i).toNat)
    case atStart => exact ⟨0, by omega, rfl, ⟨_, _, rfl⟩, S0⟩
    case round =>
      obtain ⟨j, hj, rfl, ⟨a1, c1, rfl⟩, hH⟩ := hrel
      clear S0
      by_cases hlt : j < 4
      · obtain ⟨d0, hN⟩ := C.out j _ wr hlt hH.out
        obtain ⟨m1, m2, e1, e2, e3⟩ := E2.out j hlt
        have h2 : (j : Int) < 4 := by omega
        have HE1 := Lib.hid e1
        clear C E2 D
        generalize p j = q at *
        go_wp2_with (at_builtin; refine app_step _ rfl _ _ 63 rfl _ _ rfl rfl (hN.out _) ?_; rintro v2 w2 ⟨⟨a2, c3, rfl⟩, q2⟩)
        go_roundw
        case rel => exact ⟨j + 1, by omega, by simp, ⟨_, _, rfl⟩, q2⟩
        case measure => simp [intOf]; omega
      · obtain rfl : j = 4 := by omega
        obtain ⟨b, c, hv, hq, hb, hB⟩ := D.out _ _ hH.out
        obtain ⟨rfl, -, rfl⟩ := Value.slice.inj hv
        clear C E2 D
        have HQ := Lib.hid hq
        have HB := Lib.hid hB
        clear hq hB hv
        go_wp2
        go_ret
        exact ⟨_, _, rfl, HQ.out, hb, HB.out⟩)
end Go.Proofs.YtnhpcjiieagjnaaDoor.dr
namespace Go.Proofs.YtnhpcjiieagjnaaDoor.dr
open Go.RowKit
theorem arg_box (w : World) (N : Nat) (hN : w.heap.size = N) (x y : Value) : (w.alloc (.cells #[x, y] 40)).heap[N]? = some (.cells #[x, y] 40 (0, 0)) := heap_next hN.symm _
end Go.Proofs.YtnhpcjiieagjnaaDoor.dr
namespace Go.Proofs.YtnhpcjiieagjnaaDoor.dr
open Go.RowKit
abbrev eu (c : Nat) : Value := .int .u64 (c : Int)
/-- none of the first j places of a key is this place. -/
def farTo (py : Nat → Nat) (q j : Nat) : Bool := (List.range j).all fun r => py r != q
theorem far_zero (py : Nat → Nat) (q : Nat) : farTo py q 0 = true := rfl
theorem far_next (py : Nat → Nat) (q j : Nat) : farTo py q (j + 1) = (farTo py q j && (py j != q)) := by simp [farTo, List.range_succ]
/-- is the key's place i alone, among these keys? -/
noncomputable def aloneIn (t n x : Nat) (l : List Nat) (i : Nat) : Bool := l.all fun y => y == x || farTo (plN t n y) (plN t n x i) 4
/-- has the key a place where none of the others of these keys stands? -/
noncomputable def lonely (t n x : Nat) (l : List Nat) : Bool := (List.range 4).any (aloneIn t n x l)
theorem lonely_some {t n x : Nat} {l : List Nat} (i : Nat) (hi : i < 4) (h : aloneIn t n x l i = true) : lonely t n x l = true := List.any_eq_true.2 ⟨i, List.mem_range.2 hi, h⟩
theorem lonely_none {t n x : Nat} {l : List Nat} (h : ∀ i, i < 4 → aloneIn t n x l i = false) : lonely t n x l = false := by
  unfold lonely
  rw [List.any_eq_false]
  intro i hi
  rw [h i (List.mem_range.1 hi)]
  decide
/-- .. among the first k keys. -/
noncomputable def aloneTo (t n x : Nat) (l : List Nat) (i k : Nat) : Bool := aloneIn t n x (l.take k) i
theorem alone_zero (t n x : Nat) (l : List Nat) (i : Nat) : aloneTo t n x l i 0 = true := by simp [aloneTo, aloneIn]
theorem alone_next (t n x : Nat) (l : List Nat) (i k : Nat) (hk : k < l.length) : aloneTo t n x l i (k + 1) = (aloneTo t n x l i k && (l[k] == x || farTo (plN t n l[k]) (plN t n x i) 4)) := by
  unfold aloneTo aloneIn
  rw [List.take_succ_eq_append_getElem hk, List.all_append]
  simp
theorem alone_all (t n x : Nat) (l : List Nat) (i : Nat) : aloneTo t n x l i l.length = aloneIn t n x l i := by simp [aloneTo]
/-- the argument's box in block N; places in block b. -/
structure Ow (w : World) (N seed : Nat) (v0 : Value) (b : Nat) (p : Nat → Nat) (W : World) : Prop where
  arg : W.heap[N]? = some (.cells #[v0, .int .u64 (seed : Int)] 40 (0, 0))
  own : ∀ i, i < 4 → W.cell? ⟨b, i, none⟩ = some (.int .i64 (p i : Int))
  old : Below N w W
theorem q4 {W : World} {b c : Nat} {p : Nat → Nat} (h : Q e64 W (.slice (some ⟨b, 0, none⟩) 4 c) (pl4 p 4)) : ∀ i, i < 4 → W.cell? ⟨b, i, none⟩ = some (.int .i64 (p i : Int)) := fun i hi => by
  obtain ⟨b', o', c', hv, hc⟩ := h.at_ i (by rw [pl4_len]; exact hi)
  obtain ⟨e1, -, -⟩ := Value.slice.inj hv
  simp only [Option.some.injEq, Addr.mk.injEq, and_true] at e1
  obtain ⟨rfl, rfl⟩ := e1
  rwa [Nat.zero_add, pl4_at p i 4 hi] at hc
namespace Ow
variable {w W B : World} {N seed b : Nat} {v0 : Value} {p : Nat → Nat}
theorem below (h : Ow w N seed v0 b p W) (hb : Below W.heap.size W B) : Ow w N seed v0 b p B :=
  ⟨(hb.block N (heap_lt h.arg)).trans h.arg, fun i hi => (hb.cell (p := ⟨b, i, none⟩) (World.block_lt_of_cell? W ⟨b, i, none⟩ (h.own i hi))).trans (h.own i hi), h.old.trans (hb.mono (Nat.le_of_lt (heap_lt h.arg)))⟩
theorem drewN (h : Ow w N seed v0 b p W) (q : Nat) : Ow w N seed v0 b p (W.drewN q) := h.below ⟨rfl, rfl, rfl, Nat.le_refl _, fun _ _ => rfl⟩
end Ow
set_option maxHeartbeats 4000000 in
theorem lonely_any (n seed x : Nat) (hs : seed < 18446744073709551616) (hx : x < 18446744073709551616) (hp : 0 < n) (hl : n ≤ 32768) (a : Option Addr) (cap : Nat) (w : World) (v : Value) (l : List Nat) (hq : Q eu w v l) (hlow : ∀ y ∈ l, y < 18446744073709551616) (hll : l.length ≤ 100000) :
    Calls Tryd.prog 36 #[dv (.slice a n cap) seed, .int .u64 (x : Int), v] w fun e B => e = .returned (.bool (lonely (mixF seed) n x l)) ∧ Hid (Below w.heap.size w B) := by
  obtain ⟨N, hN⟩ : ∃ N, w.heap.size = N := ⟨_, rfl⟩
  have P : Hid (∀ (W : World) (y : Nat), y < 18446744073709551616 → Calls Tryd.prog 63 #[dv (.slice a n cap) seed, .int .u64 (y : Int)] W fun e B => ∃ b c, e = .returned (.slice (some ⟨b, 0, none⟩) 4 c) ∧ Q e64 B (.slice (some ⟨b, 0, none⟩) 4 c) (pl4 (plN (mixF seed) n y) 4) ∧ W.heap.size ≤ b ∧ Below W.heap.size W B) := fun W y hy => refplaces_any a n cap seed hp hl hs y hy W
  generalize mixF seed = t at *
  -- a key of the list, as it reads now
  have C : Hid (∀ W, Below N w W → ∀ j, j < l.length → ∃ b o c Y, v = .slice (some ⟨b, o, none⟩) l.length c ∧ l[j]? = some Y ∧ W.cell? ⟨b, o + j, none⟩ = some (.int .u64 (Y : Int)) ∧ Y < 18446744073709551616) := fun W hW j hj => by
    obtain ⟨b, o, c, hv, hc⟩ := (hq.below (hN ▸ hW)).at_ j hj
    exact ⟨b, o, c, l[j], hv, by simp [hj], by rw [hc]; simp [ct, hj], hlow _ (List.getElem_mem hj)⟩
  have A : Hid (∀ i j Y, l[j]? = some Y → aloneTo t n x l i (j + 1) = (aloneTo t n x l i j && (Y == x || farTo (plN t n Y) (plN t n x i) 4))) := fun i j Y h => by
    obtain ⟨hj, rfl⟩ := List.getElem?_eq_some_iff.1 h
    exact alone_next t n x l i j hj
  have A0 : Hid (∀ i, aloneTo t n x l i 0 = true) := fun i => alone_zero t n x l i
  have A1 : Hid (∀ i, aloneTo t n x l i l.length = aloneIn t n x l i) := fun i => alone_all t n x l i
  have L1 : Hid (∀ i, i < 4 → aloneIn t n x l i = true → lonely t n x l = true) := fun i hi h => lonely_some i hi h
  have L0 : Hid ((∀ i, i < 4 → aloneIn t n x l i = false) → lonely t n x l = false) := fun h => lonely_none h
  obtain ⟨a1, c1, rfl, -⟩ := hq.slice
  obtain ⟨W1, hW1⟩ : ∃ W1, w.alloc (.cells #[.slice a n cap, .int .u64 (seed : Int)] 40) = W1 := ⟨_, rfl⟩
  have hr1 : W1.heap[N]? = some (.cells #[.slice a n cap, .int .u64 (seed : Int)] 40 (0, 0)) := by rw [← hW1]; exact arg_box w N hN _ _
  have hb1 : Below N w W1 := by rw [← hW1]; exact (Below.refl _ _).alloc (by omega) _
  have c0 : W1.cell? ⟨N, 0, none⟩ = some (.slice a n cap) := by rw [cell_of hr1]; rfl
  have c1' : W1.cell? ⟨N, 1, none⟩ = some (.int .u64 (seed : Int)) := by rw [cell_of hr1]; rfl
  have START : Hid (∀ b c B, Q e64 B (.slice (some ⟨b, 0, none⟩) 4 c) (pl4 (plN t n x) 4) → Below W1.heap.size W1 B → Ow w N seed (.slice a n cap) b (plN t n x) B) := fun b c B h1 h2 => ⟨(h2.block N (heap_lt hr1)).trans hr1, q4 h1, hb1.trans (h2.mono (Nat.le_of_lt (heap_lt hr1)))⟩
  clear hq hlow hr1 hb1
  generalize hlen : l.length = len at *
  generalize lonely t n x l = res at *
  generalize aloneIn t n x l = al at *
  generalize aloneTo t n x l = al2 at *
  have Px := Lib.hid (fun W => P.out W x hx)
  generalize plN t n x = px at *
  rw [hN]
  go_enter Tryd.func36, Tryd.ntmps36
  go_wp2_with fail
  clear hW1
  refine (Px.out _).mono ?_
  rintro e w2 ⟨b0, c2, rfl, hq, -, hb2⟩
  have H0 := Lib.hid (START.out b0 c2 w2 hq hb2)
  clear hq hb2 START c0 c1'
  go_wp2_with fail
  go_loopw [8] (fun i wr => ∃ i' : Nat, i' ≤ 4 ∧ i = .int .i64 i' ∧ Hid ((∀ q, q < i' → al q = false) ∧ Ow w N seed (.slice a n cap) b0 px wr)) (fun i _ => 4 - (intOf i).toNat)
  case atStart => exact ⟨0, by omega, rfl, fun i hi => absurd hi (by omega), H0.out⟩
  case round =>
    obtain ⟨i, hi, rfl, hH⟩ := hrel
    clear H0
    by_cases hlt : i < 4
    · have h1 : (i : Int) < 4 := by omega
      have F : Hid (∀ q, q < i → al q = false) := hH.out.1
      have K : Hid (Ow w N seed (.slice a n cap) b0 px wr) := hH.out.2
      clear hH hi
      go_wp2_with fail
      go_loopw [9, 10] (fun b q wr => ∃ k : Nat, k ≤ len ∧ q = .int .i64 k ∧ b = .bool (al2 i k) ∧ Hid (Ow w N seed (.slice a n cap) b0 px wr)) (fun _ q _ => len - (intOf q).toNat)
      case atStart => exact ⟨0, by omega, rfl, by rw [A0.out], K⟩
      case round =>
        obtain ⟨k, hk, rfl, rfl, hK⟩ := hrel
        clear K
        by_cases hkl : k < len
        · obtain ⟨b, o, c, Y, hv, hY, hc, hYl⟩ := C.out wr hK.out.old k hkl
          obtain ⟨rfl, -, rfl⟩ := Value.slice.inj hv
          have e := Lib.hid (A.out i k Y hY)
          have j1 : (0 : Int) ≤ (k : Int) := by omega
          have j2 : (k : Int) < (len : Int) := by omega
          by_cases hYx : Y = x
          · subst hYx
            have hg : ((Y : Int) == (Y : Int)) = true := by simp
            clear C A P F L1 L0 A0 A1
            go_wp2_with fail
            go_roundw
            case rel => exact ⟨k + 1, by omega, by simp, by rw [e.out]; simp, hK⟩
            case measure => simp [intOf]; omega
          · have hg : ((Y : Int) == (x : Int)) = false := by simp; omega
            have hYn : ¬ (Y : Int) = (x : Int) := by omega
            have e : Hid (al2 i (k + 1) = (al2 i k && farTo (plN t n Y) (px i) 4)) := by
              have e := e.out
              have hb : (Y == x) = false := by simpa using hYx
              rw [hb, Bool.false_or] at e
              exact e
            have K1 : Hid (∀ W, Ow w N seed (.slice a n cap) b0 px W → (W.cell? ⟨N, 0, none⟩ = some (.slice a n cap) ∧ W.cell? ⟨N, 1, none⟩ = some (.int .u64 (seed : Int)) ∧ W.cell? ⟨b, o + k, none⟩ = some (.int .u64 (Y : Int)))) := fun W hW => by
              obtain ⟨b', o', c', Y', hv, hY', hc2, _⟩ := C.out W hW.old k hkl
              obtain ⟨e1, -, -⟩ := Value.slice.inj hv
              simp only [Option.some.injEq, Addr.mk.injEq, and_true] at e1
              obtain ⟨rfl, rfl⟩ := e1
              rw [hY] at hY'
              obtain rfl := Option.some.inj hY'
              exact ⟨by rw [cell_of hW.arg]; rfl, by rw [cell_of hW.arg]; rfl, hc2⟩
            have K2 := Lib.hid (K1.out _ (hK.out.drewN 1))
            have Py : Hid (∀ W, Ow w N seed (.slice a n cap) b0 px W → Calls Tryd.prog 63 #[dv (.slice a n cap) seed, .int .u64 (Y : Int)] W fun e B => ∃ b1 c1, e = .returned (.slice (some ⟨b1, 0, none⟩) 4 c1) ∧ (B.cell? ⟨N, 0, none⟩ = some (.slice a n cap) ∧ B.cell? ⟨N, 1, none⟩ = some (.int .u64 (seed : Int)) ∧ B.cell? ⟨b, o + k, none⟩ = some (.int .u64 (Y : Int))) ∧ Hid (Ow w N seed (.slice a n cap) b0 px B ∧ Ow w N seed (.slice a n cap) b1 (plN t n Y) B)) := fun W hW => by
              refine (P.out W Y hYl).mono fun e B ⟨b1, c1, he, hq, _, hb⟩ => ?_
              have h2 := hW.below hb
              exact ⟨b1, c1, he, K1.out B h2, h2, ⟨h2.arg, q4 hq, h2.old⟩⟩
            have PY := Lib.hid (Py.out _ (hK.out.drewN 1))
            generalize plN t n Y = py at *
            clear C A P F L1 L0 A0 A1 K1 Py hK hYx hY
            go_wp2_with fail
            clear hc
            go_region_held3 (fun W => W.cell? ⟨N, 0, none⟩ = some (.slice a n cap) ∧ W.cell? ⟨N, 1, none⟩ = some (.int .u64 (seed : Int)) ∧ W.cell? ⟨b, o + k, none⟩ = some (.int .u64 (Y : Int))) (first | exact K2.out | assumption) (first
              | (go_at_call 63; refine PY.out.mono ?_; rintro e w9 ⟨b1, c1, rfl, S9, h9⟩))
            clear S9 PY K2
            go_wp2_with fail
            go_loopw [9, 12] (fun b q wr => ∃ j : Nat, j ≤ 4 ∧ q = .int .i64 j ∧ b = .bool (al2 i k && farTo py (px i) j) ∧ Hid (Ow w N seed (.slice a n cap) b0 px wr ∧ Ow w N seed (.slice a n cap) b1 py wr)) (fun _ q _ => 4 - (intOf q).toNat)
            case atStart => exact ⟨0, by omega, rfl, by rw [far_zero, Bool.and_true], h9⟩
            case round =>
              obtain ⟨j, hj, rfl, rfl, hJ⟩ := hrel
              clear h9
              by_cases hjl : j < 4
              · have d0 := hJ.out.1.own i hlt
                have d1 := hJ.out.2.own j hjl
                have g1 : (0 : Int) ≤ (j : Int) := by omega
                have g2 : (j : Int) < 4 := by omega
                have g3 : (0 : Int) ≤ (i : Int) := by omega
                have HW : Hid (∀ q, Ow w N seed (.slice a n cap) b0 px (wr.drewN q) ∧ Ow w N seed (.slice a n cap) b1 py (wr.drewN q)) := fun q => ⟨hJ.out.1.drewN q, hJ.out.2.drewN q⟩
                clear hJ
                generalize px i = q0 at *
                generalize hq1 : py j = q1 at *
                have HQ1 := Lib.hid hq1
                clear hq1
                generalize al2 i k = z at *
                by_cases hpp : q1 = q0
                · subst hpp
                  have hq : ((q1 : Int) == (q1 : Int)) = true := by simp
                  go_wp2_with fail
                  go_quiet (fail)
                  go_wp2
                  go_roundw
                  case rel => exact ⟨j + 1, by omega, by simp, by rw [far_next, HQ1.out]; simp, HW.out _⟩
                  case measure => simp [intOf]; omega
                · have hq : ((q1 : Int) == (q0 : Int)) = false := by simp; omega
                  have hq2 : ¬ (q1 : Int) = (q0 : Int) := by omega
                  have hne : Hid ((q1 != q0) = true) := by show (q1 != q0) = true; simpa using hpp
                  go_wp2_with fail
                  go_quiet (fail)
                  go_wp2
                  go_roundw
                  case rel => exact ⟨j + 1, by omega, by simp, by rw [far_next, HQ1.out, hne.out, Bool.and_true], HW.out _⟩
                  case measure => simp [intOf]; omega
              · obtain rfl : j = 4 := by omega
                rw [← e.out]
                have hJ1 : Hid (Ow w N seed (.slice a n cap) b0 px wr) := hJ.out.1
                clear hJ
                go_wp2
                go_roundw
                case rel => exact ⟨k + 1, by omega, by simp, rfl, hJ1⟩
                case measure => simp [intOf]; omega
        · obtain rfl : k = len := by omega
          have e := A1.out i
          have k0 := hK.out
          cases hal : al i
          · have e2 : al2 i k = false := by rw [e, hal]
            rw [e2]
            clear C A e
            go_wp2
            go_roundw
            case rel => exact ⟨i + 1, by omega, by simp, fun q hq => by
              by_cases h : q = i
              · rw [h, hal]
              · exact F.out q (by omega), k0⟩
            case measure => simp [intOf]; omega
          · have e2 : al2 i k = true := by rw [e, hal]
            rw [e2]
            have hres := L1.out i hlt hal
            clear C A e
            go_wp2
            go_ret
            exact ⟨by rw [hres]; rfl, k0.old⟩
    · obtain rfl : i = 4 := by omega
      go_wp2
      go_ret
      exact ⟨by rw [L0.out hH.out.1]; rfl, hH.out.2.old⟩
end Go.Proofs.YtnhpcjiieagjnaaDoor.dr
namespace Go.Proofs.YtnhpcjiieagjnaaDoor.sk
open Go.RowKit
open nb (Keep Nib ct cell_of frozen_of heap_set heap_set_other heap_old heap_next heap_lt getAt mayAdd addAt)
/-- the document's sketch as a value. -/
abbrev sv (v : Value) (n seed : Nat) : Value := .agg #[v, .int .i64 (n : Int), .int .u64 (seed : Int)]
theorem refplace_out (a : Option Addr) (k cap n seed : Nat) (hash row : Int) (hr : ¬ (0 ≤ row ∧ row < 4)) (w : World) : Calls Tryd.prog 62 #[sv (.slice a k cap) n seed, .int .u64 hash, .int .i64 row] w fun e w' => e = .returned (.int .i64 0) ∧ Below w.heap.size w w' := by
  have hB : Hid (∀ o, Below w.heap.size w (w.alloc o)) := fun o => (Below.refl _ _).alloc (Nat.le_refl _) o
  by_cases h0 : row < 0
  · have hd : decide (row < 0) = true := by simpa using h0
    clear hr
    go_enter Tryd.func62, Tryd.ntmps62
    go_wp2
    go_ret
    exact ⟨rfl, hB.out _⟩
  · have h1 : 3 < row := by omega
    have hd : decide (row < 0) = false := by simpa using h0
    clear hr
    go_enter Tryd.func62, Tryd.ntmps62
    go_wp2
    go_ret
    exact ⟨rfl, hB.out _⟩
theorem refplace_in (a : Option Addr) (k cap n seed x i : Nat) (hn : 0 < n) (hl : n ≤ 4096) (hx : x < 18446744073709551616) (hi : i < 4) (w : World) : Calls Tryd.prog 62 #[sv (.slice a k cap) n seed, .int .u64 (x : Int), .int .i64 (i : Int)] w fun e w' => e = .returned (.int .i64 (plN seed n x i : Int)) ∧ Below w.heap.size w w' := by
  have hd : decide ((i : Int) < 0) = false := by simp
  have hd1 : ¬ (3 : Int) < (i : Int) := by omega
  obtain ⟨a', ha, ha'⟩ : ∃ a : Nat, (seed + i + 1) % 18446744073709551616 = a ∧ IntKind.u64.wrap (IntKind.u64.wrap ((seed : Int) + (i : Int)) + 1) = (a : Int) := ⟨_, rfl, by simp only [IntKind.wrap_u64]; omega⟩
  have hal : a' < 18446744073709551616 := by omega
  have X1 := Lib.hid (refmix_f a' hal)
  have hal2 := mixF_lt a'
  have hx2 : bits BinOp.xor IntKind.u64 (x : Int) (mixF a' : Int) = ((x ^^^ mixF a' : Nat) : Int) := u64_xor_nat _ _ hx hal2
  have hx3 := xor_lt x (mixF a') hx hal2
  have X2 := Lib.hid (refmix_f _ hx3)
  have hm2 := mixF_lt (x ^^^ mixF a')
  have E := Lib.hid (plN_eq seed n x i)
  rw [ha] at E
  have HA := Lib.hid ha
  have hB : Hid (∀ o q, Below w.heap.size w ((w.alloc o).drewN q)) := fun o q => ((Below.refl _ _).alloc (Nat.le_refl _) o).trans ⟨rfl, rfl, rfl, Nat.le_refl _, fun _ _ => rfl⟩
  clear ha
  generalize plN seed n x i = p at *
  generalize x ^^^ mixF a' = y at *
  generalize mixF y = z at *
  generalize mixF a' = m at *
  have hz : wrap64 ((z : Int) % (n : Int)) = (p : Int) := by
    have e1 : (z : Int) % (n : Int) = ((z % n : Nat) : Int) := by simp
    have e2 := Nat.mod_lt z hn
    rw [E.out, e1]
    unfold wrap64
    omega
  clear E
  go_enter Tryd.func62, Tryd.ntmps62
  go_wp2_with fail
  refine (X1.out _).mono ?_
  rintro e w1 ⟨rfl, e1⟩
  subst e1
  go_wp2_with fail
  go_quiet ((go_at_call 82; exact Calls.quiet_of_same (X2.out _)))
  go_wp2
  go_ret
  exact ⟨congrArg (fun t => Ending.returned (Value.int IntKind.i64 t)) hz, hB.out _ _⟩
end Go.Proofs.YtnhpcjiieagjnaaDoor.sk
namespace Go.Proofs.YtnhpcjiieagjnaaDoor.sk
open Go.RowKit
open nb (Keep Nib ct cell_of frozen_of heap_set heap_set_other heap_old heap_next heap_lt getAt mayAdd addAt Q e64 info_parts)
/-- a row of one's own, and what lies at another address. -/
theorem app_row {P : Program} {t e : TypeId} {z : Value} {bytes : Nat} (hinfo : (P.info? e).map (fun i => (i.zero, i.size, i.bytes)) = some (some z, 1, bytes)) (ht : P.underlying t = some (.slice e)) (hz : z.cells.size = 1) (hby : bytes ≤ 24) {W : World} {base : Nat} {v : Value} {n : Nat} {xs ys : List Value} (hown : W.ownsRow base e 1 v n xs)
    (X o c : Nat) (h1 : ∀ u ∈ ys, u.oneCell' = true) (hX : ∀ j u, ys[j]? = some u → W.cell? ⟨X, o + j, none⟩ = some u) (hy : 0 < ys.length) (hn : n + ys.length ≤ 1000000) (hb : base ≤ W.heap.size) (ty : TypeId) :
    ∃ s cap w', (Builtin.append_ #[t, t] ty #[v, .slice (some ⟨X, o, none⟩) ys.length c]).run P W = .ok (.slice (some ⟨s, 0, none⟩) (n + ys.length) cap) w' ∧ w'.ownsRow base e 1 (.slice (some ⟨s, 0, none⟩) (n + ys.length) cap) (n + ys.length) (xs ++ ys) ∧ W.grownBy w' v.ownBlock ∧ (v.ownBlock = some s ∨ s = W.heap.size) := by
  obtain ⟨i, hi, hz0, hz1, hz2⟩ := info_parts hinfo
  have hmax : maxLen = 9223372036854775807 := by decide
  have hbb : (n + ys.length) * bytes ≤ 1000000 * 24 := Nat.mul_le_mul hn hby
  obtain ⟨g, cap, w', hr, h2, h3, h4, _⟩ := run_append_lies (P := P) W t ty base e i z 1 bytes ht hi hz0 hz1 hz2 hz (by decide) v n xs hown ⟨X, o, none⟩ ys.length c ys (by simp) (fun j u hu => by
    rw [show (⟨X, o, none⟩ : Addr).add j = ⟨X, o + j, none⟩ by simp [Addr.add]]
    exact hX j u hu) h1 hy (by omega) (by omega) hb W.heap.size rfl
  exact ⟨g, cap, w', hr, h2, h3, h4⟩
theorem app_one {P : Program} {t e : TypeId} {z : Value} {bytes : Nat} (hinfo : (P.info? e).map (fun i => (i.zero, i.size, i.bytes)) = some (some z, 1, bytes)) (ht : P.underlying t = some (.slice e)) (hz : z.cells.size = 1) (hby : bytes ≤ 24) {W : World} {base : Nat} {v : Value} {n : Nat} {xs : List Value} (hown : W.ownsRow base e 1 v n xs)
    (X : Nat) {x : Value} (h1 : x.oneCell' = true) (hX : W.heap[X]? = some (.cells #[x] e (0, 0))) (hn : n + 1 ≤ 1000000) (hb : base ≤ W.heap.size) (ty : TypeId) :
    ∃ s cap w', (Builtin.append_ #[t, t] ty #[v, .slice (some ⟨X, 0, none⟩) 1 1]).run P W = .ok (.slice (some ⟨s, 0, none⟩) (n + 1) cap) w' ∧ w'.ownsRow base e 1 (.slice (some ⟨s, 0, none⟩) (n + 1) cap) (n + 1) (xs ++ [x]) ∧ W.grownBy w' v.ownBlock ∧ (v.ownBlock = some s ∨ s = W.heap.size) :=
  app_row hinfo ht hz hby hown X 0 1 (ys := [x]) (by simpa using h1) (fun j u hu => by
    rw [cell_of hX, Nat.zero_add]
    simpa using hu) (by simp) (by simpa using hn) hb ty
theorem info_l : (Tryd.prog.info? 63).map (fun i => (i.zero, i.size, i.bytes)) = some (some (.slice none 0 0), 1, 24) := by kernel_rfl
/-- a slice of k lists reads as f 0, f 1, ..; none of its blocks is outside of K. -/
def Rr (K : Nat → Prop) (W : World) (v : Value) (k : Nat) (f : Nat → List Nat) : Prop :=
  ∃ b o cap, ∃ vs : Nat → Value, v = .slice (some ⟨b, o, none⟩) k cap ∧ k ≤ cap ∧ K b ∧ ∀ i, i < k → W.cell? ⟨b, o + i, none⟩ = some (vs i) ∧ Q e64 W (vs i) (f i) ∧ ∀ b', (vs i).ownBlock = some b' → K b'
namespace Rr
variable {K K' : Nat → Prop} {W B : World} {v : Value} {k : Nat} {f : Nat → List Nat}
theorem keep (h : Rr K W v k f) (hk : Keep K W B) : Rr K B v k f := by
  obtain ⟨b, o, cap, vs, hv, hc, hb, hi⟩ := h
  refine ⟨b, o, cap, vs, hv, hc, hb, fun i hk' => ?_⟩
  obtain ⟨h1, h2, h3⟩ := hi i hk'
  exact ⟨(hk.cell (p := ⟨b, o + i, none⟩) (World.block_lt_of_cell? W ⟨b, o + i, none⟩ h1) hb).trans h1, h2.keep hk h3, h3⟩
theorem at_ (h : Rr K W v k f) (i : Nat) (hi : i < k) : ∃ b o cap u, v = .slice (some ⟨b, o, none⟩) k cap ∧ W.cell? ⟨b, o + i, none⟩ = some u ∧ Q e64 W u (f i) ∧ ∀ b', u.ownBlock = some b' → K b' := by
  obtain ⟨b, o, cap, vs, hv, hc, hb, hi'⟩ := h
  obtain ⟨h1, h2, h3⟩ := hi' i hi
  exact ⟨b, o, cap, vs i, hv, h1, h2, h3⟩
theorem mono (h : Rr K W v k f) (hK : ∀ b, K b → K' b) : Rr K' W v k f := by
  obtain ⟨b, o, cap, vs, hv, hc, hb, hi⟩ := h
  exact ⟨b, o, cap, vs, hv, hc, hK b hb, fun i hik => ⟨(hi i hik).1, (hi i hik).2.1, fun b' hb' => hK b' ((hi i hik).2.2 b' hb')⟩⟩
theorem slice (h : Rr K W v k f) : ∃ a cap, v = .slice a k cap := by
  obtain ⟨b, o, cap, vs, hv, _⟩ := h
  exact ⟨_, _, hv⟩
theorem congr {f' : Nat → List Nat} (h : Rr K W v k f) (e : ∀ i, i < k → f' i = f i) : Rr K W v k f' := by
  obtain ⟨b, o, cap, vs, hv, hc, hb, hi⟩ := h
  exact ⟨b, o, cap, vs, hv, hc, hb, fun i hk => by rw [e i hk]; exact hi i hk⟩
end Rr
/-- k rows of a new sketch are made: its box in block X. -/
structure Bu (W1 : World) (K : Nat → Prop) (X n seed k : Nat) (f : Nat → List Nat) (v : Value) (W : World) : Prop where
  old : Keep (fun b => b < X) W1 W
  head : W.heap[X]? = some (.cells #[v, .int .i64 (n : Int), .int .u64 (seed : Int)] 37 (0, 0))
  made : ∃ vs : Nat → Value, W.ownsRow (X + 1) 63 1 v k ((List.range k).map vs) ∧ ∀ i, i < k → Q e64 W (vs i) (f i) ∧ ∀ b, (vs i).ownBlock = some b → v.ownBlock ≠ some b ∧ b < W.heap.size ∧ b ≠ X ∧ (b < X → K b)
namespace Bu
variable {W1 W B : World} {K : Nat → Prop} {X n seed k : Nat} {f : Nat → List Nat} {v u : Value}
theorem start (hh : W1.heap[X]? = some (.cells #[.slice none 0 0, .int .i64 (n : Int), .int .u64 (seed : Int)] 37 (0, 0))) : Bu W1 K X n seed 0 f (.slice none 0 0) W1 :=
  ⟨.refl _ _, hh, fun _ => undef, World.ownsRow_nil _ _ _ _, fun i hi => absurd hi (by omega)⟩
theorem lt (h : Bu W1 K X n seed k f v W) : X < W.heap.size := heap_lt h.head
theorem keep {K' : Nat → Prop} (h : Bu W1 K X n seed k f v W) (hb : Keep K' W B) (hK : ∀ k, k < W.heap.size → K' k) : Bu W1 K X n seed k f v B := by
  obtain ⟨vs, ho, hi⟩ := h.made
  have hl : ∀ k, v.ownBlock = some k → k < W.heap.size := fun k hk => (World.ownsRow.lt ho k hk).2
  refine ⟨h.old.trans (hb.mono fun i hi _ => hK i hi), hb.heap h.head (hK _ h.lt), vs, hb.own ho fun k hk => hK k (hl k hk), fun i hik => ?_⟩
  obtain ⟨h1, h2⟩ := hi i hik
  exact ⟨h1.keep hb fun b hb' => hK b (h2 b hb').2.1, fun b hb' => ⟨(h2 b hb').1, Nat.lt_of_lt_of_le (h2 b hb').2.1 hb.size, (h2 b hb').2.2⟩⟩
theorem below (h : Bu W1 K X n seed k f v W) (hb : Below W.heap.size W B) : Bu W1 K X n seed k f v B := h.keep (K' := (· < W.heap.size)) (.of_below hb fun _ h => h) fun _ h => h
theorem drew (h : Bu W1 K X n seed k f v W) : Bu W1 K X n seed k f v W.drew := h.keep (K' := fun _ => True) (.drew _ _) fun _ _ => trivial
theorem c0 (h : Bu W1 K X n seed k f v W) : W.cell? ⟨X, 0, none⟩ = some v := by rw [cell_of h.head]; rfl
/-- one row more. -/
theorem push (h : Bu W1 K X n seed k f v W) (hq : Q e64 W u (f k)) (hub : ∀ b, u.ownBlock = some b → v.ownBlock ≠ some b ∧ b < W.heap.size ∧ b ≠ X ∧ (b < X → K b)) (hk : k ≤ 1000) (ty : TypeId) :
    ∃ v' w', (Builtin.append_ #[35, 35] ty #[v, .slice (some ⟨W.heap.size, 0, none⟩) 1 1]).run Tryd.prog (W.alloc (.cells #[u] 63)) = .ok v' w' ∧ ((∃ s c, v' = .slice (some ⟨s, 0, none⟩) (k + 1) c) ∧ w'.cell? ⟨X, 0, none⟩ = some v ∧ w'.frozen? ⟨X, 0, none⟩ = false ∧ Hid (Bu W1 K X n seed (k + 1) f v' (w'.setCell ⟨X, 0, none⟩ v'))) := by
  obtain ⟨vs, ho, hi⟩ := h.made
  obtain ⟨a, c, rfl, _⟩ := hq.slice
  have hX := h.lt
  obtain ⟨s, cap, w', hr, ho', hgr, hat⟩ := app_one info_l Tryd.underlying35 (by rfl) (by decide) (ho.alloc (.cells #[.slice a (f k).length c] 63)) W.heap.size (x := .slice a (f k).length c) rfl (heap_next rfl _) (by omega) (by simp; omega) ty
  have hsz : (W.alloc (.cells #[.slice a (f k).length c] 63)).heap.size = W.heap.size + 1 := by simp
  rw [hsz] at hat
  have hvX : v.ownBlock ≠ some X := fun e => by have := (World.ownsRow.lt ho X e).1; omega
  have hk1 : Keep (fun b => v.ownBlock ≠ some b) W w' := (Keep.alloc _ _ _).trans (Keep.grown hgr fun b e h => h e)
  have hh := hk1.heap h.head hvX
  have hsX : s ≠ X := by
    rcases hat with hat | rfl
    · exact fun e => hvX (e ▸ hat)
    · omega
  have hk2 : Keep (fun b => b ≠ X) w' (w'.setCell ⟨X, 0, none⟩ (.slice (some ⟨s, 0, none⟩) (k + 1) cap)) := Keep.setCell _ _ _ fun h => h rfl
  have hk3 : Keep (fun b => v.ownBlock ≠ some b ∧ b ≠ X) W (w'.setCell ⟨X, 0, none⟩ (.slice (some ⟨s, 0, none⟩) (k + 1) cap)) := (hk1.mono fun _ _ h => h.1).trans (hk2.mono fun _ _ h => h.2)
  refine ⟨_, w', hr, ⟨s, cap, rfl⟩, by rw [cell_of hh]; rfl, frozen_of hh 0, ⟨h.old.trans (hk3.mono fun b _ hb => ⟨fun e => by have := (World.ownsRow.lt ho b e).1; omega, by omega⟩), by rw [heap_set hh]; rfl, fun i => if i = k then .slice a (f k).length c else vs i, ?_, fun i hik => ?_⟩⟩
  · have e : (List.range (k + 1)).map (fun i => if i = k then Value.slice a (f k).length c else vs i) = (List.range k).map vs ++ [.slice a (f k).length c] := by
      have e0 : (List.range k).map (fun i => if i = k then Value.slice a (f k).length c else vs i) = (List.range k).map vs := List.map_congr_left fun i hi => if_neg (by have := List.mem_range.1 hi; omega)
      rw [List.range_succ, List.map_append, e0, List.map_cons, List.map_nil, if_pos rfl]
    rw [e]
    exact hk2.own ho' fun b hb => by simp [Value.ownBlock] at hb; subst hb; exact hsX
  · have new : ∀ b, (v.ownBlock ≠ some b ∧ b < W.heap.size ∧ b ≠ X ∧ (b < X → K b)) → (Value.slice (some ⟨s, 0, none⟩) (k + 1) cap).ownBlock ≠ some b ∧ b < (w'.setCell ⟨X, 0, none⟩ (.slice (some ⟨s, 0, none⟩) (k + 1) cap)).heap.size ∧ b ≠ X ∧ (b < X → K b) := fun b ⟨g1, g2, g3, g4⟩ => by
      refine ⟨fun e => ?_, Nat.lt_of_lt_of_le g2 hk3.size, g3, g4⟩
      simp [Value.ownBlock] at e
      subst e
      rcases hat with hat | rfl
      · exact g1 hat
      · omega
    dsimp only
    by_cases e : i = k
    · subst e
      rw [if_pos rfl]
      exact ⟨hq.keep hk3 fun b hb => ⟨(hub b hb).1, (hub b hb).2.2.1⟩, fun b hb => new b (hub b hb)⟩
    · rw [if_neg e]
      obtain ⟨h1, h2⟩ := hi i (by omega)
      exact ⟨h1.keep hk3 fun b hb => ⟨(h2 b hb).1, (h2 b hb).2.2.1⟩, fun b hb => new b (h2 b hb)⟩
theorem done (h : Bu W1 K X n seed (k + 1) f v W) (hK : ∀ b, X < b → K b) : Rr K W v (k + 1) f ∧ ∃ s c, v = .slice (some ⟨s, 0, none⟩) (k + 1) c := by
  obtain ⟨vs, ho, hi⟩ := h.made
  rcases ho.2 with ⟨_, h0⟩ | ⟨g, cap, cur, rfl, hb, hgg, hc, rest⟩
  · omega
  · refine ⟨⟨g, 0, cap, vs, rfl, hc, hK g (by omega), fun i hik => ?_⟩, _, _, rfl⟩
    obtain ⟨h1, h2⟩ := hi i hik
    refine ⟨?_, h1, fun b hb' => ?_⟩
    · have := ho.cells (g := g) rfl i (vs i) (by simp [hik])
      rwa [Addr.add_lit] at this
    · obtain ⟨_, _, g3, g4⟩ := h2 b hb'
      by_cases e : b < X
      · exact g4 e
      · exact hK b (by omega)
end Bu
end Go.Proofs.YtnhpcjiieagjnaaDoor.sk
namespace Go.Proofs.YtnhpcjiieagjnaaDoor.sk
open Go.RowKit
open nb (Keep Nib ct cell_of frozen_of heap_set heap_set_other heap_old heap_next heap_lt getAt mayAdd addAt Q e64 info_parts step_ex)
theorem made_ints (n : Nat) : madeCells #[Value.int .i64 0] n = ((List.replicate n 0).map e64).toArray := by
  refine Array.ext (by simp [madeCells]) fun i h1 h2 => ?_
  simp [madeCells, e64, Nat.mod_one]
theorem zeros_q (W : World) (m : Nat) : Q e64 (W.alloc (.cells (madeCells #[.int .i64 0] m) 3)) (.slice (some ⟨W.heap.size, 0, none⟩) m m) (List.replicate m 0) :=
  .inr ⟨W.heap.size, 0, m, by simp, by simp, fun i hi => by
    simp at hi
    rw [cell_of (heap_next rfl _), made_ints]
    simp [hi]⟩
theorem wd_alike (c : Int) : wd.pwN (max 1 (min c 4096)) = wdN c := by
  unfold wdN
  congr 1
  omega
/-- what lies in a box of three. -/
theorem put3 {W : World} {b : Nat} {x y z : Value} (a0 a1 a2 : Value) (h : W.heap[b]? = some (.cells #[x, y, z] 37 (0, 0))) : (((W.setCell ⟨b, 0, none⟩ a0).setCell ⟨b, 1, none⟩ a1).setCell ⟨b, 2, none⟩ a2).heap[b]? = some (.cells #[a0, a1, a2] 37 (0, 0)) := by
  rw [heap_set (heap_set (heap_set h 0 a0) 1 a1) 2 a2]
  rfl
set_option maxHeartbeats 2000000 in
theorem refnew_any (c : Int) (seed : Nat) (w : World) (K : Nat → Prop) (hK : ∀ b, w.heap.size ≤ b → K b) : Calls Tryd.prog 37 #[.int .i64 c, .int .u64 (seed : Int)] w fun e B => ∃ a k, e = .returned (sv (.slice a 4 k) (wdN c) seed) ∧ Rr K B (.slice a 4 k) 4 (fun _ => List.replicate (wdN c) 0) ∧ Below w.heap.size w B := by
  obtain ⟨hp, hl⟩ := wdN_bd c
  obtain ⟨m, hm⟩ : ∃ m : Int, max 1 (min c 4096) = m := ⟨_, rfl⟩
  have P := Lib.hid (wd.refpower_any m)
  have e : wd.pwN m = wdN c := by rw [← hm]; exact wd_alike c
  rw [e] at P
  generalize wdN c = n at *
  obtain ⟨N, hN⟩ : ∃ N, w.heap.size = N := ⟨_, rfl⟩
  have hmk := fun w => run_make_row' (P := Tryd.prog) 63 3 (.int .i64 0) 8 Tryd.underlying63 nb.info_i rfl .i64 .i64 n (by omega) (by omega) w
  clear e
  go_enter Tryd.func37, Tryd.ntmps37
  go_wp2_with (go_at_call 64; refine (P.out _).mono ?_; rintro e w1 ⟨rfl, rfl⟩)
  obtain ⟨W1, hW1⟩ : ∃ W1, (w.alloc (.cells #[.slice none 0 0, .int .i64 0, .int .u64 0] 37)).alloc (.cells #[.slice none 0 0, .int .i64 (n : Int), .int .u64 (seed : Int)] 37) = W1 := ⟨_, rfl⟩
  have hr1 : W1.heap[N]? = some (.cells #[.slice none 0 0, .int .i64 0, .int .u64 0] 37 (0, 0)) := by rw [← hW1]; exact heap_old (heap_next hN.symm _)
  have hx1 : W1.heap[N + 1]? = some (.cells #[.slice none 0 0, .int .i64 (n : Int), .int .u64 (seed : Int)] 37 (0, 0)) := by rw [← hW1]; exact heap_next (by simp [hN]) _
  have hb1 : Below N w W1 := by rw [← hW1]; exact ((Below.refl _ _).alloc (by omega) _).alloc (by simp; omega) _
  have S0 : Hid (Bu W1 (fun b => K b ∧ b ≠ N) (N + 1) n seed 0 (fun _ => List.replicate n 0) (.slice none 0 0) W1) := Bu.start hx1
  have hK' : ∀ b, N ≤ b → K b := hN ▸ hK
  have A : Hid (∀ k v W, k < 4 → Bu W1 (fun b => K b ∧ b ≠ N) (N + 1) n seed k (fun _ => List.replicate n 0) v W → W.cell? ⟨N + 1, 0, none⟩ = some v ∧ Hid (∀ ty, ∃ v' w', (Builtin.append_ #[35, 35] ty #[v, .slice (some ⟨W.heap.size + 1, 0, none⟩) 1 1]).run Tryd.prog ((W.alloc (.cells (madeCells #[.int .i64 0] n) 3)).alloc (.cells #[.slice (some ⟨W.heap.size, 0, none⟩) n n] 63)) = .ok v' w' ∧ ((∃ s c, v' = .slice (some ⟨s, 0, none⟩) (k + 1) c) ∧ w'.cell? ⟨N + 1, 0, none⟩ = some v ∧ w'.frozen? ⟨N + 1, 0, none⟩ = false ∧ Hid (Bu W1 (fun b => K b ∧ b ≠ N) (N + 1) n seed (k + 1) (fun _ => List.replicate n 0) v' (w'.setCell ⟨N + 1, 0, none⟩ v'))))) := fun k v W hk hB => by
    refine ⟨hB.c0, fun ty => ?_⟩
    have hB2 : Bu W1 (fun b => K b ∧ b ≠ N) (N + 1) n seed k (fun _ => List.replicate n 0) v (W.alloc (.cells (madeCells #[.int .i64 0] n) 3)) := hB.keep (K' := fun _ => True) (.alloc _ _ _) fun _ _ => trivial
    have hsz : (W.alloc (.cells (madeCells #[.int .i64 0] n) 3)).heap.size = W.heap.size + 1 := by simp
    rw [← hsz]
    refine hB2.push (zeros_q W n) (fun b hb => ?_) (by omega) ty
    simp [Value.ownBlock] at hb
    subst hb
    have := hB.lt
    obtain ⟨vs, ho, _⟩ := hB.made
    exact ⟨fun e => by have := (World.ownsRow.lt ho _ e).2; omega, by simp, by omega, fun h => by omega⟩
  have D : Hid (∀ v W, Bu W1 (fun b => K b ∧ b ≠ N) (N + 1) n seed 4 (fun _ => List.replicate n 0) v W → ∃ s c, v = .slice (some ⟨s, 0, none⟩) 4 c ∧ W.cell? ⟨N + 1, 0, none⟩ = some v ∧ W.cell? ⟨N + 1, 1, none⟩ = some (.int .i64 (n : Int)) ∧ W.cell? ⟨N + 1, 2, none⟩ = some (.int .u64 (seed : Int)) ∧ W.cell? ⟨N, 0, none⟩ = some (.slice none 0 0) ∧ W.cell? ⟨N, 1, none⟩ = some (.int .i64 0) ∧ W.cell? ⟨N, 2, none⟩ = some (.int .u64 0) ∧ (∀ i, W.frozen? ⟨N, i, none⟩ = false) ∧
      Hid (W.heap[N]? = some (.cells #[.slice none 0 0, .int .i64 0, .int .u64 0] 37 (0, 0)) ∧ Rr (fun b => K b ∧ b ≠ N) W v 4 (fun _ => List.replicate n 0) ∧ Below N w W)) := fun v W hB => by
    obtain ⟨hR, s, c, hv⟩ := hB.done fun b hb => ⟨hK' b (by omega), by omega⟩
    have hh := hB.old.heap hr1 (by omega)
    exact ⟨s, c, hv, hB.c0, by rw [cell_of hB.head]; rfl, by rw [cell_of hB.head]; rfl, by rw [cell_of hh]; rfl, by rw [cell_of hh]; rfl, by rw [cell_of hh]; rfl, fun i => frozen_of hh i, hh, hR, hb1.trans (hB.old.below (fun k hk => by omega) (by have := heap_lt hr1; omega))⟩
  rw [hW1]
  have HK := Lib.hid hK'
  clear hW1 hr1 hx1 hb1 hK hK'
  generalize madeCells #[Value.int .i64 0] n = Z at *
  go_loopw [7] (fun i wr => ∃ (j : Nat) (v : Value), j ≤ 4 ∧ i = .int .i64 j ∧ Hid (Bu W1 (fun b => K b ∧ b ≠ N) (N + 1) n seed j (fun _ => List.replicate n 0) v wr)) (fun i _ => 4 - (intOf i).toNat)
  case atStart => exact ⟨0, _, by omega, rfl, S0⟩
  case round =>
    obtain ⟨j, v, hj, rfl, hH⟩ := hrel
    by_cases hlt : j < 4
    · obtain ⟨c0, A1⟩ := A.out j v wr.drew hlt hH.out.drew
      have c0' : wr.cell? ⟨N + 1, 0, none⟩ = some v := c0
      have c1 : (wr.alloc (.cells Z 3)).cell? ⟨N + 1, 0, none⟩ = some v := nb.cell_past c0'
      have c2 : ((wr.alloc (.cells Z 3)).alloc (.cells #[.slice (some ⟨wr.heap.size, 0, none⟩) n n] 63)).cell? ⟨N + 1, 0, none⟩ = some v := nb.cell_past c1
      clear A D S0
      go_wp2_with fail
      go_region_law (first | (refine step_ex _ (by rfl) _ _ 35 (by rfl) _ _ (by rfl) (by rfl) (A1.out _) ?_; rintro v2 w2 ⟨⟨a2, c3, rfl⟩, d2, f2, q2⟩))
      all_goals (
        go_wp2
        go_roundw
        case rel => exact ⟨j + 1, _, by omega, by simp, q2⟩
        case measure => simp [intOf]; omega)
    · obtain rfl : j = 4 := by omega
      obtain ⟨s, c', rfl, x0, x1, x2, y0, y1, y2, fr, q⟩ := D.out _ _ hH.out
      have f0 := fr 0
      have f1 := fr 1
      have f2 := fr 2
      clear A D S0 fr
      go_wp2
      obtain ⟨hh, hR, hB⟩ := q.out
      have hk : Keep (fun b => b ≠ N) wr (((wr.setCell ⟨N, 0, none⟩ (.slice (some ⟨s, 0, none⟩) 4 c')).setCell ⟨N, 1, none⟩ (.int .i64 (n : Int))).setCell ⟨N, 2, none⟩ (.int .u64 (seed : Int))) := ((Keep.setCell _ _ _ fun h => h rfl).trans (Keep.setCell _ _ _ fun h => h rfl)).trans (Keep.setCell _ _ _ fun h => h rfl)
      have h3 := put3 (.slice (some ⟨s, 0, none⟩) 4 c') (.int .i64 (n : Int)) (.int .u64 (seed : Int)) hh
      generalize ((wr.setCell ⟨N, 0, none⟩ (.slice (some ⟨s, 0, none⟩) 4 c')).setCell ⟨N, 1, none⟩ (.int .i64 (n : Int))).setCell ⟨N, 2, none⟩ (.int .u64 (seed : Int)) = B3 at *
      have b0 : B3.cell? ⟨N, 0, none⟩ = some (.slice (some ⟨s, 0, none⟩) 4 c') := by rw [cell_of h3]; rfl
      have b1 : B3.cell? ⟨N, 1, none⟩ = some (.int .i64 (n : Int)) := by rw [cell_of h3]; rfl
      have b2 : B3.cell? ⟨N, 2, none⟩ = some (.int .u64 (seed : Int)) := by rw [cell_of h3]; rfl
      refine bodyPost_ret (v := sv (.slice (some ⟨s, 0, none⟩) 4 c') n seed) ?_ rfl ⟨_, _, rfl, (hR.keep (hk.mono fun _ _ h => h.2)).mono fun _ h => h.1, ?_⟩
      · simp [results, Tryd.results37, go_sem, b0, b1, b2]
      · rw [hN]; exact hB.trans (hk.below (fun k hk => by omega) (by have := heap_lt hh; omega))
end Go.Proofs.YtnhpcjiieagjnaaDoor.sk
namespace Go.Proofs.YtnhpcjiieagjnaaDoor.sk
open Go.RowKit
open nb (Keep Nib ct cell_of frozen_of heap_set heap_set_other heap_old heap_next heap_lt getAt mayAdd addAt Q e64 info_parts step_ex)
theorem q_lt {enc : Nat → Value} {w : World} {v : Value} {l : List Nat} (h : Q enc w v l) (hl : 0 < l.length) (b : Nat) (hb : v.ownBlock = some b) : b < w.heap.size := by
  rcases h with ⟨_, rfl⟩ | ⟨b', o, cap, rfl, hc, hi⟩
  · simp at hl
  · simp [Value.ownBlock] at hb
    subst hb
    exact World.block_lt_of_cell? w ⟨b', o + 0, none⟩ (hi 0 hl)
/-- what is owed at the return: all four rows are made, the result's box is in block R. -/
structure Fin3 (w : World) (K : Nat → Prop) (R N n seed : Nat) (f : Nat → List Nat) (s c : Nat) (W : World) : Prop where
  head : W.heap[R]? = some (.cells #[.slice none 0 0, .int .i64 0, .int .u64 0] 37 (0, 0))
  rows : Rr (fun b => K b ∧ b ≠ R) W (.slice (some ⟨s, 0, none⟩) 4 c) 4 f
  old : Below N w W
  le : N ≤ R
theorem Fin3.end_ {w W : World} {K : Nat → Prop} {R N n seed : Nat} {f : Nat → List Nat} {s c : Nat} (h : Fin3 w K R N n seed f s c W) {B3 : World} (e : ((W.setCell ⟨R, 0, none⟩ (.slice (some ⟨s, 0, none⟩) 4 c)).setCell ⟨R, 1, none⟩ (.int .i64 (n : Int))).setCell ⟨R, 2, none⟩ (.int .u64 (seed : Int)) = B3) :
    B3.cell? ⟨R, 0, none⟩ = some (.slice (some ⟨s, 0, none⟩) 4 c) ∧ B3.cell? ⟨R, 1, none⟩ = some (.int .i64 (n : Int)) ∧ B3.cell? ⟨R, 2, none⟩ = some (.int .u64 (seed : Int)) ∧ Rr K B3 (.slice (some ⟨s, 0, none⟩) 4 c) 4 f ∧ Below N w B3 := by
  have hk : Keep (fun b => b ≠ R) W (((W.setCell ⟨R, 0, none⟩ (.slice (some ⟨s, 0, none⟩) 4 c)).setCell ⟨R, 1, none⟩ (.int .i64 (n : Int))).setCell ⟨R, 2, none⟩ (.int .u64 (seed : Int))) := ((Keep.setCell _ _ _ fun h => h rfl).trans (Keep.setCell _ _ _ fun h => h rfl)).trans (Keep.setCell _ _ _ fun h => h rfl)
  have h3 := put3 (.slice (some ⟨s, 0, none⟩) 4 c) (.int .i64 (n : Int)) (.int .u64 (seed : Int)) h.head
  have hs := heap_lt h.head
  have hle := h.le
  rw [e] at hk h3
  exact ⟨by rw [cell_of h3]; rfl, by rw [cell_of h3]; rfl, by rw [cell_of h3]; rfl, (h.rows.keep (hk.mono fun _ _ h => h.2)).mono fun _ h => h.1, h.old.trans (hk.below (fun k hk => by omega) (by omega))⟩
theorem Bu.fin {w W1 W : World} {K : Nat → Prop} {X R N n seed : Nat} {f : Nat → List Nat} {v : Value} (h : Bu W1 (fun b => K b ∧ b ≠ R) X n seed 4 f v W) (hr : W1.heap[R]? = some (.cells #[.slice none 0 0, .int .i64 0, .int .u64 0] 37 (0, 0))) (hb : Below N w W1) (hN : N ≤ R) (hR : R < X) (hK : ∀ b, N ≤ b → K b) :
    ∃ s c, v = .slice (some ⟨s, 0, none⟩) 4 c ∧ W.cell? ⟨X, 0, none⟩ = some v ∧ W.cell? ⟨X, 1, none⟩ = some (.int .i64 (n : Int)) ∧ W.cell? ⟨X, 2, none⟩ = some (.int .u64 (seed : Int)) ∧ W.cell? ⟨R, 0, none⟩ = some (.slice none 0 0) ∧ W.cell? ⟨R, 1, none⟩ = some (.int .i64 0) ∧ W.cell? ⟨R, 2, none⟩ = some (.int .u64 0) ∧ (∀ i, W.frozen? ⟨R, i, none⟩ = false) ∧ Hid (Fin3 w K R N n seed f s c W) := by
  obtain ⟨hRr, s, c, rfl⟩ := h.done fun b hb => ⟨hK b (by omega), by omega⟩
  have hh := h.old.heap hr hR
  have hl := heap_lt hr
  exact ⟨s, c, rfl, h.c0, by rw [cell_of h.head]; rfl, by rw [cell_of h.head]; rfl, by rw [cell_of hh]; rfl, by rw [cell_of hh]; rfl, by rw [cell_of hh]; rfl, fun i => frozen_of hh i, hh, hRr, hb.trans (h.old.below (fun k hk => by omega) (by omega)), hN⟩
/-- the world at the loop's start: the argument's box, the result's, the new sketch's. -/
structure Box3 (w : World) (N n seed : Nat) (v0 : Value) (W1 : World) : Prop where
  arg : W1.heap[N]? = some (.cells #[v0, .int .i64 (n : Int), .int .u64 (seed : Int)] 37 (0, 0))
  res : W1.heap[N + 1]? = some (.cells #[.slice none 0 0, .int .i64 0, .int .u64 0] 37 (0, 0))
  new : W1.heap[N + 2]? = some (.cells #[.slice none 0 0, .int .i64 (n : Int), .int .u64 (seed : Int)] 37 (0, 0))
  old : Below N w W1
  size : W1.heap.size = N + 3
theorem box3 (w : World) (N n seed : Nat) (v0 : Value) (hN : w.heap.size = N) : Box3 w N n seed v0 (((w.alloc (.cells #[v0, .int .i64 (n : Int), .int .u64 (seed : Int)] 37)).alloc (.cells #[.slice none 0 0, .int .i64 0, .int .u64 0] 37)).alloc (.cells #[.slice none 0 0, .int .i64 (n : Int), .int .u64 (seed : Int)] 37)) :=
  ⟨heap_old (heap_old (heap_next hN.symm _)), heap_old (heap_next (by simp [hN]) _), heap_next (by simp [hN]) _, (((Below.refl _ _).alloc (by omega) _).alloc (by simp; omega) _).alloc (by simp; omega) _, by simp [hN]⟩
end Go.Proofs.YtnhpcjiieagjnaaDoor.sk
namespace Go.Proofs.YtnhpcjiieagjnaaDoor.sk
open Go.RowKit
open nb (Keep Nib ct cell_of frozen_of heap_set heap_set_other heap_old heap_next heap_lt getAt mayAdd addAt Q e64 info_parts step_ex app_step)
/-- the box of an argument. -/
theorem arg_box (w : World) (N : Nat) (hN : w.heap.size = N) (x y z : Value) : (w.alloc (.cells #[x, y, z] 37)).heap[N]? = some (.cells #[x, y, z] 37 (0, 0)) := heap_next hN.symm _
/-- has a key, in the row i, a place where none of the others stands? -/
noncomputable def aloneIn (seed n x : Nat) (l : List Nat) (i : Nat) : Bool := l.all fun y => y == x || plN seed n y i != plN seed n x i
/-- .. in some row? -/
noncomputable def lonely (seed n x : Nat) (l : List Nat) : Bool := (List.range 4).any fun i => aloneIn seed n x l i
theorem lonely_some {seed n x : Nat} {l : List Nat} (i : Nat) (hi : i < 4) (h : aloneIn seed n x l i = true) : lonely seed n x l = true := List.any_eq_true.2 ⟨i, List.mem_range.2 hi, h⟩
theorem lonely_none {seed n x : Nat} {l : List Nat} (h : ∀ i, i < 4 → aloneIn seed n x l i = false) : lonely seed n x l = false := by
  rw [lonely, List.any_eq_false]
  intro i hi
  rw [h i (List.mem_range.1 hi)]
  exact Bool.noConfusion
abbrev eu (c : Nat) : Value := .int .u64 (c : Int)
/-- is the key alone in the row i, of the first j keys? -/
noncomputable def aloneTo (seed n x : Nat) (l : List Nat) (i j : Nat) : Bool := aloneIn seed n x (l.take j) i
theorem alone_zero (seed n x : Nat) (l : List Nat) (i : Nat) : aloneTo seed n x l i 0 = true := by simp [aloneTo, aloneIn]
theorem alone_next (seed n x : Nat) (l : List Nat) (i j : Nat) (hj : j < l.length) : aloneTo seed n x l i (j + 1) = (aloneTo seed n x l i j && (l[j] == x || plN seed n l[j] i != plN seed n x i)) := by
  unfold aloneTo aloneIn
  rw [List.take_succ_eq_append_getElem hj, List.all_append]
  simp
theorem alone_all (seed n x : Nat) (l : List Nat) (i : Nat) : aloneTo seed n x l i l.length = aloneIn seed n x l i := by simp [aloneTo]
set_option maxHeartbeats 4000000 in
theorem lonely_any (n seed x : Nat) (hx : x < 18446744073709551616) (hp : 0 < n) (hl : n ≤ 4096) (a : Option Addr) (k cap : Nat) (w : World) (v : Value) (l : List Nat) (hq : Q eu w v l) (hlow : ∀ y ∈ l, y < 18446744073709551616) (hll : l.length ≤ 100000) :
    Calls Tryd.prog 35 #[sv (.slice a k cap) n seed, .int .u64 (x : Int), v] w fun e B => e = .returned (.bool (lonely seed n x l)) ∧ Hid (Below w.heap.size w B) := by
  obtain ⟨N, hN⟩ : ∃ N, w.heap.size = N := ⟨_, rfl⟩
  -- a key of the list, as it reads now
  have C : Hid (∀ W, Below w.heap.size w W → ∀ j, j < l.length → ∃ b o c Y, v = .slice (some ⟨b, o, none⟩) l.length c ∧ l[j]? = some Y ∧ W.cell? ⟨b, o + j, none⟩ = some (.int .u64 (Y : Int)) ∧ Y < 18446744073709551616) := fun W hW j hj => by
    obtain ⟨b, o, c, hv, hc⟩ := (hq.below hW).at_ j hj
    exact ⟨b, o, c, l[j], hv, by simp [hj], by rw [hc]; simp [ct, hj], hlow _ (List.getElem_mem hj)⟩
  have A : Hid (∀ i j Y, l[j]? = some Y → aloneTo seed n x l i (j + 1) = (aloneTo seed n x l i j && (Y == x || plN seed n Y i != plN seed n x i))) := fun i j Y h => by
    obtain ⟨hj, rfl⟩ := List.getElem?_eq_some_iff.1 h
    exact alone_next seed n x l i j hj
  have A0 : Hid (∀ i, aloneTo seed n x l i 0 = true) := fun i => alone_zero seed n x l i
  have A1 : Hid (∀ i, aloneTo seed n x l i l.length = aloneIn seed n x l i) := fun i => alone_all seed n x l i
  have L1 : Hid (∀ i, i < 4 → aloneIn seed n x l i = true → lonely seed n x l = true) := fun i hi h => lonely_some i hi h
  have L0 : Hid ((∀ i, i < 4 → aloneIn seed n x l i = false) → lonely seed n x l = false) := fun h => lonely_none h
  obtain ⟨a1, c1, rfl, -⟩ := hq.slice
  have P : Hid (∀ (W : World) (y i : Nat), y < 18446744073709551616 → i < 4 → Below N w W → Calls Tryd.prog 62 #[sv (.slice a k cap) n seed, .int .u64 (y : Int), .int .i64 (i : Int)] W fun e B => e = .returned (.int .i64 (plN seed n y i : Int)) ∧ Hid (Below W.heap.size W B)) := fun W y i hy hi hW => refplace_in a k cap n seed y i hp hl hy hi W
  have hb0 : Hid (Below N w (w.alloc (.cells #[.slice a k cap, .int .i64 (n : Int), .int .u64 (seed : Int)] 37))) := (Below.refl _ _).alloc (by omega) _
  have hh0 := arg_box w N hN (.slice a k cap) (.int .i64 (n : Int)) (.int .u64 (seed : Int))
  clear hq hlow
  generalize hlen : l.length = len at *
  generalize lonely seed n x l = res at *
  generalize aloneIn seed n x l = al at *
  generalize aloneTo seed n x l = al2 at *
  go_enter Tryd.func35, Tryd.ntmps35
  go_wp2_with fail
  rw [hN] at C
  generalize w.alloc (.cells #[.slice a k cap, .int .i64 (n : Int), .int .u64 (seed : Int)] 37) = W0 at *
  have H0 : Hid (W0.heap[N]? = some (.cells #[.slice a k cap, .int .i64 (n : Int), .int .u64 (seed : Int)] 37 (0, 0)) ∧ Below N w W0) := ⟨hh0, hb0.out⟩
  have HN := Lib.hid hN
  clear hh0 hb0 hN
  go_loopw [7] (fun i wr => ∃ j : Nat, j ≤ 4 ∧ i = .int .i64 j ∧ Hid ((∀ i, i < j → al i = false) ∧ wr.heap[N]? = some (.cells #[.slice a k cap, .int .i64 (n : Int), .int .u64 (seed : Int)] 37 (0, 0)) ∧ Below N w wr)) (fun i _ => 4 - (intOf i).toNat)
  case atStart => exact ⟨0, by omega, rfl, fun i hi => absurd hi (by omega), H0.out⟩
  case round =>
    obtain ⟨i, hi, rfl, hH⟩ := hrel
    clear H0
    by_cases hlt : i < 4
    · have h1 : (i : Int) < 4 := by omega
      have F : Hid (∀ j, j < i → al j = false) := hH.out.1
      have K : Hid (wr.heap[N]? = some (.cells #[.slice a k cap, .int .i64 (n : Int), .int .u64 (seed : Int)] 37 (0, 0)) ∧ Below N w wr) := hH.out.2
      clear hH hi
      go_wp2_with fail
      go_loopw [8, 9] (fun b q wr => ∃ j : Nat, j ≤ len ∧ q = .int .i64 j ∧ b = .bool (al2 i j) ∧ Hid (wr.heap[N]? = some (.cells #[.slice a k cap, .int .i64 (n : Int), .int .u64 (seed : Int)] 37 (0, 0)) ∧ Below N w wr)) (fun _ q _ => len - (intOf q).toNat)
      case atStart => exact ⟨0, by omega, rfl, by rw [A0.out], K⟩
      case round =>
        obtain ⟨j, hj, rfl, rfl, hK⟩ := hrel
        clear K
        by_cases hjl : j < len
        · obtain ⟨b, o, c, Y, hv, hY, hc, hYl⟩ := C.out wr hK.out.2 j hjl
          obtain ⟨rfl, -, rfl⟩ := Value.slice.inj hv
          have e := Lib.hid (A.out i j Y hY)
          have j1 : (0 : Int) ≤ (j : Int) := by omega
          have j2 : (j : Int) < (len : Int) := by omega
          have hc' : Hid (∀ W, Below wr.heap.size wr W → W.cell? ⟨b, o + j, none⟩ = some (.int .u64 (Y : Int))) := fun W hW => (hW.cell (p := ⟨b, o + j, none⟩) (World.block_lt_of_cell? wr ⟨b, o + j, none⟩ hc)).trans hc
          by_cases hYx : Y = x
          · subst hYx
            have hg : ((Y : Int) != (Y : Int)) = false := by simp
            have x0 : wr.cell? ⟨N, 0, none⟩ = some (.slice a k cap) := by rw [cell_of hK.out.1]; rfl
            have x1 : wr.cell? ⟨N, 1, none⟩ = some (.int .i64 (n : Int)) := by rw [cell_of hK.out.1]; rfl
            have x2 : wr.cell? ⟨N, 2, none⟩ = some (.int .u64 (seed : Int)) := by rw [cell_of hK.out.1]; rfl
            go_wp2_with fail
            go_quiet (fail)
            go_wp2
            go_roundw
            case rel => exact ⟨j + 1, by omega, by simp, by rw [e.out]; simp, hK.out.1, hK.out.2.trans ⟨rfl, rfl, rfl, Nat.le_refl _, fun _ _ => rfl⟩⟩
            case measure => simp [intOf]; omega
          · have hYn : ¬ (Y : Int) = (x : Int) := by omega
            have hg : ((Y : Int) != (x : Int)) = true := by simpa using hYn
            obtain ⟨py, hpy⟩ : ∃ p, plN seed n Y i = p := ⟨_, rfl⟩
            obtain ⟨px, hpx⟩ : ∃ p, plN seed n x i = p := ⟨_, rfl⟩
            rw [hpy, hpx] at e
            have R : Hid (wr.drew.heap[N]? = some (.cells #[.slice a k cap, .int .i64 (n : Int), .int .u64 (seed : Int)] 37 (0, 0)) ∧ Below N w wr.drew) := ⟨hK.out.1, hK.out.2.trans ⟨rfl, rfl, rfl, Nat.le_refl _, fun _ _ => rfl⟩⟩
            have Z : Hid (∀ W, (W.heap[N]? = some (.cells #[.slice a k cap, .int .i64 (n : Int), .int .u64 (seed : Int)] 37 (0, 0)) ∧ Below N w W) → (W.cell? ⟨N, 0, none⟩ = some (.slice a k cap) ∧ W.cell? ⟨N, 1, none⟩ = some (.int .i64 (n : Int)) ∧ W.cell? ⟨N, 2, none⟩ = some (.int .u64 (seed : Int)) ∧ W.cell? ⟨b, o + j, none⟩ = some (.int .u64 (Y : Int)))) := fun W hW => by
              obtain ⟨b', o', c', Y', hv, hY', hc2, _⟩ := C.out W hW.2 j hjl
              obtain ⟨e1, -, -⟩ := Value.slice.inj hv
              simp only [Option.some.injEq, Addr.mk.injEq, and_true] at e1
              obtain ⟨rfl, rfl⟩ := e1
              rw [hY] at hY'
              obtain rfl := Option.some.inj hY'
              exact ⟨by rw [cell_of hW.1]; rfl, by rw [cell_of hW.1]; rfl, by rw [cell_of hW.1]; rfl, hc2⟩
            have K1 := Lib.hid (Z.out _ R.out)
            have Py : Hid (∀ W, (W.heap[N]? = some (.cells #[.slice a k cap, .int .i64 (n : Int), .int .u64 (seed : Int)] 37 (0, 0)) ∧ Below N w W) → Calls Tryd.prog 62 #[sv (.slice a k cap) n seed, .int .u64 (Y : Int), .int .i64 (i : Int)] W fun e B => e = .returned (.int .i64 (py : Int)) ∧ (B.cell? ⟨N, 0, none⟩ = some (.slice a k cap) ∧ B.cell? ⟨N, 1, none⟩ = some (.int .i64 (n : Int)) ∧ B.cell? ⟨N, 2, none⟩ = some (.int .u64 (seed : Int)) ∧ B.cell? ⟨b, o + j, none⟩ = some (.int .u64 (Y : Int))) ∧ Hid (B.heap[N]? = some (.cells #[.slice a k cap, .int .i64 (n : Int), .int .u64 (seed : Int)] 37 (0, 0)) ∧ Below N w B)) := fun W hW => by
              rw [← hpy]
              refine (P.out W Y i hYl hlt hW.2).mono fun e B ⟨he, hb⟩ => ?_
              have hW2 : B.heap[N]? = some (.cells #[.slice a k cap, .int .i64 (n : Int), .int .u64 (seed : Int)] 37 (0, 0)) ∧ Below N w B := ⟨(hb.out.block N (heap_lt hW.1)).trans hW.1, hW.2.trans (hb.out.mono (Nat.le_of_lt (heap_lt hW.1)))⟩
              exact ⟨he, Z.out B hW2, hW2⟩
            have Px : Hid (∀ W, (W.heap[N]? = some (.cells #[.slice a k cap, .int .i64 (n : Int), .int .u64 (seed : Int)] 37 (0, 0)) ∧ Below N w W) → Calls Tryd.prog 62 #[sv (.slice a k cap) n seed, .int .u64 (x : Int), .int .i64 (i : Int)] W fun e B => e = .returned (.int .i64 (px : Int)) ∧ (B.cell? ⟨N, 0, none⟩ = some (.slice a k cap) ∧ B.cell? ⟨N, 1, none⟩ = some (.int .i64 (n : Int)) ∧ B.cell? ⟨N, 2, none⟩ = some (.int .u64 (seed : Int)) ∧ B.cell? ⟨b, o + j, none⟩ = some (.int .u64 (Y : Int))) ∧ Hid (B.heap[N]? = some (.cells #[.slice a k cap, .int .i64 (n : Int), .int .u64 (seed : Int)] 37 (0, 0)) ∧ Below N w B)) := fun W hW => by
              rw [← hpx]
              refine (P.out W x i hx hlt hW.2).mono fun e B ⟨he, hb⟩ => ?_
              have hW2 : B.heap[N]? = some (.cells #[.slice a k cap, .int .i64 (n : Int), .int .u64 (seed : Int)] 37 (0, 0)) ∧ Below N w B := ⟨(hb.out.block N (heap_lt hW.1)).trans hW.1, hW.2.trans (hb.out.mono (Nat.le_of_lt (heap_lt hW.1)))⟩
              exact ⟨he, Z.out B hW2, hW2⟩
            have hne : ¬ Y = x := hYx
            clear hc' hc hK C A Z P hpy hpx F L1 L0 A0 A1
            have ways : py = px ∨ py ≠ px := by omega
            rcases ways with rfl | hpp
            · have hq : ((py : Int) == (py : Int)) = true := by simp
              go_wp2_with fail
              go_region_held3 (fun W => W.cell? ⟨N, 0, none⟩ = some (.slice a k cap) ∧ W.cell? ⟨N, 1, none⟩ = some (.int .i64 (n : Int)) ∧ W.cell? ⟨N, 2, none⟩ = some (.int .u64 (seed : Int)) ∧ W.cell? ⟨b, o + j, none⟩ = some (.int .u64 (Y : Int))) (first | exact K1.out | assumption) (first
                | (go_at_call_of 62 (Value.int IntKind.u64 (x : Int)); refine (Px.out _ h9.out).mono ?_; rintro e w10 ⟨rfl, S10, h10⟩)
                | (go_at_call_of 62 (Value.int IntKind.u64 (Y : Int)); refine (Py.out _ R.out).mono ?_; rintro e w9 ⟨rfl, S9, h9⟩))
              clear S9 S10 h9 Px Py K1 R
              go_wp2
              go_roundw
              case rel => exact ⟨j + 1, by omega, by simp, by rw [e.out]; simp [hne], h10⟩
              case measure => simp [intOf]; omega
            · have hq : ((py : Int) == (px : Int)) = false := by simp; omega
              go_wp2_with fail
              go_region_held3 (fun W => W.cell? ⟨N, 0, none⟩ = some (.slice a k cap) ∧ W.cell? ⟨N, 1, none⟩ = some (.int .i64 (n : Int)) ∧ W.cell? ⟨N, 2, none⟩ = some (.int .u64 (seed : Int)) ∧ W.cell? ⟨b, o + j, none⟩ = some (.int .u64 (Y : Int))) (first | exact K1.out | assumption) (first
                | (go_at_call_of 62 (Value.int IntKind.u64 (x : Int)); refine (Px.out _ h9.out).mono ?_; rintro e w10 ⟨rfl, S10, h10⟩)
                | (go_at_call_of 62 (Value.int IntKind.u64 (Y : Int)); refine (Py.out _ R.out).mono ?_; rintro e w9 ⟨rfl, S9, h9⟩))
              clear S9 S10 h9 Px Py K1 R
              go_wp2
              go_roundw
              case rel => exact ⟨j + 1, by omega, by simp, by rw [e.out]; simp [hne, hpp], h10⟩
              case measure => simp [intOf]; omega
        · obtain rfl : j = len := by omega
          have e := A1.out i
          have k0 := hK.out
          cases hal : al i
          · have e2 : al2 i j = false := by rw [e, hal]
            rw [e2]
            clear C A e
            go_wp2
            go_roundw
            case rel => exact ⟨i + 1, by omega, by simp, fun q hq => by
              by_cases h : q = i
              · rw [h, hal]
              · exact F.out q (by omega), k0⟩
            case measure => simp [intOf]; omega
          · have e2 : al2 i j = true := by rw [e, hal]
            rw [e2]
            have hres := L1.out i hlt hal
            clear C A e
            go_wp2
            go_ret
            exact ⟨by rw [hres]; rfl, by rw [HN.out]; exact k0.2⟩
    · obtain rfl : i = 4 := by omega
      go_wp2
      go_ret
      exact ⟨by rw [L0.out hH.out.1]; rfl, by rw [HN.out]; exact hH.out.2.2⟩
end Go.Proofs.YtnhpcjiieagjnaaDoor.sk
namespace Go.Proofs.YtnhpcjiieagjnaaDoor
open Go.RowKit
open nb (Keep ct cell_of frozen_of heap_set heap_set_other heap_old heap_next heap_lt addAt mayAdd)
/-- the ten cells. -/
abbrev tc (c : Cs) (cnt aged : Int) (v u : Value) : Array Value := #[v, .int .i64 (c.n : Int), .int .u64 (c.seed : Int), u, .int .u64 (c.seed : Int), .int .i64 cnt, .int .i64 (c.lim : Int), .int .i64 aged, .int .i64 0, .int .u64 (c.seed : Int)]
abbrev tv (c : Cs) (cnt aged : Int) (v u : Value) : Value := .agg (tc c cnt aged v u)
/-- no tiny's ten cells. -/
abbrev t0 : Array Value := #[.slice none 0 0, .int .i64 0, .int .u64 0, .slice none 0 0, .int .u64 0, .int .i64 0, .int .i64 0, .int .i64 0, .int .i64 0, .int .u64 0]
/-- what lies behind a document's tiny: the rows v, the bits u, no block outside of K. -/
structure Rv (K : Nat → Prop) (W : World) (c : Cs) (f : Nat → List Nat) (bs : List Nat) (v u : Value) : Prop where
  rows : sk.Rr K W v 4 f
  bits : dr.Q dr.eb W u (dr.ub bs)
  own : ∀ b, u.ownBlock = some b → K b
  len : ∀ i, i < 4 → (f i).length = c.n
  low : ∀ i j, i < 4 → ct (f i) j ≤ 15
  bl : bs.length = c.m
  n0 : 0 < c.n
  n1 : c.n ≤ 4096
  m0 : 0 < c.m
  m1 : c.m ≤ 4096
  sd : c.seed < 18446744073709551616
  hm : dr.bdN (c.lim : Int) = c.m
namespace Rv
variable {K K' : Nat → Prop} {W B : World} {c : Cs} {f f' : Nat → List Nat} {bs bs' : List Nat} {v u v' u' : Value}
theorem keep (h : Rv K W c f bs v u) (hk : Keep K W B) : Rv K B c f bs v u := ⟨h.rows.keep hk, h.bits.keep (toDr hk) h.own, h.own, h.len, h.low, h.bl, h.n0, h.n1, h.m0, h.m1, h.sd, h.hm⟩
theorem below (h : Rv K W c f bs v u) (hb : Below W.heap.size W B) : Rv K B c f bs v u := h.keep (keep_below hb)
theorem mono (h : Rv K W c f bs v u) (hK : ∀ b, K b → K' b) : Rv K' W c f bs v u := ⟨h.rows.mono hK, h.bits, fun b hb => hK b (h.own b hb), h.len, h.low, h.bl, h.n0, h.n1, h.m0, h.m1, h.sd, h.hm⟩
/-- its sketch is anew. -/
theorem setS (h : Rv K W c f bs v u) (hr : sk.Rr K W v' 4 f') (hl : ∀ i, i < 4 → (f' i).length = c.n) (hlow : ∀ i j, i < 4 → ct (f' i) j ≤ 15) : Rv K W c f' bs v' u := ⟨hr, h.bits, h.own, hl, hlow, h.bl, h.n0, h.n1, h.m0, h.m1, h.sd, h.hm⟩
/-- its door is anew. -/
theorem setD (h : Rv K W c f bs v u) (hq : dr.Q dr.eb W u' (dr.ub bs')) (ho : ∀ b, u'.ownBlock = some b → K b) (hl : bs'.length = c.m) : Rv K W c f bs' v u' := ⟨h.rows, hq, ho, h.len, h.low, hl, h.n0, h.n1, h.m0, h.m1, h.sd, h.hm⟩
theorem k22 (h : Rv K W c f bs v u) (hK : ∀ b, W.heap.size ≤ b → K b) : Calls Tryd.prog 38 #[.int .i64 (c.lim : Int), .int .u64 (c.seed : Int)] W fun e B => ∃ u', e = .returned (dr.dv u' c.seed) ∧ Rv K B c f (zerosD c) v u' ∧ Below W.heap.size W B := by
  have := dr.refnew_any (c.lim : Int) c.seed W
  rw [h.hm] at this
  refine this.mono fun e B ⟨a, k, he, hq, hb, ho⟩ => ⟨_, he, (h.below hb).setD ?_ (fun b hb' => hK b (ho b hb')) (List.length_replicate ..), hb⟩
  unfold zerosD
  rw [dr.ub_zeros]
  exact hq
end Rv
end Go.Proofs.YtnhpcjiieagjnaaDoor
namespace Go.Proofs.YtnhpcjiieagjnaaDoor
open Go.RowKit
open nb (Keep ct cell_of frozen_of heap_set heap_set_other heap_old heap_next heap_lt addAt mayAdd)
/-- what lies behind it lies already. -/
theorem Rv.strong {K : Nat → Prop} {W : World} {c : Cs} {f : Nat → List Nat} {bs : List Nat} {v u : Value} (h : Rv K W c f bs v u) : Rv (fun b => K b ∧ b < W.heap.size) W c f bs v u := by
  refine ⟨?_, h.bits, fun b hb => ⟨h.own b hb, ?_⟩, h.len, h.low, h.bl, h.n0, h.n1, h.m0, h.m1, h.sd, h.hm⟩
  · obtain ⟨b, o, cap, vs, hv, hc, hb, hi⟩ := h.rows
    refine ⟨b, o, cap, vs, hv, hc, ⟨hb, World.block_lt_of_cell? W ⟨b, o + 0, none⟩ (hi 0 (by decide)).1⟩, fun i hik => ?_⟩
    obtain ⟨h1, h2, h3⟩ := hi i hik
    exact ⟨h1, h2, fun b' hb' => ⟨h3 b' hb', sk.q_lt h2 (by rw [h.len i hik]; exact h.n0) b' hb'⟩⟩
  · rcases h.bits with ⟨_, h0⟩ | ⟨b2, o2, c2, hv, hc, hi⟩
    · have := congrArg List.length h0
      rw [dr.ub_len, h.bl] at this
      have := h.m0
      simp at *
      omega
    · rw [hv] at hb
      simp [Value.ownBlock] at hb
      subst hb
      exact World.block_lt_of_cell? W ⟨b2, o2 + 0, none⟩ (hi 0 (by rw [dr.ub_len, h.bl]; have := h.m0; omega))
theorem Rv.vs {K : Nat → Prop} {W : World} {c : Cs} {f : Nat → List Nat} {bs : List Nat} {v u : Value} (h : Rv K W c f bs v u) : ∃ a k, v = .slice a 4 k := h.rows.slice
theorem Rv.us {K : Nat → Prop} {W : World} {c : Cs} {f : Nat → List Nat} {bs : List Nat} {v u : Value} (h : Rv K W c f bs v u) : ∃ a k, u = .slice a (8 * c.m) k := by
  obtain ⟨a, k, hv, _⟩ := h.bits.slice
  rw [dr.ub_len, h.bl] at hv
  exact ⟨a, k, hv⟩
/-- ten cells are laid into a box. -/
def set10 (W : World) (b : Nat) (x0 x1 x2 x3 x4 x5 x6 x7 x8 x9 : Value) : World :=
  (((((((((W.setCell ⟨b, 0, none⟩ x0).setCell ⟨b, 1, none⟩ x1).setCell ⟨b, 2, none⟩ x2).setCell ⟨b, 3, none⟩ x3).setCell ⟨b, 4, none⟩ x4).setCell ⟨b, 5, none⟩ x5).setCell ⟨b, 6, none⟩ x6).setCell ⟨b, 7, none⟩ x7).setCell ⟨b, 8, none⟩ x8).setCell ⟨b, 9, none⟩ x9
theorem put10 {W : World} {b : Nat} {y0 y1 y2 y3 y4 y5 y6 y7 y8 y9 : Value} {t : TypeId} (x0 x1 x2 x3 x4 x5 x6 x7 x8 x9 : Value) (h : W.heap[b]? = some (.cells #[y0, y1, y2, y3, y4, y5, y6, y7, y8, y9] t (0, 0))) : (set10 W b x0 x1 x2 x3 x4 x5 x6 x7 x8 x9).heap[b]? = some (.cells #[x0, x1, x2, x3, x4, x5, x6, x7, x8, x9] t (0, 0)) := by
  unfold set10
  have h0 : (W.setCell ⟨b, 0, none⟩ x0).heap[b]? = some (.cells #[x0, y1, y2, y3, y4, y5, y6, y7, y8, y9] t (0, 0)) := (heap_set h 0 x0).trans rfl
  have h1 : ((W.setCell ⟨b, 0, none⟩ x0).setCell ⟨b, 1, none⟩ x1).heap[b]? = some (.cells #[x0, x1, y2, y3, y4, y5, y6, y7, y8, y9] t (0, 0)) := (heap_set h0 1 x1).trans rfl
  have h2 : (((W.setCell ⟨b, 0, none⟩ x0).setCell ⟨b, 1, none⟩ x1).setCell ⟨b, 2, none⟩ x2).heap[b]? = some (.cells #[x0, x1, x2, y3, y4, y5, y6, y7, y8, y9] t (0, 0)) := (heap_set h1 2 x2).trans rfl
  have h3 : ((((W.setCell ⟨b, 0, none⟩ x0).setCell ⟨b, 1, none⟩ x1).setCell ⟨b, 2, none⟩ x2).setCell ⟨b, 3, none⟩ x3).heap[b]? = some (.cells #[x0, x1, x2, x3, y4, y5, y6, y7, y8, y9] t (0, 0)) := (heap_set h2 3 x3).trans rfl
  have h4 : (((((W.setCell ⟨b, 0, none⟩ x0).setCell ⟨b, 1, none⟩ x1).setCell ⟨b, 2, none⟩ x2).setCell ⟨b, 3, none⟩ x3).setCell ⟨b, 4, none⟩ x4).heap[b]? = some (.cells #[x0, x1, x2, x3, x4, y5, y6, y7, y8, y9] t (0, 0)) := (heap_set h3 4 x4).trans rfl
  have h5 : ((((((W.setCell ⟨b, 0, none⟩ x0).setCell ⟨b, 1, none⟩ x1).setCell ⟨b, 2, none⟩ x2).setCell ⟨b, 3, none⟩ x3).setCell ⟨b, 4, none⟩ x4).setCell ⟨b, 5, none⟩ x5).heap[b]? = some (.cells #[x0, x1, x2, x3, x4, x5, y6, y7, y8, y9] t (0, 0)) := (heap_set h4 5 x5).trans rfl
  have h6 : (((((((W.setCell ⟨b, 0, none⟩ x0).setCell ⟨b, 1, none⟩ x1).setCell ⟨b, 2, none⟩ x2).setCell ⟨b, 3, none⟩ x3).setCell ⟨b, 4, none⟩ x4).setCell ⟨b, 5, none⟩ x5).setCell ⟨b, 6, none⟩ x6).heap[b]? = some (.cells #[x0, x1, x2, x3, x4, x5, x6, y7, y8, y9] t (0, 0)) := (heap_set h5 6 x6).trans rfl
  have h7 : ((((((((W.setCell ⟨b, 0, none⟩ x0).setCell ⟨b, 1, none⟩ x1).setCell ⟨b, 2, none⟩ x2).setCell ⟨b, 3, none⟩ x3).setCell ⟨b, 4, none⟩ x4).setCell ⟨b, 5, none⟩ x5).setCell ⟨b, 6, none⟩ x6).setCell ⟨b, 7, none⟩ x7).heap[b]? = some (.cells #[x0, x1, x2, x3, x4, x5, x6, x7, y8, y9] t (0, 0)) := (heap_set h6 7 x7).trans rfl
  have h8 : (((((((((W.setCell ⟨b, 0, none⟩ x0).setCell ⟨b, 1, none⟩ x1).setCell ⟨b, 2, none⟩ x2).setCell ⟨b, 3, none⟩ x3).setCell ⟨b, 4, none⟩ x4).setCell ⟨b, 5, none⟩ x5).setCell ⟨b, 6, none⟩ x6).setCell ⟨b, 7, none⟩ x7).setCell ⟨b, 8, none⟩ x8).heap[b]? = some (.cells #[x0, x1, x2, x3, x4, x5, x6, x7, x8, y9] t (0, 0)) := (heap_set h7 8 x8).trans rfl
  have h9 : ((((((((((W.setCell ⟨b, 0, none⟩ x0).setCell ⟨b, 1, none⟩ x1).setCell ⟨b, 2, none⟩ x2).setCell ⟨b, 3, none⟩ x3).setCell ⟨b, 4, none⟩ x4).setCell ⟨b, 5, none⟩ x5).setCell ⟨b, 6, none⟩ x6).setCell ⟨b, 7, none⟩ x7).setCell ⟨b, 8, none⟩ x8).setCell ⟨b, 9, none⟩ x9).heap[b]? = some (.cells #[x0, x1, x2, x3, x4, x5, x6, x7, x8, x9] t (0, 0)) := (heap_set h8 9 x9).trans rfl
  exact h9
theorem keep10 (W : World) (b : Nat) (x0 x1 x2 x3 x4 x5 x6 x7 x8 x9 : Value) : Keep (fun k => k ≠ b) W (set10 W b x0 x1 x2 x3 x4 x5 x6 x7 x8 x9) :=
  (((((((((Keep.setCell _ _ _ fun h => h rfl).trans (Keep.setCell _ _ _ fun h => h rfl)).trans (Keep.setCell _ _ _ fun h => h rfl)).trans (Keep.setCell _ _ _ fun h => h rfl)).trans (Keep.setCell _ _ _ fun h => h rfl)).trans (Keep.setCell _ _ _ fun h => h rfl)).trans (Keep.setCell _ _ _ fun h => h rfl)).trans (Keep.setCell _ _ _ fun h => h rfl)).trans (Keep.setCell _ _ _ fun h => h rfl)).trans (Keep.setCell _ _ _ fun h => h rfl)
/-- a document's tiny in block N, the result's box behind it. -/
structure Rb (w : World) (K : Nat → Prop) (N : Nat) (c : Cs) (f : Nat → List Nat) (bs : List Nat) (cnt aged : Nat) (v u : Value) (W : World) : Prop where
  box : W.heap[N]? = some (.cells (tc c (cnt : Int) (aged : Int) v u) 42 (0, 0))
  res : W.heap[N + 1]? = some (.cells t0 42 (0, 0))
  rv : Rv (fun b => K b ∧ b ≠ N ∧ b ≠ N + 1) W c f bs v u
  old : Below N w W
namespace Rb
variable {w : World} {K : Nat → Prop} {N : Nat} {c : Cs} {f f' : Nat → List Nat} {bs bs' : List Nat} {cnt aged : Nat} {v u v' u' : Value} {W B : World}
theorem lt (h : Rb w K N c f bs cnt aged v u W) : N + 1 < W.heap.size := heap_lt h.res
theorem past (h : Rb w K N c f bs cnt aged v u W) (hK : ∀ b, N ≤ b → K b) : ∀ b, W.heap.size ≤ b → (K b ∧ b ≠ N ∧ b ≠ N + 1) := fun b hb => by
  have := h.lt
  exact ⟨hK b (by omega), by omega, by omega⟩
theorem below (h : Rb w K N c f bs cnt aged v u W) (hb : Below W.heap.size W B) : Rb w K N c f bs cnt aged v u B := by
  have hl := h.lt
  exact ⟨(hb.block N (by omega)).trans h.box, (hb.block (N + 1) (by omega)).trans h.res, h.rv.below hb, h.old.trans (hb.mono (by omega))⟩
theorem drewN (h : Rb w K N c f bs cnt aged v u W) (q : Nat) : Rb w K N c f bs cnt aged v u (W.drewN q) := h.below ⟨rfl, rfl, rfl, Nat.le_refl _, fun _ _ => rfl⟩
theorem drew (h : Rb w K N c f bs cnt aged v u W) : Rb w K N c f bs cnt aged v u W.drew := h.below ⟨rfl, rfl, rfl, Nat.le_refl _, fun _ _ => rfl⟩
/-- what is stored into the box alone. -/
theorem store (h : Rb w K N c f bs cnt aged v u W) (hk : Keep (fun k => k ≠ N) W B) (cnt' aged' : Nat) (hb : B.heap[N]? = some (.cells (tc c (cnt' : Int) (aged' : Int) v' u') 42 (0, 0))) (hr : Rv (fun b => K b ∧ b ≠ N ∧ b ≠ N + 1) W c f' bs' v' u') : Rb w K N c f' bs' cnt' aged' v' u' B := by
  have hl := h.lt
  exact ⟨hb, hk.heap h.res (by show N + 1 ≠ N; omega), hr.keep (hk.mono fun _ _ h => h.2.1), h.old.trans (hk.below (fun k hk => by show k ≠ N; omega) (by omega))⟩
theorem cells (h : Rb w K N c f bs cnt aged v u W) : W.cell? ⟨N, 0, none⟩ = some v ∧ W.cell? ⟨N, 1, none⟩ = some (.int .i64 (c.n : Int)) ∧ W.cell? ⟨N, 2, none⟩ = some (.int .u64 (c.seed : Int)) ∧ W.cell? ⟨N, 3, none⟩ = some u ∧ W.cell? ⟨N, 4, none⟩ = some (.int .u64 (c.seed : Int)) ∧ W.cell? ⟨N, 5, none⟩ = some (.int .i64 (cnt : Int)) ∧ W.cell? ⟨N, 6, none⟩ = some (.int .i64 (c.lim : Int)) ∧ W.cell? ⟨N, 7, none⟩ = some (.int .i64 (aged : Int)) ∧ W.cell? ⟨N, 8, none⟩ = some (.int .i64 0) ∧ W.cell? ⟨N, 9, none⟩ = some (.int .u64 (c.seed : Int)) := by
  have hb := h.box
  exact ⟨by rw [cell_of hb]; rfl, by rw [cell_of hb]; rfl, by rw [cell_of hb]; rfl, by rw [cell_of hb]; rfl, by rw [cell_of hb]; rfl, by rw [cell_of hb]; rfl, by rw [cell_of hb]; rfl, by rw [cell_of hb]; rfl, by rw [cell_of hb]; rfl, by rw [cell_of hb]; rfl⟩
theorem fr (h : Rb w K N c f bs cnt aged v u W) (i : Nat) : W.frozen? ⟨N, i, none⟩ = false := frozen_of h.box i
/-- the sketch is laid anew. -/
theorem setS (h : Rb w K N c f bs cnt aged v u W) (hr : Rv (fun b => K b ∧ b ≠ N ∧ b ≠ N + 1) W c f' bs v' u) : Rb w K N c f' bs cnt aged v' u (((W.setCell ⟨N, 0, none⟩ v').setCell ⟨N, 1, none⟩ (.int .i64 (c.n : Int))).setCell ⟨N, 2, none⟩ (.int .u64 (c.seed : Int))) :=
  h.store (((Keep.setCell _ _ _ fun h => h rfl).trans (Keep.setCell _ _ _ fun h => h rfl)).trans (Keep.setCell _ _ _ fun h => h rfl)) cnt aged (by rw [heap_set (heap_set (heap_set h.box 0 v') 1 _) 2 _]; rfl) hr
/-- the door is laid anew. -/
theorem setD (h : Rb w K N c f bs cnt aged v u W) (hr : Rv (fun b => K b ∧ b ≠ N ∧ b ≠ N + 1) W c f bs' v u') : Rb w K N c f bs' cnt aged v u' ((W.setCell ⟨N, 3, none⟩ u').setCell ⟨N, 4, none⟩ (.int .u64 (c.seed : Int))) :=
  h.store ((Keep.setCell _ _ _ fun h => h rfl).trans (Keep.setCell _ _ _ fun h => h rfl)) cnt aged (by rw [heap_set (heap_set h.box 3 u') 4 _]; rfl) hr
theorem setC (h : Rb w K N c f bs cnt aged v u W) (k : Nat) : Rb w K N c f bs k aged v u (W.setCell ⟨N, 5, none⟩ (.int .i64 (k : Int))) :=
  h.store (Keep.setCell _ _ _ fun h => h rfl) k aged (by rw [heap_set h.box]; rfl) h.rv
theorem setA (h : Rb w K N c f bs cnt aged v u W) (k : Nat) : Rb w K N c f bs cnt k v u (W.setCell ⟨N, 7, none⟩ (.int .i64 (k : Int))) :=
  h.store (Keep.setCell _ _ _ fun h => h rfl) cnt k (by rw [heap_set h.box]; rfl) h.rv
/-- .. and all of it. -/
theorem set (h : Rb w K N c f bs cnt aged v u W) {cnt' aged' : Nat} (hr : Rv (fun b => K b ∧ b ≠ N ∧ b ≠ N + 1) W c f' bs' v' u') : Rb w K N c f' bs' cnt' aged' v' u' (set10 W N v' (.int .i64 (c.n : Int)) (.int .u64 (c.seed : Int)) u' (.int .u64 (c.seed : Int)) (.int .i64 (cnt' : Int)) (.int .i64 (c.lim : Int)) (.int .i64 (aged' : Int)) (.int .i64 0) (.int .u64 (c.seed : Int))) :=
  h.store (keep10 _ _ _ _ _ _ _ _ _ _ _ _) cnt' aged' (put10 _ _ _ _ _ _ _ _ _ _ h.box) hr
/-- what is read and written of the box. -/
abbrev Cl (N : Nat) (c : Cs) (cnt aged : Nat) (v u : Value) (W : World) : Prop :=
  W.cell? ⟨N, 0, none⟩ = some v ∧ W.cell? ⟨N, 1, none⟩ = some (.int .i64 (c.n : Int)) ∧ W.cell? ⟨N, 2, none⟩ = some (.int .u64 (c.seed : Int)) ∧ W.cell? ⟨N, 3, none⟩ = some u ∧ W.cell? ⟨N, 4, none⟩ = some (.int .u64 (c.seed : Int)) ∧ W.cell? ⟨N, 5, none⟩ = some (.int .i64 (cnt : Int)) ∧ W.cell? ⟨N, 6, none⟩ = some (.int .i64 (c.lim : Int)) ∧ W.cell? ⟨N, 7, none⟩ = some (.int .i64 (aged : Int)) ∧ W.cell? ⟨N, 8, none⟩ = some (.int .i64 0) ∧ W.cell? ⟨N, 9, none⟩ = some (.int .u64 (c.seed : Int))
theorem k22 (h : Rb w K N c f bs cnt aged v u W) (hK : ∀ b, N ≤ b → K b) : Calls Tryd.prog 38 #[.int .i64 (c.lim : Int), .int .u64 (c.seed : Int)] W fun e B => ∃ u', e = .returned (dr.dv u' c.seed) ∧ (B.cell? ⟨N, 3, none⟩ = some u ∧ B.cell? ⟨N, 4, none⟩ = some (.int .u64 (c.seed : Int)) ∧ ∀ i, B.frozen? ⟨N, i, none⟩ = false) ∧
    Hid (Rb w K N c f (zerosD c) cnt aged v u' ((B.setCell ⟨N, 3, none⟩ u').setCell ⟨N, 4, none⟩ (.int .u64 (c.seed : Int)))) :=
  (h.rv.k22 (h.past hK)).mono fun e B ⟨u', he, hr, hb⟩ => by
    have h2 := h.below hb
    have hc := h2.cells
    exact ⟨u', he, ⟨hc.2.2.2.1, hc.2.2.2.2.1, h2.fr⟩, h2.setD hr⟩
/-- at the return. -/
theorem end_ (h : Rb w K N c f bs cnt aged v u W) {B : World} (e : set10 W (N + 1) v (.int .i64 (c.n : Int)) (.int .u64 (c.seed : Int)) u (.int .u64 (c.seed : Int)) (.int .i64 (cnt : Int)) (.int .i64 (c.lim : Int)) (.int .i64 (aged : Int)) (.int .i64 0) (.int .u64 (c.seed : Int)) = B) :
    Cl (N + 1) c cnt aged v u B ∧ Hid (Rv K B c f bs v u ∧ Below N w B) := by
  have hk := keep10 W (N + 1) v (.int .i64 (c.n : Int)) (.int .u64 (c.seed : Int)) u (.int .u64 (c.seed : Int)) (.int .i64 (cnt : Int)) (.int .i64 (c.lim : Int)) (.int .i64 (aged : Int)) (.int .i64 0) (.int .u64 (c.seed : Int))
  have hp := put10 v (.int .i64 (c.n : Int)) (.int .u64 (c.seed : Int)) u (.int .u64 (c.seed : Int)) (.int .i64 (cnt : Int)) (.int .i64 (c.lim : Int)) (.int .i64 (aged : Int)) (.int .i64 0) (.int .u64 (c.seed : Int)) h.res
  have hl := h.lt
  rw [e] at hk hp
  refine ⟨⟨by rw [cell_of hp]; rfl, by rw [cell_of hp]; rfl, by rw [cell_of hp]; rfl, by rw [cell_of hp]; rfl, by rw [cell_of hp]; rfl, by rw [cell_of hp]; rfl, by rw [cell_of hp]; rfl, by rw [cell_of hp]; rfl, by rw [cell_of hp]; rfl, by rw [cell_of hp]; rfl⟩, ?_, ?_⟩
  · exact (h.rv.keep (hk.mono fun _ _ h => h.2.2)).mono fun _ h => h.1
  · exact h.old.trans (hk.below (fun k hk => by show k ≠ N + 1; omega) (by omega))
/-- the result's own cells, ahead of the return. -/
theorem rescells (h : Rb w K N c f bs cnt aged v u W) : (W.cell? ⟨N + 1, 0, none⟩ = some (.slice none 0 0) ∧ W.cell? ⟨N + 1, 1, none⟩ = some (.int .i64 0) ∧ W.cell? ⟨N + 1, 2, none⟩ = some (.int .u64 0) ∧ W.cell? ⟨N + 1, 3, none⟩ = some (.slice none 0 0) ∧ W.cell? ⟨N + 1, 4, none⟩ = some (.int .u64 0) ∧ W.cell? ⟨N + 1, 5, none⟩ = some (.int .i64 0) ∧ W.cell? ⟨N + 1, 6, none⟩ = some (.int .i64 0) ∧ W.cell? ⟨N + 1, 7, none⟩ = some (.int .i64 0) ∧ W.cell? ⟨N + 1, 8, none⟩ = some (.int .i64 0) ∧ W.cell? ⟨N + 1, 9, none⟩ = some (.int .u64 0)) ∧ ∀ i, W.frozen? ⟨N + 1, i, none⟩ = false := by
  have hb := h.res
  exact ⟨⟨by rw [cell_of hb]; rfl, by rw [cell_of hb]; rfl, by rw [cell_of hb]; rfl, by rw [cell_of hb]; rfl, by rw [cell_of hb]; rfl, by rw [cell_of hb]; rfl, by rw [cell_of hb]; rfl, by rw [cell_of hb]; rfl, by rw [cell_of hb]; rfl, by rw [cell_of hb]; rfl⟩, frozen_of hb⟩
/-- behind the entry. -/
theorem start {z : Zs} (hr : Rv K w c z.f z.bs v u) (hN : w.heap.size = N) (cnt aged : Nat) : Rb w K N c z.f z.bs cnt aged v u ((w.alloc (.cells (tc c (cnt : Int) (aged : Int) v u) 42)).alloc (.cells t0 42)) := by
  have hba : Below w.heap.size w ((w.alloc (.cells (tc c (cnt : Int) (aged : Int) v u) 42)).alloc (.cells t0 42)) := ((Below.refl _ _).alloc (Nat.le_refl _) _).alloc (by simp) _
  exact ⟨heap_old (heap_next hN.symm _), heap_next (by simp [hN]) _, (hr.strong.below hba).mono fun b hb => ⟨hb.1, by have := hb.2; omega, by have := hb.2; omega⟩, hN ▸ hba⟩
end Rb
end Go.Proofs.YtnhpcjiieagjnaaDoor
namespace Go.Proofs.YtnhpcjiieagjnaaDoor
open Go.RowKit
open nb (Keep ct cell_of frozen_of heap_set heap_set_other heap_old heap_next heap_lt addAt mayAdd)
set_option maxRecDepth 20000 in
set_option maxHeartbeats 4000000 in
theorem refnew13 (k : Int) (seed : Nat) (hseed : seed < 18446744073709551616) (w : World) (K : Nat → Prop) (hK : ∀ b, w.heap.size ≤ b → K b) :
    Calls Tryd.prog 16 #[.int .i64 k, .int .u64 (seed : Int)] w fun e B => ∃ v u, e = .returned (tv (csN k seed) 0 0 v u) ∧ Rv K B (csN k seed) (zerosS (csN k seed)) (zerosD (csN k seed)) v u ∧ Below w.heap.size w B := by
  obtain ⟨l, hl⟩ : ∃ l : Int, min (max k 1) 4096 = l := ⟨_, rfl⟩
  obtain ⟨lim, hlim⟩ : ∃ lim : Nat, l.toNat = lim := ⟨_, rfl⟩
  have e : csN k seed = ⟨seed, sk.wdN l, dr.bdN l, lim⟩ := by unfold csN; rw [hl, hlim]
  have h1 : l = (lim : Int) ∧ lim ≤ 4096 := by omega
  obtain ⟨rfl, h4⟩ := h1
  have hl' : max 1 (min k 4096) = (lim : Int) := by omega
  obtain ⟨N, hN⟩ : ∃ N, w.heap.size = N := ⟨_, rfl⟩
  obtain ⟨W1, hW1⟩ : ∃ W1, w.alloc (.cells t0 42) = W1 := ⟨_, rfl⟩
  have hr1 : W1.heap[N]? = some (.cells t0 42 (0, 0)) := by rw [← hW1]; exact heap_next hN.symm _
  have hs1 : W1.heap.size = N + 1 := by rw [← hW1]; simp [hN]
  have hb1 : Below N w W1 := by rw [← hW1]; exact (Below.refl _ _).alloc (by omega) _
  rw [hN] at hK
  obtain ⟨c, hc⟩ : ∃ c : Cs, (⟨seed, sk.wdN (lim : Int), dr.bdN (lim : Int), lim⟩ : Cs) = c := ⟨_, rfl⟩
  have c1 : c.seed = seed := by rw [← hc]
  have c2 : c.n = sk.wdN (lim : Int) := by rw [← hc]
  have c3 : c.m = dr.bdN (lim : Int) := by rw [← hc]
  have c4 : c.lim = lim := by rw [← hc]
  obtain ⟨p1, p2⟩ := sk.wdN_bd (lim : Int)
  obtain ⟨_, p3, p4⟩ := dr.bdN_bd (lim : Int)
  have T : Hid (Calls Tryd.prog 37 #[.int .i64 (lim : Int), .int .u64 (seed : Int)] W1 fun e B => ∃ a k, e = .returned (sk.sv (.slice a 4 k) c.n seed) ∧ Hid (Calls Tryd.prog 38 #[.int .i64 (lim : Int), .int .u64 (seed : Int)] B fun e B2 => ∃ a2 k2, e = .returned (dr.dv (.slice a2 (8 * c.m) k2) seed) ∧ B2.heap[N]? = some (.cells t0 42 (0, 0)) ∧ Hid (Rv (fun b => K b ∧ b ≠ N) B2 c (zerosS c) (zerosD c) (.slice a 4 k) (.slice a2 (8 * c.m) k2) ∧ Below N w B2))) := by
    rw [c2, c3]
    exact (sk.refnew_any (lim : Int) seed W1 (fun b => K b ∧ b ≠ N) fun b hb => ⟨hK b (by omega), by omega⟩).mono fun e B ⟨a, k, he, hr, hb⟩ => ⟨a, k, he, (dr.refnew_any (lim : Int) seed B).mono fun e B2 ⟨a2, k2, he2, hq, hb2, ho⟩ => by
      have hz := hb.size
      refine ⟨a2, k2, he2, (hb2.block N (by omega)).trans ((hb.block N (by omega)).trans hr1), ⟨?_, ?_, fun b hb' => ?_, fun i _ => ?_, fun i j _ => ?_, ?_, ?_, ?_, ?_, ?_, ?_, ?_⟩, hb1.trans ((hb.mono (by omega)).trans (hb2.mono (by omega)))⟩
      · have := hr.keep (keep_below hb2)
        rw [← c2] at this
        exact this
      · show dr.Q dr.eb B2 _ (dr.ub (List.replicate c.m 0))
        rw [dr.ub_zeros, c3]
        exact hq
      · have := ho b hb'
        exact ⟨hK b (by omega), by omega⟩
      · exact List.length_replicate ..
      · show ct (zerosS c i) j ≤ 15
        rw [show ct (zerosS c i) j = 0 from nb.ct_zeros _ j]
        omega
      · exact List.length_replicate ..
      · rw [c2]; exact p1
      · rw [c2]; exact p2
      · rw [c3]; exact p3
      · rw [c3]; exact p4
      · rw [c1]; exact hseed
      · rw [c4, c3]⟩
  rw [e, hc]
  clear e hl hlim hc c2 c3 p1 p2 p3 p4 hb1 hs1 hr1 hK
  go_enter Tryd.func16, Tryd.ntmps16
  go_wp2_with fail
  refine T.out.mono ?_
  rintro e w2 ⟨a, k, rfl, T2⟩
  go_wp2_with fail
  refine T2.out.mono ?_
  rintro e w3 ⟨a2, k2, rfl, hr, q⟩
  clear T T2 hW1
  have y0 : w3.cell? ⟨N, 0, none⟩ = some (.slice none 0 0) := by rw [cell_of hr]; rfl
  have y1 : w3.cell? ⟨N, 1, none⟩ = some (.int .i64 0) := by rw [cell_of hr]; rfl
  have y2 : w3.cell? ⟨N, 2, none⟩ = some (.int .u64 0) := by rw [cell_of hr]; rfl
  have y3 : w3.cell? ⟨N, 3, none⟩ = some (.slice none 0 0) := by rw [cell_of hr]; rfl
  have y4 : w3.cell? ⟨N, 4, none⟩ = some (.int .u64 0) := by rw [cell_of hr]; rfl
  have y5 : w3.cell? ⟨N, 5, none⟩ = some (.int .i64 0) := by rw [cell_of hr]; rfl
  have y6 : w3.cell? ⟨N, 6, none⟩ = some (.int .i64 0) := by rw [cell_of hr]; rfl
  have y7 : w3.cell? ⟨N, 7, none⟩ = some (.int .i64 0) := by rw [cell_of hr]; rfl
  have y8 : w3.cell? ⟨N, 8, none⟩ = some (.int .i64 0) := by rw [cell_of hr]; rfl
  have y9 : w3.cell? ⟨N, 9, none⟩ = some (.int .u64 0) := by rw [cell_of hr]; rfl
  have n0 := frozen_of hr 0
  have n1 := frozen_of hr 1
  have n2 := frozen_of hr 2
  have n3 := frozen_of hr 3
  have n4 := frozen_of hr 4
  have n5 := frozen_of hr 5
  have n6 := frozen_of hr 6
  have n7 := frozen_of hr 7
  have n8 := frozen_of hr 8
  have n9 := frozen_of hr 9
  have hz := heap_lt hr
  have hk := keep10 w3 N (.slice a 4 k) (.int .i64 (c.n : Int)) (.int .u64 (seed : Int)) (.slice a2 (8 * c.m) k2) (.int .u64 (seed : Int)) (.int .i64 0) (.int .i64 (lim : Int)) (.int .i64 0) (.int .i64 0) (.int .u64 (seed : Int))
  have hp := put10 (.slice a 4 k) (.int .i64 (c.n : Int)) (.int .u64 (seed : Int)) (.slice a2 (8 * c.m) k2) (.int .u64 (seed : Int)) (.int .i64 0) (.int .i64 (lim : Int)) (.int .i64 0) (.int .i64 0) (.int .u64 (seed : Int)) hr
  obtain ⟨B3, hB3⟩ : ∃ B3, set10 w3 N (.slice a 4 k) (.int .i64 (c.n : Int)) (.int .u64 (seed : Int)) (.slice a2 (8 * c.m) k2) (.int .u64 (seed : Int)) (.int .i64 0) (.int .i64 (lim : Int)) (.int .i64 0) (.int .i64 0) (.int .u64 (seed : Int)) = B3 := ⟨_, rfl⟩
  rw [hB3] at hk hp
  have b0 : B3.cell? ⟨N, 0, none⟩ = some (.slice a 4 k) := by rw [cell_of hp]; rfl
  have b1 : B3.cell? ⟨N, 1, none⟩ = some (.int .i64 (c.n : Int)) := by rw [cell_of hp]; rfl
  have b2 : B3.cell? ⟨N, 2, none⟩ = some (.int .u64 (seed : Int)) := by rw [cell_of hp]; rfl
  have b3 : B3.cell? ⟨N, 3, none⟩ = some (.slice a2 (8 * c.m) k2) := by rw [cell_of hp]; rfl
  have b4 : B3.cell? ⟨N, 4, none⟩ = some (.int .u64 (seed : Int)) := by rw [cell_of hp]; rfl
  have b5 : B3.cell? ⟨N, 5, none⟩ = some (.int .i64 0) := by rw [cell_of hp]; rfl
  have b6 : B3.cell? ⟨N, 6, none⟩ = some (.int .i64 (lim : Int)) := by rw [cell_of hp]; rfl
  have b7 : B3.cell? ⟨N, 7, none⟩ = some (.int .i64 0) := by rw [cell_of hp]; rfl
  have b8 : B3.cell? ⟨N, 8, none⟩ = some (.int .i64 0) := by rw [cell_of hp]; rfl
  have b9 : B3.cell? ⟨N, 9, none⟩ = some (.int .u64 (seed : Int)) := by rw [cell_of hp]; rfl
  have D : Hid (Rv K B3 c (zerosS c) (zerosD c) (.slice a 4 k) (.slice a2 (8 * c.m) k2) ∧ Below N w B3) := ⟨(q.out.1.keep (hk.mono fun _ _ h => h.2)).mono fun _ h => h.1, q.out.2.trans (hk.below (fun k hk => by show k ≠ N; omega) (by omega))⟩
  have c1 := Lib.hid c1
  have c4 := Lib.hid c4
  unfold set10 at hB3
  clear hk hp hr q h4 hz
  go_wp2
  refine bodyPost_ret (v := .agg #[.slice a 4 k, .int .i64 (c.n : Int), .int .u64 (seed : Int), .slice a2 (8 * c.m) k2, .int .u64 (seed : Int), .int .i64 0, .int .i64 (lim : Int), .int .i64 0, .int .i64 0, .int .u64 (seed : Int)]) ?_ rfl ?_
  · simp [results, Tryd.results16, go_sem, b0, b1, b2, b3, b4, b5, b6, b7, b8, b9]
  · exact ⟨.slice a 4 k, .slice a2 (8 * c.m) k2, by rw [tv, tc, c1.out, c4.out], by rw [hN]; exact D.out⟩
end Go.Proofs.YtnhpcjiieagjnaaDoor
