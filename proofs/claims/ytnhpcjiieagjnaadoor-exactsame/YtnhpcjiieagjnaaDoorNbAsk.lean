/-
  nibble.New, (*Row).Len, has, bitsOf and Get by their contracts.
-/
import Derived.Test.YtnhpcjiieagjnaaDoorRows
import Derived.Test.YtnhpcjiieagjnaaDoorNbMath
import Derived.WalkKit
import Derived.BigQuiet
import Derived.Deep.QuietTactic
import Derived.Lib.MinMax
import Derived.Laws.BitsAllLaws
import Derived.Deep.RegionHeld3
import Derived.RegionTactic
namespace Go.Proofs.YtnhpcjiieagjnaaDoor.nb
open Go.RowKit
variable {w : World} {r g : Nat} {cs : List Nat}
theorem info_b : (Tryd.prog.info? 5).map (fun i => (i.zero, i.size, i.bytes)) = some (some (.int .u8 0), 1, 1) := by kernel_rfl
theorem made_zeros (n : Nat) : madeCells #[Value.int .u8 0] n = (b8 (List.replicate n 0)).toArray := by
  refine Array.ext (by simp [madeCells, b8]) fun i h1 h2 => ?_
  simp [madeCells, b8, Nat.mod_one]
theorem fresh (w : World) (n : Nat) (h : n ≤ 65536) : Nib ((w.alloc (.cells (madeCells #[Value.int .u8 0] ((n + 1) / 2)) 5)).alloc (.cells #[.slice (some ⟨w.heap.size, 0, none⟩) ((n + 1) / 2) ((n + 1) / 2), .int .i64 (n : Int)] 111)) (w.heap.size + 1) w.heap.size (List.replicate n 0) := by
  refine ⟨?_, ?_, by omega, by simpa using h, fun i => by rw [ct_zeros]; omega⟩
  · rw [heap_next (by simp)]; simp
  · rw [heap_old (heap_next rfl _), made_zeros, pack_zeros]
theorem new_any (k : Int) (n : Nat) (hn : min (max k 0) 65536 = (n : Int)) (w : World) : Calls Tryd.prog 41 #[.int .i64 k] w fun e B => e = .returned (.pointer (some ⟨w.heap.size + 1, 0, none⟩)) ∧ Nib B (w.heap.size + 1) w.heap.size (List.replicate n 0) ∧ Below w.heap.size w B ∧ B.heap.size = w.heap.size + 2 := by
  have hl : n ≤ 65536 := by omega
  have P := Lib.hid (fresh w n hl)
  have hB : Hid (Below w.heap.size w ((w.alloc (.cells (madeCells #[Value.int .u8 0] ((n + 1) / 2)) 5)).alloc (.cells #[.slice (some ⟨w.heap.size, 0, none⟩) ((n + 1) / 2) ((n + 1) / 2), .int .i64 (n : Int)] 111))) := Keep.below (K := fun _ => True) ((Keep.alloc _ _ _).trans (Keep.alloc _ _ _)) (fun _ _ => trivial) (Nat.le_refl _)
  have hZ : Hid (((w.alloc (.cells (madeCells #[Value.int .u8 0] ((n + 1) / 2)) 5)).alloc (.cells #[.slice (some ⟨w.heap.size, 0, none⟩) ((n + 1) / 2) ((n + 1) / 2), .int .i64 (n : Int)] 111)).heap.size = w.heap.size + 2) := Lib.hid (by simp)
  have hmk := fun w => run_make_row' (P := Tryd.prog) 77 5 (.int .u8 0) 1 Tryd.underlying77 info_b rfl .i64 .i64 ((n + 1) / 2) (by omega) (by omega) w
  obtain ⟨m, hm, hm'⟩ : ∃ m : Nat, (n + 1) / 2 = m ∧ ((n : Int) + 1) / 2 = (m : Int) := ⟨(n + 1) / 2, rfl, by omega⟩
  rw [hm] at P hB hZ hmk
  clear hm
  generalize madeCells #[Value.int .u8 0] m = Z at *
  go_enter Tryd.func41, Tryd.ntmps41
  go_wp2
  go_ret
  exact ⟨rfl, P.out, hB.out, hZ.out⟩
theorem len_some (h : Nib w r g cs) : Calls Tryd.prog 78 #[.pointer (some ⟨r, 0, none⟩)] w fun e w' => e = .returned (.int .i64 (cs.length : Int)) ∧ w' = w := by
  have c1 := h.c1
  clear h
  generalize cs.length = n at *
  go_enter Tryd.func78, Tryd.ntmps78
  go_wp2
  go_ret
  exact ⟨rfl, rfl⟩
theorem len_none (w : World) : Calls Tryd.prog 78 #[.pointer none] w fun e w' => e = .returned (.int .i64 0) ∧ w' = w := by
  go_enter Tryd.func78, Tryd.ntmps78
  go_wp2
  go_ret
  exact ⟨rfl, rfl⟩
/-- Len of a row, or of none. -/
def Counts (p : Option Addr) (n : Nat) (w : World) : Prop := Calls Tryd.prog 78 #[.pointer p] w fun e w' => e = .returned (.int .i64 (n : Int)) ∧ w' = w
theorem has_in (p : Option Addr) (n i : Nat) (hi : i < n) (hp : Counts p n w) : Calls Tryd.prog 86 #[.pointer p, .int .i64 (i : Int)] w fun e w' => e = .returned (.bool true) ∧ w' = w := by
  have H : Hid (Counts p n w) := hp
  have h1 : (i : Int) < (n : Int) := by omega
  clear hp
  go_enter Tryd.func86, Tryd.ntmps86
  go_wp2_with (go_at_call 78; refine H.out.mono ?_; rintro e w1 ⟨rfl, e1⟩; obtain rfl : w = w1 := e1.symm)
  go_ret
  exact ⟨by simp, rfl⟩
theorem has_out (p : Option Addr) (n : Nat) (k : Int) (hk : ¬ (0 ≤ k ∧ k < n)) (hp : Counts p n w) : Calls Tryd.prog 86 #[.pointer p, .int .i64 k] w fun e w' => e = .returned (.bool false) ∧ w' = w := by
  have H : Hid (Counts p n w) := hp
  clear hp
  by_cases h0 : 0 ≤ k
  · have h1 : ¬ k < (n : Int) := by omega
    clear hk
    go_enter Tryd.func86, Tryd.ntmps86
    go_wp2_with (go_at_call 78; refine H.out.mono ?_; rintro e w1 ⟨rfl, e1⟩; obtain rfl : w = w1 := e1.symm)
    go_ret
    exact ⟨by simp [h1], rfl⟩
  · clear hk
    go_enter Tryd.func86, Tryd.ntmps86
    go_wp2_with (go_at_call 78; refine H.out.mono ?_; rintro e w1 ⟨rfl, e1⟩; obtain rfl : w = w1 := e1.symm)
    go_ret
    exact ⟨rfl, rfl⟩
theorem bits_any (i : Nat) (w : World) : Calls Tryd.prog 87 #[.int .i64 (i : Int)] w fun e w' => e = .returned (.int .i64 ((4 * (i % 2) : Nat) : Int)) ∧ w' = w := by
  rcases Nat.mod_two_eq_zero_or_one i with h | h
  · have h1 : (i : Int) % 2 = 0 := by omega
    rw [h]
    clear h
    go_enter Tryd.func87, Tryd.ntmps87
    go_wp2
    go_ret
    exact ⟨rfl, rfl⟩
  · have h1 : (i : Int) % 2 = 1 := by omega
    rw [h]
    clear h
    go_enter Tryd.func87, Tryd.ntmps87
    go_wp2
    go_ret
    exact ⟨rfl, rfl⟩
theorem get_out (p : Option Addr) (n : Nat) (k : Int) (hk : ¬ (0 ≤ k ∧ k < n)) (hp : Counts p n w) : Calls Tryd.prog 77 #[.pointer p, .int .i64 k] w fun e w' => e = .returned (.int .i64 0) ∧ w' = w := by
  have H := Lib.hid (has_out p n k hk hp)
  clear hp hk
  go_enter Tryd.func77, Tryd.ntmps77
  go_wp2_with (go_at_call 86; refine H.out.mono ?_; rintro e w1 ⟨rfl, e1⟩; obtain rfl : w = w1 := e1.symm)
  go_ret
  exact ⟨rfl, rfl⟩
/-- what Get reckons. -/
theorem byte_ct (h : Nib w r g cs) (i : Nat) : (ct cs (2 * (i / 2)) + 16 * ct cs (2 * (i / 2) + 1)) >>> (4 * (i % 2)) &&& 15 = ct cs i := by
  rw [byte_get _ _ _ (h.low _) (h.low _) (by omega)]
  rcases Nat.mod_two_eq_zero_or_one i with e | e
  · rw [e, if_pos rfl, show 2 * (i / 2) = i by omega]
  · rw [e, if_neg (by decide), show 2 * (i / 2) + 1 = i by omega]
theorem get_expr (b q c : Nat) (hb : b < 256) (hc : c ≤ 15) (h : b >>> (4 * q) &&& 15 = c) : wrap64 (bits BinOp.and IntKind.u8 ((b : Int) / 2 ^ (4 * q)) 15) = (c : Int) := by
  have e : ((b : Int) / 2 ^ (4 * q)) = ((b >>> (4 * q) : Nat) : Int) := by rw [Nat.shiftRight_eq_div_pow]; simp
  have hl : b >>> (4 * q) < 256 := by rw [Nat.shiftRight_eq_div_pow]; exact Nat.lt_of_le_of_lt (Nat.div_le_self _ _) hb
  have e2 := u8_and_nat (b >>> (4 * q)) 15 hl (by decide)
  rw [e, show ((15 : Int)) = ((15 : Nat) : Int) from rfl, e2, h]
  unfold wrap64; omega
theorem get_in (h : Nib w r g cs) (i : Nat) (hi : i < cs.length) : Calls Tryd.prog 77 #[.pointer (some ⟨r, 0, none⟩), .int .i64 (i : Int)] w fun e w' => e = .returned (.int .i64 (ct cs i : Int)) ∧ ∃ m, w' = w.drewN m := by
  have H := Lib.hid (has_in (some ⟨r, 0, none⟩) cs.length i hi (len_some h))
  have T : Hid (∀ q, Calls Tryd.prog 87 #[.int .i64 (i : Int)] (w.drewN q) fun e w' => e = .returned (.int .i64 ((4 * (i % 2) : Nat) : Int)) ∧ w' = w.drewN q) := fun q => bits_any i _
  have c0 := h.c0
  have hl := h.lid
  obtain ⟨p, hp, hp', hpl⟩ : ∃ p : Nat, i / 2 = p ∧ (i : Int) / 2 = (p : Int) ∧ p < (cs.length + 1) / 2 := ⟨i / 2, rfl, by omega, by omega⟩
  have cb := (h.at_ p hpl).1
  have hv := Lib.hid (byte_ct h i)
  rw [hp] at hv
  have hb : ct cs (2 * p) + 16 * ct cs (2 * p + 1) < 256 := by have := h.low (2 * p); have := h.low (2 * p + 1); omega
  have hq : i % 2 < 2 := Nat.mod_lt _ (by decide)
  have hc := Lib.hid (h.low i)
  have hi' : i ≤ 65536 := by omega
  clear h hp
  generalize ct cs (2 * p) + 16 * ct cs (2 * p + 1) = b at *
  generalize ct cs i = c at *
  generalize (cs.length + 1) / 2 = n at *
  generalize i % 2 = q at *
  go_enter Tryd.func77, Tryd.ntmps77
  go_wp2_with (go_at_call 86; refine H.out.mono ?_; rintro e w1 ⟨rfl, e1⟩; obtain rfl : w = w1 := e1.symm)
  go_quiet (first | (go_at_call 87; exact Calls.quiet_of_same (T.out _)))
  go_wp2
  go_ret
  exact ⟨congrArg Ending.returned (congrArg (Value.int IntKind.i64) (get_expr b q c hb hc.out hv.out)), _, rfl⟩
theorem get_none (k : Int) (w : World) : Calls Tryd.prog 77 #[.pointer none, .int .i64 k] w fun e w' => e = .returned (.int .i64 0) ∧ w' = w := get_out none 0 k (by omega) (len_none w)
theorem add_out (p : Option Addr) (n : Nat) (k : Int) (hk : ¬ (0 ≤ k ∧ k < n)) (hp : Counts p n w) : Calls Tryd.prog 70 #[.pointer p, .int .i64 k] w fun e w' => e = .returned (.bool false) ∧ w' = w := by
  have H := Lib.hid (has_out p n k hk hp)
  clear hp hk
  go_enter Tryd.func70, Tryd.ntmps70
  go_wp2_with (go_at_call 86; refine H.out.mono ?_; rintro e w1 ⟨rfl, e1⟩; obtain rfl : w = w1 := e1.symm)
  go_ret
  exact ⟨rfl, rfl⟩
theorem add_none (k : Int) (w : World) : Calls Tryd.prog 70 #[.pointer none, .int .i64 k] w fun e w' => e = .returned (.bool false) ∧ w' = w := add_out none 0 k (by omega) (len_none w)
theorem add_most (h : Nib w r g cs) (i : Nat) (hi : i < cs.length) (hm : ct cs i = 15) : Calls Tryd.prog 70 #[.pointer (some ⟨r, 0, none⟩), .int .i64 (i : Int)] w fun e w' => e = .returned (.bool false) ∧ ∃ m, w' = w.drewN m := by
  have H := Lib.hid (has_in (some ⟨r, 0, none⟩) cs.length i hi (len_some h))
  have G := get_in h i hi
  rw [hm] at G
  have G := Lib.hid G
  clear h hm
  go_enter Tryd.func70, Tryd.ntmps70
  go_wp2_with (first
    | (go_at_call 86; refine H.out.mono ?_; rintro e w1 ⟨rfl, e1⟩; obtain rfl : w = w1 := e1.symm)
    | (go_at_call 77; refine G.out.mono ?_; rintro e w1 ⟨rfl, m1, rfl⟩))
  go_ret
  exact ⟨rfl, _, rfl⟩
/-- a counter is one more. -/
theorem Nib.add (h : Nib w r g cs) (i : Nat) (hi : i < cs.length) (hm : ct cs i < 15) (v : Int) (hv : v = ((ct cs (2 * (i / 2)) + 16 * ct cs (2 * (i / 2) + 1) + 16 ^ (i % 2) : Nat) : Int)) : Nib (w.setCell ⟨g, i / 2, none⟩ (.int .u8 v)) r g (cs.set i (ct cs i + 1)) := by
  subst hv
  refine ⟨?_, ?_, h.out, by simpa using h.lid, fun j => ?_⟩
  · rw [List.length_set]; exact heap_set_other h.head h.out _ _
  · rw [heap_set h.body, b8_set, pack_add cs i hi]
  · rw [ct_set cs i _ hi]
    split
    · omega
    · exact h.low j
theorem add_expr (a b i : Nat) (ha : a ≤ 15) (hb : b ≤ 15) (_ : True) (h0 : i % 2 = 0 → a < 15) (h1 : i % 2 = 1 → b < 15) : IntKind.u8.wrap (((a + 16 * b : Nat) : Int) + IntKind.u8.wrap (2 ^ (4 * (i % 2)))) = ((a + 16 * b + 16 ^ (i % 2) : Nat) : Int) := by
  rcases Nat.mod_two_eq_zero_or_one i with e | e
  · have := h0 e
    rw [e, IntKind.wrap_u8', IntKind.wrap_u8']
    have e1 : (2 : Int) ^ (4 * 0) = 1 := by decide
    have e2 : (16 : Nat) ^ 0 = 1 := by decide
    rw [e1, e2]
    omega
  · have := h1 e
    rw [e, IntKind.wrap_u8', IntKind.wrap_u8']
    have e1 : (2 : Int) ^ (4 * 1) = 16 := by decide
    have e2 : (16 : Nat) ^ 1 = 16 := by decide
    rw [e1, e2]
    omega
set_option maxHeartbeats 1000000 in
theorem add_in (h : Nib w r g cs) (i : Nat) (hi : i < cs.length) (hm : ct cs i < 15) : Calls Tryd.prog 70 #[.pointer (some ⟨r, 0, none⟩), .int .i64 (i : Int)] w fun e B => e = .returned (.bool true) ∧ Nib B r g (cs.set i (ct cs i + 1)) ∧ Keep (fun k => k ≠ g) w B := by
  have H := Lib.hid (has_in (some ⟨r, 0, none⟩) cs.length i hi (len_some h))
  have G := Lib.hid (get_in h i hi)
  have T : Hid (∀ W : World, Calls Tryd.prog 87 #[.int .i64 (i : Int)] W fun e w' => e = .returned (.int .i64 ((4 * (i % 2) : Nat) : Int)) ∧ w' = W) := fun W => bits_any i W
  have c0 := h.c0
  have hl := h.lid
  have P : Hid (∀ (q : Nat) (v : Int), v = ((ct cs (2 * (i / 2)) + 16 * ct cs (2 * (i / 2) + 1) + 16 ^ (i % 2) : Nat) : Int) → Nib ((w.drewN q).setCell ⟨g, i / 2, none⟩ (.int .u8 v)) r g (cs.set i (ct cs i + 1))) := fun q v hv => (h.drewN q).add i hi hm v hv
  obtain ⟨p, hp, hp', hpl⟩ : ∃ p : Nat, i / 2 = p ∧ (i : Int) / 2 = (p : Int) ∧ p < (cs.length + 1) / 2 := ⟨i / 2, rfl, by omega, by omega⟩
  obtain ⟨cb, fb⟩ := h.at_ p hpl
  rw [hp] at P
  have hne : ¬ (ct cs i : Int) = 15 := by omega
  have hv : IntKind.u8.wrap (((ct cs (2 * p) + 16 * ct cs (2 * p + 1) : Nat) : Int) + IntKind.u8.wrap (2 ^ (4 * (i % 2)))) = ((ct cs (2 * p) + 16 * ct cs (2 * p + 1) + 16 ^ (i % 2) : Nat) : Int) := by
    have h1 := h.low (2 * p)
    have h2 := h.low (2 * p + 1)
    subst hp
    exact add_expr _ _ i h1 h2 trivial (fun e => by rw [show 2 * (i / 2) = i by omega]; exact hm) (fun e => by rw [show 2 * (i / 2) + 1 = i by omega]; exact hm)
  have hq : i % 2 < 2 := Nat.mod_lt _ (by decide)
  have hi' : i ≤ 65536 := by omega
  have hp1 : (i : Int).tdiv 2 = (p : Int) := by rw [Int.tdiv_eq_ediv_of_nonneg (by omega)]; exact hp'
  have hp2 : IntKind.i64.wrap (p : Int) = (p : Int) := by rw [IntKind.wrap_i64]; omega
  have hp3 : (0 : Int) ≤ (p : Int) := by omega
  have hp4 : (p : Int) < (((cs.length + 1) / 2 : Nat) : Int) := by omega
  clear h hp hm
  generalize ct cs (2 * p) + 16 * ct cs (2 * p + 1) + 16 ^ (i % 2) = b' at *
  generalize ct cs (2 * p) + 16 * ct cs (2 * p + 1) = b at *
  generalize cs.set i (ct cs i + 1) = cs' at *
  generalize ct cs i = c at *
  generalize (cs.length + 1) / 2 = n at *
  generalize i % 2 = q at *
  go_enter Tryd.func70, Tryd.ntmps70
  go_wp2_with (first
    | (go_at_call 86; refine H.out.mono ?_; rintro e w1 ⟨rfl, e1⟩; obtain rfl : w = w1 := e1.symm)
    | (go_at_call 77; refine G.out.mono ?_; rintro e w1 ⟨rfl, m1, rfl⟩))
  go_region_with (first | (go_at_call 87; refine (T.out _).mono ?_; rintro e w2 ⟨rfl, e2⟩; subst e2))
  all_goals (
    go_wp2
    go_ret
    exact ⟨rfl, P.out _ _ (by rw [show (4 * (q : Int)).toNat = 4 * q by omega]; exact hv), (Keep.drewN _ _ _).trans (Keep.setCell _ _ _ (fun h => h rfl))⟩)
end Go.Proofs.YtnhpcjiieagjnaaDoor.nb
