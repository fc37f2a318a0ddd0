/-
  door.New by its contract: a door of zeros, in blocks of its own.
-/
import Derived.Test.YtnhpcjiieagjnaaDoorDrDo
namespace Go.Proofs.YtnhpcjiieagjnaaDoor.dr
open Go.RowKit
/-- how many bytes a door for so many keys has. -/
def bdN (c : Int) : Nat := wd.pwN (8 * min (max c 1) 4096) / 8
theorem len_big (x : Nat) (h : 4 ≤ x) : 3 ≤ wd.lenN x := by
  unfold wd.lenN
  rw [if_neg (by omega)]
  have := @Nat.lt_log2_self x
  by_cases h1 : x.log2 + 1 ≤ 2
  · have h2 : 2 ^ (x.log2 + 1) ≤ 2 ^ 2 := Nat.pow_le_pow_right (by decide) h1
    omega
  · omega
theorem bdN_bd (c : Int) : 8 * bdN c = wd.pwN (8 * min (max c 1) 4096) ∧ 0 < bdN c ∧ bdN c ≤ 4096 := by
  obtain ⟨q, hq, h1, h2⟩ : ∃ q : Nat, (min (max (8 * min (max c 1) 4096) 1) 4611686018427387904 - 1 : Int).toNat = q ∧ 7 ≤ q ∧ q < 32768 := ⟨_, rfl, by omega, by omega⟩
  have e : wd.pwN (8 * min (max c 1) 4096) = 2 ^ wd.lenN q := by unfold wd.pwN; rw [hq]
  obtain ⟨k, hk⟩ : ∃ k, wd.lenN q = 3 + k := ⟨wd.lenN q - 3, by have := len_big q (by omega); omega⟩
  have hl : wd.lenN q ≤ 15 := wd.lenN_le q 15 h2
  have h3 : 2 ^ k ≤ 2 ^ 12 := Nat.pow_le_pow_right (n := 2) (by decide) (by omega)
  have h4 := Nat.two_pow_pos k
  have e2 : wd.pwN (8 * min (max c 1) 4096) = 8 * 2 ^ k := by rw [e, hk, Nat.pow_add]
  unfold bdN
  rw [e2]
  generalize 2 ^ k = z at *
  omega
theorem fresh {w W : World} {G m t : Nat} (hs : mx.Steps w) (hb : Below w.heap.size w W) (hG : W.heap[G]? = some (.cells (madeCells #[.int .u8 0] m) 5 (0, 0))) (hle : w.heap.size ≤ G) (hm : 0 < m) (hl : m ≤ 4096) (ht : t < 18446744073709551616) :
    At w W.heap.size G t (List.replicate m 0) (W.alloc (.cells #[.slice (some ⟨G, 0, none⟩) m m, .int .u64 (t : Int)] 80)) := by
  have h1 := heap_lt hG
  refine ⟨⟨?_, ?_, by omega, by simpa using hm, by simpa using hl, fun k => ?_, ht⟩, ⟨hs, hb.trans ((Below.refl _ _).alloc hb.size _)⟩, hb.size, hle⟩
  · rw [List.length_replicate]; exact heap_next rfl _
  · rw [← made_zeros]; exact heap_old hG
  · by_cases hk : k < m <;> simp [ct, hk]
theorem later1 {w w2 : World} {o : Obj} (h : Below (w.alloc o).drew.heap.size (w.alloc o).drew w2) : Below w.heap.size w w2 := by
  refine Below.trans (show Below w.heap.size w (w.alloc o).drew from ⟨rfl, rfl, rfl, by show _ ≤ (w.alloc o).heap.size; simp, fun k hk => Below.heap_alloc _ _ _ hk⟩) (h.mono ?_)
  show _ ≤ (w.alloc o).heap.size
  simp
theorem later2 {w w2 : World} {o : Obj} (h : Below (w.alloc o).drew.heap.size (w.alloc o).drew w2) : w2.heap[w.heap.size]? = some o := by
  refine (h.block w.heap.size ?_).trans (heap_next rfl o)
  show _ < (w.alloc o).heap.size
  simp
theorem later3 {w w2 : World} {o : Obj} (h : Below w.drew.heap.size w.drew w2) : Below w.heap.size w (w2.alloc o) :=
  Below.trans (show Below w.heap.size w w.drew from ⟨rfl, rfl, rfl, Nat.le_refl _, fun _ _ => rfl⟩) (Below.alloc h h.size o)
set_option maxHeartbeats 1000000 in
theorem new_any (c : Int) (seed : Nat) (hseed : seed < 18446744073709551616) (w : World) (hs : mx.Since w w) : Calls Tryd.prog 20 #[.int .i64 c, .int .u64 (seed : Int)] w fun e B => ∃ S G, e = .returned (.pointer (some ⟨S, 0, none⟩)) ∧ At w S G (mixF seed) (List.replicate (bdN c) 0) B := by
  obtain ⟨e8, hp, hl⟩ := bdN_bd c
  obtain ⟨m, hm⟩ : ∃ m : Int, min (max c 1) 4096 = m := ⟨_, rfl⟩
  have hm1 : 1 ≤ m ∧ m ≤ 4096 := by omega
  rw [hm] at e8
  have P := Lib.hid (wd.power_any (8 * m))
  rw [← e8] at P
  have X1 : Hid (∀ W, Below w.heap.size w W → Calls Tryd.prog 42 #[.int .u64 (seed : Int)] W fun e B => e = .returned (.int .u64 (mixF seed : Int)) ∧ Hid (Below W.heap.size W B)) := fun W hW => mix_f _ hseed w W (hs.next hW)
  have D : Hid (∀ (W : World) (G : Nat), Below w.heap.size w W → W.heap[G]? = some (.cells (madeCells #[.int .u8 0] (bdN c)) 5 (0, 0)) → w.heap.size ≤ G → At w W.heap.size G (mixF seed) (List.replicate (bdN c) 0) (W.alloc (.cells #[.slice (some ⟨G, 0, none⟩) (bdN c) (bdN c), .int .u64 (mixF seed : Int)] 80))) := fun W G hb hG hle => fresh hs.1 hb hG hle hp hl (mixF_lt _)
  have hmk := fun w => run_make_row' (P := Tryd.prog) 77 5 (.int .u8 0) 1 Tryd.underlying77 info_b rfl .i64 .i64 (bdN c) (by omega) (by omega) w
  clear hs e8
  generalize bdN c = n at *
  generalize madeCells #[Value.int .u8 0] n = Z at *
  generalize List.replicate n 0 = zs at *
  generalize mixF seed = t at *
  have q1 : ((8 * n : Nat) : Int).tdiv 8 = (n : Int) := by rw [Int.tdiv_eq_ediv_of_nonneg (by omega)]; omega
  have q2 : ((8 * n : Nat) : Int) / 8 = (n : Int) := by omega
  have q3 : IntKind.i64.wrap (n : Int) = (n : Int) := by rw [IntKind.wrap_i64]; omega
  generalize 8 * n = N8 at *
  have hb0 : Hid (∀ q, Below w.heap.size w (w.drewN q)) := fun q => ⟨rfl, rfl, rfl, Nat.le_refl _, fun _ _ => rfl⟩
  have hb1 : Hid (∀ q, Below w.heap.size w ((w.drewN q).alloc (.cells Z 5))) := fun q => (hb0.out q).alloc (Nat.le_refl _) _
  go_enter Tryd.func20, Tryd.ntmps20
  go_wp2_with (go_at_call 40; refine (P.out _).mono ?_; rintro e w1 ⟨rfl, rfl⟩)
  go_region_with (first | (go_at_call 42; refine (X1.out _ (by first | exact hb0.out _ | exact hb1.out _)).mono ?_; rintro e w2 ⟨rfl, b2⟩))
  all_goals (
    go_wp2
    go_ret
    first
    | exact ⟨_, _, rfl, D.out w2 w.heap.size (later1 b2.out) (later2 b2.out) (Nat.le_refl _)⟩
    | exact ⟨_, _, rfl, (by simpa using D.out (w2.alloc (.cells Z 5)) w2.heap.size (later3 b2.out) (heap_next rfl _) b2.out.size)⟩)
end Go.Proofs.YtnhpcjiieagjnaaDoor.dr
