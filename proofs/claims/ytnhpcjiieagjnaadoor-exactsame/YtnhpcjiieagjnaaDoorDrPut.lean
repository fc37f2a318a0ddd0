/-
  (*Door).Put and Clear by their contracts.
-/
import Derived.Test.YtnhpcjiieagjnaaDoorDrDo
namespace Go.Proofs.YtnhpcjiieagjnaaDoor.dr
open Go.RowKit
theorem put_none (x : Int) (w : World) : Calls Tryd.prog 45 #[.pointer none, .int .u64 x] w fun e B => e = .returned (.bool false) ∧ B = w := by
  go_enter Tryd.func45, Tryd.ntmps45
  go_wp2
  go_ret
  exact ⟨rfl, rfl⟩
theorem clear_none (w : World) : Calls Tryd.prog 72 #[.pointer none] w fun e w' => e = .returned (.tuple #[]) ∧ w' = w := by
  go_enter Tryd.func72, Tryd.ntmps72
  go_wp2
  refine bodyPost_ret (results_none rfl _ _ _) rfl ?_
  exact ⟨rfl, rfl⟩
theorem or_expr (b r : Nat) (hb : b < 256) (hr : r < 8) : bits BinOp.or IntKind.u8 (b : Int) (2 ^ r % 256) = ((b ||| 2 ^ r : Nat) : Int) := by
  have hl : 2 ^ r < 256 := Nat.pow_lt_pow_right (n := 8) (a := 2) (by decide) hr
  have e : ((2 : Int) ^ r % 256) = ((2 ^ r : Nat) : Int) := by
    have : ((2 : Int) ^ r) = ((2 ^ r : Nat) : Int) := by simp
    rw [this]
    generalize 2 ^ r = z at *
    omega
  rw [e]
  exact u8_or_nat _ _ hb hl
theorem put_had {w0 w : World} {S G t : Nat} {bs : List Nat} (h : At w0 S G t bs w) (x : Nat) (hx : x < 18446744073709551616) (hh : hasB (plN t (8 * bs.length) x) bs = true) : Calls Tryd.prog 45 #[.pointer (some ⟨S, 0, none⟩), .int .u64 (x : Int)] w fun e B => e = .returned (.bool false) ∧ Below w.heap.size w B := by
  have X1 := has_some h.dr h.old x hx
  rw [hh] at X1
  have X1 := Lib.hid X1
  clear h hh
  go_enter Tryd.func45, Tryd.ntmps45
  go_wp2_with (go_at_call 52; refine X1.out.mono ?_; rintro e w1 ⟨rfl, b1⟩)
  go_ret
  exact ⟨rfl, b1⟩
set_option maxHeartbeats 2000000 in
theorem put_new {w0 w : World} {S G t : Nat} {bs : List Nat} (h : At w0 S G t bs w) (x : Nat) (hx : x < 18446744073709551616) (hh : hasB (plN t (8 * bs.length) x) bs = false) : Calls Tryd.prog 45 #[.pointer (some ⟨S, 0, none⟩), .int .u64 (x : Int)] w fun e B => e = .returned (.bool true) ∧ At w0 S G t (putTo (plN t (8 * bs.length) x) bs 4) B ∧ Keep (fun k => k ≠ G) w B := by
  have X1 := has_some h.dr h.old x hx
  rw [hh] at X1
  have X1 := Lib.hid X1
  have X2 : Hid (∀ W, Below w.heap.size w W → Calls Tryd.prog 58 #[.pointer (some ⟨S, 0, none⟩), .int .u64 (x : Int)] W fun e B => e = .returned (pv (plN t (8 * bs.length) x)) ∧ Below w.heap.size w B) := fun W hW => (places_some (h.dr.below hW) (h.old.next hW) x hx).mono fun e B ⟨he, hb⟩ => ⟨he, hW.trans (hb.mono hW.size)⟩
  have PL : Hid (∀ i, plN t (8 * bs.length) x i < 8 * bs.length) := fun i => plN_lt _ _ _ _ (by have := h.dr.pos; omega)
  clear hh
  generalize plN t (8 * bs.length) x = p at *
  have IX : Hid (∀ (j : Nat) (w : World), j < 4 → (Instr.index 97 (.agg #[.int .i64 (p 0 : Int), .int .i64 (p 1 : Int), .int .i64 (p 2 : Int), .int .i64 (p 3 : Int)]) (.int .i64 (j : Int))).run Tryd.prog w = .ok (.int .i64 (p j : Int)) w) := fun j w hj => idx_pv p j hj w
  have S0 : Hid (∀ W, Below w.heap.size w W → At w0 S G t (putTo p bs 0) W ∧ Keep (fun k => k ≠ G) w W) := fun W hW => ⟨h.below hW, ⟨hW.os, hW.tape, hW.output, hW.size, fun k hk _ => hW.block k hk⟩⟩
  have hl := h.dr.lid
  have C : Hid (∀ (j : Nat) (W : World), j < 4 → (At w0 S G t (putTo p bs j) W ∧ Keep (fun k => k ≠ G) w W) → ∃ a r b v : Nat, ((p j : Int) / 8 = (a : Int) ∧ (p j : Int) % 8 = (r : Int) ∧ a < bs.length ∧ p j < 65536) ∧ W.cell? ⟨S, 0, none⟩ = some (.slice (some ⟨G, 0, none⟩) bs.length bs.length) ∧ W.cell? ⟨G, a, none⟩ = some (.int .u8 (b : Int)) ∧ W.frozen? ⟨G, a, none⟩ = false ∧ b < 256 ∧ r < 8 ∧ bits BinOp.or IntKind.u8 (b : Int) (2 ^ r % 256) = (v : Int) ∧ Hid (At w0 S G t (putTo p bs (j + 1)) (W.setCell ⟨G, a, none⟩ (.int .u8 (v : Int))).drew ∧ Keep (fun k => k ≠ G) w (W.setCell ⟨G, a, none⟩ (.int .u8 (v : Int))).drew)) := fun j W _ ⟨h1, h2⟩ => by
    have hp := PL.out j
    have hm := putTo_len p bs j
    have c0 := h1.dr.c0
    rw [hm] at c0
    obtain ⟨c1, f1⟩ := h1.dr.at_ (p j / 8) (by omega)
    refine ⟨p j / 8, p j % 8, ct (putTo p bs j) (p j / 8), _, ⟨by omega, by omega, by omega, by omega⟩, c0, c1, f1, h1.dr.low _, by omega, or_expr _ _ (h1.dr.low _) (by omega), ?_⟩
    have hk : Keep (fun k => k ≠ G) W (W.setCell ⟨G, p j / 8, none⟩ (.int .u8 ((ct (putTo p bs j) (p j / 8) ||| 2 ^ (p j % 8) : Nat) : Int))) := Keep.setCell _ _ _ fun h => h rfl
    exact ⟨(h1.swap hk (h1.dr.set (p j) _ rfl)).drew, (h2.trans hk).trans (.drew _ _)⟩
  clear h PL
  generalize putTo p bs = f at *
  generalize bs.length = m at *
  go_enter Tryd.func45, Tryd.ntmps45
  go_wp2_with (go_at_call 52; refine X1.out.mono ?_; rintro e w1 ⟨rfl, b1⟩)
  have X2 := Lib.hid (X2.out _ b1)
  clear b1 X1
  go_wp2_with fail
  refine X2.out.mono ?_
  rintro e w2 ⟨rfl, b2⟩
  have S0 := Lib.hid (S0.out _ b2)
  clear b2 X2
  go_wp2_with fail
  go_loopw [6, 17] (fun u i wr => ∃ j : Nat, j ≤ 4 ∧ i = .int .i64 j ∧ Hid (At w0 S G t (f j) wr ∧ Keep (fun k => k ≠ G) w wr)) (fun _ i _ => 4 - (intOf i).toNat)
  case atStart => exact ⟨0, by omega, rfl, S0⟩
  case round =>
    obtain ⟨j, hj, rfl, hH⟩ := hrel
    clear S0
    by_cases hlt : j < 4
    · obtain ⟨a, r, b, v, ⟨ha, hr, ham, hp⟩, d0, d1, f1, hb, hr8, hv, hN⟩ := C.out j wr hlt hH.out
      have ix := IX.out j
      have ix := fun w => ix w hlt
      have h1 : (0 : Int) ≤ (j : Int) := by omega
      have h2 : (j : Int) < 4 := by omega
      have h3 : (0 : Int) ≤ (a : Int) := by omega
      have h4 : (a : Int) < (m : Int) := by omega
      have p1 : (p j : Int).tdiv 8 = (a : Int) := by rw [Int.tdiv_eq_ediv_of_nonneg (by omega)]; exact ha
      have p2 : (p j : Int).tmod 8 = (r : Int) := by rw [Int.tmod_eq_emod_of_nonneg (by omega)]; exact hr
      have p3 : IntKind.i64.wrap (a : Int) = (a : Int) := by rw [IntKind.wrap_i64]; omega
      have p4 : IntKind.i64.wrap (r : Int) = (r : Int) := by rw [IntKind.wrap_i64]; omega
      clear C IX hH
      generalize p j = q at *
      go_wp2_with fail
      go_region
      all_goals (
        go_wp2
        go_roundw
        case rel => exact ⟨j + 1, by omega, by simp, hN⟩
        case measure => simp [intOf]; omega)
    · obtain rfl : j = 4 := by omega
      clear C IX
      go_wp2
      go_ret
      exact ⟨rfl, hH.out⟩
theorem put_some {w0 w : World} {S G t : Nat} {bs : List Nat} (h : At w0 S G t bs w) (x : Nat) (hx : x < 18446744073709551616) : Calls Tryd.prog 45 #[.pointer (some ⟨S, 0, none⟩), .int .u64 (x : Int)] w fun e B => e = .returned (.bool (!hasB (plN t (8 * bs.length) x) bs)) ∧ At w0 S G t (putB (plN t (8 * bs.length) x) bs) B ∧ Keep (fun k => k ≠ G) w B := by
  unfold putB
  cases hh : hasB (plN t (8 * bs.length) x) bs
  · exact (put_new h x hx hh).mono fun e B ⟨he, h1, h2⟩ => ⟨he, by rw [if_neg (by decide)]; exact h1, h2⟩
  · exact (put_had h x hx hh).mono fun e B ⟨he, hb⟩ => ⟨he, by rw [if_pos rfl]; exact h.below hb, keep_below hb⟩
theorem Dr.clear {w : World} {S G t : Nat} {bs : List Nat} (h : Dr w S G t bs) : Dr (w.setCells G 0 (List.replicate bs.length (.int .u8 0))) S G t (List.replicate bs.length 0) ∧ Keep (fun k => k ≠ G) w (w.setCells G 0 (List.replicate bs.length (.int .u8 0))) := by
  have hk : Keep (fun k => k ≠ G) w (w.setCells G 0 (List.replicate bs.length (.int .u8 0))) := Keep.setCells G (fun h => h rfl) _ _ _
  refine ⟨⟨?_, ?_, h.out, by simpa using h.pos, by simpa using h.lid, fun k => ?_, h.turns⟩, hk⟩
  · rw [List.length_replicate]; exact hk.heap h.head h.out
  · have := heap_sets G 5 (List.replicate bs.length (.int .u8 0)) [] (b8 bs) w h.body (by rw [b8_len, List.length_replicate])
    simpa [b8] using this
  · by_cases hk : k < bs.length <;> simp [ct, hk]
theorem clear_run {w : World} {S G t : Nat} {bs : List Nat} (h : Dr w S G t bs) (ty : TypeId) : (Builtin.clear_ #[77] ty #[.slice (some ⟨G, 0, none⟩) bs.length bs.length]).run Tryd.prog w = .ok (.tuple #[]) (w.setCells G 0 (List.replicate bs.length (.int .u8 0))) :=
  Lib.run_clear_slice w 77 5 ty (.int .u8 0) Tryd.underlying77 zero_b rfl rfl G 0 _ _ h.pos (fun j hj => by rw [Nat.zero_add, (h.at_ j hj).1]; rfl) (fun j hj => by rw [Nat.zero_add]; exact (h.at_ j hj).2)
theorem clear_some {w0 w : World} {S G t : Nat} {bs : List Nat} (h : At w0 S G t bs w) : Calls Tryd.prog 72 #[.pointer (some ⟨S, 0, none⟩)] w fun e B => e = .returned (.tuple #[]) ∧ At w0 S G t (List.replicate bs.length 0) B ∧ Keep (fun k => k ≠ G) w B := by
  have c0 := h.dr.c0
  obtain ⟨k1, k2⟩ := h.dr.clear
  have P : Hid (At w0 S G t (List.replicate bs.length 0) _ ∧ Keep (fun k => k ≠ G) w _) := ⟨h.swap k2 k1, k2⟩
  have hr := clear_run h.dr
  clear h k1 k2
  generalize w.setCells G 0 (List.replicate bs.length (.int .u8 0)) = W at *
  generalize List.replicate bs.length 0 = zs at *
  generalize bs.length = n at *
  go_enter Tryd.func72, Tryd.ntmps72
  go_wp2
  go_end0
  exact ⟨rfl, P.out⟩
end Go.Proofs.YtnhpcjiieagjnaaDoor.dr
