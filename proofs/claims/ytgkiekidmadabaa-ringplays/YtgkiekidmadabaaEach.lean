/-
  (*Ring[int]).each and the function that it returns: the places and the things from the front on, as long as one asks; of no ring nothing.
-/
import Derived.Test.YtgkiekidmadabaaAsk
import Derived.Test.YtgkiekidmadabaaRange
import Derived.Shelf.Abstract
import Derived.Shelf.RegionOpen
import Derived.OwnWalkIn
import Derived.TacticsInMore
import Derived.LoopNIn
import Derived.LoopIn
namespace Go.Proofs.Ytgkiekidmadabaa
open Go.RowKit Go.Shelf
attribute [local go_sem] Oper.semAt_some
theorem wide_fn (k : Nat) : Fence.wide.fn k = True := rfl
theorem wide_depth : Fence.wide.depth = none := rfl
attribute [local go_sem] wide_fn wide_depth
theorem each_any (p : Option Addr) (w : World) : Calls Try.prog 41 #[.pointer p] w fun e w' => e = .returned (.func (.func 43) #[] #[.pointer (some ⟨w.heap.size, 0, none⟩)]) ∧ w' = w.alloc (.cells #[.pointer p] 24) := by
  go_enter Try.func41, Try.ntmps41
  go_wp2
  go_ret
  exact ⟨rfl, rfl⟩
set_option maxRecDepth 100000 in
set_option maxHeartbeats 2000000 in
theorem each1_tells {W0 W : World} {r s n f : Nat} {a : Option Addr} {xs : List Int} {room : Nat} (Bx : Nat) (h : RingI W r s n f a xs room) (hB : W.cell? ⟨Bx, 0, none⟩ = some (.pointer (some ⟨r, 0, none⟩))) (N : Nat → Prop) (hN : ∀ k, foot r s n k ∨ k = Bx → N k) (hNl : ∀ k, N k → k < W.heap.size) (h0 : Keep N W0 W) :
    Tells Try.prog 43 #[.pointer (some ⟨Bx, 0, none⟩)] (fun i x => #[.int .i64 (i : Int), .int .i64 x]) xs N (fun _ B => Keep N W0 B) W := by
  intro l J Jx M0 hM hJ hY hJ0
  refine callsIn_of_wp Try.func43 rfl trivial ?_ rfl
  simp only [Try.ntmps43, List.size_toArray, List.length_cons, List.length_nil, Nat.reduceAdd, Nat.reduceSub, Array.replicate_succ, Array.replicate_zero, List.push_toArray, List.append_toArray, List.nil_append, List.cons_append]
  have HL := Lib.hid (callsIn_wide (n := 0 - 1).2 (len_some h))
  gi_wp2_with (gi_at_call 17; refine HL.out.mono ?_; rintro e w1 ⟨rfl, e1⟩; obtain rfl : W = w1 := e1.symm)
  gi_loopw [6] (fun i wr => ∃ (k : Nat) (M : Nat → Prop), k ≤ xs.length ∧ i = .int .i64 k ∧ J k M wr ∧ Keep N W0 wr ∧ Keep N W wr ∧ ∀ k, M k → ¬ N k)
    (fun i _ => xs.length - (intOf i).toNat)
  case atStart => exact ⟨0, M0, Nat.zero_le _, rfl, hJ0, h0, .refl _ _, fun k hk => (hM k hk).2⟩
  case round =>
    obtain ⟨k, M, hk, rfl, hJs, hK0, hK, hMN⟩ := hrel
    by_cases hlt : k < xs.length
    · have hr := h.keep hK (fun k hk => hN k (.inl hk))
      have hb : wr.cell? ⟨Bx, 0, none⟩ = some (.pointer (some ⟨r, 0, none⟩)) := (hK.cell (p := ⟨Bx, 0, none⟩) (hNl Bx (hN Bx (.inr rfl))) (hN Bx (.inr rfl))).trans hB
      obtain ⟨fn, tmps, assign, body, hy⟩ := hY.at_ (i := k) (x := xs[k]) (by simp [hlt]) hJs
      have hy1 := fun q => (hy q).1
      have hy2 := Lib.hid (fun q => (hy q).2)
      clear hy
      have c0 := hr.c0
      obtain ⟨hn, hf, rfl, hk', cs, _⟩ := hr.at_ k hlt
      have HS : Hid (∀ q, CallsIn Fence.wide 0 Try.prog 30 #[.pointer (some ⟨r, 0, none⟩), .int .i64 (k : Int)] (wr.drewN q) fun e w' => e = .returned (.int .i64 (((f + k) % n : Nat) : Int)) ∧ ∃ m, w' = (wr.drewN q).drewN m) := fun q => callsIn_wide.2 (slot_any (hr.drewN q) hn k (by have := h.fits; have := h.most; have := h.lid; omega))
      have hmx : Try.prog.follows .mixedOrders = true := by kernel_rfl
      have H1 := Lib.hid hMN
      have H2 := Lib.hid hK
      have H3 := Lib.hid hK0
      have H4 := Lib.hid hNl
      have hlx : xs.length ≤ 65536 := by have := h.fits; have := h.most; have := h.lid; omega
      clear hMN hK hK0 hN hNl hM hY h hr
      generalize (f + k) % n = z at *
      generalize xs[k] = x at *
      gi_wp2
      gi_region_with_o (first
        | (gi_at_call 30; refine (HS.out _).mono ?_; rintro e w1 ⟨rfl, m1, rfl⟩)
        | (refine (hy2.out _).mono ?_; rintro e W3 ⟨b, rfl, ho⟩))
      all_goals (
        rcases ho.out with ⟨rfl, M', hs', hk3, hJ3⟩ | ⟨rfl, M', hs', hk3, hJx3⟩
        · clear ho
          gi_wp2
          go_roundw
          case rel => exact ⟨k + 1, M', by omega, by simp, hJ3, H3.out.trans (hk3.mono fun i _ hi hm => H1.out i hm hi), H2.out.trans (hk3.mono fun i _ hi hm => H1.out i hm hi), fun i hi hn' => by
            rcases hs' i hi with h' | h'
            · exact H1.out i h' hn'
            · have := H4.out i hn'; have := H2.out.size; omega⟩
          case measure => simp [intOf]; omega
        · clear ho
          gi_wp2
          refine bodyPost_ret (results_none rfl _ _ _) rfl ?_
          exact ⟨⟨_, rfl⟩, .inr ⟨k + 1, M', by omega, by omega, hJx3, H3.out.trans (hk3.mono fun i _ hi hm => H1.out i hm hi)⟩⟩)
    · obtain rfl : k = xs.length := by omega
      gi_wp2
      go_end0
      exact ⟨⟨_, rfl⟩, .inl ⟨M, hJs, hK0⟩⟩
theorem each1_none {W : World} (Bx : Nat) (hB : W.cell? ⟨Bx, 0, none⟩ = some (.pointer none)) (N : Nat → Prop) : Tells Try.prog 43 #[.pointer (some ⟨Bx, 0, none⟩)] (fun i x => #[.int .i64 (i : Int), .int .i64 x]) ([] : List Int) N (fun _ B => B = W) W := by
  intro l J Jx M0 hM hJ hY hJ0
  refine callsIn_of_wp Try.func43 rfl trivial ?_ rfl
  simp only [Try.ntmps43, List.size_toArray, List.length_cons, List.length_nil, Nat.reduceAdd, Nat.reduceSub, Array.replicate_succ, Array.replicate_zero, List.push_toArray, List.append_toArray, List.nil_append, List.cons_append]
  have HL := Lib.hid (callsIn_wide (n := 0 - 1).2 (len_none W))
  gi_wp2_with (gi_at_call 17; refine HL.out.mono ?_; rintro e w1 ⟨rfl, e1⟩; obtain rfl : W = w1 := e1.symm)
  gi_loopw [6] (fun i wr => i = .int .i64 0 ∧ wr = W) (fun _ _ => 0)
  case atStart => exact ⟨rfl, rfl⟩
  case round =>
    obtain ⟨rfl, rfl⟩ := hrel
    gi_wp2
    go_end0
    exact ⟨⟨_, rfl⟩, .inl ⟨M0, hJ0, rfl⟩⟩
end Go.Proofs.Ytgkiekidmadabaa
