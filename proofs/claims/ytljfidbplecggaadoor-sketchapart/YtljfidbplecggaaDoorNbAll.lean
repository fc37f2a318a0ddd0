/-
  (*Row).All and the function that it returns: the places of counters that aren't 0, rising, and these, as long as one asks; of no row nothing.
-/
import Derived.Test.YtljfidbplecggaaDoorNbTurn
import Derived.Test.YtljfidbplecggaaDoorNbRange
import Derived.Shelf.Abstract
import Derived.Shelf.RegionOpen
import Derived.OwnWalkIn
import Derived.TacticsInMore
import Derived.LoopNIn
import Derived.LoopIn
namespace Go.Proofs.YtljfidbplecggaaDoor.nb
open Go.RowKit Go.Shelf
attribute [local go_sem] Oper.semAt_some
theorem wide_fn (k : Nat) : Fence.wide.fn k = True := rfl
theorem wide_depth : Fence.wide.depth = none := rfl
attribute [local go_sem] wide_fn wide_depth
/-- the places below n whose counters aren't 0, and these. -/
def told (cs : List Nat) : Nat → List (Nat × Nat)
  | 0 => []
  | n + 1 => if ct cs n = 0 then told cs n else told cs n ++ [(n, ct cs n)]
theorem told_skip {cs : List Nat} {n : Nat} (h : ct cs n = 0) : told cs (n + 1) = told cs n := if_pos h
theorem told_next {cs : List Nat} {n : Nat} (h : ct cs n ≠ 0) : told cs (n + 1) = told cs n ++ [(n, ct cs n)] := if_neg h
theorem told_at {cs : List Nat} {j : Nat} (hj : ct cs j ≠ 0) : ∀ n, j < n → (told cs n)[(told cs j).length]? = some (j, ct cs j)
  | 0, h => by omega
  | n + 1, h => by
    by_cases e : j = n
    · subst e
      rw [told_next hj]
      simp
    · have ih := told_at hj n (by omega)
      have hl := (List.getElem?_eq_some_iff.1 ih).1
      by_cases hz : ct cs n = 0
      · rw [told_skip hz]; exact ih
      · rw [told_next hz, List.getElem?_append_left hl]; exact ih
theorem told_sum (cs : List Nat) : ∀ n, n ≤ cs.length → ((told cs n).map (·.2)).sum = (cs.take n).sum
  | 0, _ => by simp [told]
  | n + 1, h => by
    have ih := told_sum cs n (by omega)
    have hc : ct cs n = cs[n] := by simp [ct, show n < cs.length by omega]
    rw [List.take_succ_eq_append_getElem (by omega), List.sum_append]
    by_cases hz : ct cs n = 0
    · rw [told_skip hz, ih, ← hc, hz]; simp
    · rw [told_next hz, List.map_append, List.sum_append, ih, hc]; simp
abbrev pairOf (_ : Nat) (x : Nat × Nat) : Array Value := #[.int .i64 (x.1 : Int), .int .i64 (x.2 : Int)]
theorem all_any (p : Option Addr) (w : World) : Calls Tryd.prog 30 #[.pointer p] w fun e w' => e = .returned (.func (.func 38) #[] #[.pointer (some ⟨w.heap.size, 0, none⟩)]) ∧ w' = w.alloc (.cells #[.pointer p] 47) := by
  go_enter Tryd.func30, Tryd.ntmps30
  go_wp2
  go_ret
  exact ⟨rfl, rfl⟩
set_option maxRecDepth 100000 in
set_option maxHeartbeats 2000000 in
theorem all1_tells {W0 W : World} {r g : Nat} {cs : List Nat} (Bx : Nat) (h : Nib W r g cs) (hB : W.cell? ⟨Bx, 0, none⟩ = some (.pointer (some ⟨r, 0, none⟩))) (N : Nat → Prop) (hr : N r) (hg : N g) (hx : N Bx) (hNl : ∀ k, N k → k < W.heap.size) (h0 : Keep N W0 W) :
    Tells Tryd.prog 38 #[.pointer (some ⟨Bx, 0, none⟩)] pairOf (told cs cs.length) N (fun _ B => Keep N W0 B) W := by
  intro l J Jx M0 hM hJ hY hJ0
  refine callsIn_of_wp Tryd.func38 rfl trivial ?_ rfl
  simp only [Tryd.ntmps38, List.size_toArray, List.length_cons, List.length_nil, Nat.reduceAdd, Nat.reduceSub, Array.replicate_succ, Array.replicate_zero, List.push_toArray, List.append_toArray, List.nil_append, List.cons_append]
  have HL := Lib.hid (callsIn_wide (n := 0 - 1).2 (len_some h))
  gi_wp2_with (gi_at_call 34; refine HL.out.mono ?_; rintro e w1 ⟨rfl, e1⟩; obtain rfl : W = w1 := e1.symm)
  gi_loopw [7] (fun i wr => ∃ (j : Nat) (M : Nat → Prop), j ≤ cs.length ∧ i = .int .i64 j ∧ J (told cs j).length M wr ∧ Keep N W0 wr ∧ Keep N W wr ∧ ∀ k, M k → ¬ N k)
    (fun i _ => cs.length - (intOf i).toNat)
  case atStart => exact ⟨0, M0, Nat.zero_le _, rfl, hJ0, h0, .refl _ _, fun k hk => (hM k hk).2⟩
  case round =>
    obtain ⟨j, M, hj, rfl, hJs, hK0, hK, hMN⟩ := hrel
    have hlen := h.lid
    by_cases hlt : j < cs.length
    · have hn := h.keep hK hr hg
      have hb : wr.cell? ⟨Bx, 0, none⟩ = some (.pointer (some ⟨r, 0, none⟩)) := (hK.cell (p := ⟨Bx, 0, none⟩) (hNl Bx hx) hx).trans hB
      have HG := Lib.hid (callsIn_wide (n := 0 - 1).2 (get_in hn j hlt))
      by_cases hz : ct cs j = 0
      · have R : Hid (∀ q, J (told cs (j + 1)).length M (wr.drewN q) ∧ Keep N W0 (wr.drewN q) ∧ Keep N W (wr.drewN q) ∧ ∀ k, M k → ¬ N k) := fun q => ⟨by rw [told_skip hz]; exact hJ _ _ _ _ hJs (Keep.drewN _ _ _), hK0.trans (Keep.drewN _ _ _), hK.trans (Keep.drewN _ _ _), hMN⟩
        rw [hz] at HG
        clear hMN hK hK0 hNl hM hY h hn hJs hz
        gi_wp2_with (gi_at_call 31; refine HG.out.mono ?_; rintro e w1 ⟨rfl, m1, rfl⟩)
        go_roundw
        case rel => exact ⟨j + 1, M, by omega, by simp, R.out _⟩
        case measure => simp [intOf]; omega
      · obtain ⟨fn, tmps, assign, body, hy⟩ := hY.at_ (x := (j, ct cs j)) (told_at hz cs.length hlt) hJs
        have hy1 := fun q => (hy q).1
        have hy2 := Lib.hid (fun q => (hy q).2)
        clear hy
        have hln : (told cs (j + 1)).length = (told cs j).length + 1 := by rw [told_next hz]; simp
        have hle : (told cs j).length < (told cs cs.length).length := (List.getElem?_eq_some_iff.1 (told_at hz cs.length hlt)).1
        have H0 := Lib.hid hln
        have H1 := Lib.hid hMN
        have H2 := Lib.hid hK
        have H3 := Lib.hid hK0
        have H4 := Lib.hid hNl
        have H5 := Lib.hid hle
        have hz' : ¬ (ct cs j : Int) = 0 := by omega
        clear hMN hK hK0 hNl hM hY h hn hln hz hle
        simp only [pairOf] at hy1
        generalize ct cs j = c at *
        generalize (told cs j).length = t at *
        gi_wp2_with (gi_at_call 31; refine HG.out.mono ?_; rintro e w1 ⟨rfl, m1, rfl⟩)
        refine (hy2.out _).mono ?_
        rintro e W3 ⟨b, rfl, ho⟩
        rcases ho.out with ⟨rfl, M', hs', hk3, hJ3⟩ | ⟨rfl, M', hs', hk3, hJx3⟩
        · clear ho
          gi_wp2
          go_roundw
          case rel => exact ⟨j + 1, M', by omega, by simp, H0.out ▸ hJ3, H3.out.trans (hk3.mono fun i _ hi hm => H1.out i hm hi), H2.out.trans (hk3.mono fun i _ hi hm => H1.out i hm hi), fun i hi hn' => by
            rcases hs' i hi with h' | h'
            · exact H1.out i h' hn'
            · have := H4.out i hn'; have := H2.out.size; omega⟩
          case measure => simp [intOf]; omega
        · clear ho
          gi_wp2
          refine bodyPost_ret (results_none rfl _ _ _) rfl ?_
          exact ⟨⟨_, rfl⟩, .inr ⟨t + 1, M', by omega, H5.out, hJx3, H3.out.trans (hk3.mono fun i _ hi hm => H1.out i hm hi)⟩⟩
    · obtain rfl : j = cs.length := by omega
      gi_wp2
      go_end0
      exact ⟨⟨_, rfl⟩, .inl ⟨M, hJs, hK0⟩⟩
theorem all1_none {W0 W : World} (Bx : Nat) (hB : W.cell? ⟨Bx, 0, none⟩ = some (.pointer none)) (N : Nat → Prop) (h0 : Keep N W0 W) : Tells Tryd.prog 38 #[.pointer (some ⟨Bx, 0, none⟩)] pairOf ([] : List (Nat × Nat)) N (fun _ B => Keep N W0 B) W := by
  intro l J Jx M0 hM hJ hY hJ0
  refine callsIn_of_wp Tryd.func38 rfl trivial ?_ rfl
  simp only [Tryd.ntmps38, List.size_toArray, List.length_cons, List.length_nil, Nat.reduceAdd, Nat.reduceSub, Array.replicate_succ, Array.replicate_zero, List.push_toArray, List.append_toArray, List.nil_append, List.cons_append]
  have HL := Lib.hid (callsIn_wide (n := 0 - 1).2 (len_none W))
  gi_wp2_with (gi_at_call 34; refine HL.out.mono ?_; rintro e w1 ⟨rfl, e1⟩; obtain rfl : W = w1 := e1.symm)
  gi_loopw [7] (fun i wr => i = .int .i64 0 ∧ wr = W) (fun _ _ => 0)
  case atStart => exact ⟨rfl, rfl⟩
  case round =>
    obtain ⟨rfl, rfl⟩ := hrel
    gi_wp2
    go_end0
    exact ⟨⟨_, rfl⟩, .inl ⟨M0, hJ0, h0⟩⟩
end Go.Proofs.YtljfidbplecggaaDoor.nb
