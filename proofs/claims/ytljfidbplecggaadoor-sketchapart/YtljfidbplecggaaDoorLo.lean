/-
  The document's Lonely, by its contract; rows of keys that one appends to.
-/
import Derived.Test.YtljfidbplecggaaDoorLm
import Derived.Test.YtljfidbplecggaaDoorRc
namespace Go.Proofs.YtljfidbplecggaaDoor
open Go.RowKit
open nb (Keep Nib ct cell_of frozen_of heap_set heap_set_other heap_old heap_next heap_lt getAt mayAdd addAt Q e64 info_parts step_ex app_step)
abbrev eu (c : Nat) : Value := .int .u64 (c : Int)
/-- is the key alone in the row i, of the first j keys? -/
noncomputable def aloneTo (seed n x : Nat) (l : List Nat) (i j : Nat) : Bool := aloneIn seed n x (l.take j) i
theorem alone_zero (seed n x : Nat) (l : List Nat) (i : Nat) : aloneTo seed n x l i 0 = true := by simp [aloneTo, aloneIn]
theorem alone_next (seed n x : Nat) (l : List Nat) (i j : Nat) (hj : j < l.length) : aloneTo seed n x l i (j + 1) = (aloneTo seed n x l i j && (l[j] == x || plN seed n l[j] i != plN seed n x i)) := by
  unfold aloneTo aloneIn
  rw [List.take_succ_eq_append_getElem hj, List.all_append]
  simp
theorem alone_all (seed n x : Nat) (l : List Nat) (i : Nat) : aloneTo seed n x l i l.length = aloneIn seed n x l i := by simp [aloneTo]
set_option maxHeartbeats 4000000 in
theorem lonely_any (n seed x : Nat) (hx : x < 18446744073709551616) (hp : 0 < n) (hl : n ≤ 4096) (a : Option Addr) (k cap : Nat) (w : World) (v : Value) (l : List Nat) (hq : Q eu w v l) (hlow : ∀ y ∈ l, y < 18446744073709551616) (hll : l.length ≤ 100000) :
    Calls Tryd.prog 21 #[sv (.slice a k cap) n seed, .int .u64 (x : Int), v] w fun e B => e = .returned (.bool (lonely seed n x l)) ∧ Hid (Below w.heap.size w B) := by
  obtain ⟨N, hN⟩ : ∃ N, w.heap.size = N := ⟨_, rfl⟩
  -- a key of the list, as it reads now
  have C : Hid (∀ W, Below w.heap.size w W → ∀ j, j < l.length → ∃ b o c Y, v = .slice (some ⟨b, o, none⟩) l.length c ∧ l[j]? = some Y ∧ W.cell? ⟨b, o + j, none⟩ = some (.int .u64 (Y : Int)) ∧ Y < 18446744073709551616) := fun W hW j hj => by
    obtain ⟨b, o, c, hv, hc⟩ := (hq.below hW).at_ j hj
    exact ⟨b, o, c, l[j], hv, by simp [hj], by rw [hc]; simp [ct, hj], hlow _ (List.getElem_mem hj)⟩
  have A : Hid (∀ i j Y, l[j]? = some Y → aloneTo seed n x l i (j + 1) = (aloneTo seed n x l i j && (Y == x || plN seed n Y i != plN seed n x i))) := fun i j Y h => by
    obtain ⟨hj, rfl⟩ := List.getElem?_eq_some_iff.1 h
    exact alone_next seed n x l i j hj
  have A0 : Hid (∀ i, aloneTo seed n x l i 0 = true) := fun i => alone_zero seed n x l i
  have A1 : Hid (∀ i, aloneTo seed n x l i l.length = aloneIn seed n x l i) := fun i => alone_all seed n x l i
  have L1 : Hid (∀ i, i < 4 → aloneIn seed n x l i = true → lonely seed n x l = true) := fun i hi h => lonely_some i hi h
  have L0 : Hid ((∀ i, i < 4 → aloneIn seed n x l i = false) → lonely seed n x l = false) := fun h => lonely_none h
  obtain ⟨a1, c1, rfl, -⟩ := hq.slice
  have P : Hid (∀ (W : World) (y i : Nat), y < 18446744073709551616 → i < 4 → Below N w W → Calls Tryd.prog 19 #[sv (.slice a k cap) n seed, .int .u64 (y : Int), .int .i64 (i : Int)] W fun e B => e = .returned (.int .i64 (plN seed n y i : Int)) ∧ Hid (Below W.heap.size W B)) := fun W y i hy hi hW => refplace_in a k cap n seed y i hp hl hy hi W
  have hb0 : Hid (Below N w (w.alloc (.cells #[.slice a k cap, .int .i64 (n : Int), .int .u64 (seed : Int)] 29))) := (Below.refl _ _).alloc (by omega) _
  have hh0 := arg_box w N hN (.slice a k cap) (.int .i64 (n : Int)) (.int .u64 (seed : Int))
  clear hq hlow
  generalize hlen : l.length = len at *
  generalize lonely seed n x l = res at *
  generalize aloneIn seed n x l = al at *
  generalize aloneTo seed n x l = al2 at *
  go_enter Tryd.func21, Tryd.ntmps21
  go_wp2_with fail
  rw [hN] at C
  generalize w.alloc (.cells #[.slice a k cap, .int .i64 (n : Int), .int .u64 (seed : Int)] 29) = W0 at *
  have H0 : Hid (W0.heap[N]? = some (.cells #[.slice a k cap, .int .i64 (n : Int), .int .u64 (seed : Int)] 29 (0, 0)) ∧ Below N w W0) := ⟨hh0, hb0.out⟩
  have HN := Lib.hid hN
  clear hh0 hb0 hN
  go_loopw [7] (fun i wr => ∃ j : Nat, j ≤ 4 ∧ i = .int .i64 j ∧ Hid ((∀ i, i < j → al i = false) ∧ wr.heap[N]? = some (.cells #[.slice a k cap, .int .i64 (n : Int), .int .u64 (seed : Int)] 29 (0, 0)) ∧ Below N w wr)) (fun i _ => 4 - (intOf i).toNat)
  case atStart => exact ⟨0, by omega, rfl, fun i hi => absurd hi (by omega), H0.out⟩
  case round =>
    obtain ⟨i, hi, rfl, hH⟩ := hrel
    clear H0
    by_cases hlt : i < 4
    · have h1 : (i : Int) < 4 := by omega
      have F : Hid (∀ j, j < i → al j = false) := hH.out.1
      have K : Hid (wr.heap[N]? = some (.cells #[.slice a k cap, .int .i64 (n : Int), .int .u64 (seed : Int)] 29 (0, 0)) ∧ Below N w wr) := hH.out.2
      clear hH hi
      go_wp2_with fail
      go_loopw [8, 9] (fun b q wr => ∃ j : Nat, j ≤ len ∧ q = .int .i64 j ∧ b = .bool (al2 i j) ∧ Hid (wr.heap[N]? = some (.cells #[.slice a k cap, .int .i64 (n : Int), .int .u64 (seed : Int)] 29 (0, 0)) ∧ Below N w wr)) (fun _ q _ => len - (intOf q).toNat)
      case atStart => exact ⟨0, by omega, rfl, by rw [A0.out], K⟩
      case round =>
        obtain ⟨j, hj, rfl, rfl, hK⟩ := hrel
        clear K
        by_cases hjl : j < len
        · obtain ⟨b, o, c, Y, hv, hY, hc, hYl⟩ := C.out wr hK.out.2 j hjl
          obtain ⟨rfl, -, rfl⟩ := Value.slice.inj hv
          have e := Lib.hid (A.out i j Y hY)
          have j1 : (0 : Int) ≤ (j : Int) := by omega
          have j2 : (j : Int) < (len : Int) := by omega
          have hc' : Hid (∀ W, Below wr.heap.size wr W → W.cell? ⟨b, o + j, none⟩ = some (.int .u64 (Y : Int))) := fun W hW => (hW.cell (p := ⟨b, o + j, none⟩) (World.block_lt_of_cell? wr ⟨b, o + j, none⟩ hc)).trans hc
          by_cases hYx : Y = x
          · subst hYx
            have hg : ((Y : Int) != (Y : Int)) = false := by simp
            have x0 : wr.cell? ⟨N, 0, none⟩ = some (.slice a k cap) := by rw [cell_of hK.out.1]; rfl
            have x1 : wr.cell? ⟨N, 1, none⟩ = some (.int .i64 (n : Int)) := by rw [cell_of hK.out.1]; rfl
            have x2 : wr.cell? ⟨N, 2, none⟩ = some (.int .u64 (seed : Int)) := by rw [cell_of hK.out.1]; rfl
            go_wp2_with fail
            go_quiet (fail)
            go_wp2
            go_roundw
            case rel => exact ⟨j + 1, by omega, by simp, by rw [e.out]; simp, hK.out.1, hK.out.2.trans ⟨rfl, rfl, rfl, Nat.le_refl _, fun _ _ => rfl⟩⟩
            case measure => simp [intOf]; omega
          · have hYn : ¬ (Y : Int) = (x : Int) := by omega
            have hg : ((Y : Int) != (x : Int)) = true := by simpa using hYn
            obtain ⟨py, hpy⟩ : ∃ p, plN seed n Y i = p := ⟨_, rfl⟩
            obtain ⟨px, hpx⟩ : ∃ p, plN seed n x i = p := ⟨_, rfl⟩
            rw [hpy, hpx] at e
            have R : Hid (wr.drew.heap[N]? = some (.cells #[.slice a k cap, .int .i64 (n : Int), .int .u64 (seed : Int)] 29 (0, 0)) ∧ Below N w wr.drew) := ⟨hK.out.1, hK.out.2.trans ⟨rfl, rfl, rfl, Nat.le_refl _, fun _ _ => rfl⟩⟩
            have Z : Hid (∀ W, (W.heap[N]? = some (.cells #[.slice a k cap, .int .i64 (n : Int), .int .u64 (seed : Int)] 29 (0, 0)) ∧ Below N w W) → (W.cell? ⟨N, 0, none⟩ = some (.slice a k cap) ∧ W.cell? ⟨N, 1, none⟩ = some (.int .i64 (n : Int)) ∧ W.cell? ⟨N, 2, none⟩ = some (.int .u64 (seed : Int)) ∧ W.cell? ⟨b, o + j, none⟩ = some (.int .u64 (Y : Int)))) := fun W hW => by
              obtain ⟨b', o', c', Y', hv, hY', hc2, _⟩ := C.out W hW.2 j hjl
              obtain ⟨e1, -, -⟩ := Value.slice.inj hv
              simp only [Option.some.injEq, Addr.mk.injEq, and_true] at e1
              obtain ⟨rfl, rfl⟩ := e1
              rw [hY] at hY'
              obtain rfl := Option.some.inj hY'
              exact ⟨by rw [cell_of hW.1]; rfl, by rw [cell_of hW.1]; rfl, by rw [cell_of hW.1]; rfl, hc2⟩
            have K1 := Lib.hid (Z.out _ R.out)
            have Py : Hid (∀ W, (W.heap[N]? = some (.cells #[.slice a k cap, .int .i64 (n : Int), .int .u64 (seed : Int)] 29 (0, 0)) ∧ Below N w W) → Calls Tryd.prog 19 #[sv (.slice a k cap) n seed, .int .u64 (Y : Int), .int .i64 (i : Int)] W fun e B => e = .returned (.int .i64 (py : Int)) ∧ (B.cell? ⟨N, 0, none⟩ = some (.slice a k cap) ∧ B.cell? ⟨N, 1, none⟩ = some (.int .i64 (n : Int)) ∧ B.cell? ⟨N, 2, none⟩ = some (.int .u64 (seed : Int)) ∧ B.cell? ⟨b, o + j, none⟩ = some (.int .u64 (Y : Int))) ∧ Hid (B.heap[N]? = some (.cells #[.slice a k cap, .int .i64 (n : Int), .int .u64 (seed : Int)] 29 (0, 0)) ∧ Below N w B)) := fun W hW => by
              rw [← hpy]
              refine (P.out W Y i hYl hlt hW.2).mono fun e B ⟨he, hb⟩ => ?_
              have hW2 : B.heap[N]? = some (.cells #[.slice a k cap, .int .i64 (n : Int), .int .u64 (seed : Int)] 29 (0, 0)) ∧ Below N w B := ⟨(hb.out.block N (heap_lt hW.1)).trans hW.1, hW.2.trans (hb.out.mono (Nat.le_of_lt (heap_lt hW.1)))⟩
              exact ⟨he, Z.out B hW2, hW2⟩
            have Px : Hid (∀ W, (W.heap[N]? = some (.cells #[.slice a k cap, .int .i64 (n : Int), .int .u64 (seed : Int)] 29 (0, 0)) ∧ Below N w W) → Calls Tryd.prog 19 #[sv (.slice a k cap) n seed, .int .u64 (x : Int), .int .i64 (i : Int)] W fun e B => e = .returned (.int .i64 (px : Int)) ∧ (B.cell? ⟨N, 0, none⟩ = some (.slice a k cap) ∧ B.cell? ⟨N, 1, none⟩ = some (.int .i64 (n : Int)) ∧ B.cell? ⟨N, 2, none⟩ = some (.int .u64 (seed : Int)) ∧ B.cell? ⟨b, o + j, none⟩ = some (.int .u64 (Y : Int))) ∧ Hid (B.heap[N]? = some (.cells #[.slice a k cap, .int .i64 (n : Int), .int .u64 (seed : Int)] 29 (0, 0)) ∧ Below N w B)) := fun W hW => by
              rw [← hpx]
              refine (P.out W x i hx hlt hW.2).mono fun e B ⟨he, hb⟩ => ?_
              have hW2 : B.heap[N]? = some (.cells #[.slice a k cap, .int .i64 (n : Int), .int .u64 (seed : Int)] 29 (0, 0)) ∧ Below N w B := ⟨(hb.out.block N (heap_lt hW.1)).trans hW.1, hW.2.trans (hb.out.mono (Nat.le_of_lt (heap_lt hW.1)))⟩
              exact ⟨he, Z.out B hW2, hW2⟩
            have hne : ¬ Y = x := hYx
            clear hc' hc hK C A Z P hpy hpx F L1 L0 A0 A1
            have ways : py = px ∨ py ≠ px := by omega
            rcases ways with rfl | hpp
            · have hq : ((py : Int) == (py : Int)) = true := by simp
              go_wp2_with fail
              go_region_held3 (fun W => W.cell? ⟨N, 0, none⟩ = some (.slice a k cap) ∧ W.cell? ⟨N, 1, none⟩ = some (.int .i64 (n : Int)) ∧ W.cell? ⟨N, 2, none⟩ = some (.int .u64 (seed : Int)) ∧ W.cell? ⟨b, o + j, none⟩ = some (.int .u64 (Y : Int))) (first | exact K1.out | assumption) (first
                | (go_at_call_of 19 (Value.int IntKind.u64 (x : Int)); refine (Px.out _ h9.out).mono ?_; rintro e w10 ⟨rfl, S10, h10⟩)
                | (go_at_call_of 19 (Value.int IntKind.u64 (Y : Int)); refine (Py.out _ R.out).mono ?_; rintro e w9 ⟨rfl, S9, h9⟩))
              clear S9 S10 h9 Px Py K1 R
              go_wp2
              go_roundw
              case rel => exact ⟨j + 1, by omega, by simp, by rw [e.out]; simp [hne], h10⟩
              case measure => simp [intOf]; omega
            · have hq : ((py : Int) == (px : Int)) = false := by simp; omega
              go_wp2_with fail
              go_region_held3 (fun W => W.cell? ⟨N, 0, none⟩ = some (.slice a k cap) ∧ W.cell? ⟨N, 1, none⟩ = some (.int .i64 (n : Int)) ∧ W.cell? ⟨N, 2, none⟩ = some (.int .u64 (seed : Int)) ∧ W.cell? ⟨b, o + j, none⟩ = some (.int .u64 (Y : Int))) (first | exact K1.out | assumption) (first
                | (go_at_call_of 19 (Value.int IntKind.u64 (x : Int)); refine (Px.out _ h9.out).mono ?_; rintro e w10 ⟨rfl, S10, h10⟩)
                | (go_at_call_of 19 (Value.int IntKind.u64 (Y : Int)); refine (Py.out _ R.out).mono ?_; rintro e w9 ⟨rfl, S9, h9⟩))
              clear S9 S10 h9 Px Py K1 R
              go_wp2
              go_roundw
              case rel => exact ⟨j + 1, by omega, by simp, by rw [e.out]; simp [hne, hpp], h10⟩
              case measure => simp [intOf]; omega
        · obtain rfl : j = len := by omega
          have e := A1.out i
          have k0 := hK.out
          cases hal : al i
          · have e2 : al2 i j = false := by rw [e, hal]
            rw [e2]
            clear C A e
            go_wp2
            go_roundw
            case rel => exact ⟨i + 1, by omega, by simp, fun q hq => by
              by_cases h : q = i
              · rw [h, hal]
              · exact F.out q (by omega), k0⟩
            case measure => simp [intOf]; omega
          · have e2 : al2 i j = true := by rw [e, hal]
            rw [e2]
            have hres := L1.out i hlt hal
            clear C A e
            go_wp2
            go_ret
            exact ⟨by rw [hres]; rfl, by rw [HN.out]; exact k0.2⟩
    · obtain rfl : i = 4 := by omega
      go_wp2
      go_ret
      exact ⟨by rw [L0.out hH.out.1]; rfl, by rw [HN.out]; exact hH.out.2.2⟩
end Go.Proofs.YtljfidbplecggaaDoor
