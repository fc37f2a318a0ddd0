/-
  The document's Lonely (cortadoref12), by its contract.
-/
import Derived.Test.YtmfdobppihjjkaaDoorRb
import Derived.Deep.RegionHeld3
namespace Go.Proofs.YtmfdobppihjjkaaDoor
open Go.RowKit
abbrev eu (c : Nat) : Value := .int .u64 (c : Int)
/-- none of the first j places of a key is this place. -/
def farTo (py : Nat → Nat) (q j : Nat) : Bool := (List.range j).all fun r => py r != q
theorem far_zero (py : Nat → Nat) (q : Nat) : farTo py q 0 = true := rfl
theorem far_next (py : Nat → Nat) (q j : Nat) : farTo py q (j + 1) = (farTo py q j && (py j != q)) := by simp [farTo, List.range_succ]
/-- is the key's place i alone, among these keys? -/
noncomputable def aloneIn (t n x : Nat) (l : List Nat) (i : Nat) : Bool := l.all fun y => y == x || farTo (plN t n y) (plN t n x i) 4
/-- has the key a place where none of the others of these keys stands? -/
noncomputable def lonely (t n x : Nat) (l : List Nat) : Bool := (List.range 4).any (aloneIn t n x l)
theorem lonely_some {t n x : Nat} {l : List Nat} (i : Nat) (hi : i < 4) (h : aloneIn t n x l i = true) : lonely t n x l = true := List.any_eq_true.2 ⟨i, List.mem_range.2 hi, h⟩
theorem lonely_none {t n x : Nat} {l : List Nat} (h : ∀ i, i < 4 → aloneIn t n x l i = false) : lonely t n x l = false := by
  unfold lonely
  rw [List.any_eq_false]
  intro i hi
  rw [h i (List.mem_range.1 hi)]
  decide
/-- .. among the first k keys. -/
noncomputable def aloneTo (t n x : Nat) (l : List Nat) (i k : Nat) : Bool := aloneIn t n x (l.take k) i
theorem alone_zero (t n x : Nat) (l : List Nat) (i : Nat) : aloneTo t n x l i 0 = true := by simp [aloneTo, aloneIn]
theorem alone_next (t n x : Nat) (l : List Nat) (i k : Nat) (hk : k < l.length) : aloneTo t n x l i (k + 1) = (aloneTo t n x l i k && (l[k] == x || farTo (plN t n l[k]) (plN t n x i) 4)) := by
  unfold aloneTo aloneIn
  rw [List.take_succ_eq_append_getElem hk, List.all_append]
  simp
theorem alone_all (t n x : Nat) (l : List Nat) (i : Nat) : aloneTo t n x l i l.length = aloneIn t n x l i := by simp [aloneTo]
/-- the argument's box in block N; places in block b. -/
structure Ow (w : World) (N seed : Nat) (v0 : Value) (b : Nat) (p : Nat → Nat) (W : World) : Prop where
  arg : W.heap[N]? = some (.cells #[v0, .int .u64 (seed : Int)] 29 (0, 0))
  own : ∀ i, i < 4 → W.cell? ⟨b, i, none⟩ = some (.int .i64 (p i : Int))
  old : Below N w W
theorem q4 {W : World} {b c : Nat} {p : Nat → Nat} (h : Q e64 W (.slice (some ⟨b, 0, none⟩) 4 c) (pl4 p 4)) : ∀ i, i < 4 → W.cell? ⟨b, i, none⟩ = some (.int .i64 (p i : Int)) := fun i hi => by
  obtain ⟨b', o', c', hv, hc⟩ := h.at_ i (by rw [pl4_len]; exact hi)
  obtain ⟨e1, -, -⟩ := Value.slice.inj hv
  simp only [Option.some.injEq, Addr.mk.injEq, and_true] at e1
  obtain ⟨rfl, rfl⟩ := e1
  rwa [Nat.zero_add, pl4_at p i 4 hi] at hc
namespace Ow
variable {w W B : World} {N seed b : Nat} {v0 : Value} {p : Nat → Nat}
theorem below (h : Ow w N seed v0 b p W) (hb : Below W.heap.size W B) : Ow w N seed v0 b p B :=
  ⟨(hb.block N (heap_lt h.arg)).trans h.arg, fun i hi => (hb.cell (p := ⟨b, i, none⟩) (World.block_lt_of_cell? W ⟨b, i, none⟩ (h.own i hi))).trans (h.own i hi), h.old.trans (hb.mono (Nat.le_of_lt (heap_lt h.arg)))⟩
theorem drewN (h : Ow w N seed v0 b p W) (q : Nat) : Ow w N seed v0 b p (W.drewN q) := h.below ⟨rfl, rfl, rfl, Nat.le_refl _, fun _ _ => rfl⟩
end Ow
set_option maxHeartbeats 4000000 in
theorem lonely_any (n seed x : Nat) (hs : seed < 18446744073709551616) (hx : x < 18446744073709551616) (hp : 0 < n) (hl : n ≤ 32768) (a : Option Addr) (cap : Nat) (w : World) (v : Value) (l : List Nat) (hq : Q eu w v l) (hlow : ∀ y ∈ l, y < 18446744073709551616) (hll : l.length ≤ 100000) :
    Calls Tryd.prog 19 #[dv (.slice a n cap) seed, .int .u64 (x : Int), v] w fun e B => e = .returned (.bool (lonely (mixF seed) n x l)) ∧ Hid (Below w.heap.size w B) := by
  obtain ⟨N, hN⟩ : ∃ N, w.heap.size = N := ⟨_, rfl⟩
  have P : Hid (∀ (W : World) (y : Nat), y < 18446744073709551616 → Calls Tryd.prog 9 #[dv (.slice a n cap) seed, .int .u64 (y : Int)] W fun e B => ∃ b c, e = .returned (.slice (some ⟨b, 0, none⟩) 4 c) ∧ Q e64 B (.slice (some ⟨b, 0, none⟩) 4 c) (pl4 (plN (mixF seed) n y) 4) ∧ W.heap.size ≤ b ∧ Below W.heap.size W B) := fun W y hy => refplaces_any a n cap seed hp hl hs y hy W
  generalize mixF seed = t at *
  -- a key of the list, as it reads now
  have C : Hid (∀ W, Below N w W → ∀ j, j < l.length → ∃ b o c Y, v = .slice (some ⟨b, o, none⟩) l.length c ∧ l[j]? = some Y ∧ W.cell? ⟨b, o + j, none⟩ = some (.int .u64 (Y : Int)) ∧ Y < 18446744073709551616) := fun W hW j hj => by
    obtain ⟨b, o, c, hv, hc⟩ := (hq.below (hN ▸ hW)).at_ j hj
    exact ⟨b, o, c, l[j], hv, by simp [hj], by rw [hc]; simp [ct, hj], hlow _ (List.getElem_mem hj)⟩
  have A : Hid (∀ i j Y, l[j]? = some Y → aloneTo t n x l i (j + 1) = (aloneTo t n x l i j && (Y == x || farTo (plN t n Y) (plN t n x i) 4))) := fun i j Y h => by
    obtain ⟨hj, rfl⟩ := List.getElem?_eq_some_iff.1 h
    exact alone_next t n x l i j hj
  have A0 : Hid (∀ i, aloneTo t n x l i 0 = true) := fun i => alone_zero t n x l i
  have A1 : Hid (∀ i, aloneTo t n x l i l.length = aloneIn t n x l i) := fun i => alone_all t n x l i
  have L1 : Hid (∀ i, i < 4 → aloneIn t n x l i = true → lonely t n x l = true) := fun i hi h => lonely_some i hi h
  have L0 : Hid ((∀ i, i < 4 → aloneIn t n x l i = false) → lonely t n x l = false) := fun h => lonely_none h
  obtain ⟨a1, c1, rfl, -⟩ := hq.slice
  obtain ⟨W1, hW1⟩ : ∃ W1, w.alloc (.cells #[.slice a n cap, .int .u64 (seed : Int)] 29) = W1 := ⟨_, rfl⟩
  have hr1 : W1.heap[N]? = some (.cells #[.slice a n cap, .int .u64 (seed : Int)] 29 (0, 0)) := by rw [← hW1]; exact arg_box w N hN _ _
  have hb1 : Below N w W1 := by rw [← hW1]; exact (Below.refl _ _).alloc (by omega) _
  have c0 : W1.cell? ⟨N, 0, none⟩ = some (.slice a n cap) := by rw [cell_of hr1]; rfl
  have c1' : W1.cell? ⟨N, 1, none⟩ = some (.int .u64 (seed : Int)) := by rw [cell_of hr1]; rfl
  have START : Hid (∀ b c B, Q e64 B (.slice (some ⟨b, 0, none⟩) 4 c) (pl4 (plN t n x) 4) → Below W1.heap.size W1 B → Ow w N seed (.slice a n cap) b (plN t n x) B) := fun b c B h1 h2 => ⟨(h2.block N (heap_lt hr1)).trans hr1, q4 h1, hb1.trans (h2.mono (Nat.le_of_lt (heap_lt hr1)))⟩
  clear hq hlow hr1 hb1
  generalize hlen : l.length = len at *
  generalize lonely t n x l = res at *
  generalize aloneIn t n x l = al at *
  generalize aloneTo t n x l = al2 at *
  have Px := Lib.hid (fun W => P.out W x hx)
  generalize plN t n x = px at *
  rw [hN]
  go_enter Tryd.func19, Tryd.ntmps19
  go_wp2_with fail
  clear hW1
  refine (Px.out _).mono ?_
  rintro e w2 ⟨b0, c2, rfl, hq, -, hb2⟩
  have H0 := Lib.hid (START.out b0 c2 w2 hq hb2)
  clear hq hb2 START c0 c1'
  go_wp2_with fail
  go_loopw [8] (fun i wr => ∃ i' : Nat, i' ≤ 4 ∧ i = .int .i64 i' ∧ Hid ((∀ q, q < i' → al q = false) ∧ Ow w N seed (.slice a n cap) b0 px wr)) (fun i _ => 4 - (intOf i).toNat)
  case atStart => exact ⟨0, by omega, rfl, fun i hi => absurd hi (by omega), H0.out⟩
  case round =>
    obtain ⟨i, hi, rfl, hH⟩ := hrel
    clear H0
    by_cases hlt : i < 4
    · have h1 : (i : Int) < 4 := by omega
      have F : Hid (∀ q, q < i → al q = false) := hH.out.1
      have K : Hid (Ow w N seed (.slice a n cap) b0 px wr) := hH.out.2
      clear hH hi
      go_wp2_with fail
      go_loopw [9, 10] (fun b q wr => ∃ k : Nat, k ≤ len ∧ q = .int .i64 k ∧ b = .bool (al2 i k) ∧ Hid (Ow w N seed (.slice a n cap) b0 px wr)) (fun _ q _ => len - (intOf q).toNat)
      case atStart => exact ⟨0, by omega, rfl, by rw [A0.out], K⟩
      case round =>
        obtain ⟨k, hk, rfl, rfl, hK⟩ := hrel
        clear K
        by_cases hkl : k < len
        · obtain ⟨b, o, c, Y, hv, hY, hc, hYl⟩ := C.out wr hK.out.old k hkl
          obtain ⟨rfl, -, rfl⟩ := Value.slice.inj hv
          have e := Lib.hid (A.out i k Y hY)
          have j1 : (0 : Int) ≤ (k : Int) := by omega
          have j2 : (k : Int) < (len : Int) := by omega
          by_cases hYx : Y = x
          · subst hYx
            have hg : ((Y : Int) == (Y : Int)) = true := by simp
            clear C A P F L1 L0 A0 A1
            go_wp2_with fail
            go_roundw
            case rel => exact ⟨k + 1, by omega, by simp, by rw [e.out]; simp, hK⟩
            case measure => simp [intOf]; omega
          · have hg : ((Y : Int) == (x : Int)) = false := by simp; omega
            have hYn : ¬ (Y : Int) = (x : Int) := by omega
            have e : Hid (al2 i (k + 1) = (al2 i k && farTo (plN t n Y) (px i) 4)) := by
              have e := e.out
              have hb : (Y == x) = false := by simpa using hYx
              rw [hb, Bool.false_or] at e
              exact e
            have K1 : Hid (∀ W, Ow w N seed (.slice a n cap) b0 px W → (W.cell? ⟨N, 0, none⟩ = some (.slice a n cap) ∧ W.cell? ⟨N, 1, none⟩ = some (.int .u64 (seed : Int)) ∧ W.cell? ⟨b, o + k, none⟩ = some (.int .u64 (Y : Int)))) := fun W hW => by
              obtain ⟨b', o', c', Y', hv, hY', hc2, _⟩ := C.out W hW.old k hkl
              obtain ⟨e1, -, -⟩ := Value.slice.inj hv
              simp only [Option.some.injEq, Addr.mk.injEq, and_true] at e1
              obtain ⟨rfl, rfl⟩ := e1
              rw [hY] at hY'
              obtain rfl := Option.some.inj hY'
              exact ⟨by rw [cell_of hW.arg]; rfl, by rw [cell_of hW.arg]; rfl, hc2⟩
            have K2 := Lib.hid (K1.out _ (hK.out.drewN 1))
            have Py : Hid (∀ W, Ow w N seed (.slice a n cap) b0 px W → Calls Tryd.prog 9 #[dv (.slice a n cap) seed, .int .u64 (Y : Int)] W fun e B => ∃ b1 c1, e = .returned (.slice (some ⟨b1, 0, none⟩) 4 c1) ∧ (B.cell? ⟨N, 0, none⟩ = some (.slice a n cap) ∧ B.cell? ⟨N, 1, none⟩ = some (.int .u64 (seed : Int)) ∧ B.cell? ⟨b, o + k, none⟩ = some (.int .u64 (Y : Int))) ∧ Hid (Ow w N seed (.slice a n cap) b0 px B ∧ Ow w N seed (.slice a n cap) b1 (plN t n Y) B)) := fun W hW => by
              refine (P.out W Y hYl).mono fun e B ⟨b1, c1, he, hq, _, hb⟩ => ?_
              have h2 := hW.below hb
              exact ⟨b1, c1, he, K1.out B h2, h2, ⟨h2.arg, q4 hq, h2.old⟩⟩
            have PY := Lib.hid (Py.out _ (hK.out.drewN 1))
            generalize plN t n Y = py at *
            clear C A P F L1 L0 A0 A1 K1 Py hK hYx hY
            go_wp2_with fail
            clear hc
            go_region_held3 (fun W => W.cell? ⟨N, 0, none⟩ = some (.slice a n cap) ∧ W.cell? ⟨N, 1, none⟩ = some (.int .u64 (seed : Int)) ∧ W.cell? ⟨b, o + k, none⟩ = some (.int .u64 (Y : Int))) (first | exact K2.out | assumption) (first
              | (go_at_call 9; refine PY.out.mono ?_; rintro e w9 ⟨b1, c1, rfl, S9, h9⟩))
            clear S9 PY K2
            go_wp2_with fail
            go_loopw [9, 12] (fun b q wr => ∃ j : Nat, j ≤ 4 ∧ q = .int .i64 j ∧ b = .bool (al2 i k && farTo py (px i) j) ∧ Hid (Ow w N seed (.slice a n cap) b0 px wr ∧ Ow w N seed (.slice a n cap) b1 py wr)) (fun _ q _ => 4 - (intOf q).toNat)
            case atStart => exact ⟨0, by omega, rfl, by rw [far_zero, Bool.and_true], h9⟩
            case round =>
              obtain ⟨j, hj, rfl, rfl, hJ⟩ := hrel
              clear h9
              by_cases hjl : j < 4
              · have d0 := hJ.out.1.own i hlt
                have d1 := hJ.out.2.own j hjl
                have g1 : (0 : Int) ≤ (j : Int) := by omega
                have g2 : (j : Int) < 4 := by omega
                have g3 : (0 : Int) ≤ (i : Int) := by omega
                have HW : Hid (∀ q, Ow w N seed (.slice a n cap) b0 px (wr.drewN q) ∧ Ow w N seed (.slice a n cap) b1 py (wr.drewN q)) := fun q => ⟨hJ.out.1.drewN q, hJ.out.2.drewN q⟩
                clear hJ
                generalize px i = q0 at *
                generalize hq1 : py j = q1 at *
                have HQ1 := Lib.hid hq1
                clear hq1
                generalize al2 i k = z at *
                by_cases hpp : q1 = q0
                · subst hpp
                  have hq : ((q1 : Int) == (q1 : Int)) = true := by simp
                  go_wp2_with fail
                  go_quiet (fail)
                  go_wp2
                  go_roundw
                  case rel => exact ⟨j + 1, by omega, by simp, by rw [far_next, HQ1.out]; simp, HW.out _⟩
                  case measure => simp [intOf]; omega
                · have hq : ((q1 : Int) == (q0 : Int)) = false := by simp; omega
                  have hq2 : ¬ (q1 : Int) = (q0 : Int) := by omega
                  have hne : Hid ((q1 != q0) = true) := by show (q1 != q0) = true; simpa using hpp
                  go_wp2_with fail
                  go_quiet (fail)
                  go_wp2
                  go_roundw
                  case rel => exact ⟨j + 1, by omega, by simp, by rw [far_next, HQ1.out, hne.out, Bool.and_true], HW.out _⟩
                  case measure => simp [intOf]; omega
              · obtain rfl : j = 4 := by omega
                rw [← e.out]
                have hJ1 : Hid (Ow w N seed (.slice a n cap) b0 px wr) := hJ.out.1
                clear hJ
                go_wp2
                go_roundw
                case rel => exact ⟨k + 1, by omega, by simp, rfl, hJ1⟩
                case measure => simp [intOf]; omega
        · obtain rfl : k = len := by omega
          have e := A1.out i
          have k0 := hK.out
          cases hal : al i
          · have e2 : al2 i k = false := by rw [e, hal]
            rw [e2]
            clear C A e
            go_wp2
            go_roundw
            case rel => exact ⟨i + 1, by omega, by simp, fun q hq => by
              by_cases h : q = i
              · rw [h, hal]
              · exact F.out q (by omega), k0⟩
            case measure => simp [intOf]; omega
          · have e2 : al2 i k = true := by rw [e, hal]
            rw [e2]
            have hres := L1.out i hlt hal
            clear C A e
            go_wp2
            go_ret
            exact ⟨by rw [hres]; rfl, k0.old⟩
    · obtain rfl : i = 4 := by omega
      go_wp2
      go_ret
      exact ⟨by rw [L0.out hH.out.1]; rfl, hH.out.2.old⟩
end Go.Proofs.YtmfdobppihjjkaaDoor
