/-
  DoorKeeps, walked: true for every int, every seed and every slice of keys.
-/
import Derived.Test.YtmfdobppihjjkaaDoorKm
import Derived.Deep.RegionHeld3
import Derived.Deep.RegionHeld
import Derived.Lib.SliceRun
namespace Go.Proofs.YtmfdobppihjjkaaDoor
open Go.RowKit
theorem elem23 : Tryd.prog.underlying 23 = some (.slice (Tryd.prog.elem 23)) := by kernel_rfl
theorem size23 (w : World) : (sizeOf (Tryd.prog.elem 23)).run Tryd.prog w = .ok 1 w := by kernel_rfl
/-- the door behind keys; the document's, of which its length alone is asked, in the box V. -/
structure Kp (w : World) (S G t V n seed : Nat) (bs : List Nat) (a : Option Addr) (k : Nat) (W : World) : Prop where
  at_ : At w S G t bs W
  box : W.heap[V]? = some (.cells #[.slice a n k, .int .u64 (seed : Int)] 29 (0, 0))
  far : V ≠ G
namespace Kp
variable {w W B : World} {S G t V n seed k : Nat} {bs bs' : List Nat} {a : Option Addr}
theorem below (h : Kp w S G t V n seed bs a k W) (hb : Below W.heap.size W B) : Kp w S G t V n seed bs a k B := ⟨h.at_.below hb, (hb.block V (heap_lt h.box)).trans h.box, h.far⟩
theorem drewN (h : Kp w S G t V n seed bs a k W) (q : Nat) : Kp w S G t V n seed bs a k (W.drewN q) := h.below ⟨rfl, rfl, rfl, Nat.le_refl _, fun _ _ => rfl⟩
theorem turn (h : Kp w S G t V n seed bs a k W) (ha : At w S G t bs' B) (hk : Keep (fun k => k ≠ G) W B) : Kp w S G t V n seed bs' a k B := ⟨ha, hk.heap h.box h.far, h.far⟩
theorem cells (h : Kp w S G t V n seed bs a k W) : W.cell? ⟨V, 0, none⟩ = some (.slice a n k) ∧ W.cell? ⟨V, 1, none⟩ = some (.int .u64 (seed : Int)) := ⟨by rw [cell_of h.box]; rfl, by rw [cell_of h.box]; rfl⟩
end Kp
/-- is the key among the first k? -/
def inTo (l : List Nat) (x k : Nat) : Bool := (l.take k).any fun y => y == x
theorem in_zero (l : List Nat) (x : Nat) : inTo l x 0 = false := by simp [inTo]
theorem in_next (l : List Nat) (x k Y : Nat) (h : l[k]? = some Y) : inTo l x (k + 1) = (inTo l x k || (Y == x)) := by
  obtain ⟨hk, rfl⟩ := List.getElem?_eq_some_iff.1 h
  unfold inTo
  rw [List.take_succ_eq_append_getElem hk, List.any_append]
  simp
theorem in_mem {l : List Nat} {x k : Nat} (h : inTo l x k = true) : x ∈ l.take k := by
  obtain ⟨y, hy, e⟩ := List.any_eq_true.1 h
  rw [beq_iff_eq] at e
  exact e ▸ hy
theorem in_not {l : List Nat} {x k : Nat} (h : inTo l x k = false) : x ∉ l.take k := fun hm => by
  have : inTo l x k = true := List.any_eq_true.2 ⟨x, hm, by simp⟩
  rw [h] at this
  cases this
theorem cut_k (a : Option Addr) (n cap nn : Nat) (hn : nn ≤ n) (hc : n ≤ cap) : ∃ a3, (∀ W', (Instr.slice 23 (.slice a n cap) none (some (.int .i64 (nn : Int))) none).run Tryd.prog W' = .ok (.slice a3 nn cap) W') ∧ ∀ b o, a = some ⟨b, o, none⟩ → a3 = some ⟨b, o, none⟩ := by
  refine ⟨if cap = 0 then a else a.map (·.add (0 * 1)), fun W' => by rw [run_slice_h W' 23 a n cap elem23 .i64 nn (by omega) (by omega), size23]; simp [sliced], fun b o h => ?_⟩
  subst h
  by_cases h : cap = 0 <;> simp [h, Addr.add]
/-- An operation of a region is taken first, its slot written out. -/
theorem take_w {P : Program} {md : Region.Mode} {ops : Array Oper} {Q : Exit → Act → World → Prop} {S : World → Prop} {i d : Nat} {oi : Oper} {v : Value} {fuel : Nat} {listed : Array Bool} {a : Act} {w : World} (hi : ops[i]? = some oi) (hd : oi.dst = some d)
    (hs : Region.noSelect ops = true) (hf : Region.free md ops listed i = true) (hr : (Region.ready md ops listed).contains i = true)
    (hQ : ∀ c a w, Q (.panic c) (a.put (some d) v) w → Q (.panic c) a w) (hy : YieldsIf P ops S oi v a) (hS : S w)
    (h : wpAnyH P md ops Q S fuel (listed.setIfInBounds i true) (a.put (some d) v) w) : wpAnyH P md ops Q S (fuel + 1) listed a w :=
  wpAnyH_take hi hs hf hr (by rw [hd]; exact hQ) hy hS (by rw [hd]; exact h)
set_option maxRecDepth 100000 in
set_option maxHeartbeats 8000000 in
theorem keeps_some (c : Int) (seed : Nat) (hseed : seed < 18446744073709551616) (a : Option Addr) (cap : Nat) (l : List Nat) (w : World) (hs : mx.Since w w) (hl : l.length ≤ 60) (hcap : l.length ≤ cap) (hr : Keys w a l) :
    Calls Tryd.prog 4 #[.int .i64 c, .int .u64 (seed : Int), .slice a l.length cap] w fun e B => e = .returned (.bool true) ∧ Below w.heap.size w B := by
  obtain ⟨c1, hc1⟩ : ∃ c1, min c 1000 = c1 := ⟨_, rfl⟩
  obtain ⟨-, hm0, hm1⟩ := bdN_bd c1
  have T6 : Hid (Calls Tryd.prog 6 #[.int .i64 c1, .int .u64 (seed : Int)] w fun e B => ∃ S G, e = .returned (.pointer (some ⟨S, 0, none⟩)) ∧ Hid (At w S G (mixF seed) (List.replicate (bdN c1) 0) B)) := new_any c1 seed hseed w hs
  have T7 : Hid (∀ (S G : Nat) (W : World), At w S G (mixF seed) (List.replicate (bdN c1) 0) W → Calls Tryd.prog 7 #[.int .i64 c1, .int .u64 (seed : Int)] W fun e B => ∃ a k, e = .returned (dv (.slice a (8 * bdN c1) k) seed) ∧ Hid (Kp w S G (mixF seed) B.heap.size (8 * bdN c1) seed (List.replicate (bdN c1) 0) a k (B.alloc (.cells #[.slice a (8 * bdN c1) k, .int .u64 (seed : Int)] 29)))) := fun S G W hW =>
    (refnew_any c1 seed W).mono fun e B ⟨a, k, he, hq, hb, ho⟩ => ⟨a, k, he, by
      have h1 := hW.below hb
      have h2 := h1.below ((Below.refl _ _).alloc (Nat.le_refl _) (.cells #[.slice a (8 * bdN c1) k, .int .u64 (seed : Int)] 29))
      have h3 := h1.lts
      exact ⟨h2, heap_next rfl _, by omega⟩⟩
  generalize bdN c1 = m at *
  obtain ⟨t, ht⟩ : ∃ t, mixF seed = t := ⟨_, rfl⟩
  have HT := Lib.hid ht
  rw [ht] at T6 T7
  clear ht
  obtain ⟨h, hh⟩ : ∃ h, l.length / 2 = h := ⟨_, rfl⟩
  have hh1 : h ≤ l.length := by omega
  have hh2 : ((l.length : Nat) : Int) / 2 = (h : Int) := by omega
  obtain ⟨a3, r3, hr3⟩ := cut_k a l.length cap h hh1 hcap
  obtain ⟨rb, hrb⟩ : ∃ rb : Nat → List Nat, rb = fun j => runB t m (l.take j) := ⟨_, rfl⟩
  have R0 : Hid (List.replicate m 0 = rb 0) := by rw [hrb]; rfl
  have R1 : Hid (∀ j X, l[j]? = some X → putB (plN t (8 * m) X) (rb j) = rb (j + 1)) := by rw [hrb]; exact fun j X h => (runB_next t m l j X h).symm
  have R2 : Hid (∀ j, (rb j).length = m) := by rw [hrb]; exact fun j => runB_len _ _ _
  have C : Hid (∀ W, Below w.heap.size w W → ∀ i, i < l.length → ∃ b o X, a = some ⟨b, o, none⟩ ∧ a3 = some ⟨b, o, none⟩ ∧ l[i]? = some X ∧ W.cell? ⟨b, o + i, none⟩ = some (.int .u64 (X : Int)) ∧ X < 18446744073709551616) := fun W hW i hi => by
    obtain ⟨b, o, ha, hc⟩ := hr (by omega)
    obtain ⟨c0, hx⟩ := hc i hi
    exact ⟨b, o, l[i], ha, hr3 b o ha, by simp [hi], (hW.cell (p := ⟨b, o + i, none⟩) (World.block_lt_of_cell? w ⟨b, o + i, none⟩ c0)).trans c0, hx⟩
  have J : Hid (∀ X, (inTo l X h = true → hasB (plN t (8 * m) X) (rb h) = true) ∧ (inTo l X h = false → lonely t (8 * m) X (l.take h) = true → hasB (plN t (8 * m) X) (rb h) = false)) := by
    rw [hrb]
    exact fun X => ⟨fun e => runB_has t m hm0 _ X (in_mem e), fun e e2 => runB_not t m hm0 _ X (in_not e) e2⟩
  have I1 : Hid (∀ X k Y, l[k]? = some Y → inTo l X (k + 1) = (inTo l X k || (Y == X))) := fun X k Y e => in_next l X k Y e
  have I0 : Hid (∀ X, inTo l X 0 = false) := fun X => in_zero l X
  have LQ : Hid (∀ W, Below w.heap.size w W → 0 < l.length → Q eu W (.slice a3 h cap) (l.take h)) := fun W hW h0 => by
    obtain ⟨b, o, ha, hc⟩ := hr h0
    have hlen : (l.take h).length = h := by rw [List.length_take]; omega
    refine .inr ⟨b, o, cap, by rw [hr3 b o ha, hlen], by omega, fun i hi => ?_⟩
    rw [hlen] at hi
    obtain ⟨c0, _⟩ := hc i (by omega)
    rw [List.getElem_take]
    exact (hW.cell (p := ⟨b, o + i, none⟩) (World.block_lt_of_cell? w ⟨b, o + i, none⟩ c0)).trans c0
  have LL : Hid (∀ y ∈ l.take h, y < 18446744073709551616) := fun y hy => by
    obtain ⟨i, hi, rfl⟩ := List.getElem_of_mem (List.mem_of_mem_take hy)
    obtain ⟨b, o, ha, hc⟩ := hr (by omega)
    exact (hc i hi).2
  have hlen2 : Hid ((l.take h).length ≤ 100000) := by show (l.take h).length ≤ 100000; rw [List.length_take]; omega
  generalize hlh : l.take h = lh at *
  have hd2 : ¬ (60 : Int) < (l.length : Int) := by omega
  have z0 : (0 : Int) ≤ (h : Int) := by omega
  have z1 : (h : Int) ≤ (cap : Int) := by omega
  rw [R0.out] at T6 T7
  clear hr hs hrb R0 hr3 hlh hh
  generalize inTo l = inn at *
  generalize hlen : l.length = len at *
  go_enter Tryd.func4, Tryd.ntmps4
  go_wp2_with fail
  refine T6.out.mono ?_
  rintro e w1 ⟨S, G, rfl, h1⟩
  have T7 := Lib.hid (T7.out S G _ h1.out)
  clear T6 h1
  go_wp2_with fail
  refine T7.out.mono ?_
  rintro e w2 ⟨a2, k2, rfl, h2⟩
  clear T7
  go_wp2_with fail
  obtain ⟨V, hV⟩ : ∃ V, w2.heap.size = V := ⟨_, rfl⟩
  rw [hV] at h2
  rw [hV]
  generalize w2.alloc (.cells #[.slice a2 (8 * m) k2, .int .u64 (seed : Int)] 29) = W0 at *
  clear hV r3
  go_loopw [10] (fun i wr => ∃ k : Nat, k ≤ h ∧ i = .int .i64 k ∧ Hid (Kp w S G t V (8 * m) seed (rb k) a2 k2 wr)) (fun i _ => h - (intOf i).toNat)
  case atStart => exact ⟨0, by omega, rfl, h2⟩
  case round =>
    obtain ⟨k, hk, rfl, hH⟩ := hrel
    clear h2
    by_cases hlt : k < h
    · obtain ⟨b, o, X, rfl, rfl, hX, d0, hXl⟩ := C.out wr hH.out.at_.old.2 k (by omega)
      have T14 : Hid (Calls Tryd.prog 14 #[.pointer (some ⟨S, 0, none⟩), .int .u64 (X : Int)] wr fun e B => ∃ r, e = .returned (.bool r) ∧ Hid (Kp w S G t V (8 * m) seed (rb (k + 1)) a2 k2 B)) := by
        have := put_some hH.out.at_ X hXl
        rw [R2.out k, R1.out k X hX] at this
        exact this.mono fun e B ⟨he, h1, h2⟩ => ⟨_, he, hH.out.turn h1 h2⟩
      have j1 : (0 : Int) ≤ (k : Int) := by omega
      have j2 : (k : Int) < (h : Int) := by omega
      clear C J I1 I0 LQ LL R1 R2 hH
      go_wp2_with fail
      refine T14.out.mono ?_
      rintro e w4 ⟨r, rfl, h4⟩
      go_wp2
      go_roundw
      case rel => exact ⟨k + 1, by omega, by simp, h4⟩
      case measure => simp [intOf]; omega
    · obtain rfl : k = h := by omega
      have R2h := Lib.hid (R2.out k)
      clear R1 R2
      generalize rb k = rh at *
      obtain ⟨n, hn⟩ : ∃ n, 8 * m = n := ⟨_, rfl⟩
      rw [hn] at hH J
      have hn1 : 0 < n ∧ n ≤ 32768 := by omega
      have K11 : Hid (∀ X W, X < 18446744073709551616 → Kp w S G t V n seed rh a2 k2 W → Calls Tryd.prog 11 #[.pointer (some ⟨S, 0, none⟩), .int .u64 ((X : Nat) : Int)] W fun e B => e = .returned (.bool (hasB (plN t n X) rh)) ∧ Hid (Kp w S G t V n seed rh a2 k2 B)) := fun X W hX hW => by
        have := has_some hW.at_.dr hW.at_.old X hX
        rw [R2h.out, hn] at this
        exact this.mono fun e B ⟨he, hb⟩ => ⟨he, hW.below hb⟩
      have K19 : Hid (∀ X W, X < 18446744073709551616 → 0 < len → Kp w S G t V n seed rh a2 k2 W → Calls Tryd.prog 19 #[dv (.slice a2 n k2) seed, .int .u64 ((X : Nat) : Int), .slice a3 k cap] W fun e B => e = .returned (.bool (lonely t n X lh)) ∧ Hid (Kp w S G t V n seed rh a2 k2 B)) := fun X W hX h0 hW => by
        have := lonely_any n seed X hseed hX hn1.1 hn1.2 a2 k2 W (.slice a3 k cap) lh (LQ.out W hW.at_.old.2 h0) LL.out hlen2.out
        rw [HT.out] at this
        exact this.mono fun e B ⟨he, hb⟩ => ⟨he, hW.below hb.out⟩
      rw [hn]
      clear LQ LL hlen2 R2h hn hm0 hm1
      go_wp2_with fail
      go_loopw [11] (fun i wr => ∃ i' : Nat, i' ≤ len ∧ i = .int .i64 i' ∧ Hid (Kp w S G t V n seed rh a2 k2 wr)) (fun i _ => len - (intOf i).toNat)
      case atStart => exact ⟨0, by omega, rfl, hH⟩
      case round =>
        obtain ⟨i, hi, rfl, hI⟩ := hrel
        clear hH
        by_cases hil : i < len
        · obtain ⟨b, o, X, rfl, rfl, hX, d0, hXl⟩ := C.out wr hI.out.at_.old.2 i hil
          have j1 : (0 : Int) ≤ (i : Int) := by omega
          have j2 : (i : Int) < (len : Int) := by omega
          clear d0
          have Z : Hid (∀ W, Kp w S G t V n seed rh a2 k2 W → (W.cell? ⟨b, o + i, none⟩ = some (.int .u64 (X : Int)) ∧ W.cell? ⟨V, 0, none⟩ = some (.slice a2 n k2) ∧ W.cell? ⟨V, 1, none⟩ = some (.int .u64 (seed : Int)))) := fun W hW => by
            obtain ⟨b', o', X', hv, _, hX', hc2, _⟩ := C.out W hW.at_.old.2 i hil
            simp only [Option.some.injEq, Addr.mk.injEq, and_true] at hv
            obtain ⟨rfl, rfl⟩ := hv
            rw [hX] at hX'
            obtain rfl := Option.some.inj hX'
            exact ⟨hc2, hW.cells.1, hW.cells.2⟩
          obtain ⟨J1, J2⟩ := J.out X
          have J1 := Lib.hid J1
          have J2 := Lib.hid J2
          have K11 : Hid (∀ W, Kp w S G t V n seed rh a2 k2 W → _) := fun W => K11.out X W hXl
          have K19 : Hid (∀ W, Kp w S G t V n seed rh a2 k2 W → _) := fun W => K19.out X W hXl (by omega)
          have I0 := Lib.hid (I0.out X)
          have I1 : Hid (∀ k Y, l[k]? = some Y → inn X (k + 1) = (inn X k || (Y == X))) := I1.out X
          have WD : Hid (∀ W q, Kp w S G t V n seed rh a2 k2 W → Kp w S G t V n seed rh a2 k2 (W.drewN q)) := fun W q hW => hW.drewN q
          clear J
          generalize inn X = inx at *
          generalize plN t n X = p at *
          generalize lonely t n X lh = lo at *
          go_wp2_with fail
          go_loopw [12, 13] (fun z q wr => ∃ k' : Nat, k' ≤ k ∧ q = .int .i64 k' ∧ z = .bool (inx k') ∧ Hid (Kp w S G t V n seed rh a2 k2 wr)) (fun _ q _ => k - (intOf q).toNat)
          case atStart => exact ⟨0, by omega, rfl, by rw [I0.out], hI⟩
          case round =>
            obtain ⟨k', hk', rfl, rfl, hK⟩ := hrel
            clear hI
            by_cases hkl : k' < k
            · obtain ⟨b', o', Y, hv, _, hY, d1, hYl⟩ := C.out wr hK.out.at_.old.2 k' (by omega)
              simp only [Option.some.injEq, Addr.mk.injEq, and_true] at hv
              obtain ⟨rfl, rfl⟩ := hv
              obtain ⟨d0, -, -⟩ := Z.out wr hK.out
              have e := Lib.hid (I1.out k' Y hY)
              have g1 : (0 : Int) ≤ (k' : Int) := by omega
              have g2 : (k' : Int) < (k : Int) := by omega
              have HW : Hid (∀ q, Kp w S G t V n seed rh a2 k2 (wr.drewN q)) := fun q => hK.out.drewN q
              clear C I0 I1 K11 K19 J1 J2 Z hK WD hX hY
              cases hin : inx k'
              · have e : Hid (inx (k' + 1) = (Y == X)) := by
                  have := e.out
                  rw [hin, Bool.false_or] at this
                  exact this
                by_cases hYX : Y = X
                · subst hYX
                  have hq : ((Y : Int) == (Y : Int)) = true := by simp
                  have e : Hid (inx (k' + 1) = true) := e.out.trans (by simp)
                  go_wp2_with fail
                  go_quiet (fail)
                  go_wp2
                  go_roundw
                  case rel => exact ⟨k' + 1, by omega, by simp, by rw [e.out], HW.out _⟩
                  case measure => simp [intOf]; omega
                · have hq : ((Y : Int) == (X : Int)) = false := by simp; omega
                  have hq2 : ¬ (Y : Int) = (X : Int) := by omega
                  have e : Hid (inx (k' + 1) = false) := e.out.trans (by simpa using hYX)
                  clear hYX
                  go_wp2_with fail
                  go_quiet (fail)
                  go_wp2
                  go_roundw
                  case rel => exact ⟨k' + 1, by omega, by simp, by rw [e.out], HW.out _⟩
                  case measure => simp [intOf]; omega
              · have e : Hid (inx (k' + 1) = true) := by
                  have := e.out
                  rw [hin, Bool.true_or] at this
                  exact this
                go_wp2_with fail
                go_quiet (fail)
                go_wp2
                go_roundw
                case rel => exact ⟨k' + 1, by omega, by simp, by rw [e.out], HW.out _⟩
                case measure => simp [intOf]; omega
            · obtain rfl : k' = k := by omega
              have H0 : Hid (Kp w S G t V n seed rh a2 k2 wr.drew) := hK.out.drewN 1
              clear C I0 I1 hK WD hX
              cases hin : inx k'
              · have J2 : Hid (lo = true → hasB p rh = false) := J2.out hin
                clear J1 hin
                generalize hasB p rh = has at *
                cases lo
                · have T19 := Lib.hid (K19.out _ H0.out)
                  clear K19 K11 J2
                  go_wp2_with fail
                  refine wp_region_held_drew (S := fun W => W.cell? ⟨b, o + i, none⟩ = some (.int .u64 (X : Int)) ∧ W.cell? ⟨V, 0, none⟩ = some (.slice a2 n k2) ∧ W.cell? ⟨V, 1, none⟩ = some (.int .u64 (seed : Int))) (by kernel_rfl) (Z.out _ H0.out) (fun hHeld => ?_)
                  refine take_w (i := 0) (d := 68) (v := ?_) rfl rfl (by kernel_rfl) (by kernel_rfl) (by kernel_rfl) (fun _ _ _ h => h) (Or.inl ⟨by rfl, ?_⟩) (by assumption) ?_
                  rotate_left
                  · (intro w hSw; (try dsimp only at hSw); go_simp; try with_reducible rfl)
                  try simp only [Act.put, List.setIfInBounds_toArray, List.set_cons_zero, List.set_cons_succ]
                  refine take_w (i := 1) (d := 69) (v := ?_) rfl rfl (by kernel_rfl) (by kernel_rfl) (by kernel_rfl) (fun _ _ _ h => h) (Or.inl ⟨by rfl, ?_⟩) (by assumption) ?_
                  rotate_left
                  · (intro w hSw; (try dsimp only at hSw); go_simp; try with_reducible rfl)
                  try simp only [Act.put, List.setIfInBounds_toArray, List.set_cons_zero, List.set_cons_succ]
                  refine take_w (i := 2) (d := 70) (v := undef) rfl rfl (by kernel_rfl) (by kernel_rfl) (by kernel_rfl) (fun _ _ _ h => h) (Or.inr ⟨by kernel_rfl, rfl⟩) (by assumption) ?_
                  try simp only [Act.put, List.setIfInBounds_toArray, List.set_cons_zero, List.set_cons_succ]
                  refine take_w (i := 3) (d := 71) (v := undef) rfl rfl (by kernel_rfl) (by kernel_rfl) (by kernel_rfl) (fun _ _ _ h => h) (Or.inr ⟨by kernel_rfl, rfl⟩) (by assumption) ?_
                  try simp only [Act.put, List.setIfInBounds_toArray, List.set_cons_zero, List.set_cons_succ]
                  refine take_w (i := 4) (d := 72) (v := undef) rfl rfl (by kernel_rfl) (by kernel_rfl) (by kernel_rfl) (fun _ _ _ h => h) (Or.inr ⟨by kernel_rfl, rfl⟩) (by assumption) ?_
                  try simp only [Act.put, List.setIfInBounds_toArray, List.set_cons_zero, List.set_cons_succ]
                  refine take_w (i := 5) (d := 73) (v := undef) rfl rfl (by kernel_rfl) (by kernel_rfl) (by kernel_rfl) (fun _ _ _ h => h) (Or.inr ⟨by kernel_rfl, rfl⟩) (by assumption) ?_
                  try simp only [Act.put, List.setIfInBounds_toArray, List.set_cons_zero, List.set_cons_succ]
                  refine take_w (i := 6) (d := 74) (v := undef) rfl rfl (by kernel_rfl) (by kernel_rfl) (by kernel_rfl) (fun _ _ _ h => h) (Or.inr ⟨by kernel_rfl, rfl⟩) (by assumption) ?_
                  try simp only [Act.put, List.setIfInBounds_toArray, List.set_cons_zero, List.set_cons_succ]
                  refine take_w (i := 7) (d := 75) (v := undef) rfl rfl (by kernel_rfl) (by kernel_rfl) (by kernel_rfl) (fun _ _ _ h => h) (Or.inr ⟨by kernel_rfl, rfl⟩) (by assumption) ?_
                  try simp only [Act.put, List.setIfInBounds_toArray, List.set_cons_zero, List.set_cons_succ]
                  refine take_w (i := 8) (d := 76) (v := undef) rfl rfl (by kernel_rfl) (by kernel_rfl) (by kernel_rfl) (fun _ _ _ h => h) (Or.inr ⟨by kernel_rfl, rfl⟩) (by assumption) ?_
                  try simp only [Act.put, List.setIfInBounds_toArray, List.set_cons_zero, List.set_cons_succ]
                  refine take_w (i := 9) (d := 77) (v := ?_) rfl rfl (by kernel_rfl) (by kernel_rfl) (by kernel_rfl) (fun _ _ _ h => h) (Or.inl ⟨by rfl, ?_⟩) (by assumption) ?_
                  rotate_left
                  · (intro w hSw; (try dsimp only at hSw); go_simp; try with_reducible rfl)
                  try simp only [Act.put, List.setIfInBounds_toArray, List.set_cons_zero, List.set_cons_succ]
                  refine take_w (i := 10) (d := 78) (v := ?_) rfl rfl (by kernel_rfl) (by kernel_rfl) (by kernel_rfl) (fun _ _ _ h => h) (Or.inl ⟨by rfl, ?_⟩) (by assumption) ?_
                  rotate_left
                  · (intro w hSw; (try dsimp only at hSw); go_simp; try with_reducible rfl)
                  try simp only [Act.put, List.setIfInBounds_toArray, List.set_cons_zero, List.set_cons_succ]
                  refine take_w (i := 11) (d := 79) (v := ?_) rfl rfl (by kernel_rfl) (by kernel_rfl) (by kernel_rfl) (fun _ _ _ h => h) (Or.inl ⟨by rfl, ?_⟩) (by assumption) ?_
                  rotate_left
                  · (intro w hSw; (try dsimp only at hSw); go_simp; try with_reducible rfl)
                  try simp only [Act.put, List.setIfInBounds_toArray, List.set_cons_zero, List.set_cons_succ]
                  refine take_w (i := 12) (d := 80) (v := ?_) rfl rfl (by kernel_rfl) (by kernel_rfl) (by kernel_rfl) (fun _ _ _ h => h) (Or.inl ⟨by rfl, ?_⟩) (by assumption) ?_
                  rotate_left
                  · (intro w hSw; (try dsimp only at hSw); go_simp; try with_reducible rfl)
                  try simp only [Act.put, List.setIfInBounds_toArray, List.set_cons_zero, List.set_cons_succ]
                  refine take_w (i := 13) (d := 81) (v := ?_) rfl rfl (by kernel_rfl) (by kernel_rfl) (by kernel_rfl) (fun _ _ _ h => h) (Or.inl ⟨by rfl, ?_⟩) (by assumption) ?_
                  rotate_left
                  · (intro w hSw; (try dsimp only at hSw); go_simp; try with_reducible rfl)
                  try simp only [Act.put, List.setIfInBounds_toArray, List.set_cons_zero, List.set_cons_succ]
                  refine take_w (i := 14) (d := 82) (v := ?_) rfl rfl (by kernel_rfl) (by kernel_rfl) (by kernel_rfl) (fun _ _ _ h => h) (Or.inl ⟨by rfl, ?_⟩) (by assumption) ?_
                  rotate_left
                  · (intro w hSw; (try dsimp only at hSw); go_simp; try with_reducible rfl)
                  try simp only [Act.put, List.setIfInBounds_toArray, List.set_cons_zero, List.set_cons_succ]
                  refine take_w (i := 15) (d := 83) (v := ?_) rfl rfl (by kernel_rfl) (by kernel_rfl) (by kernel_rfl) (fun _ _ _ h => h) (Or.inl ⟨by rfl, ?_⟩) (by assumption) ?_
                  rotate_left
                  · (intro w hSw; (try dsimp only at hSw); go_simp; try with_reducible rfl)
                  try simp only [Act.put, List.setIfInBounds_toArray, List.set_cons_zero, List.set_cons_succ]
                  refine take_w (i := 16) (d := 84) (v := ?_) rfl rfl (by kernel_rfl) (by kernel_rfl) (by kernel_rfl) (fun _ _ _ h => h) (Or.inl ⟨by rfl, ?_⟩) (by assumption) ?_
                  rotate_left
                  · (intro w hSw; (try dsimp only at hSw); go_simp; try with_reducible rfl)
                  try simp only [Act.put, List.setIfInBounds_toArray, List.set_cons_zero, List.set_cons_succ]
                  refine take_w (i := 17) (d := 85) (v := ?_) rfl rfl (by kernel_rfl) (by kernel_rfl) (by kernel_rfl) (fun _ _ _ h => h) (Or.inl ⟨by rfl, ?_⟩) (by assumption) ?_
                  rotate_left
                  · (intro w hSw; (try dsimp only at hSw); go_simp; try with_reducible rfl)
                  try simp only [Act.put, List.setIfInBounds_toArray, List.set_cons_zero, List.set_cons_succ]
                  refine take_w (i := 18) (d := 86) (v := ?_) rfl rfl (by kernel_rfl) (by kernel_rfl) (by kernel_rfl) (fun _ _ _ h => h) (Or.inl ⟨by rfl, ?_⟩) (by assumption) ?_
                  rotate_left
                  · (intro w hSw; (try dsimp only at hSw); go_simp; try with_reducible rfl)
                  try simp only [Act.put, List.setIfInBounds_toArray, List.set_cons_zero, List.set_cons_succ]
                  refine take_w (i := 19) (d := 87) (v := ?_) rfl rfl (by kernel_rfl) (by kernel_rfl) (by kernel_rfl) (fun _ _ _ h => h) (Or.inl ⟨by rfl, ?_⟩) (by assumption) ?_
                  rotate_left
                  · (intro w hSw; (try dsimp only at hSw); go_simp; try with_reducible rfl)
                  try simp only [Act.put, List.setIfInBounds_toArray, List.set_cons_zero, List.set_cons_succ]
                  refine wpAnyH_ready (rs := [20]) (by kernel_rfl) (by simp) ?_
                  refine AllReadyH.cons (o := _) rfl (fun K hK => ?_) AllReadyH.nil
                  go_simp
                  go_at_call 19
                  refine (T19.out).mono ?_
                  rintro e v1 ⟨rfl, t1⟩
                  refine hK.out _ _ ?_ (fun hHeld => ?_)
                  · exact Z.out _ t1.out
                  clear hK K
                  try simp only [Act.put, List.setIfInBounds_toArray, List.set_cons_zero, List.set_cons_succ]
                  refine take_w (i := 21) (d := 89) (v := ?_) rfl rfl (by kernel_rfl) (by kernel_rfl) (by kernel_rfl) (fun _ _ _ h => h) (Or.inl ⟨by rfl, ?_⟩) (by assumption) ?_
                  rotate_left
                  · (intro w hSw; (try dsimp only at hSw); go_simp; try with_reducible rfl)
                  try simp only [Act.put, List.setIfInBounds_toArray, List.set_cons_zero, List.set_cons_succ]
                  refine take_w (i := 22) (d := 90) (v := ?_) rfl rfl (by kernel_rfl) (by kernel_rfl) (by kernel_rfl) (fun _ _ _ h => h) (Or.inl ⟨by rfl, ?_⟩) (by assumption) ?_
                  rotate_left
                  · (intro w hSw; (try dsimp only at hSw); go_simp; try with_reducible rfl)
                  try simp only [Act.put, List.setIfInBounds_toArray, List.set_cons_zero, List.set_cons_succ]
                  refine take_w (i := 23) (d := 91) (v := undef) rfl rfl (by kernel_rfl) (by kernel_rfl) (by kernel_rfl) (fun _ _ _ h => h) (Or.inr ⟨by kernel_rfl, rfl⟩) (by assumption) ?_
                  try simp only [Act.put, List.setIfInBounds_toArray, List.set_cons_zero, List.set_cons_succ]
                  refine take_w (i := 24) (d := 92) (v := undef) rfl rfl (by kernel_rfl) (by kernel_rfl) (by kernel_rfl) (fun _ _ _ h => h) (Or.inr ⟨by kernel_rfl, rfl⟩) (by assumption) ?_
                  try simp only [Act.put, List.setIfInBounds_toArray, List.set_cons_zero, List.set_cons_succ]
                  refine take_w (i := 25) (d := 93) (v := undef) rfl rfl (by kernel_rfl) (by kernel_rfl) (by kernel_rfl) (fun _ _ _ h => h) (Or.inr ⟨by kernel_rfl, rfl⟩) (by assumption) ?_
                  try simp only [Act.put, List.setIfInBounds_toArray, List.set_cons_zero, List.set_cons_succ]
                  refine take_w (i := 26) (d := 94) (v := undef) rfl rfl (by kernel_rfl) (by kernel_rfl) (by kernel_rfl) (fun _ _ _ h => h) (Or.inr ⟨by kernel_rfl, rfl⟩) (by assumption) ?_
                  try simp only [Act.put, List.setIfInBounds_toArray, List.set_cons_zero, List.set_cons_succ]
                  refine take_w (i := 27) (d := 95) (v := undef) rfl rfl (by kernel_rfl) (by kernel_rfl) (by kernel_rfl) (fun _ _ _ h => h) (Or.inr ⟨by kernel_rfl, rfl⟩) (by assumption) ?_
                  try simp only [Act.put, List.setIfInBounds_toArray, List.set_cons_zero, List.set_cons_succ]
                  refine take_w (i := 28) (d := 96) (v := undef) rfl rfl (by kernel_rfl) (by kernel_rfl) (by kernel_rfl) (fun _ _ _ h => h) (Or.inr ⟨by kernel_rfl, rfl⟩) (by assumption) ?_
                  try simp only [Act.put, List.setIfInBounds_toArray, List.set_cons_zero, List.set_cons_succ]
                  refine take_w (i := 29) (d := 97) (v := ?_) rfl rfl (by kernel_rfl) (by kernel_rfl) (by kernel_rfl) (fun _ _ _ h => h) (Or.inl ⟨by rfl, ?_⟩) (by assumption) ?_
                  rotate_left
                  · (intro w hSw; (try dsimp only at hSw); go_simp; try with_reducible rfl)
                  try simp only [Act.put, List.setIfInBounds_toArray, List.set_cons_zero, List.set_cons_succ]
                  refine take_w (i := 30) (d := 98) (v := ?_) rfl rfl (by kernel_rfl) (by kernel_rfl) (by kernel_rfl) (fun _ _ _ h => h) (Or.inl ⟨by rfl, ?_⟩) (by assumption) ?_
                  rotate_left
                  · (intro w hSw; (try dsimp only at hSw); go_simp; try with_reducible rfl)
                  try simp only [Act.put, List.setIfInBounds_toArray, List.set_cons_zero, List.set_cons_succ]
                  refine wpAnyH_done (by kernel_rfl) ?_ _
                  all_goals (
                    go_wp2
                    go_roundw
                    case rel => exact ⟨i + 1, by omega, by simp, t1⟩
                    case measure => simp [intOf]; omega)
                · obtain rfl : has = false := J2.out rfl
                  have T19 := Lib.hid (K19.out _ H0.out)
                  clear K19 J2
                  go_wp2_with fail
                  refine wp_region_held_drew (S := fun W => W.cell? ⟨b, o + i, none⟩ = some (.int .u64 (X : Int)) ∧ W.cell? ⟨V, 0, none⟩ = some (.slice a2 n k2) ∧ W.cell? ⟨V, 1, none⟩ = some (.int .u64 (seed : Int))) (by kernel_rfl) (Z.out _ H0.out) (fun hHeld => ?_)
                  refine take_w (i := 0) (d := 68) (v := ?_) rfl rfl (by kernel_rfl) (by kernel_rfl) (by kernel_rfl) (fun _ _ _ h => h) (Or.inl ⟨by rfl, ?_⟩) (by assumption) ?_
                  rotate_left
                  · (intro w hSw; (try dsimp only at hSw); go_simp; try with_reducible rfl)
                  try simp only [Act.put, List.setIfInBounds_toArray, List.set_cons_zero, List.set_cons_succ]
                  refine take_w (i := 1) (d := 69) (v := ?_) rfl rfl (by kernel_rfl) (by kernel_rfl) (by kernel_rfl) (fun _ _ _ h => h) (Or.inl ⟨by rfl, ?_⟩) (by assumption) ?_
                  rotate_left
                  · (intro w hSw; (try dsimp only at hSw); go_simp; try with_reducible rfl)
                  try simp only [Act.put, List.setIfInBounds_toArray, List.set_cons_zero, List.set_cons_succ]
                  refine take_w (i := 2) (d := 70) (v := undef) rfl rfl (by kernel_rfl) (by kernel_rfl) (by kernel_rfl) (fun _ _ _ h => h) (Or.inr ⟨by kernel_rfl, rfl⟩) (by assumption) ?_
                  try simp only [Act.put, List.setIfInBounds_toArray, List.set_cons_zero, List.set_cons_succ]
                  refine take_w (i := 3) (d := 71) (v := undef) rfl rfl (by kernel_rfl) (by kernel_rfl) (by kernel_rfl) (fun _ _ _ h => h) (Or.inr ⟨by kernel_rfl, rfl⟩) (by assumption) ?_
                  try simp only [Act.put, List.setIfInBounds_toArray, List.set_cons_zero, List.set_cons_succ]
                  refine take_w (i := 4) (d := 72) (v := undef) rfl rfl (by kernel_rfl) (by kernel_rfl) (by kernel_rfl) (fun _ _ _ h => h) (Or.inr ⟨by kernel_rfl, rfl⟩) (by assumption) ?_
                  try simp only [Act.put, List.setIfInBounds_toArray, List.set_cons_zero, List.set_cons_succ]
                  refine take_w (i := 5) (d := 73) (v := undef) rfl rfl (by kernel_rfl) (by kernel_rfl) (by kernel_rfl) (fun _ _ _ h => h) (Or.inr ⟨by kernel_rfl, rfl⟩) (by assumption) ?_
                  try simp only [Act.put, List.setIfInBounds_toArray, List.set_cons_zero, List.set_cons_succ]
                  refine take_w (i := 6) (d := 74) (v := undef) rfl rfl (by kernel_rfl) (by kernel_rfl) (by kernel_rfl) (fun _ _ _ h => h) (Or.inr ⟨by kernel_rfl, rfl⟩) (by assumption) ?_
                  try simp only [Act.put, List.setIfInBounds_toArray, List.set_cons_zero, List.set_cons_succ]
                  refine take_w (i := 7) (d := 75) (v := undef) rfl rfl (by kernel_rfl) (by kernel_rfl) (by kernel_rfl) (fun _ _ _ h => h) (Or.inr ⟨by kernel_rfl, rfl⟩) (by assumption) ?_
                  try simp only [Act.put, List.setIfInBounds_toArray, List.set_cons_zero, List.set_cons_succ]
                  refine take_w (i := 8) (d := 76) (v := undef) rfl rfl (by kernel_rfl) (by kernel_rfl) (by kernel_rfl) (fun _ _ _ h => h) (Or.inr ⟨by kernel_rfl, rfl⟩) (by assumption) ?_
                  try simp only [Act.put, List.setIfInBounds_toArray, List.set_cons_zero, List.set_cons_succ]
                  refine take_w (i := 9) (d := 77) (v := ?_) rfl rfl (by kernel_rfl) (by kernel_rfl) (by kernel_rfl) (fun _ _ _ h => h) (Or.inl ⟨by rfl, ?_⟩) (by assumption) ?_
                  rotate_left
                  · (intro w hSw; (try dsimp only at hSw); go_simp; try with_reducible rfl)
                  try simp only [Act.put, List.setIfInBounds_toArray, List.set_cons_zero, List.set_cons_succ]
                  refine take_w (i := 10) (d := 78) (v := ?_) rfl rfl (by kernel_rfl) (by kernel_rfl) (by kernel_rfl) (fun _ _ _ h => h) (Or.inl ⟨by rfl, ?_⟩) (by assumption) ?_
                  rotate_left
                  · (intro w hSw; (try dsimp only at hSw); go_simp; try with_reducible rfl)
                  try simp only [Act.put, List.setIfInBounds_toArray, List.set_cons_zero, List.set_cons_succ]
                  refine take_w (i := 11) (d := 79) (v := ?_) rfl rfl (by kernel_rfl) (by kernel_rfl) (by kernel_rfl) (fun _ _ _ h => h) (Or.inl ⟨by rfl, ?_⟩) (by assumption) ?_
                  rotate_left
                  · (intro w hSw; (try dsimp only at hSw); go_simp; try with_reducible rfl)
                  try simp only [Act.put, List.setIfInBounds_toArray, List.set_cons_zero, List.set_cons_succ]
                  refine take_w (i := 12) (d := 80) (v := ?_) rfl rfl (by kernel_rfl) (by kernel_rfl) (by kernel_rfl) (fun _ _ _ h => h) (Or.inl ⟨by rfl, ?_⟩) (by assumption) ?_
                  rotate_left
                  · (intro w hSw; (try dsimp only at hSw); go_simp; try with_reducible rfl)
                  try simp only [Act.put, List.setIfInBounds_toArray, List.set_cons_zero, List.set_cons_succ]
                  refine take_w (i := 13) (d := 81) (v := ?_) rfl rfl (by kernel_rfl) (by kernel_rfl) (by kernel_rfl) (fun _ _ _ h => h) (Or.inl ⟨by rfl, ?_⟩) (by assumption) ?_
                  rotate_left
                  · (intro w hSw; (try dsimp only at hSw); go_simp; try with_reducible rfl)
                  try simp only [Act.put, List.setIfInBounds_toArray, List.set_cons_zero, List.set_cons_succ]
                  refine take_w (i := 14) (d := 82) (v := ?_) rfl rfl (by kernel_rfl) (by kernel_rfl) (by kernel_rfl) (fun _ _ _ h => h) (Or.inl ⟨by rfl, ?_⟩) (by assumption) ?_
                  rotate_left
                  · (intro w hSw; (try dsimp only at hSw); go_simp; try with_reducible rfl)
                  try simp only [Act.put, List.setIfInBounds_toArray, List.set_cons_zero, List.set_cons_succ]
                  refine take_w (i := 15) (d := 83) (v := ?_) rfl rfl (by kernel_rfl) (by kernel_rfl) (by kernel_rfl) (fun _ _ _ h => h) (Or.inl ⟨by rfl, ?_⟩) (by assumption) ?_
                  rotate_left
                  · (intro w hSw; (try dsimp only at hSw); go_simp; try with_reducible rfl)
                  try simp only [Act.put, List.setIfInBounds_toArray, List.set_cons_zero, List.set_cons_succ]
                  refine take_w (i := 16) (d := 84) (v := ?_) rfl rfl (by kernel_rfl) (by kernel_rfl) (by kernel_rfl) (fun _ _ _ h => h) (Or.inl ⟨by rfl, ?_⟩) (by assumption) ?_
                  rotate_left
                  · (intro w hSw; (try dsimp only at hSw); go_simp; try with_reducible rfl)
                  try simp only [Act.put, List.setIfInBounds_toArray, List.set_cons_zero, List.set_cons_succ]
                  refine take_w (i := 17) (d := 85) (v := ?_) rfl rfl (by kernel_rfl) (by kernel_rfl) (by kernel_rfl) (fun _ _ _ h => h) (Or.inl ⟨by rfl, ?_⟩) (by assumption) ?_
                  rotate_left
                  · (intro w hSw; (try dsimp only at hSw); go_simp; try with_reducible rfl)
                  try simp only [Act.put, List.setIfInBounds_toArray, List.set_cons_zero, List.set_cons_succ]
                  refine take_w (i := 18) (d := 86) (v := ?_) rfl rfl (by kernel_rfl) (by kernel_rfl) (by kernel_rfl) (fun _ _ _ h => h) (Or.inl ⟨by rfl, ?_⟩) (by assumption) ?_
                  rotate_left
                  · (intro w hSw; (try dsimp only at hSw); go_simp; try with_reducible rfl)
                  try simp only [Act.put, List.setIfInBounds_toArray, List.set_cons_zero, List.set_cons_succ]
                  refine take_w (i := 19) (d := 87) (v := ?_) rfl rfl (by kernel_rfl) (by kernel_rfl) (by kernel_rfl) (fun _ _ _ h => h) (Or.inl ⟨by rfl, ?_⟩) (by assumption) ?_
                  rotate_left
                  · (intro w hSw; (try dsimp only at hSw); go_simp; try with_reducible rfl)
                  try simp only [Act.put, List.setIfInBounds_toArray, List.set_cons_zero, List.set_cons_succ]
                  refine wpAnyH_ready (rs := [20]) (by kernel_rfl) (by simp) ?_
                  refine AllReadyH.cons (o := _) rfl (fun K hK => ?_) AllReadyH.nil
                  go_simp
                  go_at_call 19
                  refine (T19.out).mono ?_
                  rintro e v1 ⟨rfl, t1⟩
                  refine hK.out _ _ ?_ (fun hHeld => ?_)
                  · exact Z.out _ t1.out
                  clear hK K
                  try simp only [Act.put, List.setIfInBounds_toArray, List.set_cons_zero, List.set_cons_succ]
                  refine take_w (i := 21) (d := 89) (v := ?_) rfl rfl (by kernel_rfl) (by kernel_rfl) (by kernel_rfl) (fun _ _ _ h => h) (Or.inl ⟨by rfl, ?_⟩) (by assumption) ?_
                  rotate_left
                  · (intro w hSw; (try dsimp only at hSw); go_simp; try with_reducible rfl)
                  try simp only [Act.put, List.setIfInBounds_toArray, List.set_cons_zero, List.set_cons_succ]
                  refine take_w (i := 22) (d := 90) (v := ?_) rfl rfl (by kernel_rfl) (by kernel_rfl) (by kernel_rfl) (fun _ _ _ h => h) (Or.inl ⟨by rfl, ?_⟩) (by assumption) ?_
                  rotate_left
                  · (intro w hSw; (try dsimp only at hSw); go_simp; try with_reducible rfl)
                  try simp only [Act.put, List.setIfInBounds_toArray, List.set_cons_zero, List.set_cons_succ]
                  refine take_w (i := 23) (d := 91) (v := ?_) rfl rfl (by kernel_rfl) (by kernel_rfl) (by kernel_rfl) (fun _ _ _ h => h) (Or.inl ⟨by rfl, ?_⟩) (by assumption) ?_
                  rotate_left
                  · (intro w hSw; (try dsimp only at hSw); go_simp; try with_reducible rfl)
                  try simp only [Act.put, List.setIfInBounds_toArray, List.set_cons_zero, List.set_cons_succ]
                  refine take_w (i := 24) (d := 92) (v := ?_) rfl rfl (by kernel_rfl) (by kernel_rfl) (by kernel_rfl) (fun _ _ _ h => h) (Or.inl ⟨by rfl, ?_⟩) (by assumption) ?_
                  rotate_left
                  · (intro w hSw; (try dsimp only at hSw); go_simp; try with_reducible rfl)
                  try simp only [Act.put, List.setIfInBounds_toArray, List.set_cons_zero, List.set_cons_succ]
                  refine take_w (i := 25) (d := 93) (v := ?_) rfl rfl (by kernel_rfl) (by kernel_rfl) (by kernel_rfl) (fun _ _ _ h => h) (Or.inl ⟨by rfl, ?_⟩) (by assumption) ?_
                  rotate_left
                  · (intro w hSw; (try dsimp only at hSw); go_simp; try with_reducible rfl)
                  try simp only [Act.put, List.setIfInBounds_toArray, List.set_cons_zero, List.set_cons_succ]
                  refine take_w (i := 26) (d := 94) (v := ?_) rfl rfl (by kernel_rfl) (by kernel_rfl) (by kernel_rfl) (fun _ _ _ h => h) (Or.inl ⟨by rfl, ?_⟩) (by assumption) ?_
                  rotate_left
                  · (intro w hSw; (try dsimp only at hSw); go_simp; try with_reducible rfl)
                  try simp only [Act.put, List.setIfInBounds_toArray, List.set_cons_zero, List.set_cons_succ]
                  refine take_w (i := 27) (d := 95) (v := ?_) rfl rfl (by kernel_rfl) (by kernel_rfl) (by kernel_rfl) (fun _ _ _ h => h) (Or.inl ⟨by rfl, ?_⟩) (by assumption) ?_
                  rotate_left
                  · (intro w hSw; (try dsimp only at hSw); go_simp; try with_reducible rfl)
                  try simp only [Act.put, List.setIfInBounds_toArray, List.set_cons_zero, List.set_cons_succ]
                  refine wpAnyH_ready (rs := [28]) (by kernel_rfl) (by simp) ?_
                  refine AllReadyH.cons (o := _) rfl (fun K hK => ?_) AllReadyH.nil
                  go_simp
                  go_at_call 11
                  refine (K11.out _ t1.out).mono ?_
                  rintro e v2 ⟨rfl, t2⟩
                  refine hK.out _ _ ?_ (fun hHeld => ?_)
                  · exact Z.out _ t2.out
                  clear hK K
                  try simp only [Act.put, List.setIfInBounds_toArray, List.set_cons_zero, List.set_cons_succ]
                  refine take_w (i := 29) (d := 97) (v := ?_) rfl rfl (by kernel_rfl) (by kernel_rfl) (by kernel_rfl) (fun _ _ _ h => h) (Or.inl ⟨by rfl, ?_⟩) (by assumption) ?_
                  rotate_left
                  · (intro w hSw; (try dsimp only at hSw); go_simp; try with_reducible rfl)
                  try simp only [Act.put, List.setIfInBounds_toArray, List.set_cons_zero, List.set_cons_succ]
                  refine take_w (i := 30) (d := 98) (v := ?_) rfl rfl (by kernel_rfl) (by kernel_rfl) (by kernel_rfl) (fun _ _ _ h => h) (Or.inl ⟨by rfl, ?_⟩) (by assumption) ?_
                  rotate_left
                  · (intro w hSw; (try dsimp only at hSw); go_simp; try with_reducible rfl)
                  try simp only [Act.put, List.setIfInBounds_toArray, List.set_cons_zero, List.set_cons_succ]
                  refine wpAnyH_done (by kernel_rfl) ?_ _
                  all_goals (
                    go_wp2
                    go_roundw
                    case rel => exact ⟨i + 1, by omega, by simp, t2⟩
                    case measure => simp [intOf]; omega)
              · have J1 : hasB p rh = true := J1.out hin
                rw [J1] at K11
                have T11 := Lib.hid (K11.out _ H0.out)
                clear J1 J2 K19 K11 hin
                go_wp2_with fail
                refine wp_region_held_drew (S := fun W => W.cell? ⟨b, o + i, none⟩ = some (.int .u64 (X : Int)) ∧ W.cell? ⟨V, 0, none⟩ = some (.slice a2 n k2) ∧ W.cell? ⟨V, 1, none⟩ = some (.int .u64 (seed : Int))) (by kernel_rfl) (Z.out _ H0.out) (fun hHeld => ?_)
                refine take_w (i := 0) (d := 68) (v := ?_) rfl rfl (by kernel_rfl) (by kernel_rfl) (by kernel_rfl) (fun _ _ _ h => h) (Or.inl ⟨by rfl, ?_⟩) (by assumption) ?_
                rotate_left
                · (intro w hSw; (try dsimp only at hSw); go_simp; try with_reducible rfl)
                try simp only [Act.put, List.setIfInBounds_toArray, List.set_cons_zero, List.set_cons_succ]
                refine take_w (i := 1) (d := 69) (v := ?_) rfl rfl (by kernel_rfl) (by kernel_rfl) (by kernel_rfl) (fun _ _ _ h => h) (Or.inl ⟨by rfl, ?_⟩) (by assumption) ?_
                rotate_left
                · (intro w hSw; (try dsimp only at hSw); go_simp; try with_reducible rfl)
                try simp only [Act.put, List.setIfInBounds_toArray, List.set_cons_zero, List.set_cons_succ]
                refine take_w (i := 2) (d := 70) (v := ?_) rfl rfl (by kernel_rfl) (by kernel_rfl) (by kernel_rfl) (fun _ _ _ h => h) (Or.inl ⟨by rfl, ?_⟩) (by assumption) ?_
                rotate_left
                · (intro w hSw; (try dsimp only at hSw); go_simp; try with_reducible rfl)
                try simp only [Act.put, List.setIfInBounds_toArray, List.set_cons_zero, List.set_cons_succ]
                refine take_w (i := 3) (d := 71) (v := ?_) rfl rfl (by kernel_rfl) (by kernel_rfl) (by kernel_rfl) (fun _ _ _ h => h) (Or.inl ⟨by rfl, ?_⟩) (by assumption) ?_
                rotate_left
                · (intro w hSw; (try dsimp only at hSw); go_simp; try with_reducible rfl)
                try simp only [Act.put, List.setIfInBounds_toArray, List.set_cons_zero, List.set_cons_succ]
                refine take_w (i := 4) (d := 72) (v := ?_) rfl rfl (by kernel_rfl) (by kernel_rfl) (by kernel_rfl) (fun _ _ _ h => h) (Or.inl ⟨by rfl, ?_⟩) (by assumption) ?_
                rotate_left
                · (intro w hSw; (try dsimp only at hSw); go_simp; try with_reducible rfl)
                try simp only [Act.put, List.setIfInBounds_toArray, List.set_cons_zero, List.set_cons_succ]
                refine take_w (i := 5) (d := 73) (v := ?_) rfl rfl (by kernel_rfl) (by kernel_rfl) (by kernel_rfl) (fun _ _ _ h => h) (Or.inl ⟨by rfl, ?_⟩) (by assumption) ?_
                rotate_left
                · (intro w hSw; (try dsimp only at hSw); go_simp; try with_reducible rfl)
                try simp only [Act.put, List.setIfInBounds_toArray, List.set_cons_zero, List.set_cons_succ]
                refine take_w (i := 6) (d := 74) (v := ?_) rfl rfl (by kernel_rfl) (by kernel_rfl) (by kernel_rfl) (fun _ _ _ h => h) (Or.inl ⟨by rfl, ?_⟩) (by assumption) ?_
                rotate_left
                · (intro w hSw; (try dsimp only at hSw); go_simp; try with_reducible rfl)
                try simp only [Act.put, List.setIfInBounds_toArray, List.set_cons_zero, List.set_cons_succ]
                refine wpAnyH_ready (rs := [7]) (by kernel_rfl) (by simp) ?_
                refine AllReadyH.cons (o := _) rfl (fun K hK => ?_) AllReadyH.nil
                go_simp
                go_at_call 11
                refine (T11.out).mono ?_
                rintro e v1 ⟨rfl, t1⟩
                refine hK.out _ _ ?_ (fun hHeld => ?_)
                · exact Z.out _ t1.out
                clear hK K
                try simp only [Act.put, List.setIfInBounds_toArray, List.set_cons_zero, List.set_cons_succ]
                refine take_w (i := 8) (d := 76) (v := ?_) rfl rfl (by kernel_rfl) (by kernel_rfl) (by kernel_rfl) (fun _ _ _ h => h) (Or.inl ⟨by rfl, ?_⟩) (by assumption) ?_
                rotate_left
                · (intro w hSw; (try dsimp only at hSw); go_simp; try with_reducible rfl)
                try simp only [Act.put, List.setIfInBounds_toArray, List.set_cons_zero, List.set_cons_succ]
                refine take_w (i := 9) (d := 77) (v := ?_) rfl rfl (by kernel_rfl) (by kernel_rfl) (by kernel_rfl) (fun _ _ _ h => h) (Or.inl ⟨by rfl, ?_⟩) (by assumption) ?_
                rotate_left
                · (intro w hSw; (try dsimp only at hSw); go_simp; try with_reducible rfl)
                try simp only [Act.put, List.setIfInBounds_toArray, List.set_cons_zero, List.set_cons_succ]
                refine take_w (i := 10) (d := 78) (v := ?_) rfl rfl (by kernel_rfl) (by kernel_rfl) (by kernel_rfl) (fun _ _ _ h => h) (Or.inl ⟨by rfl, ?_⟩) (by assumption) ?_
                rotate_left
                · (intro w hSw; (try dsimp only at hSw); go_simp; try with_reducible rfl)
                try simp only [Act.put, List.setIfInBounds_toArray, List.set_cons_zero, List.set_cons_succ]
                refine take_w (i := 11) (d := 79) (v := ?_) rfl rfl (by kernel_rfl) (by kernel_rfl) (by kernel_rfl) (fun _ _ _ h => h) (Or.inl ⟨by rfl, ?_⟩) (by assumption) ?_
                rotate_left
                · (intro w hSw; (try dsimp only at hSw); go_simp; try with_reducible rfl)
                try simp only [Act.put, List.setIfInBounds_toArray, List.set_cons_zero, List.set_cons_succ]
                refine take_w (i := 12) (d := 80) (v := ?_) rfl rfl (by kernel_rfl) (by kernel_rfl) (by kernel_rfl) (fun _ _ _ h => h) (Or.inl ⟨by rfl, ?_⟩) (by assumption) ?_
                rotate_left
                · (intro w hSw; (try dsimp only at hSw); go_simp; try with_reducible rfl)
                try simp only [Act.put, List.setIfInBounds_toArray, List.set_cons_zero, List.set_cons_succ]
                refine take_w (i := 13) (d := 81) (v := ?_) rfl rfl (by kernel_rfl) (by kernel_rfl) (by kernel_rfl) (fun _ _ _ h => h) (Or.inl ⟨by rfl, ?_⟩) (by assumption) ?_
                rotate_left
                · (intro w hSw; (try dsimp only at hSw); go_simp; try with_reducible rfl)
                try simp only [Act.put, List.setIfInBounds_toArray, List.set_cons_zero, List.set_cons_succ]
                refine take_w (i := 14) (d := 82) (v := undef) rfl rfl (by kernel_rfl) (by kernel_rfl) (by kernel_rfl) (fun _ _ _ h => h) (Or.inr ⟨by kernel_rfl, rfl⟩) (by assumption) ?_
                try simp only [Act.put, List.setIfInBounds_toArray, List.set_cons_zero, List.set_cons_succ]
                refine take_w (i := 15) (d := 83) (v := undef) rfl rfl (by kernel_rfl) (by kernel_rfl) (by kernel_rfl) (fun _ _ _ h => h) (Or.inr ⟨by kernel_rfl, rfl⟩) (by assumption) ?_
                try simp only [Act.put, List.setIfInBounds_toArray, List.set_cons_zero, List.set_cons_succ]
                refine take_w (i := 16) (d := 84) (v := undef) rfl rfl (by kernel_rfl) (by kernel_rfl) (by kernel_rfl) (fun _ _ _ h => h) (Or.inr ⟨by kernel_rfl, rfl⟩) (by assumption) ?_
                try simp only [Act.put, List.setIfInBounds_toArray, List.set_cons_zero, List.set_cons_succ]
                refine take_w (i := 17) (d := 85) (v := undef) rfl rfl (by kernel_rfl) (by kernel_rfl) (by kernel_rfl) (fun _ _ _ h => h) (Or.inr ⟨by kernel_rfl, rfl⟩) (by assumption) ?_
                try simp only [Act.put, List.setIfInBounds_toArray, List.set_cons_zero, List.set_cons_succ]
                refine take_w (i := 18) (d := 86) (v := undef) rfl rfl (by kernel_rfl) (by kernel_rfl) (by kernel_rfl) (fun _ _ _ h => h) (Or.inr ⟨by kernel_rfl, rfl⟩) (by assumption) ?_
                try simp only [Act.put, List.setIfInBounds_toArray, List.set_cons_zero, List.set_cons_succ]
                refine take_w (i := 19) (d := 87) (v := undef) rfl rfl (by kernel_rfl) (by kernel_rfl) (by kernel_rfl) (fun _ _ _ h => h) (Or.inr ⟨by kernel_rfl, rfl⟩) (by assumption) ?_
                try simp only [Act.put, List.setIfInBounds_toArray, List.set_cons_zero, List.set_cons_succ]
                refine take_w (i := 20) (d := 88) (v := undef) rfl rfl (by kernel_rfl) (by kernel_rfl) (by kernel_rfl) (fun _ _ _ h => h) (Or.inr ⟨by kernel_rfl, rfl⟩) (by assumption) ?_
                try simp only [Act.put, List.setIfInBounds_toArray, List.set_cons_zero, List.set_cons_succ]
                refine take_w (i := 21) (d := 89) (v := ?_) rfl rfl (by kernel_rfl) (by kernel_rfl) (by kernel_rfl) (fun _ _ _ h => h) (Or.inl ⟨by rfl, ?_⟩) (by assumption) ?_
                rotate_left
                · (intro w hSw; (try dsimp only at hSw); go_simp; try with_reducible rfl)
                try simp only [Act.put, List.setIfInBounds_toArray, List.set_cons_zero, List.set_cons_succ]
                refine take_w (i := 22) (d := 90) (v := ?_) rfl rfl (by kernel_rfl) (by kernel_rfl) (by kernel_rfl) (fun _ _ _ h => h) (Or.inl ⟨by rfl, ?_⟩) (by assumption) ?_
                rotate_left
                · (intro w hSw; (try dsimp only at hSw); go_simp; try with_reducible rfl)
                try simp only [Act.put, List.setIfInBounds_toArray, List.set_cons_zero, List.set_cons_succ]
                refine take_w (i := 23) (d := 91) (v := undef) rfl rfl (by kernel_rfl) (by kernel_rfl) (by kernel_rfl) (fun _ _ _ h => h) (Or.inr ⟨by kernel_rfl, rfl⟩) (by assumption) ?_
                try simp only [Act.put, List.setIfInBounds_toArray, List.set_cons_zero, List.set_cons_succ]
                refine take_w (i := 24) (d := 92) (v := undef) rfl rfl (by kernel_rfl) (by kernel_rfl) (by kernel_rfl) (fun _ _ _ h => h) (Or.inr ⟨by kernel_rfl, rfl⟩) (by assumption) ?_
                try simp only [Act.put, List.setIfInBounds_toArray, List.set_cons_zero, List.set_cons_succ]
                refine take_w (i := 25) (d := 93) (v := undef) rfl rfl (by kernel_rfl) (by kernel_rfl) (by kernel_rfl) (fun _ _ _ h => h) (Or.inr ⟨by kernel_rfl, rfl⟩) (by assumption) ?_
                try simp only [Act.put, List.setIfInBounds_toArray, List.set_cons_zero, List.set_cons_succ]
                refine take_w (i := 26) (d := 94) (v := undef) rfl rfl (by kernel_rfl) (by kernel_rfl) (by kernel_rfl) (fun _ _ _ h => h) (Or.inr ⟨by kernel_rfl, rfl⟩) (by assumption) ?_
                try simp only [Act.put, List.setIfInBounds_toArray, List.set_cons_zero, List.set_cons_succ]
                refine take_w (i := 27) (d := 95) (v := undef) rfl rfl (by kernel_rfl) (by kernel_rfl) (by kernel_rfl) (fun _ _ _ h => h) (Or.inr ⟨by kernel_rfl, rfl⟩) (by assumption) ?_
                try simp only [Act.put, List.setIfInBounds_toArray, List.set_cons_zero, List.set_cons_succ]
                refine take_w (i := 28) (d := 96) (v := undef) rfl rfl (by kernel_rfl) (by kernel_rfl) (by kernel_rfl) (fun _ _ _ h => h) (Or.inr ⟨by kernel_rfl, rfl⟩) (by assumption) ?_
                try simp only [Act.put, List.setIfInBounds_toArray, List.set_cons_zero, List.set_cons_succ]
                refine take_w (i := 29) (d := 97) (v := ?_) rfl rfl (by kernel_rfl) (by kernel_rfl) (by kernel_rfl) (fun _ _ _ h => h) (Or.inl ⟨by rfl, ?_⟩) (by assumption) ?_
                rotate_left
                · (intro w hSw; (try dsimp only at hSw); go_simp; try with_reducible rfl)
                try simp only [Act.put, List.setIfInBounds_toArray, List.set_cons_zero, List.set_cons_succ]
                refine take_w (i := 30) (d := 98) (v := ?_) rfl rfl (by kernel_rfl) (by kernel_rfl) (by kernel_rfl) (fun _ _ _ h => h) (Or.inl ⟨by rfl, ?_⟩) (by assumption) ?_
                rotate_left
                · (intro w hSw; (try dsimp only at hSw); go_simp; try with_reducible rfl)
                try simp only [Act.put, List.setIfInBounds_toArray, List.set_cons_zero, List.set_cons_succ]
                refine wpAnyH_done (by kernel_rfl) ?_ _
                all_goals (
                  go_wp2
                  go_roundw
                  case rel => exact ⟨i + 1, by omega, by simp, t1⟩
                  case measure => simp [intOf]; omega)
        · obtain rfl : i = len := by omega
          have HO := Lib.hid hI.out.at_.old
          have T8 : Hid (∀ W, Below w.heap.size w W → Calls Tryd.prog 8 #[.pointer none, .int .u64 1] W fun e B => e = .returned (pv fun _ => 0) ∧ Hid (Below w.heap.size w B)) := fun W hW => (places_none 1 W).mono fun _ _ ⟨he, hb⟩ => ⟨he, hW.trans (hb.mono hW.size)⟩
          have T10 : Hid (∀ W, Below w.heap.size w W → Calls Tryd.prog 10 #[.pointer none, .int .u64 1, .int .u64 2] W fun e B => e = .returned (.bool true) ∧ Hid (Below w.heap.size w B)) := fun W hW => (alike_none 1 2 W).mono fun _ _ ⟨he, hb⟩ => ⟨he, hW.trans (hb.mono hW.size)⟩
          have T5 : Hid (∀ W, Below w.heap.size w W → Calls Tryd.prog 5 #[] W fun e B => e = .returned (.bool true) ∧ Hid (Below w.heap.size w B)) := fun W hW => (awake_any w W ⟨HO.out.1, hW⟩).mono fun _ _ ⟨he, hb⟩ => ⟨he, hW.trans (hb.out.mono hW.size)⟩
          have hq : ∀ w, (Op.equalIn 10000 31 (.agg #[.int .i64 0, .int .i64 0, .int .i64 0, .int .i64 0]) (.agg #[.int .i64 0, .int .i64 0, .int .i64 0, .int .i64 0])).run Tryd.prog w = .ok true w := fun w => eql4 w 0 0 0 0 0 0 0 0
          have HB : Hid (Below w.heap.size w wr) := HO.out.2
          clear C I0 I1 K11 K19 J hI HO
          go_wp2_with (first
            | (go_at_call 18; refine (clear_none _).mono ?_; rintro e u1 ⟨rfl, e1⟩; obtain rfl : wr = u1 := e1.symm)
            | (go_at_call 14; refine (put_none _ _).mono ?_; rintro e u1 ⟨rfl, e1⟩; obtain rfl : wr = u1 := e1.symm)
            | (go_at_call 11; refine (has_none _ _).mono ?_; rintro e u1 ⟨rfl, e1⟩; obtain rfl : wr = u1 := e1.symm)
            | (go_at_call 17; refine (bits_none _).mono ?_; rintro e u1 ⟨rfl, e1⟩; obtain rfl : wr = u1 := e1.symm)
            | (go_at_call 15; refine (full_none _).mono ?_; rintro e u1 ⟨rfl, e1⟩; obtain rfl : wr = u1 := e1.symm)
            | (go_at_call 8; refine (T8.out _ HB.out).mono ?_; rintro e u8 ⟨rfl, b8⟩)
            | (go_at_call 10; refine (T10.out _ b8.out).mono ?_; rintro e u10 ⟨rfl, b10⟩)
            | (go_at_call 5; refine (T5.out _ b10.out).mono ?_; rintro e u5 ⟨rfl, b5⟩))
          go_ret
          exact ⟨rfl, b5.out⟩
set_option maxRecDepth 100000 in
set_option maxHeartbeats 1000000 in
theorem keeps_walk (c : Int) (seed : Nat) (hseed : seed < 18446744073709551616) (a : Option Addr) (cap : Nat) (l : List Nat) (w : World) (hs : mx.Since w w) (hcap : l.length ≤ cap) (hr : Keys w a l) :
    Calls Tryd.prog 4 #[.int .i64 c, .int .u64 (seed : Int), .slice a l.length cap] w fun e B => e = .returned (.bool true) ∧ Below w.heap.size w B := by
  by_cases hl : l.length ≤ 60
  · exact keeps_some c seed hseed a cap l w hs hl hcap hr
  · have hl1 : (60 : Int) < (l.length : Int) := by omega
    have T := Lib.hid (awake_any w w hs)
    clear hr hl hs hcap
    generalize l.length = len at *
    go_enter Tryd.func4, Tryd.ntmps4
    go_wp2_with fail
    refine T.out.mono ?_
    rintro e B ⟨rfl, hb⟩
    go_wp2
    go_ret
    exact ⟨rfl, hb.out⟩
end Go.Proofs.YtmfdobppihjjkaaDoor
