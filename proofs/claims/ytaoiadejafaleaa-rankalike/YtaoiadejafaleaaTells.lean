/-
  RankTells walked: for every slice of keys with things, every int and every uint it returns true; what was in memory stays.
-/
import Derived.Test.YtaoiadejafaleaaLook
import Derived.Test.YtaoiadejafaleaaAwake
import Derived.Test.YtaoiadejafaleaaTold
import Derived.Lib.SliceRun
namespace Go.Proofs.Ytaoiadejafaleaa
open Go.RowKit Go.Shelf
theorem elem27 : Try.prog.underlying 27 = some (.slice (Try.prog.elem 27)) := by kernel_rfl
theorem size27 (w : World) : (sizeOf (Try.prog.elem 27)).run Try.prog w = .ok 2 w := by kernel_rfl
/-- l[:nn]. -/
theorem cut_h (a : Option Addr) (cap : Nat) {l : List (Int × Int)} {nn : Nat} {z : Int} (hn : nn ≤ l.length) (hc : l.length ≤ cap) (hz : z = (nn : Int)) : ∃ a3, (∀ W', (Instr.slice 27 (.slice a l.length cap) none (some (.int .i64 z)) none).run Try.prog W' = .ok (.slice a3 nn cap) W') ∧ ∀ W, Es W (.slice a l.length cap) l → Es W (.slice a3 nn cap) (l.take nn) := by
  subst hz
  refine ⟨if cap = 0 then a else a.map (·.add (0 * 2)), fun W' => by rw [run_slice_h W' 27 a l.length cap elem27 .i64 nn (by omega) (by omega), size27]; simp [sliced], fun W hq => ?_⟩
  have hlen : (l.take nn).length = nn := by rw [List.length_take]; omega
  refine ⟨_, cap, by rw [hlen], by omega, fun h0 => ?_⟩
  obtain ⟨a', c', hv, hc', hea⟩ := hq
  injection hv with h1 h2 h3
  subst h1
  obtain ⟨b, o, rfl, hi⟩ := hea (by omega)
  have hc0 : ¬ cap = 0 := by omega
  refine ⟨b, o, by simp [hc0, Addr.add], fun i hi' => ?_⟩
  have := hi i (by omega)
  rw [List.getElem_take]
  exact this
theorem drop_lo {k : Int} {l : List (Int × Int)} (h : Up l) : l.drop (lo k l).length = l.filter fun e => decide (k ≤ e.1) := by
  induction l with
  | nil => rfl
  | cons e r ih =>
    obtain ⟨h1, h2⟩ := h.cons
    by_cases hk : e.1 < k
    · rw [lo_cons, if_pos hk, List.length_cons, List.drop_succ_cons, ih h1, List.filter_cons, if_neg (by simp; omega)]
    · rw [lo_cons, if_neg hk, lo_none (xs := r) (fun a ha => by have := h2 a ha; omega)]
      symm
      rw [List.length_nil, List.drop_zero]
      refine List.filter_eq_self.2 fun a ha => ?_
      rcases List.mem_cons.1 ha with rfl | ha
      · simp; omega
      · have := h2 a ha; simp; omega
theorem take_min (l : List (Int × Int)) (n : Nat) : l.take (min n l.length) = l.take n := by rw [Nat.min_def]; split; rfl; rw [List.take_length, List.take_of_length_le (by omega)]
/-- a tree, its row, and another row. -/
structure Hv (w : World) (N g : Nat) (tr : Tr) (v u : Value) (bs : List (Int × Int)) (W : World) : Prop where
  now : At W g tr
  row : Es W v tr.list
  beh : Es W u bs
  bel : Below N w W
  size : N ≤ W.heap.size
namespace Hv
variable {w W W' : World} {N g : Nat} {tr : Tr} {v u : Value} {bs : List (Int × Int)}
theorem below (h : Hv w N g tr v u bs W) (hb : Below W.heap.size W W') : Hv w N g tr v u bs W' :=
  ⟨h.now.below hb, h.row.below hb, h.beh.below hb, h.bel.trans (hb.mono h.size), Nat.le_trans h.size hb.size⟩
theorem quiet (h : Hv w N g tr v u bs W) (hw : ∃ m, W' = W.drewN m) : Hv w N g tr v u bs W' := by
  obtain ⟨m, rfl⟩ := hw
  exact h.below (below_drewN W m)
end Hv
/-- told, of a function that behind has just made. -/
theorem told_behind {W0 W : World} {p : Option Addr} {t : Tr} {first n : Nat} (hw : Wh W0 p t) (hf : first < 1000000000000000000) (hn : n ≤ 1000000) (hW : W = (W0.alloc (.cells #[.pointer p] 24)).alloc (.cells #[.int .i64 (first : Int)] 3)) :
    Calls Try.prog 21 #[.func (.func 39) #[] #[.pointer (some ⟨W0.heap.size, 0, none⟩), .pointer (some ⟨W0.heap.size + 1, 0, none⟩)], .int .i64 (n : Int)] W fun e B => ∃ v, e = .returned v ∧ Es B v ((t.list.drop first).take n) ∧ Below W.heap.size W B := by
  have hk : Keep (fun _ => True) W0 W := by rw [hW]; exact (Keep.alloc _ _ _).trans (Keep.alloc _ _ _)
  have hs : W.heap.size = W0.heap.size + 2 := by rw [hW]; simp
  have hX : W.heap[W0.heap.size]? = some (.cells #[.pointer p] 24 (0, 0)) := by rw [hW]; exact heap_old (World.alloc_heap_new _ _)
  have hY : W.heap[W0.heap.size + 1]? = some (.cells #[.int .i64 (first : Int)] 3 (0, 0)) := by rw [hW]; exact heap_next (by simp) _
  refine told_of W0.heap.size (W0.heap.size + 1) (t.list.drop first) W n hn (fun k => foot p t k ∨ k = W0.heap.size ∨ k = W0.heap.size + 1) (fun k h => ?_) (fun B hB => ?_)
  · rcases h with h | h | h
    · have := hw.lt h; omega
    · omega
    · omega
  · refine behind1_tells (hw.keep (hk.trans hB) fun _ _ => trivial) ?_ ?_ hf _ (fun _ h => h) (fun k h => ?_) (hB.mono fun _ _ _ => trivial)
    · rw [cell_of (hB.heap hX trivial)]; rfl
    · rw [cell_of (hB.heap hY trivial)]; rfl
    · have := hB.size
      rcases h with h | h | h
      · have := hw.lt h; omega
      · omega
      · omega
theorem told_fresh {W0 : World} {p : Option Addr} {t : Tr} {f n : Nat} (hw : Wh W0 p t) (hf : f < 1000000000000000000) (hn : n ≤ 1000000) :
    Calls Try.prog 21 #[.func (.func 39) #[] #[.pointer (some ⟨W0.heap.size, 0, none⟩), .pointer (some ⟨W0.heap.size + 1, 0, none⟩)], .int .i64 (n : Int)] ((W0.alloc (.cells #[.pointer p] 24)).alloc (.cells #[.int .i64 (f : Int)] 3)) fun e B => ∃ v, e = .returned v ∧ Es B v ((t.list.drop f).take n) ∧ Below W0.heap.size W0 B := by
  obtain ⟨W, hW⟩ : ∃ W, W = (W0.alloc (.cells #[.pointer p] 24)).alloc (.cells #[.int .i64 (f : Int)] 3) := ⟨_, rfl⟩
  have hb0 : Below W0.heap.size W0 W := by rw [hW]; exact Keep.below (K := fun _ => True) ((Keep.alloc _ _ _).trans (Keep.alloc _ _ _)) (fun _ _ => trivial) (Nat.le_refl _)
  have h := told_behind hw hf hn hW
  rw [← hW]
  exact h.mono fun e B ⟨v, he, hv, hb⟩ => ⟨v, he, hv, hb0.trans (hb.mono hb0.size)⟩
/-- what is not below k, of the first ones. -/
def fb (k : Int) (l : List (Int × Int)) : List (Int × Int) := l.filter fun e => decide (k ≤ e.1)
theorem fb_take {k : Int} {l : List (Int × Int)} {j : Nat} {e0 e1 : Int} (h : l.take (j + 1) = l.take j ++ [(e0, e1)]) : fb k (l.take (j + 1)) = if k ≤ e0 then fb k (l.take j) ++ [(e0, e1)] else fb k (l.take j) := by
  rw [h]; unfold fb
  rw [List.filter_append]
  by_cases hk : k ≤ e0 <;> simp [hk]
theorem fb_len (k : Int) (l : List (Int × Int)) : (fb k l).length ≤ l.length := List.length_filter_le _ _
set_option maxRecDepth 100000 in
set_option maxHeartbeats 20000000 in
theorem tells_some (a : Option Addr) (cap : Nat) (l : List (Int × Int)) (k : Int) (most : Nat) (w : World) (hl : l.length ≤ 40) (hr : Ea w a l) :
    Calls Try.prog 4 #[.slice a l.length cap, .int .i64 k, .int .u64 (most : Int)] w fun e B => e = .returned (.bool true) ∧ Below w.heap.size w B := by
  obtain ⟨N, hN⟩ : ∃ N, w.heap.size = N := ⟨_, rfl⟩
  have T0 : Hid (Calls Try.prog 7 #[ordV] w fun e w' => ∃ g, e = .returned (.pointer (some ⟨g, 0, none⟩)) ∧ Hid (At w' g .nil ∧ Below N w w')) := hN ▸ new_at w
  have C : Hid (∀ (j : Nat) (h : j < l.length), ∃ b o, a = some ⟨b, o, none⟩ ∧ ∀ W, Below N w W → W.cell? ⟨b, o + j * 2, none⟩ = some (.int .i64 l[j].1) ∧ W.cell? ⟨b, o + j * 2 + 1, none⟩ = some (.int .i64 l[j].2)) := fun j h => by
    obtain ⟨b, o, rfl, hi⟩ := hr (by omega)
    obtain ⟨h0, h1⟩ := hi j h
    have hb := World.block_lt_of_cell? w _ h0
    rw [hN] at hb
    exact ⟨b, o, rfl, fun W hW => ⟨(hW.cell (p := ⟨b, o + j * 2, none⟩) hb).trans h0, (hW.cell (p := ⟨b, o + j * 2 + 1, none⟩) hb).trans h1⟩⟩
  have HN := Lib.hid hN
  rw [hN]
  clear hr hN
  go_enter Try.func4, Try.ntmps4
  go_wp2_with fail
  refine T0.out.mono ?_
  rintro e w1 ⟨g0, rfl, h1⟩
  go_wp2_with fail
  go_loopw [7, 8, 10] (fun t x i wr => ∃ (j g : Nat) (tr : Tr) (a c : _), j ≤ l.length ∧ i = .int .i64 j ∧ t = .pointer (some ⟨g, 0, none⟩) ∧ x = .slice a tr.list.length c ∧ Hid (Hv w N g tr (.slice a tr.list.length c) (.slice none 0 0) [] wr ∧ tr.list.length ≤ j)) (fun _ _ i _ => l.length - (intOf i).toNat)
  case atStart =>
    have hs := HN.out
    have hb := h1.out.2
    have hz := hb.size
    exact ⟨0, g0, .nil, none, 0, Nat.zero_le _, rfl, rfl, rfl, Lib.hid ⟨⟨h1.out.1, Es.nil _, Es.nil _, hb, by omega⟩, Nat.le_refl _⟩⟩
  case round =>
    clear h1 T0
    obtain ⟨j, g, tr, ax, cx, hj, rfl, rfl, rfl, hX⟩ := hrel
    by_cases hlt : j < l.length
    · obtain ⟨b, o, rfl, hc⟩ := C.out j hlt
      obtain ⟨e0, he0⟩ : ∃ e0, l[j].1 = e0 := ⟨_, rfl⟩
      obtain ⟨e1, he1⟩ : ∃ e1, l[j].2 = e1 := ⟨_, rfl⟩
      rw [he0, he1] at hc
      have D := Lib.hid hc
      have HL := hX.out.2
      have K0 : Hid (wr.drew.cell? ⟨b, o + j * 2, none⟩ = some (.int .i64 e0) ∧ wr.drew.cell? ⟨b, o + j * 2 + 1, none⟩ = some (.int .i64 e1)) := hc wr hX.out.1.bel
      have B1 : Hid (Hv w N g tr (.slice ax tr.list.length cx) (.slice none 0 0) [] wr.drew) := hX.out.1.below ((Below.refl _ wr).drew)
      have P1 : Hid (Calls Try.prog 9 #[.pointer (some ⟨g, 0, none⟩), .int .i64 e0, .int .i64 e1] wr.drew fun e w' => ∃ g', e = .returned (.pointer (some ⟨g', 0, none⟩)) ∧ (w'.cell? ⟨b, o + j * 2, none⟩ = some (.int .i64 e0) ∧ w'.cell? ⟨b, o + j * 2 + 1, none⟩ = some (.int .i64 e1)) ∧ Hid (∃ tr', tr'.list = ins e0 e1 tr.list ∧ At w' g' tr' ∧ Hv w N g tr (.slice ax tr.list.length cx) (.slice none 0 0) [] w')) :=
        (tput_some B1.out.now (by omega) e0 e1).mono fun e w' ⟨g', t', he, ho⟩ => by
          have h2 := B1.out.below ho.out.2.2
          exact ⟨g', he, D.out _ h2.bel, t', ho.out.2.1, ho.out.1, h2⟩
      have P2 : Hid (∀ W g', Hid (∃ tr', tr'.list = ins e0 e1 tr.list ∧ At W g' tr' ∧ Hv w N g tr (.slice ax tr.list.length cx) (.slice none 0 0) [] W) → Calls Try.prog 10 #[.slice ax tr.list.length cx, .int .i64 e0, .int .i64 e1] W fun e w' => ∃ a2 n2 c2, e = .returned (.slice a2 n2 c2) ∧ (w'.cell? ⟨b, o + j * 2, none⟩ = some (.int .i64 e0) ∧ w'.cell? ⟨b, o + j * 2 + 1, none⟩ = some (.int .i64 e1)) ∧ Hid (∃ tr', tr'.list.length = n2 ∧ n2 ≤ j + 1 ∧ Hv w N g' tr' (.slice a2 n2 c2) (.slice none 0 0) [] w')) := fun W g' hh => by
        obtain ⟨tr', h1, h2, h3⟩ := hh.out
        refine (rput_any h3.row h3.now.up (by omega) e0 e1).mono fun e w' ⟨v', he, ho⟩ => ?_
        obtain ⟨ho1, ho2⟩ := ho.out
        have h4 := h3.below ho2
        rw [← h1] at ho1
        obtain ⟨a2, c2, hv, _⟩ := ho1
        subst hv
        refine ⟨a2, _, c2, he, D.out _ h4.bel, tr', rfl, ?_, h2.below ho2, by rw [h1]; exact (h1 ▸ ho.out.1), h4.beh, h4.bel, h4.size⟩
        have := ins_len (k := e0) (xs := tr.list) e1
        rw [h1]; omega
      clear hc he0 he1 D hX HL B1 C
      generalize tr.list.length = nn at *
      go_wp2_with fail
      go_region_held3 (fun W => W.cell? ⟨b, o + j * 2, none⟩ = some (.int .i64 e0) ∧ W.cell? ⟨b, o + j * 2 + 1, none⟩ = some (.int .i64 e1)) (first | exact K0.out | assumption) (first
        | (go_at_call 9; refine P1.out.mono ?_; rintro e W2 ⟨g', rfl, hk2, ho1⟩)
        | (go_at_call 10; refine (P2.out _ _ ho1).mono ?_; rintro e W ⟨a2, n2, c2, rfl, hk3, hz⟩))
      clear P1 P2 K0 hk2 hk3 ho1
      go_wp2
      go_roundw
      case rel =>
        obtain ⟨tr', q1, q2, q3⟩ := hz.out
        subst q1
        exact ⟨j + 1, _, tr', _, _, by omega, by simp, rfl, rfl, Lib.hid ⟨q3, q2⟩⟩
      case measure => simp [intOf]; omega
    · obtain rfl : j = l.length := by omega
      clear C
      obtain ⟨w5, rfl⟩ : ∃ w5, w5 = wr := ⟨_, rfl⟩
      have hcx : tr.list.length ≤ cx := by obtain ⟨_, _, hv, hc, _⟩ := hX.out.1.row; injection hv with _ _ h3; omega
      have hnn : tr.list.length ≤ 40 := by have := hX.out.2; omega
      have X0 := Lib.hid hX.out.1
      obtain ⟨xs, hxs⟩ : ∃ xs, tr.list = xs := ⟨_, rfl⟩
      have EX : Hid (Es w5 (.slice ax xs.length cx) xs) := hxs ▸ hX.out.1.row
      have UX : Hid (Up xs) := hxs ▸ hX.out.1.now.up
      rw [hxs] at hcx hnn X0 ⊢
      have HXS := Lib.hid hxs
      clear hX hxs
      obtain ⟨N2, hN2⟩ : ∃ N2, w5.heap.size = N2 := ⟨_, rfl⟩
      have HN2 := Lib.hid hN2
      clear hN2
      have EA : Hid (∀ (j : Nat) (h : j < xs.length), ∃ b o, ax = some ⟨b, o, none⟩ ∧ ∀ W, Below N2 w5 W → W.cell? ⟨b, o + j * 2, none⟩ = some (.int .i64 xs[j].1) ∧ W.cell? ⟨b, o + j * 2 + 1, none⟩ = some (.int .i64 xs[j].2)) := fun j h => by
        obtain ⟨a', c', hv, _, hea⟩ := EX.out
        injection hv with h1 _ _
        subst h1
        obtain ⟨b, o, rfl, hi⟩ := hea (by omega)
        obtain ⟨h0, h1⟩ := hi j h
        have hb := World.block_lt_of_cell? w5 _ h0
        rw [HN2.out] at hb
        exact ⟨b, o, rfl, fun W hW => ⟨(hW.cell (p := ⟨b, o + j * 2, none⟩) hb).trans h0, (hW.cell (p := ⟨b, o + j * 2 + 1, none⟩) hb).trans h1⟩⟩
      go_wp2_with fail
      go_loopw [9, 11] (fun v i W => ∃ j : Nat, j ≤ xs.length ∧ i = .int .i64 j ∧ (∃ a c, v = .slice a (fb k (xs.take j)).length c) ∧ Hid (W.ownsRow N2 44 2 v (fb k (xs.take j)).length (flat (fb k (xs.take j))) ∧ Below N2 w5 W ∧ N2 ≤ W.heap.size))
        (fun _ i _ => xs.length - (intOf i).toNat)
      case atStart => exact ⟨0, Nat.zero_le _, rfl, ⟨none, 0, rfl⟩, Lib.hid ⟨World.ownsRow_nil _ _ _ _, Below.refl _ _, by have := HN2.out; omega⟩⟩
      case round =>
        obtain ⟨j, hj, rfl, ⟨a9, c9, rfl⟩, hY⟩ := hrel
        by_cases hlt : j < xs.length
        · obtain ⟨b, o, rfl, hcell⟩ := EA.out j hlt
          obtain ⟨c0, c1⟩ := hcell _ hY.out.2.1
          have T := take_one hlt
          obtain ⟨e0, he0⟩ : ∃ e0, xs[j].1 = e0 := ⟨_, rfl⟩
          obtain ⟨e1, he1⟩ : ∃ e1, xs[j].2 = e1 := ⟨_, rfl⟩
          rw [he0] at c0 T
          rw [he1] at c1 T
          have F := fb_take (k := k) T
          have L := fb_len k (xs.take j)
          rw [List.length_take] at L
          have A := Lib.hid (app_e hY.out.2.1 hY.out.2.2 hY.out.1 (by omega) e0 e1 27)
          clear hcell he0 he1 T L X0 EX UX HXS EA
          by_cases hk : k ≤ e0
          · rw [if_pos hk] at F
            have E := Lib.hid F
            clear F hY
            generalize hz : fb k (xs.take j) = ys at *
            go_wp2_with (at_builtin; refine app_step _ rfl _ _ 27 rfl _ _ rfl rfl A.out ?_; rintro v2 w2 ⟨⟨a2, cap2, rfl⟩, hO⟩)
            go_roundw
            case rel => exact ⟨j + 1, by omega, by simp, ⟨a2, cap2, by rw [E.out, len_one]⟩, by rw [E.out, len_one]; exact hO⟩
            case measure => simp [intOf]; omega
          · rw [if_neg hk] at F
            have E := Lib.hid F
            clear F A
            generalize hz : fb k (xs.take j) = ys at *
            have hk' : e0 < k := by omega
            clear hk
            have H := Lib.hid hY
            clear hY
            go_wp2
            go_roundw
            case rel => exact ⟨j + 1, by omega, by simp, ⟨a9, c9, by rw [E.out]⟩, by rw [E.out]; exact H.out⟩
            case measure => simp [intOf]; omega
        · obtain rfl : j = xs.length := by omega
          rw [List.take_length] at hY ⊢
          have hb9 := fb_len k xs
          obtain ⟨bs, hbs⟩ : ∃ bs, fb k xs = bs := ⟨_, rfl⟩
          rw [hbs] at hY hb9 ⊢
          have hc9 : bs.length ≤ c9 := by obtain ⟨_, _, hv, hc, _⟩ := Es.of_own hY.out.1; injection hv with _ _ h3; omega
          have HV : Hid (Hv w N g tr (.slice ax xs.length cx) (.slice a9 bs.length c9) bs wr) := by
            have hB : Below w5.heap.size w5 wr := by rw [HN2.out]; exact hY.out.2.1
            have h5 := X0.out.below hB
            exact ⟨h5.now, h5.row, Es.of_own hY.out.1, h5.bel, h5.size⟩
          have HB : Hid (bs = xs.drop (lo k xs).length) := by rw [← hbs, drop_lo UX.out]; exact rfl
          clear hY hbs EX EA X0
          obtain ⟨n, hn, hn45⟩ : ∃ n : Nat, (most : Int) % 45 = (n : Int) ∧ n < 45 := ⟨most % 45, by omega, by omega⟩
          obtain ⟨n1, hz1, hn1, hm1⟩ : ∃ n1 : Nat, min (n : Int) (xs.length : Int) = (n1 : Int) ∧ n1 = min n xs.length ∧ n1 ≤ xs.length := ⟨min n xs.length, by omega, rfl, by omega⟩
          obtain ⟨n2, hz2, hn2, hm2⟩ : ∃ n2 : Nat, min (n : Int) (bs.length : Int) = (n2 : Int) ∧ n2 = min n bs.length ∧ n2 ≤ bs.length := ⟨min n bs.length, by omega, rfl, by omega⟩
          obtain ⟨a3, s3, q3⟩ := cut_h ax cx (l := xs) hm1 hcx (rfl : (n1 : Int) = (n1 : Int))
          obtain ⟨a4, s4, q4⟩ := cut_h a9 c9 (l := bs) hm2 hc9 (rfl : (n2 : Int) = (n2 : Int))
          have e1 : xs.take n1 = xs.take n := by rw [hn1, take_min]
          have e2 : bs.take n2 = bs.take n := by rw [hn2, take_min]
          have hl1 : (xs.take n).length = n1 := by rw [List.length_take, hn1]
          have hl2 : (bs.take n).length = n2 := by rw [List.length_take, hn2]
          have A22 : Hid (Calls Try.prog 22 #[.pointer (some ⟨g, 0, none⟩)] wr.drew fun e w' => ∃ X Y : Nat, e = .returned (.func (.func 39) #[] #[.pointer (some ⟨X, 0, none⟩), .pointer (some ⟨Y, 0, none⟩)]) ∧ Hid (Calls Try.prog 21 #[.func (.func 39) #[] #[.pointer (some ⟨X, 0, none⟩), .pointer (some ⟨Y, 0, none⟩)], .int .i64 (n : Int)] w' fun e B => ∃ a1 c1, e = .returned (.slice a1 n1 c1) ∧ Hid (Hv w N g tr (.slice ax xs.length cx) (.slice a9 bs.length c9) bs B ∧ Es B (.slice a1 n1 c1) (xs.take n)))) := by
            have h0 := HV.out.below ((Below.refl _ wr).drew)
            refine (all_any _ _).mono ?_
            rintro e w' ⟨he, rfl⟩
            refine ⟨_, _, he, ?_⟩
            refine (told_fresh (f := 0) (n := n) (.inr ⟨g, rfl, h0.now⟩) (by omega) (by omega)).mono ?_
            rintro e B ⟨v, he, hv, hb⟩
            rw [HXS.out, List.drop_zero] at hv
            have hv2 := hv
            obtain ⟨a1, c1, rfl, _⟩ := hv2
            rw [hl1] at he hv
            exact ⟨a1, c1, he, h0.below hb, hv⟩
          have A20 : Hid (∀ B a1 c1, Hid (Hv w N g tr (.slice ax xs.length cx) (.slice a9 bs.length c9) bs B ∧ Es B (.slice a1 n1 c1) (xs.take n)) → Calls Try.prog 20 #[.slice a1 n1 c1, .slice a3 n1 cx] B fun e w' => e = .returned (.bool true) ∧ Hid (Hv w N g tr (.slice ax xs.length cx) (.slice a9 bs.length c9) bs w')) := fun B a1 c1 hh =>
            (same_any hh.out.2 (e1 ▸ q3 B (HXS.out ▸ hh.out.1.row)) (by omega)).mono fun e w' ⟨he, hm⟩ => ⟨he, hh.out.1.quiet hm⟩
          have A23 : Hid (∀ B, Hid (Hv w N g tr (.slice ax xs.length cx) (.slice a9 bs.length c9) bs B) → Calls Try.prog 23 #[.pointer (some ⟨g, 0, none⟩), .int .i64 k] B fun e w' => ∃ X Y : Nat, e = .returned (.func (.func 39) #[] #[.pointer (some ⟨X, 0, none⟩), .pointer (some ⟨Y, 0, none⟩)]) ∧ Hid (Calls Try.prog 21 #[.func (.func 39) #[] #[.pointer (some ⟨X, 0, none⟩), .pointer (some ⟨Y, 0, none⟩)], .int .i64 (n : Int)] w' fun e B => ∃ a1 c1, e = .returned (.slice a1 n2 c1) ∧ Hid (Hv w N g tr (.slice ax xs.length cx) (.slice a9 bs.length c9) bs B ∧ Es B (.slice a1 n2 c1) (bs.take n)))) := fun B hh => by
            refine (from_any (rank_some hh.out.now k)).mono ?_
            rintro e w' ⟨m, he, rfl⟩
            have h0 := hh.out.quiet ⟨m, rfl⟩
            refine ⟨_, _, he, ?_⟩
            refine (told_fresh (n := n) (.inr ⟨g, rfl, h0.now⟩) ?_ (by omega)).mono ?_
            · have h1 : (lo k tr.list).length ≤ tr.list.length := List.length_filter_le _ _
              have := h0.now.fits; omega
            rintro e B2 ⟨v, he, hv, hb⟩
            rw [HXS.out, ← HB.out] at hv
            have hv2 := hv
            obtain ⟨a1, c1, rfl, _⟩ := hv2
            rw [hl2] at he hv
            exact ⟨a1, c1, he, h0.below hb, hv⟩
          have A20b : Hid (∀ B a1 c1, Hid (Hv w N g tr (.slice ax xs.length cx) (.slice a9 bs.length c9) bs B ∧ Es B (.slice a1 n2 c1) (bs.take n)) → Calls Try.prog 20 #[.slice a1 n2 c1, .slice a4 n2 c9] B fun e w' => e = .returned (.bool true) ∧ Hid (Hv w N g tr (.slice ax xs.length cx) (.slice a9 bs.length c9) bs w')) := fun B a1 c1 hh =>
            (same_any hh.out.2 (e2 ▸ q4 B hh.out.1.beh) (by omega)).mono fun e w' ⟨he, hm⟩ => ⟨he, hh.out.1.quiet hm⟩
          have A6 : Hid (∀ B, Hid (Hv w N g tr (.slice ax xs.length cx) (.slice a9 bs.length c9) bs B) → Calls Try.prog 6 #[] B fun e w' => e = .returned (.bool true) ∧ Hid (Below N w w')) := fun B hh =>
            (awake_any B).mono fun e w' ⟨he, hb⟩ => ⟨he, hh.out.bel.trans (hb.out.mono hh.out.size)⟩
          clear q3 q4 e1 e2 hl1 hl2 hn1 hn2 HV HB HXS UX HN2 HN
          generalize xs.length = lx at *
          generalize bs.length = lb at *
          go_wp2_with fail
          go_region_held3 (fun _ => True) (trivial) (first
            | (go_at_call 6; refine (A6.out _ h6).mono ?_; rintro e B7 ⟨rfl, h7⟩)
            | (go_at_call 20; refine (A20b.out _ _ _ h5).mono ?_; rintro e B6 ⟨rfl, h6⟩)
            | (go_at_call 20; refine (A20.out _ _ _ h2).mono ?_; rintro e B3 ⟨rfl, h3⟩)
            | (go_at_call 21; refine h4.out.mono ?_; rintro e B5 ⟨a5, c5, rfl, h5⟩)
            | (go_at_call 21; refine h1.out.mono ?_; rintro e B2 ⟨a2, c2, rfl, h2⟩)
            | (go_at_call 23; refine (A23.out _ h3).mono ?_; rintro e B4 ⟨X2, Y2, rfl, h4⟩)
            | (go_at_call 22; refine A22.out.mono ?_; rintro e B1 ⟨X1, Y1, rfl, h1⟩))
          all_goals (
            go_wp2
            go_ret
            exact ⟨rfl, h7.out⟩)
theorem tells_walk (a : Option Addr) (cap : Nat) (l : List (Int × Int)) (k : Int) (most : Nat) (w : World) (hr : Ea w a l) :
    Calls Try.prog 4 #[.slice a l.length cap, .int .i64 k, .int .u64 (most : Int)] w fun e B => e = .returned (.bool true) ∧ Below w.heap.size w B := by
  by_cases hl : l.length ≤ 40
  · exact tells_some a cap l k most w hl hr
  · have hl1 : (40 : Int) < (l.length : Int) := by omega
    clear hr hl
    generalize l.length = n at *
    go_enter Try.func4, Try.ntmps4
    go_wp2_with fail
    refine (awake_any w).mono ?_
    rintro e B ⟨rfl, hb⟩
    go_wp2
    go_ret
    exact ⟨rfl, hb.out⟩
end Go.Proofs.Ytaoiadejafaleaa
