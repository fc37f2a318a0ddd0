/-
  PoolApart walked: for every two ints and every slice of uints it returns true; what was in memory stays.
-/
import Derived.Test.YtkobbilcpgffeaaLook
import Derived.Deep.RegionHeld3
import Derived.Deep.QuietTactic
namespace Go.Proofs.Ytkobbilcpgffeaa.st
open Go.RowKit
/-- the slice at a reads as the uints ks. -/
def Ua (w : World) (a : Option Addr) (ks : List Nat) : Prop := 0 < ks.length → ∃ b o, a = some ⟨b, o, none⟩ ∧ ∀ i (h : i < ks.length), w.cell? ⟨b, o + i, none⟩ = some (.int .u64 (ks[i] : Int)) ∧ ks[i] < 18446744073709551616
set_option maxRecDepth 100000 in
set_option maxHeartbeats 20000000 in
theorem apart_some (room spare : Int) (a : Option Addr) (cap : Nat) (ks : List Nat) (w : World) (hl : ks.length ≤ 30) (hr : Ua w a ks) :
    Calls Try.prog 4 #[.int .i64 room, .int .i64 spare, .slice a ks.length cap] w fun e B => e = .returned (.bool true) ∧ Below w.heap.size w B := by
  obtain ⟨N, hN⟩ : ∃ N, w.heap.size = N := ⟨_, rfl⟩
  obtain ⟨rm, hrm1, hrmL, hrm0⟩ : ∃ rm : Nat, min (max (min room 20) 1) 1024 = (rm : Int) ∧ rm ≤ 20 ∧ 1 ≤ rm := ⟨(max (min room 20) 1).toNat, by omega, by omega, by omega⟩
  obtain ⟨sp, hsp1⟩ : ∃ sp : Nat, min (max spare 0) 1024 = (sp : Int) := ⟨(min (max spare 0) 1024).toNat, by omega⟩
  have T15 : Hid (Calls Try.prog 15 #[.int .i64 (min room 20), .int .i64 spare] w fun e B => e = .returned (.pointer (some ⟨N, 0, none⟩)) ∧ Hid (Sa w N rm sp 0 0 0 (.slice none 0 0) [] [] no B)) :=
    (new_has (min room 20) spare rm sp hrm1 hsp1 w (fun k => k < N) fun _ h => hN ▸ h).mono fun e B ⟨he, hB, hb⟩ => by
      rw [hN] at he hB hb
      refine ⟨he, World.ownsRow_nil _ _ _ _, fun _ h => by simp at h, by simp, by simp, fun _ h => by simp at h, fun k hk => by simp [Value.ownBlock] at hk, fun _ h => h.elim, hB.more fun k hk => ?_, hb, hN ▸ hb.size⟩
      rcases hk with (hk | hk | hk) | hk
      · exact .inl hk
      · simp [Value.ownBlock] at hk
      · simp at hk
      · exact hk.elim
  clear hrm1 hsp1
  rw [hN]
  go_enter Try.func4, Try.ntmps4
  go_wp2_with fail
  refine T15.out.mono ?_
  rintro e w1 ⟨rfl, h1⟩
  clear T15
  go_wp2_with fail
  go_loopw [8, 9] (fun vo i wr => ∃ (c made n q : Nat), c ≤ ks.length ∧ i = .int .i64 c ∧ q ≤ c ∧ made ≤ c ∧ (∃ a cp, vo = .slice a q cp) ∧ Hid (∃ os : List (Nat × Nat), os.length = q ∧ Sa w N rm sp made n c vo (os.map (·.1)) os no wr)) (fun _ i _ => ks.length - (intOf i).toNat)
  case atStart => exact ⟨0, 0, 0, 0, Nat.zero_le _, rfl, Nat.le_refl _, Nat.le_refl _, ⟨none, 0, rfl⟩, [], rfl, h1.out⟩
  case round =>
    clear h1
    obtain ⟨c, made, n, q, hc, rfl, hqc, hmc, ⟨a1, c1, rfl⟩, hS0⟩ := hrel
    obtain ⟨os, hn, hS1⟩ := hS0.out
    have hS := Lib.hid hS1
    clear hS0 hS1
    by_cases hlt : c < ks.length
    · obtain ⟨b, o, rfl, hi⟩ := hr (by omega)
      have hbN : b < N := by rw [← hN]; exact World.block_lt_of_cell? w ⟨b, o + c, none⟩ (hi c hlt).1
      obtain ⟨y, hy⟩ : ∃ y, ks[c] = y := ⟨_, rfl⟩
      have hC : Hid (∀ W, Below N w W → W.cell? ⟨b, o + c, none⟩ = some (.int .u64 (y : Int))) := fun W hW => (hW.cell (p := ⟨b, o + c, none⟩) hbN).trans (hy ▸ (hi c hlt).1)
      have hyl : y < 18446744073709551616 := hy ▸ (hi c hlt).2
      clear hi hy
      obtain ⟨tm1, htm⟩ : ∃ t, tm made n = t := ⟨_, rfl⟩
      have htm1 : tm1 ≤ c + 1 := by rw [← htm]; unfold tm; split <;> omega
      have T16 : Hid (Calls Try.prog 16 #[.pointer (some ⟨N, 0, none⟩)] wr fun e B => ∃ g, e = .returned (.slice (some ⟨g, 0, none⟩) 0 rm) ∧ Hid (Sa w N rm sp tm1 (n - 1) c (.slice a1 q c1) (os.map (·.1)) os (fun k => k = g) B)) :=
        htm ▸ (hS.out.take (by omega)).mono fun e B ⟨g, he, hB⟩ => ⟨g, he, hB⟩
      have TR : Hid (∀ W g, Hid (Sa w N rm sp tm1 (n - 1) c (.slice a1 q c1) (os.map (·.1)) os (fun k => k = g) W) → Calls Try.prog 17 #[.pointer (some ⟨N, 0, none⟩)] W fun e B => e = .returned (.int .i64 (rm : Int)) ∧ B = W) := fun W g h => h.out.room_
      have A41 : Hid (∀ W g j ty, Hid (Sa w N rm sp tm1 (n - 1) c (.slice a1 q c1) (os.map (·.1)) os (fun k => k = g) W ∧ Sa.Part W g rm j (ch c)) → j < rm → ∃ v' w', (Builtin.append_ #[41, 41] ty #[.slice (some ⟨g, 0, none⟩) j rm, .slice (some ⟨W.heap.size, 0, none⟩) 1 1]).run Try.prog (W.alloc (.cells #[.string (ch c)] 9)) = .ok v' w' ∧ (v' = .slice (some ⟨g, 0, none⟩) (j + 1) rm ∧ Hid (Sa w N rm sp tm1 (n - 1) c (.slice a1 q c1) (os.map (·.1)) os (fun k => k = g) w' ∧ Sa.Part w' g rm (j + 1) (ch c)))) := fun W g j ty h hj => h.out.1.fill h.out.2 hj ty
      obtain ⟨q4, hq4⟩ : ∃ q4, q + 1 = q4 := ⟨_, rfl⟩
      have A40 : Hid (∀ W g ty, Hid (Sa w N rm sp tm1 (n - 1) c (.slice a1 q c1) (os.map (·.1)) os (fun k => k = g) W ∧ Sa.Part W g rm rm (ch c)) → ∃ v' w', (Builtin.append_ #[40, 40] ty #[.slice a1 q c1, .slice (some ⟨W.heap.size, 0, none⟩) 1 1]).run Try.prog (W.alloc (.cells #[.slice (some ⟨g, 0, none⟩) rm rm] 41)) = .ok v' w' ∧ (∃ s cp, v' = .slice (some ⟨s, 0, none⟩) q4 cp ∧ Hid (∃ os4 : List (Nat × Nat), os4.length = q4 ∧ Sa w N rm sp tm1 (n - 1) (c + 1) (.slice (some ⟨s, 0, none⟩) q4 cp) (os4.map (·.1)) os4 no w'))) := fun W g ty h => by
        obtain ⟨v', w', h1, ⟨s, cp, h2⟩, h3⟩ := h.out.1.put h.out.2.full (by omega) ty
        rw [hn, hq4] at h2
        subst h2
        exact ⟨_, w', h1, s, cp, rfl, _, by simp [hn, hq4], h3.out⟩
      have hch : Utf8.encode (97 + (c : Int)) = ch c := rfl
      have hcw : IntKind.i32.wrap (97 + (c : Int)) = 97 + (c : Int) := by rw [IntKind.wrap_i32]; omega
      have hP0 : Hid (∀ W g, Hid (Sa w N rm sp tm1 (n - 1) c (.slice a1 q c1) (os.map (·.1)) os (fun k => k = g) W) → Sa.Part W g rm 0 (ch c)) := fun W g h => h.out.part0 _
      have HS := Lib.hid hn
      have hq5 : q4 ≤ c + 1 := by omega
      have hq6 : 0 < q4 := by omega
      clear hr hS hn htm hN hbN hq4
      obtain ⟨st, hst⟩ : ∃ st, ch c = st := ⟨_, rfl⟩
      rw [hst] at hch A41 A40 hP0
      clear hst
      have HCH : Hid (∀ z : Nat, z = c → Utf8.encode (97 + (z : Int)) = st ∧ IntKind.i32.wrap (97 + (z : Int)) = 97 + (z : Int)) := fun z hz => by subst hz; exact ⟨hch, hcw⟩
      clear hch hcw
      have i1 : ¬ (rm : Int) < 1 := by omega
      have i2 : ¬ (20 : Int) < (rm : Int) := by omega
      go_wp2_with fail
      refine T16.out.mono ?_
      rintro e W1 ⟨g, rfl, h1⟩
      go_wp2_with fail
      refine (TR.out _ _ h1).mono ?_
      rintro e W1' ⟨rfl, rfl⟩
      go_wp2_with fail
      refine (TR.out _ _ h1).mono ?_
      rintro e W1 ⟨rfl, rfl⟩
      go_wp2_with fail
      have i3 : 0 < rm := by omega
      go_loopw [10, 11] (fun b k wr => ∃ j : Nat, j ≤ rm ∧ k = .int .i64 j ∧ b = .slice (some ⟨g, 0, none⟩) j rm ∧ Hid (Sa w N rm sp tm1 (n - 1) c (.slice a1 q c1) (os.map (·.1)) os (fun k => k = g) wr ∧ Sa.Part wr g rm j st)) (fun _ k _ => rm - (intOf k).toNat)
      case atStart => exact ⟨0, Nat.zero_le _, rfl, rfl, h1.out, hP0.out _ _ h1⟩
      case round =>
        obtain ⟨j, hj, rfl, rfl, hX⟩ := hrel
        have h1' := Lib.hid hX.out.1
        by_cases hjl : j < rm
        · have i4 : (j : Int) < (rm : Int) := by omega
          obtain ⟨hch, hcw⟩ := HCH.out c rfl
          go_wp2_with fail
          refine (TR.out _ _ h1').mono ?_
          rintro e W2 ⟨rfl, rfl⟩
          go_wp2_with (at_builtin; refine app_step _ rfl _ _ 41 rfl _ _ rfl rfl (A41.out _ _ _ _ hX hjl) ?_; rintro v3 W3 ⟨rfl, h3⟩)
          go_roundw
          case rel => exact ⟨j + 1, by omega, by simp, rfl, h3⟩
          case measure => simp [intOf]; omega
        · obtain rfl : rm = j := by omega
          go_wp2_with fail
          refine (TR.out _ _ h1').mono ?_
          rintro e W2 ⟨rfl, rfl⟩
          clear TR A41 hP0 T16 HCH
          go_wp2_with (at_builtin; refine app_step _ rfl _ _ 40 rfl _ _ rfl rfl (A40.out _ _ _ hX) ?_; rintro v4 W4 ⟨s4, c4, rfl, h4⟩)
          clear A40 hX h1' h1
          obtain ⟨os4, hl4, hS4⟩ := h4.out
          have h5 := Lib.hid hS4
          obtain ⟨r1, hr1, hr2⟩ : ∃ r1 : Nat, (rm : Int) - 1 = (r1 : Int) ∧ r1 < rm := ⟨rm - 1, by omega, by omega⟩
          have FB : Hid (∀ j, j < q4 → ∃ (g : Nat) (x : ByteArray), W4.cell? ⟨s4, j, none⟩ = some (.slice (some ⟨g, 0, none⟩) rm rm) ∧ W4.cell? ⟨g, 0, none⟩ = some (.string x) ∧ W4.cell? ⟨g, r1, none⟩ = some (.string x)) := fun j hj => by
            obtain ⟨g, x, q1, q2⟩ := hS4.look hl4 j hj
            exact ⟨g, x, q1, q2 0 (by omega), q2 r1 hr2⟩
          have FC : Hid (∀ j k, j < k → k < q4 → ∃ (g g' : Nat) (x x' : ByteArray), W4.cell? ⟨s4, j, none⟩ = some (.slice (some ⟨g, 0, none⟩) rm rm) ∧ W4.cell? ⟨s4, k, none⟩ = some (.slice (some ⟨g', 0, none⟩) rm rm) ∧ W4.cell? ⟨g, 0, none⟩ = some (.string x) ∧ W4.cell? ⟨g', 0, none⟩ = some (.string x') ∧ (x.toList == x'.toList) = false) := fun j k h1 h2 => hS4.look2 hl4 (by omega) j k h1 h2
          have HL4 := Lib.hid hl4
          clear hS4 h4 hl4
          clear i1 i2
          generalize decide ((rm : Int) < 1) = z1
          generalize decide ((20 : Int) < (rm : Int)) = z2
          go_loopw [12] (fun k wr => ∃ j m : Nat, j ≤ q4 ∧ k = .int .i64 j ∧ wr = W4.drewN m) (fun k _ => q4 - (intOf k).toNat)
          case atStart => exact ⟨0, 0, Nat.zero_le _, rfl, rfl⟩
          case round =>
            obtain ⟨j, m, hj, rfl, rfl⟩ := hrel
            by_cases hjl : j < q4
            · obtain ⟨gj, xj, e1, e2, e3⟩ := FB.out j hjl
              go_wp2_with fail
              go_quiet (fail)
              clear e1 e2 e3
              go_wp2_with fail
              go_loopw [13] (fun k wr => ∃ j' m : Nat, j' ≤ j ∧ k = .int .i64 j' ∧ wr = W4.drewN m) (fun k _ => j - (intOf k).toNat)
              case atStart => exact ⟨0, _, Nat.zero_le _, rfl, World.drewN_drewN ..⟩
              case round =>
                obtain ⟨j', m', hj', rfl, rfl⟩ := hrel
                by_cases hjl' : j' < j
                · obtain ⟨g1, g2, x1, x2, e1, e2, e3, e4, e5⟩ := FC.out j' j hjl' hjl
                  have e6 : ¬ x1.toList = x2.toList := by simpa using e5
                  go_wp2_with fail
                  go_quiet (fail)
                  go_wp2
                  go_roundw
                  case rel => exact ⟨j' + 1, _, by omega, by simp, rfl⟩
                  case measure => simp [intOf]; omega
                · obtain rfl : j = j' := by omega
                  go_wp2
                  go_roundw
                  case rel => exact ⟨j + 1, _, by omega, by simp, rfl⟩
                  case measure => simp [intOf]; omega
            · obtain rfl : q4 = j := by omega
              obtain ⟨W5, hW5⟩ : ∃ W5, W5 = W4.drewN m := ⟨_, rfl⟩
              have h6 : Hid (Sa w N rm sp tm1 (n - 1) (c + 1) (.slice (some ⟨s4, 0, none⟩) q4 c4) (os4.map (·.1)) os4 no W5) := by rw [hW5]; exact h5.out.drewN m
              rw [← hW5]
              have cx := hC.out _ h6.out.old
              clear hW5 FB FC h5 hr1 hr2 hC
              by_cases hy : y % 2 = 0
              · have hy1 : (y : Int) % 2 = 0 := by omega
                have hy2 : ((y : Int) % 2 == 0) = true := by simpa using hy1
                obtain ⟨y2, hy3, hy4⟩ : ∃ y2 : Nat, (y : Int) / 2 = (y2 : Int) ∧ y2 < 9223372036854775808 := ⟨y / 2, by omega, by omega⟩
                obtain ⟨kk, hk1, hk2⟩ : ∃ kk : Nat, (y2 : Int) % (q4 : Int) = (kk : Int) ∧ kk < q4 := ⟨y2 % q4, by simp, Nat.mod_lt _ hq6⟩
                have hw2 : IntKind.i64.wrap (y2 : Int) = (y2 : Int) := by rw [IntKind.wrap_i64]; omega
                obtain ⟨l1, p, l2, ho4, hl1⟩ : ∃ l1 p l2, os4 = l1 ++ p :: l2 ∧ l1.length = kk := ⟨os4.take kk, os4[kk]'(by have := HL4.out; omega), os4.drop (kk + 1), by rw [← List.drop_eq_getElem_cons (by have := HL4.out; omega), List.take_append_drop], by rw [List.length_take]; have := HL4.out; omega⟩
                have i5 : (kk : Int) < (q4 : Int) := by omega
                have hl4 := HL4.out
                subst ho4
                have cg : W5.cell? ⟨s4, kk, none⟩ = some (.slice (some ⟨p.1, 0, none⟩) rm rm) := by
                  have := (h6.out.cells hl4 kk (by omega)).1
                  subst hl1
                  simpa using this
                obtain ⟨l3, hl3⟩ : ∃ l3 : List Nat, l1.map (·.1) = l3 := ⟨_, rfl⟩
                obtain ⟨l5, hl5⟩ : ∃ l5 : List Nat, l2.map (·.1) = l5 := ⟨_, rfl⟩
                obtain ⟨pg, hpg⟩ : ∃ pg : Nat, p.1 = pg := ⟨_, rfl⟩
                have hl3k : l3.length = kk := by rw [← hl3, List.length_map, hl1]
                have hm : (l1 ++ p :: l2).map (·.1) = l3 ++ pg :: l5 := by rw [List.map_append, List.map_cons, hl3, hl5, hpg]
                have hm2 : (l1 ++ l2).map (·.1) = l3 ++ l5 := by rw [List.map_append, hl3, hl5]
                have hlm : (l3 ++ pg :: l5).length = q4 := by rw [← hm, List.length_map, hl4]
                obtain ⟨q5, hq7⟩ : ∃ q5, (l3 ++ l5).length = q5 := ⟨_, rfl⟩
                have hq8 : q5 ≤ c + 1 := by
                  have : (l3 ++ pg :: l5).length = (l3 ++ l5).length + 1 := by simp; omega
                  omega
                have hlq : (l1 ++ l2).length = q5 := by rw [← hq7, ← hm2, List.length_map]
                have hcc : q4 ≤ c4 := by
                  obtain ⟨s', cp', hv, hc', _⟩ := h6.out.some_ (by rw [List.length_map]; omega)
                  injection hv with _ e2 e3
                  omega
                have T18 : Hid (Calls Try.prog 18 #[.pointer (some ⟨N, 0, none⟩), .slice (some ⟨p.1, 0, none⟩) rm rm] W5 fun e B => ∃ d, e = .returned (.bool d) ∧ Hid (Sa w N rm sp tm1 (gn (n - 1) sp) (c + 1) (.slice (some ⟨s4, 0, none⟩) (l3 ++ pg :: l5).length c4) (l3 ++ pg :: l5) (l1 ++ l2) no B)) :=
                  (h6.out.drop.give rm).mono fun e B ⟨he, hB⟩ => ⟨_, he, by rw [hm] at hB; rw [hlm]; exact hB⟩
                have A1 : Hid (∀ B W1 ty, Hid (Sa w N rm sp tm1 (gn (n - 1) sp) (c + 1) (.slice (some ⟨s4, 0, none⟩) (l3 ++ pg :: l5).length c4) (l3 ++ pg :: l5) (l1 ++ l2) no B) → W1.heap[B.heap.size]? = some (.cells #[] 41 (0, 0)) → Keep (fun k => k < B.heap.size) B W1 → ∃ v' w', (Builtin.append_ #[40, 40] ty #[.slice (some ⟨B.heap.size, 0, none⟩) 0 0, .slice (some ⟨s4, 0, none⟩) kk c4]).run Try.prog W1 = .ok v' w' ∧ Hid (w'.ownsRow B.heap.size 41 1 v' l3.length (l3.map (bv rm rm)) ∧ Keep (fun k => k < B.heap.size) B w')) := fun B W1 ty hB h1 h2 => by
                  have := hB.out.part1 (by omega) W1 h1 h2 ty
                  rwa [hl3k] at this ⊢
                obtain ⟨o2, hcl, ho2⟩ := cut_l s4 q4 c4 kk hk2 hcc
                have A2 : Hid (∀ B v1 w1 ty, Hid (Sa w N rm sp tm1 (gn (n - 1) sp) (c + 1) (.slice (some ⟨s4, 0, none⟩) (l3 ++ pg :: l5).length c4) (l3 ++ pg :: l5) (l1 ++ l2) no B) → Hid (w1.ownsRow B.heap.size 41 1 v1 l3.length (l3.map (bv rm rm)) ∧ Keep (fun k => k < B.heap.size) B w1) → ∃ v' w', (Builtin.append_ #[40, 40] ty #[v1, .slice (some ⟨s4, o2, none⟩) (q4 - (kk + 1)) (c4 - (kk + 1))]).run Try.prog w1 = .ok v' w' ∧ (∃ a2 c2, v' = .slice a2 q5 c2 ∧ Hid (∃ os' : List (Nat × Nat), os'.length = q5 ∧ Sa w N rm sp tm1 (gn (n - 1) sp) (c + 1) (.slice a2 q5 c2) (os'.map (·.1)) os' no w'))) := fun B v1 w1 ty hB h1 => by
                  obtain ⟨v', w', h2, ⟨a2, c2, h3⟩, h4⟩ := hB.out.part2 (o := o2) (by omega) (by rw [hlm, hl3k]; exact ho2) v1 w1 h1 ty
                  rw [hlm, hl3k] at h2
                  rw [hq7] at h3
                  subst h3
                  exact ⟨_, w', h2, a2, c2, rfl, _, hlq, by rw [hm2]; exact h4.out⟩
                have hch := cut_h s4 q4 c4 kk hk2 hcc
                have hwk : IntKind.i64.wrap ((kk : Int) + 1) = (kk : Int) + 1 := by rw [IntKind.wrap_i64]; omega
                clear hl4 hl3 hl5 hpg hm hm2 hlm hl3k hq7 hlq ho2 HL4 h6 hl1
                go_wp2_with fail
                refine T18.out.mono ?_
                rintro e B ⟨d, rfl, hB⟩
                go_wp2_with fail
                go_region_held3 (fun _ => True) (first | trivial | assumption) (first
                  | (refine step_ex _ (by rfl) _ _ 40 (by rfl) _ _ (by rfl) (by rfl) (A2.out _ _ _ _ hB hz1) ?_; rintro v2 w2 ⟨a2, c2, rfl, hz2⟩)
                  | (refine step_ex _ (by rfl) _ _ 40 (by rfl) _ _ (by rfl) (by rfl) (A1.out _ _ _ hB (heap_next rfl _) ((Keep.alloc _ _ _).trans (Keep.drew _ _))) ?_; rintro v1 w1 hz1))
                all_goals (
                  go_wp2
                  go_roundw
                  case rel => exact ⟨c + 1, tm1, _, q5, by omega, by simp, hq8, htm1, ⟨_, _, rfl⟩, hz2.out⟩
                  case measure => simp [intOf]; omega)
              · have hy1 : ¬ (y : Int) % 2 = 0 := by omega
                have hy2 : ((y : Int) % 2 == 0) = false := by simpa using hy1
                go_wp2
                go_roundw
                case rel => exact ⟨c + 1, tm1, n - 1, q4, by omega, by simp, hq5, htm1, ⟨_, _, rfl⟩, os4, HL4.out, h6.out⟩
                case measure => simp [intOf]; omega
    · obtain rfl : ks.length = c := by omega
      have hB := hS.out.old
      have hz := hS.out.size
      have T11 : Hid (Calls Try.prog 11 #[.pointer none, .slice none 0 0] wr fun e B => e = .returned (.bool false) ∧ Hid (Below N w B ∧ N ≤ B.heap.size)) := (give_none none 0 0 wr).mono fun e B ⟨he, m, hm⟩ => ⟨he, by
        subst hm
        exact ⟨hB.trans ((Keep.drewN (fun _ => True) wr m).below (fun _ _ => trivial) hz), hz⟩⟩
      have T5 : Hid (∀ W, Hid (Below N w W ∧ N ≤ W.heap.size) → Calls Try.prog 5 #[] W fun e B => e = .returned (.bool true) ∧ Hid (Below N w B)) := fun W h => (awake_any W).mono fun e B ⟨he, hb⟩ => ⟨he, h.out.1.trans (hb.out.mono h.out.2)⟩
      clear hr hS hN hB hz hn
      go_wp2_with fail
      refine (take_none _).mono ?_
      rintro e W1 ⟨rfl, rfl⟩
      go_wp2_with fail
      refine T11.out.mono ?_
      rintro e W2 ⟨rfl, h2⟩
      go_wp2_with fail
      refine (made_none _).mono ?_
      rintro e W3 ⟨rfl, rfl⟩
      go_wp2_with fail
      refine (spare_none _).mono ?_
      rintro e W4 ⟨rfl, rfl⟩
      go_wp2_with fail
      refine (room_none _).mono ?_
      rintro e W5 ⟨rfl, rfl⟩
      go_wp2_with fail
      refine (T5.out _ h2).mono ?_
      rintro e W6 ⟨rfl, h6⟩
      go_wp2
      go_ret
      exact ⟨rfl, h6.out⟩
theorem apart_walk (room spare : Int) (a : Option Addr) (cap : Nat) (ks : List Nat) (w : World) (hr : Ua w a ks) :
    Calls Try.prog 4 #[.int .i64 room, .int .i64 spare, .slice a ks.length cap] w fun e B => e = .returned (.bool true) ∧ Below w.heap.size w B := by
  by_cases hl : ks.length ≤ 30
  · exact apart_some room spare a cap ks w hl hr
  · have hl1 : (30 : Int) < (ks.length : Int) := by omega
    clear hr hl
    generalize ks.length = n at *
    go_enter Try.func4, Try.ntmps4
    go_wp2_with fail
    refine (awake_any w).mono ?_
    rintro e B ⟨rfl, hb⟩
    go_wp2
    go_ret
    exact ⟨rfl, hb.out⟩
end Go.Proofs.Ytkobbilcpgffeaa.st
