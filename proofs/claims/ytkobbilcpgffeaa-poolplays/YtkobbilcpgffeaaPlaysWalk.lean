/-
  PoolPlays walked: for every two ints and every slice of ints it returns true; what was in memory stays.
-/
import Derived.Test.YtkobbilcpgffeaaGave
import Derived.Deep.RegionHeld3
import Derived.Deep.QuietTactic
namespace Go.Proofs.Ytkobbilcpgffeaa
open Go.RowKit
/-- the slice at a reads as the ints ks. -/
def Ia (w : World) (a : Option Addr) (ks : List Int) : Prop := 0 < ks.length → ∃ b o, a = some ⟨b, o, none⟩ ∧ ∀ i (h : i < ks.length), w.cell? ⟨b, o + i, none⟩ = some (.int .i64 ks[i])
set_option maxRecDepth 100000 in
set_option maxHeartbeats 20000000 in
theorem plays_some (room spare : Int) (a : Option Addr) (cap : Nat) (ks : List Int) (w : World) (hl : ks.length ≤ 40) (hr : Ia w a ks) :
    Calls Try.prog 3 #[.int .i64 room, .int .i64 spare, .slice a ks.length cap] w fun e B => e = .returned (.bool true) ∧ Below w.heap.size w B := by
  obtain ⟨N, hN⟩ : ∃ N, w.heap.size = N := ⟨_, rfl⟩
  obtain ⟨rm, hrm1, hrm2, hrmL⟩ : ∃ rm : Nat, min (max (min room 20) 1) 1024 = (rm : Int) ∧ max 1 (min (min room 20) 1024) = (rm : Int) ∧ rm ≤ 20 := ⟨(max (min room 20) 1).toNat, by omega, by omega, by omega⟩
  obtain ⟨sp, hsp1, hsp2⟩ : ∃ sp : Nat, min (max spare 0) 1024 = (sp : Int) ∧ max 0 (min spare 1024) = (sp : Int) := ⟨(min (max spare 0) 1024).toNat, by omega, by omega⟩
  have T6 : Hid (Calls Try.prog 6 #[.int .i64 (min room 20), .int .i64 spare] w fun e B => e = .returned (.pointer (some ⟨N, 0, none⟩)) ∧ Hid (Has (fun k => k < N) B N rm sp 0 0 ∧ Below N w B)) :=
    (new_has (min room 20) spare rm sp hrm1 hsp1 w (fun k => k < N) fun _ h => hN ▸ h).mono fun e B ⟨he, hB, hb⟩ => by
      rw [hN] at he hB hb
      exact ⟨he, hB, hb⟩
  have T7 : Hid (∀ W, Calls Try.prog 7 #[.int .i64 (min room 20), .int .i64 spare] W fun e B => e = .returned (.agg #[.int .i64 (rm : Int), .int .i64 (sp : Int), .int .i64 0, .int .i64 0]) ∧ Hid (Below W.heap.size W B)) := fun W => refnew_any (min room 20) spare rm sp hrm2 hsp2 W
  clear hrm1 hrm2 hsp1 hsp2
  rw [hN]
  go_enter Try.func3, Try.ntmps3
  go_wp2_with fail
  refine T6.out.mono ?_
  rintro e w1 ⟨rfl, h1⟩
  go_wp2_with fail
  refine (T7.out _).mono ?_
  rintro e w2 ⟨rfl, h2⟩
  have S0 : Hid (St w N w2.heap.size rm sp 0 0 0 0 (.slice none 0 0) [] no no (w2.alloc (.cells #[.int .i64 (rm : Int), .int .i64 (sp : Int), .int .i64 0, .int .i64 0] 27))) := by
    have hb := h2.out
    have hN1 := h1.out.1.lt
    have hb2 : Below N w (w2.alloc (.cells #[.int .i64 (rm : Int), .int .i64 (sp : Int), .int .i64 0, .int .i64 0] 27)) := (h1.out.2.trans (hb.mono (by omega))).alloc (by have := hb.size; omega) _
    refine ⟨heap_next rfl _, World.ownsRow_nil _ _ _ _, fun _ h => by simp at h, List.nodup_nil, by simp, fun k hk => by simp [Value.ownBlock] at hk, fun _ h => by simp at h, fun _ h => h.elim, fun _ h => h.elim, ?_, hb2, by have := hb.size; omega⟩
    refine ((h1.out.1.more fun k hk => ?_).below hb).below ((Below.refl _ _).alloc (Nat.le_refl _) _)
    rcases hk with (hk | rfl | hk | hk | hk) | hk
    · exact .inl hk
    · exact .inr hb.size
    · simp [Value.ownBlock] at hk
    · simp at hk
    · exact hk.elim
    · exact hk.elim
  clear h1 h2 T6 T7
  go_wp2_with fail
  generalize w2.alloc (.cells #[.int .i64 (rm : Int), .int .i64 (sp : Int), .int .i64 0, .int .i64 0] 27) = w3 at *
  generalize w2.heap.size = X at *
  go_loopw [9, 10] (fun vo i wr => ∃ (k bm bn n : Nat), k ≤ ks.length ∧ i = .int .i64 k ∧ n ≤ k ∧ bm ≤ k ∧ (∃ a c, vo = .slice a n c) ∧ Hid (∃ os : List Nat, os.length = n ∧ St w N X rm sp bm bn bm bn vo os no no wr)) (fun _ i _ => ks.length - (intOf i).toNat)
  case atStart => exact ⟨0, 0, 0, 0, Nat.zero_le _, rfl, Nat.le_refl _, Nat.le_refl _, ⟨none, 0, rfl⟩, [], rfl, S0.out⟩
  case round =>
    clear S0
    obtain ⟨k, bm, bn, n, hk, rfl, hok, hbm, ⟨a1, c1, rfl⟩, hS0⟩ := hrel
    obtain ⟨os, hn, hS1⟩ := hS0.out
    have hS := Lib.hid hS1
    clear hS0 hS1
    by_cases hlt : k < ks.length
    · obtain ⟨b, o, rfl, hi⟩ := hr (by omega)
      have cx : wr.cell? ⟨b, o + k, none⟩ = some (.int .i64 ks[k]) := (hS.out.old.cell (p := ⟨b, o + k, none⟩) (hN ▸ World.block_lt_of_cell? w ⟨b, o + k, none⟩ (hi k hlt))).trans (hi k hlt)
      clear hi
      generalize ks[k] = x at *
      have hbN : b < N := by
        obtain ⟨b1, o1, e1, h1⟩ := hr (by omega)
        injection e1 with e1; injection e1 with e1; subst e1
        rw [← hN]; exact World.block_lt_of_cell? w _ (h1 k hlt)
      have hC : Hid (∀ W, Below N w W → W.cell? ⟨b, o + k, none⟩ = some (.int .i64 x)) := fun W hW => (hW.cell (p := ⟨b, o + k, none⟩) hbN).trans ((hS.out.old.cell (p := ⟨b, o + k, none⟩) hbN).symm.trans cx)
      have hlids := hS.out.has.lids
      have T12 : Hid (∀ m q vo' os' W, Hid (St w N X rm sp m q m q vo' os' no no W) → (W.cell? ⟨X, 0, none⟩ = some (.int .i64 (rm : Int)) ∧ W.cell? ⟨X, 2, none⟩ = some (.int .i64 (m : Int)) ∧ W.cell? ⟨X, 3, none⟩ = some (.int .i64 (q : Int))) ∧ Hid (∀ j, Calls Try.prog 12 #[.pointer (some ⟨N, 0, none⟩)] (W.drewN j) fun e B => e = .returned (.int .i64 (m : Int)) ∧ B = W.drewN j) ∧ Hid (∀ j, Calls Try.prog 13 #[.pointer (some ⟨N, 0, none⟩)] (W.drewN j) fun e B => e = .returned (.int .i64 (q : Int)) ∧ B = W.drewN j) ∧ Hid (∀ j, Calls Try.prog 14 #[.pointer (some ⟨N, 0, none⟩)] (W.drewN j) fun e B => e = .returned (.int .i64 (rm : Int)) ∧ B = W.drewN j)) := fun m q vo' os' W h =>
        ⟨⟨h.out.x0, h.out.x2, h.out.x3⟩, fun j => (h.out.drewN j).made_, fun j => (h.out.drewN j).spare_, fun j => (h.out.drewN j).room_⟩
      by_cases hA : x < 0 ∨ n = 0
      · have TA8 : Hid (Calls Try.prog 8 #[.pointer (some ⟨N, 0, none⟩)] wr fun e B => ∃ g, e = .returned (.slice (some ⟨g, 0, none⟩) 0 rm) ∧ (B.cell? ⟨X, 0, none⟩ = some (.int .i64 (rm : Int)) ∧ B.cell? ⟨X, 1, none⟩ = some (.int .i64 (sp : Int)) ∧ B.cell? ⟨X, 2, none⟩ = some (.int .i64 (bm : Int)) ∧ B.cell? ⟨X, 3, none⟩ = some (.int .i64 (bn : Int))) ∧ Hid (St w N X rm sp bm bn (tm bm bn) (bn - 1) (.slice a1 n c1) os no (fun k => k = g) B)) :=
          (hS.out.take (by omega)).mono fun e B ⟨g, he, hB⟩ => ⟨g, he, ⟨hB.x0, hB.x1, hB.x2, hB.x3⟩, hB⟩
        have TA9 : Hid (∀ B g, Hid (St w N X rm sp bm bn (tm bm bn) (bn - 1) (.slice a1 n c1) os no (fun k => k = g) B) → Calls Try.prog 9 #[pv rm sp bm bn] B fun e B' => ∃ m q, e = .returned (.agg #[.int .i64 (rm : Int), .int .i64 (sp : Int), .int .i64 m, .int .i64 q]) ∧ (B'.cell? ⟨X, 0, none⟩ = some (.int .i64 (rm : Int)) ∧ B'.cell? ⟨X, 1, none⟩ = some (.int .i64 (sp : Int)) ∧ B'.cell? ⟨X, 2, none⟩ = some (.int .i64 (bm : Int)) ∧ B'.cell? ⟨X, 3, none⟩ = some (.int .i64 (bn : Int))) ∧ (B'.frozen? ⟨X, 0, none⟩ = false ∧ B'.frozen? ⟨X, 1, none⟩ = false ∧ B'.frozen? ⟨X, 2, none⟩ = false ∧ B'.frozen? ⟨X, 3, none⟩ = false) ∧
            ((((B'.setCell ⟨X, 0, none⟩ (.int .i64 (rm : Int))).setCell ⟨X, 1, none⟩ (.int .i64 (sp : Int))).setCell ⟨X, 2, none⟩ (.int .i64 m)).setCell ⟨X, 3, none⟩ (.int .i64 q)).cell? ⟨b, o + k, none⟩ = some (.int .i64 x) ∧
            Hid (∀ ty, ∃ v' w', (Builtin.append_ #[22, 22] ty #[.slice (some ⟨g, 0, none⟩) 0 rm, .slice (some ⟨B'.heap.size, 0, none⟩) 1 1]).run Try.prog (((((B'.setCell ⟨X, 0, none⟩ (.int .i64 (rm : Int))).setCell ⟨X, 1, none⟩ (.int .i64 (sp : Int))).setCell ⟨X, 2, none⟩ (.int .i64 m)).setCell ⟨X, 3, none⟩ (.int .i64 q)).alloc (.cells #[.int .i64 x] 3)) = .ok v' w' ∧ (v' = .slice (some ⟨g, 0, none⟩) 1 rm ∧ Hid (St w N X rm sp (tm bm bn) (bn - 1) (tm bm bn) (bn - 1) (.slice a1 n c1) os no (fun k => k = g) w')))) := fun B g hB =>
          (reftake_any rm sp bm bn (by omega) (by omega) B).mono fun e B' ⟨he, hb⟩ => by
            have h := hB.out.below hb
            have h4 := h.set (tm bm bn) (bn - 1) _ _ rfl rfl
            refine ⟨_, _, he, ⟨h.x0, h.x1, h.x2, h.x3⟩, ⟨h.fr 0, h.fr 1, h.fr 2, h.fr 3⟩, hC.out _ h4.old, fun ty => ?_⟩
            have := h4.fill x ty
            simpa only [World.size_setCell] using this
        have TA29 : Hid (∀ W g ty, Hid (St w N X rm sp (tm bm bn) (bn - 1) (tm bm bn) (bn - 1) (.slice a1 n c1) os no (fun k => k = g) W) → ∃ v' w', (Builtin.append_ #[29, 29] ty #[.slice a1 n c1, .slice (some ⟨W.heap.size, 0, none⟩) 1 1]).run Try.prog (W.alloc (.cells #[.slice (some ⟨g, 0, none⟩) 1 rm] 22)) = .ok v' w' ∧ (∃ s c, v' = .slice (some ⟨s, 0, none⟩) (n + 1) c ∧ Hid (St w N X rm sp (tm bm bn) (bn - 1) (tm bm bn) (bn - 1) (.slice (some ⟨s, 0, none⟩) (n + 1) c) (os ++ [g]) no no w'))) := fun W g ty h => by
          obtain ⟨v', w', h1, ⟨s, c, h2⟩, h3⟩ := h.out.put (by omega) ty
          rw [hn] at h2
          subst h2
          exact ⟨_, w', h1, s, c, rfl, h3⟩
        have HN := Lib.hid hn
        have hbm1 : tm bm bn ≤ k + 1 := by unfold tm; split <;> omega
        clear hr hN hS hn hC
        have hB : (x < 0 ∧ decide (x < 0) = true) ∨ (¬ x < 0 ∧ decide (x < 0) = false ∧ n = 0) := by
          by_cases hx : x < 0
          · exact .inl ⟨hx, decide_eq_true hx⟩
          · exact .inr ⟨hx, decide_eq_false hx, by omega⟩
        clear hA
        rcases hB with ⟨hx, hd⟩ | ⟨hx, hd, rfl⟩
        all_goals (
          go_wp2_with fail
          refine TA8.out.mono ?_
          rintro e W1 ⟨g, rfl, ⟨y0, y1, y2, y3⟩, h1⟩
          clear cx
          go_wp2_with fail
          refine (TA9.out _ _ h1).mono ?_
          rintro e W2 ⟨m, q, rfl, ⟨z0, z1, z2, z3⟩, ⟨f0, f1, f2, f3⟩, cx, h2⟩
          clear y0 y1 y2 y3
          go_wp2_with (first
            | (at_builtin; refine app_step _ rfl _ _ 22 rfl _ _ rfl rfl (h2.out _) ?_; rintro v3 W3 ⟨rfl, h3⟩)
            | (at_builtin; refine app_step _ rfl _ _ 29 rfl _ _ rfl rfl (TA29.out _ _ _ h3) ?_; rintro v4 W4 ⟨s4, c4, rfl, h4⟩))
          obtain ⟨⟨e0, e2, e3⟩, H12, H13, H14⟩ := T12.out _ _ _ _ _ h4
          clear z0 z1 z2 z3 f0 f1 f2 f3 cx T12 TA8 TA9 TA29
          go_quiet (first
            | (go_at_call 12; exact Calls.quiet_of_same (H12.out _))
            | (go_at_call 13; exact Calls.quiet_of_same (H13.out _))
            | (go_at_call 14; exact Calls.quiet_of_same (H14.out _)))
          go_wp2
          go_roundw
          case rel => exact ⟨k + 1, tm bm bn, bn - 1, _, by omega, by simp, by omega, hbm1, ⟨_, _, rfl⟩, os ++ [g], by simp [HN.out], h4.out.drewN _⟩
          case measure => simp [intOf]; omega)
      · obtain ⟨kk, hkk, hkn⟩ : ∃ kk : Nat, x % (n : Int) = (kk : Int) ∧ kk < n := by
          have h1 := Int.emod_nonneg x (b := (n : Int)) (by omega)
          have h2 := Int.emod_lt_of_pos x (b := (n : Int)) (by omega)
          exact ⟨(x % (n : Int)).toNat, by omega, by omega⟩
        obtain ⟨s, cp, hv, hc, hcell⟩ := hS.out.some_ (by omega)
        injection hv with e1 e2 e3
        subst e1 e3
        clear e2
        obtain ⟨l1, g, l2, rfl, hl1⟩ : ∃ l1 g l2, os = l1 ++ g :: l2 ∧ l1.length = kk := ⟨os.take kk, os[kk], os.drop (kk + 1), by rw [← List.drop_eq_getElem_cons (by omega), List.take_append_drop], by rw [List.length_take]; omega⟩
        have cg : wr.cell? ⟨s, kk, none⟩ = some (.slice (some ⟨g, 0, none⟩) 1 rm) := by
          have := hcell kk (by omega)
          subst hl1
          simpa using this
        have c0 := hS.out.x0
        have c1' := hS.out.x1
        have c2' := hS.out.x2
        have c3' := hS.out.x3
        have hx : ¬ x < 0 := by omega
        have hd : decide (x < 0) = false := by simpa using hx
        have hd2 : ((n : Int) == 0) = false := by simp; omega
        have hn0 : ¬ n = 0 := by omega
        rw [hn] at hc
        have HN := Lib.hid hn
        have HL := Lib.hid hl1
        have hcc : n ≤ c1 := hc
        have i1 : (kk : Int) < (n : Int) := by omega
        by_cases h7 : x % 7 = 6
        case' pos =>
          have h7' : (x % 7 == 6) = true := by simpa using h7
          have hmk := run_make_room (P := Try.prog) 22 3 (.int .i64 0) 8 Try.underlying22 info_el rfl .i64 .i64 (rm + 1) (by omega) (by omega)
          rw [show ((rm + 1 : Nat) : Int) = (rm : Int) + 1 by omega] at hmk
          obtain ⟨Z, hZ⟩ : ∃ Z, madeCells #[Value.int .i64 0] (rm + 1) = Z := ⟨_, rfl⟩
          rw [hZ] at hmk
          clear hZ
          have hS1 := Lib.hid (hS.out.alloc (.cells Z 3))
          obtain ⟨y0, y1, y2, y3⟩ := hS1.out.four
          have T10 := Lib.hid hS1.out.no10
          have T11 : Hid (∀ B, Hid (St w N X rm sp bm bn bm bn (.slice (some ⟨s, 0, none⟩) n c1) (l1 ++ g :: l2) no no B) → Calls Try.prog 11 #[.pointer (some ⟨N, 0, none⟩), .slice (some ⟨wr.heap.size, 0, none⟩) 0 (rm + 1)] (B.alloc (.cells #[.int .i64 (rm : Int), .int .i64 (sp : Int), .int .i64 (bm : Int), .int .i64 (bn : Int)] 27)) fun e B' => e = .returned (.bool false) ∧ Gave w N X B.heap.size rm sp bm bn bn n (.slice (some ⟨s, 0, none⟩) n c1) B') := fun _ hB => St.no11 hB hn _
          have hvo : n ≤ k + 1 := by omega
          clear hS hS1 hr hN hn hl1 hcell hC hkn hc hcc
          go_wp2_with fail
        case' neg =>
          have h7' : (x % 7 == 6) = false := by simpa using h7
          obtain ⟨q', hq'⟩ : ∃ q', gn bn sp = q' := ⟨_, rfl⟩
          obtain ⟨d, hdd⟩ : ∃ d, decide (bn < sp) = d := ⟨_, rfl⟩
          obtain ⟨n1, hn1⟩ : ∃ n1, (l1 ++ l2).length = n1 := ⟨_, rfl⟩
          have hvo : n1 ≤ k + 1 := by
            have : (l1 ++ g :: l2).length = (l1 ++ l2).length + 1 := by simp; omega
            omega
          have hS2 := hS.out
          rw [← hn] at hS2
          have A1 : Hid (∀ W1 ty, W1.heap[wr.heap.size]? = some (.cells #[] 22 (0, 0)) → Keep (fun k => k < wr.heap.size) wr W1 → ∃ v' w', (Builtin.append_ #[29, 29] ty #[.slice (some ⟨wr.heap.size, 0, none⟩) 0 0, .slice (some ⟨s, 0, none⟩) kk c1]).run Try.prog W1 = .ok v' w' ∧ Hid (w'.ownsRow wr.heap.size 22 1 v' l1.length (l1.map (bv rm 1)) ∧ Keep (fun k => k < wr.heap.size) wr w')) := fun W1 ty h1 h2 => by
            have := hS2.part1 (by omega) W1 h1 h2 ty
            rwa [hl1] at this ⊢
          obtain ⟨o2, hcl, ho2⟩ := cut_l s n c1 kk hkn hcc
          have A2 : Hid (∀ v1 w1 ty, Hid (w1.ownsRow wr.heap.size 22 1 v1 l1.length (l1.map (bv rm 1)) ∧ Keep (fun k => k < wr.heap.size) wr w1) → ∃ v' w', (Builtin.append_ #[29, 29] ty #[v1, .slice (some ⟨s, o2, none⟩) (n - (kk + 1)) (c1 - (kk + 1))]).run Try.prog w1 = .ok v' w' ∧ (∃ a2 c2, v' = .slice a2 n1 c2 ∧ Hid (St w N X rm sp bm bn bm bn (.slice a2 n1 c2) (l1 ++ l2) no (fun k => k = g) w'))) := fun v1 w1 ty h1 => by
            obtain ⟨v', w', h2, ⟨a2, c2, h3⟩, h4⟩ := hS2.part2 (o := o2) (by omega) (by rw [hn, hl1]; exact ho2) v1 w1 h1 ty
            rw [hn, hl1] at h2
            rw [hn1] at h3
            subst h3
            exact ⟨_, w', h2, a2, c2, rfl, h4⟩
          have T10a : Hid (∀ W a2 c2, Hid (St w N X rm sp bm bn bm bn (.slice a2 n1 c2) (l1 ++ l2) no (fun k => k = g) W) → Four W X rm sp bm bn ∧ Hid (Calls Try.prog 10 #[pv rm sp bm bn, .int .i64 (rm : Int)] W fun e B => e = .returned (.tuple #[pv rm sp bm q', .bool d]) ∧ Hid (St w N X rm sp bm bn bm bn (.slice a2 n1 c2) (l1 ++ l2) no (fun k => k = g) B))) := fun W a2 c2 h => ⟨h.out.four, by
            have := h.out.ok10
            rw [hq', hdd] at this
            exact this⟩
          have T11a : Hid (∀ a2 c2 B, Hid (St w N X rm sp bm bn bm bn (.slice a2 n1 c2) (l1 ++ l2) no (fun k => k = g) B) → Calls Try.prog 11 #[.pointer (some ⟨N, 0, none⟩), .slice (some ⟨g, 0, none⟩) 1 rm] (B.alloc (.cells #[.int .i64 (rm : Int), .int .i64 (sp : Int), .int .i64 (bm : Int), .int .i64 (q' : Int)] 27)) fun e B' => e = .returned (.bool d) ∧ Gave w N X B.heap.size rm sp bm bn q' n1 (.slice a2 n1 c2) B') := fun a2 c2 B h => by
            have := St.ok11 h hn1 1
            rw [hq', hdd] at this
            exact this
          have hch := cut_h s n c1 kk hkn hcc
          have hwk : IntKind.i64.wrap ((kk : Int) + 1) = (kk : Int) + 1 := by rw [IntKind.wrap_i64]; omega
          clear hS hS2 hr hN hn hl1 hcell hC hc hq' hdd hn1 ho2 hkn
          go_wp2_with fail
          go_region_held3 (fun _ => True) (first | trivial | assumption) (first
            | (refine step_ex _ (by rfl) _ _ 29 (by rfl) _ _ (by rfl) (by rfl) (A2.out _ _ _ h1) ?_; rintro v2 w2 ⟨a2, c2, rfl, h2⟩)
            | (refine step_ex _ (by rfl) _ _ 29 (by rfl) _ _ (by rfl) (by rfl) (A1.out _ _ (heap_next rfl _) ((Keep.alloc _ _ _).trans (Keep.drew _ _))) ?_; rintro v1 w1 h1))
          all_goals (
            obtain ⟨⟨y0, y1, y2, y3⟩, T10⟩ := T10a.out _ _ _ h2
            have T11 := Lib.hid (T11a.out a2 c2)
            clear T10a T11a A1 A2
            go_wp2_with fail)
        all_goals (
          refine T10.out.mono ?_
          rintro e W5 ⟨rfl, h5⟩
          clear y0 y1 y2 y3 c0 c1' c2' c3' cx
          go_wp2_with fail
          refine (T11.out _ h5).mono ?_
          rintro e W6 ⟨rfl, ⟨y0, y1, y2, y3⟩, ⟨z0, z1, z2, z3⟩, ⟨f0, f1, f2, f3⟩, h6⟩
          obtain ⟨os', hos', hS6⟩ := h6.out
          have h7 := Lib.hid hS6
          have HO := Lib.hid hos'
          obtain ⟨⟨e0, e2, e3⟩, H12, H13, H14⟩ := T12.out _ _ _ _ _ h7
          clear h6 hS6 hos' T12 T10 T11 h5
          go_wp2_with fail
          clear y0 y1 y2 y3 z0 z1 z2 z3 f0 f1 f2 f3
          go_quiet (first
            | (go_at_call 12; exact Calls.quiet_of_same (H12.out _))
            | (go_at_call 13; exact Calls.quiet_of_same (H13.out _))
            | (go_at_call 14; exact Calls.quiet_of_same (H14.out _)))
          go_wp2
          go_roundw
          case rel => exact ⟨k + 1, bm, _, _, by omega, by simp, hvo, by omega, ⟨_, _, rfl⟩, os', HO.out, h7.out.drewN _⟩
          case measure => simp [intOf]; omega)
    · obtain rfl : k = ks.length := by omega
      have hB := hS.out.old
      have hz := hS.out.size
      have T : Hid (Calls Try.prog 5 #[] wr fun e B => e = .returned (.bool true) ∧ Hid (Below N w B)) := (awake_any wr).mono fun e B ⟨he, hb⟩ => ⟨he, hB.trans (hb.out.mono hz)⟩
      clear hr hS hN hB hz
      go_wp2_with fail
      refine T.out.mono ?_
      rintro e B ⟨rfl, hB⟩
      go_wp2
      go_ret
      exact ⟨rfl, hB.out⟩
theorem plays_walk (room spare : Int) (a : Option Addr) (cap : Nat) (ks : List Int) (w : World) (hr : Ia w a ks) :
    Calls Try.prog 3 #[.int .i64 room, .int .i64 spare, .slice a ks.length cap] w fun e B => e = .returned (.bool true) ∧ Below w.heap.size w B := by
  by_cases hl : ks.length ≤ 40
  · exact plays_some room spare a cap ks w hl hr
  · have hl1 : (40 : Int) < (ks.length : Int) := by omega
    clear hr hl
    generalize ks.length = n at *
    go_enter Try.func3, Try.ntmps3
    go_wp2_with fail
    refine (awake_any w).mono ?_
    rintro e B ⟨rfl, hb⟩
    go_wp2
    go_ret
    exact ⟨rfl, hb.out⟩
end Go.Proofs.Ytkobbilcpgffeaa
