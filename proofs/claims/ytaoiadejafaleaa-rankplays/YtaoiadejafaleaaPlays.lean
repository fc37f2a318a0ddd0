/-
  RankPlays walked: for every slice of steps it returns true; what was in memory stays.
-/
import Derived.Test.YtaoiadejafaleaaLook
import Derived.Test.YtaoiadejafaleaaAwake
import Derived.Test.YtaoiadejafaleaaLog
namespace Go.Proofs.Ytaoiadejafaleaa
open Go.RowKit
/-- the slice at a reads as the steps ks. -/
def Steps (w : World) (a : Option Addr) (ks : List (Nat × Int × Int)) : Prop := 0 < ks.length → ∃ b o, a = some ⟨b, o, none⟩ ∧ ∀ i (h : i < ks.length), w.cell? ⟨b, o + i * 3, none⟩ = some (.int .u64 (ks[i].1 : Int)) ∧ w.cell? ⟨b, o + i * 3 + 1, none⟩ = some (.int .i64 ks[i].2.1) ∧ w.cell? ⟨b, o + i * 3 + 2, none⟩ = some (.int .i64 ks[i].2.2)
/-- a tree and its row, and those that were. -/
structure Two (w : World) (N g g' : Nat) (tr tr' : Tr) (v v' : Value) (W : World) : Prop where
  now : At W g' tr'
  row : Es W v' tr'.list
  was : At W g tr
  old : Es W v tr.list
  bel : Below N w W
  size : N ≤ W.heap.size
namespace Two
variable {w W W' : World} {N g g' : Nat} {tr tr' : Tr} {v v' : Value}
theorem below (h : Two w N g g' tr tr' v v' W) (hb : Below W.heap.size W W') : Two w N g g' tr tr' v v' W' :=
  ⟨h.now.below hb, h.row.below hb, h.was.below hb, h.old.below hb, h.bel.trans (hb.mono h.size), Nat.le_trans h.size hb.size⟩
theorem quiet (h : Two w N g g' tr tr' v v' W) (hw : ∃ m, W' = W.drewN m) : Two w N g g' tr tr' v v' W' := by
  obtain ⟨m, rfl⟩ := hw
  exact h.below (below_drewN W m)
end Two
theorem Es.slice {w : World} {v : Value} {l : List (Int × Int)} (h : Es w v l) : ∃ a cap, v = .slice a l.length cap := by
  obtain ⟨a, cap, h1, _⟩ := h
  exact ⟨a, cap, h1⟩
set_option maxRecDepth 100000 in
set_option maxHeartbeats 20000000 in
theorem plays_some (a : Option Addr) (cap : Nat) (ks : List (Nat × Int × Int)) (w : World) (hl : ks.length ≤ 40) (hr : Steps w a ks) :
    Calls Try.prog 3 #[.slice a ks.length cap] w fun e B => e = .returned (.bool true) ∧ Below w.heap.size w B := by
  obtain ⟨N, hN⟩ : ∃ N, w.heap.size = N := ⟨_, rfl⟩
  have T0 : Hid (Calls Try.prog 7 #[ordV] w fun e w' => ∃ g, e = .returned (.pointer (some ⟨g, 0, none⟩)) ∧ Hid (At w' g .nil ∧ Below N w w')) := hN ▸ new_at w
  have T9 : Hid (∀ W, Below N w W → N ≤ W.heap.size → Calls Try.prog 6 #[] W fun e B => e = .returned (.bool true) ∧ Hid (Below N w B)) := fun W hW hs =>
    (awake_any W).mono fun e B ⟨he, hb⟩ => ⟨he, hW.trans (hb.out.mono hs)⟩
  have C : Hid (∀ (j : Nat) (h : j < ks.length), ∃ b o, a = some ⟨b, o, none⟩ ∧ ∀ W, Below N w W → W.cell? ⟨b, o + j * 3, none⟩ = some (.int .u64 (ks[j].1 : Int)) ∧ W.cell? ⟨b, o + j * 3 + 1, none⟩ = some (.int .i64 ks[j].2.1) ∧ W.cell? ⟨b, o + j * 3 + 2, none⟩ = some (.int .i64 ks[j].2.2)) := fun j h => by
    obtain ⟨b, o, rfl, hi⟩ := hr (by omega)
    obtain ⟨h0, h1, h2⟩ := hi j h
    have hb := World.block_lt_of_cell? w _ h0
    rw [hN] at hb
    exact ⟨b, o, rfl, fun W hW => ⟨(hW.cell (p := ⟨b, o + j * 3, none⟩) hb).trans h0, (hW.cell (p := ⟨b, o + j * 3 + 1, none⟩) hb).trans h1, (hW.cell (p := ⟨b, o + j * 3 + 2, none⟩) hb).trans h2⟩⟩
  have HN := Lib.hid hN
  rw [hN]
  clear hr hN
  go_enter Try.func3, Try.ntmps3
  go_wp2_with fail
  refine T0.out.mono ?_
  rintro e w1 ⟨g0, rfl, h1⟩
  go_wp2_with fail
  go_loopw [3, 4, 5] (fun t x i wr => ∃ (j g : Nat) (tr : Tr) (a c : _), j ≤ ks.length ∧ i = .int .i64 j ∧ t = .pointer (some ⟨g, 0, none⟩) ∧ x = .slice a tr.list.length c ∧ Hid (Two w N g g tr tr (.slice a tr.list.length c) (.slice a tr.list.length c) wr ∧ tr.list.length ≤ j)) (fun _ _ i _ => ks.length - (intOf i).toNat)
  case atStart =>
    have hs := HN.out
    have hb := h1.out.2
    have hz := hb.size
    exact ⟨0, g0, .nil, none, 0, Nat.zero_le _, rfl, rfl, rfl, Lib.hid ⟨⟨h1.out.1, Es.nil _, h1.out.1, Es.nil _, hb, by omega⟩, Nat.le_refl _⟩⟩
  case round =>
    clear h1 T0
    obtain ⟨j, g, tr, ax, cx, hj, rfl, rfl, rfl, hX⟩ := hrel
    by_cases hlt : j < ks.length
    · obtain ⟨b, o, rfl, hc⟩ := C.out j hlt
      obtain ⟨kd, hkd⟩ : ∃ kd, ks[j].1 = kd := ⟨_, rfl⟩
      obtain ⟨k, hk⟩ : ∃ k, ks[j].2.1 = k := ⟨_, rfl⟩
      obtain ⟨x, hx⟩ : ∃ x, ks[j].2.2 = x := ⟨_, rfl⟩
      rw [hkd, hk, hx] at hc
      have D := Lib.hid hc
      have HL := hX.out.2
      have K0 : Hid (wr.drew.cell? ⟨b, o + j * 3 + 1, none⟩ = some (.int .i64 k) ∧ wr.drew.cell? ⟨b, o + j * 3 + 2, none⟩ = some (.int .i64 x)) := (hc wr hX.out.1.bel).2
      obtain ⟨c0, c1, c2⟩ := hc wr hX.out.1.bel
      have B1 : Hid (Two w N g g tr tr (.slice ax tr.list.length cx) (.slice ax tr.list.length cx) wr.drew) := hX.out.1.below ((Below.refl _ wr).drew)
      have P1 : Hid (Calls Try.prog 9 #[.pointer (some ⟨g, 0, none⟩), .int .i64 k, .int .i64 x] wr.drew fun e w' => ∃ g', e = .returned (.pointer (some ⟨g', 0, none⟩)) ∧ (w'.cell? ⟨b, o + j * 3 + 1, none⟩ = some (.int .i64 k) ∧ w'.cell? ⟨b, o + j * 3 + 2, none⟩ = some (.int .i64 x)) ∧ Hid (∃ tr', tr'.list = ins k x tr.list ∧ At w' g' tr' ∧ Two w N g g tr tr (.slice ax tr.list.length cx) (.slice ax tr.list.length cx) w')) :=
        (tput_some B1.out.now (by omega) k x).mono fun e w' ⟨g', t', he, ho⟩ => by
          have h2 := B1.out.below ho.out.2.2
          exact ⟨g', he, (D.out _ h2.bel).2, t', ho.out.2.1, ho.out.1, h2⟩
      have P2 : Hid (∀ W g', Hid (∃ tr', tr'.list = ins k x tr.list ∧ At W g' tr' ∧ Two w N g g tr tr (.slice ax tr.list.length cx) (.slice ax tr.list.length cx) W) → Calls Try.prog 10 #[.slice ax tr.list.length cx, .int .i64 k, .int .i64 x] W fun e w' => ∃ a2 n2 c2, e = .returned (.slice a2 n2 c2) ∧ (w'.cell? ⟨b, o + j * 3 + 1, none⟩ = some (.int .i64 k) ∧ w'.cell? ⟨b, o + j * 3 + 2, none⟩ = some (.int .i64 x)) ∧ Hid (∃ tr', tr'.list.length = n2 ∧ n2 ≤ j + 1 ∧ Two w N g g' tr tr' (.slice ax tr.list.length cx) (.slice a2 n2 c2) w')) := fun W g' hh => by
        obtain ⟨tr', h1, h2, h3⟩ := hh.out
        refine (rput_any h3.row h3.was.up (by omega) k x).mono fun e w' ⟨v', he, ho⟩ => ?_
        obtain ⟨ho1, ho2⟩ := ho.out
        have h4 := h3.below ho2
        rw [← h1] at ho1
        obtain ⟨a2, c2, rfl⟩ := ho1.slice
        refine ⟨a2, _, c2, he, (D.out _ h4.bel).2, tr', rfl, ?_, h2.below ho2, ho1, h4.was, h4.old, h4.bel, h4.size⟩
        have := ins_len (k := k) (xs := tr.list) x
        rw [h1]; omega
      have Q1 : Hid (Calls Try.prog 11 #[.pointer (some ⟨g, 0, none⟩), .int .i64 k] wr.drew fun e w' => ∃ g', e = .returned (.pointer (some ⟨g', 0, none⟩)) ∧ (w'.cell? ⟨b, o + j * 3 + 1, none⟩ = some (.int .i64 k) ∧ w'.cell? ⟨b, o + j * 3 + 2, none⟩ = some (.int .i64 x)) ∧ Hid (∃ tr', tr'.list = del k tr.list ∧ At w' g' tr' ∧ Two w N g g tr tr (.slice ax tr.list.length cx) (.slice ax tr.list.length cx) w')) :=
        (tdrop_some B1.out.now k).mono fun e w' ⟨g', t', he, ho⟩ => by
          have h2 := B1.out.below ho.out.2.2
          exact ⟨g', he, (D.out _ h2.bel).2, t', ho.out.2.1, ho.out.1, h2⟩
      have Q2 : Hid (∀ W g', Hid (∃ tr', tr'.list = del k tr.list ∧ At W g' tr' ∧ Two w N g g tr tr (.slice ax tr.list.length cx) (.slice ax tr.list.length cx) W) → Calls Try.prog 12 #[.slice ax tr.list.length cx, .int .i64 k] W fun e w' => ∃ a2 n2 c2, e = .returned (.slice a2 n2 c2) ∧ (w'.cell? ⟨b, o + j * 3 + 1, none⟩ = some (.int .i64 k) ∧ w'.cell? ⟨b, o + j * 3 + 2, none⟩ = some (.int .i64 x)) ∧ Hid (∃ tr', tr'.list.length = n2 ∧ n2 ≤ j + 1 ∧ Two w N g g' tr tr' (.slice ax tr.list.length cx) (.slice a2 n2 c2) w')) := fun W g' hh => by
        obtain ⟨tr', h1, h2, h3⟩ := hh.out
        refine (rdrop_any h3.row h3.was.up (by omega) k).mono fun e w' ⟨v', he, ho⟩ => ?_
        obtain ⟨ho1, ho2⟩ := ho.out
        have h4 := h3.below ho2
        rw [← h1] at ho1
        obtain ⟨a2, c2, rfl⟩ := ho1.slice
        refine ⟨a2, _, c2, he, (D.out _ h4.bel).2, tr', rfl, ?_, h2.below ho2, ho1, h4.was, h4.old, h4.bel, h4.size⟩
        have := del_len (k := k) (xs := tr.list)
        rw [h1]; omega
      have R0 : Hid (∃ tr', tr'.list.length = tr.list.length ∧ tr.list.length ≤ j + 1 ∧ Two w N g g tr tr' (.slice ax tr.list.length cx) (.slice ax tr.list.length cx) wr) := ⟨tr, rfl, by omega, hX.out.1⟩
      -- what is asked behind the step
      have F : Hid (∀ g' a2 n2 c2 W, Hid (∃ tr', tr'.list.length = n2 ∧ n2 ≤ j + 1 ∧ Two w N g g' tr tr' (.slice ax tr.list.length cx) (.slice a2 n2 c2) W) → ∃ (y : Int) (z : Bool) (r d L : Nat), n2 ≤ 41 ∧ L ≤ 64 ∧ (d : Int) ≤ 2 * ((L : Int) - 1) + 1 ∧ ∃ S : World → Prop, Hid (S W) ∧ Hid (∀ W, S W → W.cell? ⟨b, o + j * 3 + 1, none⟩ = some (.int .i64 k)) ∧
          Hid (∀ W, S W → Calls Try.prog 13 #[.pointer (some ⟨g', 0, none⟩), .int .i64 k] W fun e w' => e = .returned (.tuple #[.int .i64 y, .bool z]) ∧ Hid (S w')) ∧
          Hid (∀ W, S W → Calls Try.prog 14 #[.slice a2 n2 c2, .int .i64 k] W fun e w' => e = .returned (.tuple #[.int .i64 y, .bool z]) ∧ Hid (S w')) ∧
          Hid (∀ W, S W → Calls Try.prog 15 #[.pointer (some ⟨g', 0, none⟩), .int .i64 k] W fun e w' => e = .returned (.tuple #[.int .i64 (r : Int), .bool z]) ∧ Hid (S w')) ∧
          Hid (∀ W, S W → Calls Try.prog 16 #[.slice a2 n2 c2, .int .i64 k] W fun e w' => e = .returned (.tuple #[.int .i64 (r : Int), .bool z]) ∧ Hid (S w')) ∧
          Hid (∀ W, S W → Calls Try.prog 17 #[.pointer (some ⟨g', 0, none⟩), .slice a2 n2 c2] W fun e w' => e = .returned (.bool true) ∧ Hid (S w')) ∧
          Hid (∀ W, S W → Calls Try.prog 17 #[.pointer (some ⟨g, 0, none⟩), .slice ax tr.list.length cx] W fun e w' => e = .returned (.bool true) ∧ Hid (S w')) ∧
          Hid (∀ W, S W → Calls Try.prog 18 #[.pointer (some ⟨g', 0, none⟩)] W fun e w' => e = .returned (.int .i64 (d : Int)) ∧ Hid (S w')) ∧
          Hid (∀ W, S W → Calls Try.prog 19 #[.int .u64 ((n2 : Int) + 1)] W fun e w' => e = .returned (.int .i64 ((L : Int) - 1)) ∧ Hid (S w')) ∧
          Hid (∀ W, S W → ∃ tr', tr'.list.length = n2 ∧ n2 ≤ j + 1 ∧ Two w N g' g' tr' tr' (.slice a2 n2 c2) (.slice a2 n2 c2) W)) := fun g' a2 n2 c2 W hh => by
        obtain ⟨tr', rfl, h2, h3⟩ := hh.out
        refine ⟨(look k tr'.list).getD 0, (look k tr'.list).isSome, (lo k tr'.list).length, tr'.deep, lenN (tr'.list.length + 1), by omega, lenN_le _ 64 (by omega), h3.now.bal.low, Two w N g g' tr tr' (.slice ax tr.list.length cx) (.slice a2 tr'.list.length c2), h3, fun W h => (D.out W h.bel).2.1, ?_, ?_, ?_, ?_, ?_, ?_, ?_, ?_, fun W h => ⟨tr', rfl, h2, h.now, h.row, h.now, h.row, h.bel, h.size⟩⟩
        · exact fun W h => (get_some h.now k).mono fun e w' ⟨he, hm⟩ => ⟨he, h.quiet hm⟩
        · exact fun W h => (rget_any h.row (by omega) k).mono fun e w' ⟨he, hm⟩ => ⟨he, h.quiet ⟨0, hm⟩⟩
        · exact fun W h => (rank_some h.now k).mono fun e w' ⟨he, hm⟩ => ⟨he, h.quiet hm⟩
        · exact fun W h => (rrank_any h.row h.now.up (by omega) k).mono fun e w' ⟨he, hm⟩ => ⟨he, h.quiet ⟨0, hm⟩⟩
        · exact fun W h => (stands_some h.now h.row).mono fun e w' ⟨he, hm⟩ => ⟨he, h.quiet hm⟩
        · exact fun W h => (stands_some h.was h.old).mono fun e w' ⟨he, hm⟩ => ⟨he, h.quiet hm⟩
        · exact fun W h => (deepof_some h.now).mono fun e w' ⟨he, hm⟩ => ⟨he, h.quiet ⟨0, hm⟩⟩
        · intro W h
          have := log_any (tr'.list.length + 1) (by omega) W
          rw [show ((tr'.list.length + 1 : Nat) : Int) = (tr'.list.length : Int) + 1 by omega] at this
          exact this.mono fun e w' ⟨he, hm⟩ => ⟨he, h.quiet ⟨0, hm.symm⟩⟩
      clear hc hkd hk hx D hX HL B1 C
      generalize tr.list.length = nn at *
      have h3 : kd % 3 = 0 ∨ kd % 3 = 1 ∨ kd % 3 = 2 := by omega
      rcases h3 with hk0 | hk0 | hk0
      case' inr.inr =>
        have e3 : (kd : Int) % 3 = 2 := by omega
        clear c1 c2
        have hz := R0
      case' pos.inr.inl =>
        have e3 : (kd : Int) % 3 = 1 := by omega
        clear c1 c2 P1 P2
        go_wp2_with fail
        clear c0
        go_region_held3 (fun W => W.cell? ⟨b, o + j * 3 + 1, none⟩ = some (.int .i64 k) ∧ W.cell? ⟨b, o + j * 3 + 2, none⟩ = some (.int .i64 x)) (first | exact K0.out | assumption) (first
          | (go_at_call 11; refine Q1.out.mono ?_; rintro e W2 ⟨g', rfl, hk2, ho1⟩)
          | (go_at_call 12; refine (Q2.out _ _ ho1).mono ?_; rintro e W ⟨a2, n2, c2, rfl, hk3, hz⟩))
      case' pos.inl =>
        have e3 : (kd : Int) % 3 = 0 := by omega
        clear c1 c2 Q1 Q2
        go_wp2_with fail
        clear c0
        go_region_held3 (fun W => W.cell? ⟨b, o + j * 3 + 1, none⟩ = some (.int .i64 k) ∧ W.cell? ⟨b, o + j * 3 + 2, none⟩ = some (.int .i64 x)) (first | exact K0.out | assumption) (first
          | (go_at_call 9; refine P1.out.mono ?_; rintro e W2 ⟨g', rfl, hk2, ho1⟩)
          | (go_at_call 10; refine (P2.out _ _ ho1).mono ?_; rintro e W ⟨a2, n2, c2, rfl, hk3, hz⟩))
      all_goals (
        obtain ⟨y, z, r, d, L, hn2, hL, hd, S, s0, cS, f13, f14, f15, f16, f17, f27, f18, f19, fin⟩ := F.out _ _ _ _ _ hz
        try clear hk2 hk3 ho1
        try clear P1
        try clear P2
        try clear Q1
        try clear Q2
        clear F hz R0 K0
        have c1 := cS.out _ s0.out
        go_wp2_with fail
        refine (f13.out _ s0.out).mono ?_
        rintro e W3 ⟨rfl, s3⟩
        clear c1
        have c1 := cS.out _ s3.out
        go_wp2_with fail
        refine (f14.out _ s3.out).mono ?_
        rintro e W4 ⟨rfl, s4⟩
        clear c1
        have c1 := cS.out _ s4.out
        go_wp2_with fail
        refine (f15.out _ s4.out).mono ?_
        rintro e W5 ⟨rfl, s5⟩
        clear c1
        have c1 := cS.out _ s5.out
        go_wp2_with fail
        refine (f16.out _ s5.out).mono ?_
        rintro e W6 ⟨rfl, s6⟩
        clear c1
        go_wp2_with fail
        refine (f17.out _ s6.out).mono ?_
        rintro e W7 ⟨rfl, s7⟩
        go_wp2_with fail
        refine (f27.out _ s7.out).mono ?_
        rintro e W8 ⟨rfl, s8⟩
        go_wp2_with fail
        refine (f18.out _ s8.out).mono ?_
        rintro e W9 ⟨rfl, s9⟩
        go_wp2_with fail
        refine (f19.out _ s9.out).mono ?_
        rintro e W10 ⟨rfl, s10⟩
        go_wp2
        go_roundw
        case rel =>
          obtain ⟨tr', q1, q2, q3⟩ := fin.out _ s10.out
          subst q1
          exact ⟨j + 1, _, tr', _, _, by omega, by simp, rfl, rfl, Lib.hid ⟨q3, q2⟩⟩
        case measure => simp [intOf]; omega)
    · obtain rfl : j = ks.length := by omega
      have T := Lib.hid (T9.out wr hX.out.1.bel hX.out.1.size)
      clear hX T9 C
      go_wp2_with fail
      refine T.out.mono ?_
      rintro e B ⟨rfl, hB⟩
      go_wp2
      go_ret
      exact ⟨rfl, hB.out⟩
theorem plays_walk (a : Option Addr) (cap : Nat) (ks : List (Nat × Int × Int)) (w : World) (hr : Steps w a ks) :
    Calls Try.prog 3 #[.slice a ks.length cap] w fun e B => e = .returned (.bool true) ∧ Below w.heap.size w B := by
  by_cases hl : ks.length ≤ 40
  · exact plays_some a cap ks w hl hr
  · have hl1 : (40 : Int) < (ks.length : Int) := by omega
    clear hr hl
    generalize ks.length = n at *
    go_enter Try.func3, Try.ntmps3
    go_wp2_with fail
    refine (awake_any w).mono ?_
    rintro e B ⟨rfl, hb⟩
    go_wp2
    go_ret
    exact ⟨rfl, hb.out⟩
end Go.Proofs.Ytaoiadejafaleaa
