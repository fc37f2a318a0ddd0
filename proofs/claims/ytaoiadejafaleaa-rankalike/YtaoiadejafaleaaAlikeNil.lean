/-
  RankAlike of no keys, walked; and RankAlike of every slice of ints and every uint: it returns true; what was in memory stays.
-/
import Derived.Test.YtaoiadejafaleaaAlikeWalk
namespace Go.Proofs.Ytaoiadejafaleaa
open Go.RowKit Go.Shelf
set_option maxRecDepth 100000 in
set_option maxHeartbeats 20000000 in
theorem alike_nil (a : Option Addr) (cap turn : Nat) (w : World) :
    Calls Try.prog 5 #[.slice a 0 cap, .int .u64 (turn : Int)] w fun e B => e = .returned (.bool true) ∧ Below w.heap.size w B := by
  obtain ⟨N, hN⟩ : ∃ N, w.heap.size = N := ⟨_, rfl⟩
  have T0 : Hid (Calls Try.prog 7 #[ordV] w fun e w' => ∃ g, e = .returned (.pointer (some ⟨g, 0, none⟩)) ∧ Hid (At w' g .nil ∧ Below N w w' ∧ N ≤ w'.heap.size)) := (new_at w).mono fun e w' ⟨g, he, h⟩ => ⟨g, he, h.out.1, hN ▸ h.out.2, by have := h.out.2.size; omega⟩
  have T1 : Hid (∀ W g, Hid (At W g .nil ∧ Below N w W ∧ N ≤ W.heap.size) → Calls Try.prog 7 #[ordV] W fun e w' => ∃ g', e = .returned (.pointer (some ⟨g', 0, none⟩)) ∧ Hid (Al w N g g' .nil .nil (.slice none 0 0) w')) := fun W g h => (new_at W).mono fun e w' ⟨g', he, ho⟩ => ⟨g', he, h.out.1.below ho.out.2, ho.out.1, Es.nil _, h.out.2.1.trans (ho.out.2.mono h.out.2.2), Nat.le_trans h.out.2.2 ho.out.2.size⟩
  rw [hN]
  clear hN
  go_enter Try.func5, Try.ntmps5
  go_wp2_with fail
  refine T0.out.mono ?_
  rintro e w1 ⟨g0, rfl, h1⟩
  go_wp2_with fail
  refine (T1.out _ _ h1).mono ?_
  rintro e w2 ⟨g1, rfl, h2⟩
  clear T0 T1 h1
  obtain ⟨S, HS⟩ : ∃ S : World → Prop, ∀ W, S W ↔ (Al w N g0 g1 .nil .nil (.slice none 0 0) W ) := ⟨_, fun _ => Iff.rfl⟩
  have s0 : Hid (S w2) := (HS _).2 h2.out
  have SB : ∀ W B, S W → Below W.heap.size W B → S B := fun W B h hb => (HS _).2 (((HS _).1 h).below hb)
  have T17 : Hid (∀ W, Hid (S W) → Calls Try.prog 17 #[.pointer (some ⟨g0, 0, none⟩), .slice none 0 0] W fun e B => e = .returned (.bool true) ∧ Hid (S B)) := fun W h => by
    have h1 := (HS _).1 h.out
    exact (stands_some h1.one h1.row).mono fun e B ⟨he, m, hm⟩ => ⟨he, SB W B h.out (hm ▸ below_drewN W m)⟩
  have T27 : Hid (∀ W, Hid (S W) → Calls Try.prog 17 #[.pointer (some ⟨g1, 0, none⟩), .slice none 0 0] W fun e B => e = .returned (.bool true) ∧ Hid (S B)) := fun W h => by
    have h1 := (HS _).1 h.out
    exact (stands_some h1.two h1.row).mono fun e B ⟨he, m, hm⟩ => ⟨he, SB W B h.out (hm ▸ below_drewN W m)⟩
  have T22 : Hid (∀ W, Hid (S W) → Calls Try.prog 22 #[.pointer none] W fun e B => ∃ X Y : Nat, e = .returned (.func (.func 39) #[] #[.pointer (some ⟨X, 0, none⟩), .pointer (some ⟨Y, 0, none⟩)]) ∧ Hid (Calls Try.prog 21 #[.func (.func 39) #[] #[.pointer (some ⟨X, 0, none⟩), .pointer (some ⟨Y, 0, none⟩)], .int .i64 1] B fun e B => ∃ a c, e = .returned (.slice a 0 c) ∧ Hid (S B))) := fun W h =>
    (all_any none W).mono fun e B ⟨he, hB⟩ => ⟨_, _, he, hB ▸ told_none fun B hb => SB W B h.out hb⟩
  have T23 : Hid (∀ W, Hid (S W) → Calls Try.prog 23 #[.pointer none, .int .i64 0] W fun e B => ∃ X Y : Nat, e = .returned (.func (.func 39) #[] #[.pointer (some ⟨X, 0, none⟩), .pointer (some ⟨Y, 0, none⟩)]) ∧ Hid (Calls Try.prog 21 #[.func (.func 39) #[] #[.pointer (some ⟨X, 0, none⟩), .pointer (some ⟨Y, 0, none⟩)], .int .i64 1] B fun e B => ∃ a c, e = .returned (.slice a 0 c) ∧ Hid (S B))) := fun W h =>
    (from_any ((rank_none W 0).mono fun e B ⟨he, hB⟩ => ⟨he, 0, hB⟩)).mono fun e B ⟨m, he, hB⟩ => by
      have h1 := SB W (W.drewN m) h.out (below_drewN W m)
      exact ⟨_, _, he, hB ▸ told_none (W0 := W.drewN m) fun B hb => SB (W.drewN m) B h1 hb⟩
  have T6 : Hid (∀ W, Hid (S W) → Calls Try.prog 6 #[] W fun e B => e = .returned (.bool true) ∧ Hid (Below N w B)) := fun W h =>
    (awake_any W).mono fun e B ⟨he, hb⟩ => ⟨he, ((HS _).1 h.out).bel.trans (hb.out.mono ((HS _).1 h.out).size)⟩
  clear HS SB h2
  go_wp2_with fail
  go_loopw [5, 6, 7, 9] (fun pa pb x i wr => pa = .pointer (some ⟨g0, 0, none⟩) ∧ pb = .pointer (some ⟨g1, 0, none⟩) ∧ x = .slice none 0 0 ∧ i = .int .i64 0 ∧ wr = w2) (fun _ _ _ _ _ => 0)
  case atStart => exact ⟨rfl, rfl, rfl, rfl, rfl⟩
  case round =>
    obtain ⟨rfl, rfl, rfl, rfl, rfl⟩ := hrel
    obtain ⟨w2, rfl⟩ : ∃ w2, w2 = wr := ⟨_, rfl⟩
    go_wp2_with fail
    go_loopw [6, 11] (fun pb i wr => pb = .pointer (some ⟨g1, 0, none⟩) ∧ i = .int .i64 0 ∧ wr = w2) (fun _ _ _ => 0)
    case atStart => exact ⟨rfl, rfl, rfl⟩
    case round =>
      obtain ⟨rfl, rfl, rfl⟩ := hrel
      go_wp2_with fail
      refine (get_none _ _).mono ?_
      rintro e w1 ⟨rfl, rfl⟩
      go_wp2_with fail
      refine (at_none _ _).mono ?_
      rintro e w1 ⟨rfl, rfl⟩
      go_wp2_with fail
      refine (rank_none _ _).mono ?_
      rintro e w1 ⟨rfl, rfl⟩
      go_wp2_with fail
      refine (T17.out _ s0).mono ?_
      rintro e W1 ⟨rfl, s1⟩
      go_wp2_with fail
      refine (T27.out _ s1).mono ?_
      rintro e W2 ⟨rfl, s2⟩
      go_wp2_with fail
      refine (tput_none _ _ _).mono ?_
      rintro e W3 ⟨rfl, e3⟩
      obtain rfl : W2 = W3 := e3.symm
      go_wp2_with fail
      refine (tdrop_none _ _).mono ?_
      rintro e W3 ⟨rfl, e3⟩
      obtain rfl : W2 = W3 := e3.symm
      go_wp2_with fail
      refine (len_none _).mono ?_
      rintro e W3 ⟨rfl, e3⟩
      obtain rfl : W2 = W3 := e3.symm
      go_wp2_with fail
      refine (deepof_none _).mono ?_
      rintro e W3 ⟨rfl, e3⟩
      obtain rfl : W2 = W3 := e3.symm
      go_wp2_with fail
      refine (T22.out _ s2).mono ?_
      rintro e W3 ⟨X1, Y1, rfl, t1⟩
      go_wp2_with fail
      refine t1.out.mono ?_
      rintro e W4 ⟨a4, c4, rfl, s4⟩
      go_wp2_with fail
      refine (T23.out _ s4).mono ?_
      rintro e W5 ⟨X2, Y2, rfl, t2⟩
      go_wp2_with fail
      refine t2.out.mono ?_
      rintro e W6 ⟨a6, c6, rfl, s6⟩
      go_wp2_with fail
      refine (new_nil _).mono ?_
      rintro e W7 ⟨rfl, e3⟩
      obtain rfl : W6 = W7 := e3.symm
      go_wp2_with fail
      refine (T6.out _ s6).mono ?_
      rintro e W8 ⟨rfl, hB⟩
      go_wp2
      go_ret
      exact ⟨rfl, hB.out⟩
set_option maxRecDepth 100000 in
theorem alike_walk (a : Option Addr) (cap : Nat) (ls : List Int) (turn : Nat) (w : World) (hr : Ia w a ls) :
    Calls Try.prog 5 #[.slice a ls.length cap, .int .u64 (turn : Int)] w fun e B => e = .returned (.bool true) ∧ Below w.heap.size w B := by
  by_cases hl : ls.length ≤ 40
  · by_cases h0 : 0 < ls.length
    · exact alike_some a cap ls turn w hl h0 hr
    · rw [show ls.length = 0 by omega]
      exact alike_nil a cap turn w
  · have hl1 : (40 : Int) < (ls.length : Int) := by omega
    clear hr hl
    generalize ls.length = n at *
    go_enter Try.func5, Try.ntmps5
    go_wp2_with fail
    refine (awake_any w).mono ?_
    rintro e B ⟨rfl, hb⟩
    go_wp2
    go_ret
    exact ⟨rfl, hb.out⟩
end Go.Proofs.Ytaoiadejafaleaa
