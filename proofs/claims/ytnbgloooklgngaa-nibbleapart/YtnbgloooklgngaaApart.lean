/-
  NibbleApart, walked: true for every three ints.
-/
import Derived.Test.YtnbgloooklgngaaHelps
import Derived.Test.YtnbgloooklgngaaSum
namespace Go.Proofs.Ytnbgloooklgngaa
open Go.RowKit
/-- behind j adds at place i: that counter is so much, the one at place k is c. -/
def Sa (w : World) (N : Nat) (n i k : Int) (c j : Nat) (W : World) : Prop :=
  ∃ cs : List Nat, Nib W (N + 1) N cs ∧ (cs.length : Int) = max n 0 ∧ Below N w W ∧ N ≤ W.heap.size ∧ getAt cs k = c ∧ getAt cs i = if 0 ≤ i ∧ i < n then min j 15 else 0
namespace Sa
variable {w W : World} {N : Nat} {n i k : Int} {c j : Nat}
theorem may {cs : List Nat} (hl : (cs.length : Int) = max n 0) (hi : getAt cs i = if 0 ≤ i ∧ i < n then min j 15 else 0) : mayAdd cs i = decide (0 ≤ i ∧ i < n ∧ j < 15) := by
  rw [may_iff, hi]
  by_cases h : 0 ≤ i ∧ i < n
  · rw [if_pos h]
    exact decide_eq_decide.2 (by omega)
  · rw [if_neg h]
    exact decide_eq_decide.2 (by omega)
theorem old (h : Sa w N n i k c j W) : Below N w W ∧ N ≤ W.heap.size := by
  obtain ⟨cs, _, _, h3, h4, _⟩ := h
  exact ⟨h3, h4⟩
theorem drewN (h : Sa w N n i k c j W) (m : Nat) : Sa w N n i k c j (W.drewN m) := by
  obtain ⟨cs, h1, h2, h3, h4, h5⟩ := h
  exact ⟨cs, h1.drewN m, h2, h3.trans ((Keep.drewN (fun _ => True) W m).below (fun _ _ => trivial) h4), h4, h5⟩
/-- one more add. -/
theorem add (h : Sa w N n i k c j W) (hik : i ≠ k) : Calls Try.prog 14 #[.pointer (some ⟨N + 1, 0, none⟩), .int .i64 i] W fun e B => e = .returned (.bool (decide (0 ≤ i ∧ i < n ∧ j < 15))) ∧ Hid (Sa w N n i k c (j + 1) B) := by
  obtain ⟨cs, h1, h2, h3, h4, h5, h6⟩ := h
  have hm := may h2 h6
  refine (add_any h1 i).mono fun e B ⟨he, g1, g2⟩ => ⟨by rw [he, hm], addAt cs i, g1, by rw [addAt_len]; exact h2, h3.trans (g2.below (fun k hk => by omega) h4), Nat.le_trans h4 g2.size, ?_, ?_⟩
  · rw [getAt_add, if_neg (fun h => hik h.1.symm)]; exact h5
  · rw [getAt_add, h6, hm]
    by_cases h : 0 ≤ i ∧ i < n
    · rw [if_pos h, if_pos h]
      by_cases hj : j < 15
      · rw [if_pos ⟨rfl, decide_eq_true ⟨h.1, h.2, hj⟩⟩]; omega
      · rw [if_neg (fun h' => hj (of_decide_eq_true h'.2).2.2)]; omega
    · rw [if_neg h, if_neg h, if_neg (fun h' => h ⟨(of_decide_eq_true h'.2).1, (of_decide_eq_true h'.2).2.1⟩)]
theorem get (h : Sa w N n i k c j W) : Calls Try.prog 11 #[.pointer (some ⟨N + 1, 0, none⟩), .int .i64 k] W fun e B => e = .returned (.int .i64 (c : Int)) ∧ Hid (Sa w N n i k c j B) := by
  have h0 := h
  obtain ⟨cs, h1, h2, h3, h4, h5, h6⟩ := h
  exact (get_any h1 k).mono fun e B ⟨he, m, hB⟩ => ⟨by rw [he, h5], by subst hB; exact h0.drewN m⟩
theorem geti (h : Sa w N n i k c j W) : Calls Try.prog 11 #[.pointer (some ⟨N + 1, 0, none⟩), .int .i64 i] W fun e B => e = .returned (.int .i64 ((if 0 ≤ i ∧ i < n then min j 15 else 0 : Nat) : Int)) ∧ Hid (Sa w N n i k c j B) := by
  have h0 := h
  obtain ⟨cs, h1, h2, h3, h4, h5, h6⟩ := h
  exact (get_any h1 i).mono fun e B ⟨he, m, hB⟩ => ⟨by rw [he, h6], by subst hB; exact h0.drewN m⟩
theorem below (h : Sa w N n i k c j W) {B : World} (hb : Below W.heap.size W B) : Sa w N n i k c j B := by
  obtain ⟨cs, h1, h2, h3, h4, h5⟩ := h
  exact ⟨cs, h1.below hb, h2, h3.trans (hb.mono h4), Nat.le_trans h4 hb.size, h5⟩
end Sa
set_option maxHeartbeats 2000000 in
theorem apart_some (n i k : Int) (w : World) (hn : n ≤ 5000) (hik : ¬ i = k) :
    Calls Try.prog 5 #[.int .i64 n, .int .i64 i, .int .i64 k] w fun e B => e = .returned (.bool true) ∧ Below w.heap.size w B := by
  obtain ⟨N, hN⟩ : ∃ N, w.heap.size = N := ⟨_, rfl⟩
  obtain ⟨m, hm⟩ : ∃ m : Nat, (m : Int) = max n 0 := ⟨(max n 0).toNat, by omega⟩
  -- was: what stands at place k behind the first add
  obtain ⟨c, hc⟩ : ∃ c, c = getAt (addAt (List.replicate m 0) k) k := ⟨_, rfl⟩
  have T7 : Hid (Calls Try.prog 7 #[.int .i64 n] w fun e B => e = .returned (.pointer (some ⟨N + 1, 0, none⟩)) ∧ Hid (Nib B (N + 1) N (List.replicate m 0) ∧ Below N w B ∧ N ≤ B.heap.size)) :=
    (new_any n m (by omega) w).mono fun e B ⟨he, h1, h2⟩ => by
      rw [hN] at he h1 h2
      exact ⟨he, h1, h2, hN ▸ h2.size⟩
  have T14k : Hid (∀ W, Hid (Nib W (N + 1) N (List.replicate m 0) ∧ Below N w W ∧ N ≤ W.heap.size) → Calls Try.prog 14 #[.pointer (some ⟨N + 1, 0, none⟩), .int .i64 k] W fun e B => (∃ b, e = .returned (.bool b)) ∧ Hid (Sa w N n i k c 0 B)) := fun W h =>
    (add_any h.out.1 k).mono fun e B ⟨he, h1, h2⟩ => ⟨⟨_, he⟩, addAt (List.replicate m 0) k, h1, by rw [addAt_len, List.length_replicate]; exact hm, h.out.2.1.trans (h2.below (fun k hk => by omega) h.out.2.2), Nat.le_trans h.out.2.2 h2.size, hc.symm, by
      rw [getAt_add, if_neg (fun h => hik h.1), getAt_zeros]; simp⟩
  have T11 : Hid (∀ W j, Hid (Sa w N n i k c j W) → Calls Try.prog 11 #[.pointer (some ⟨N + 1, 0, none⟩), .int .i64 k] W fun e B => e = .returned (.int .i64 (c : Int)) ∧ Hid (Sa w N n i k c j B)) := fun W j h => h.out.get
  have T14 : Hid (∀ W j, Hid (Sa w N n i k c j W) → Calls Try.prog 14 #[.pointer (some ⟨N + 1, 0, none⟩), .int .i64 i] W fun e B => (∃ b, e = .returned (.bool b)) ∧ Hid (Sa w N n i k c (j + 1) B)) := fun W j h => (h.out.add hik).mono fun e B ⟨he, hB⟩ => ⟨⟨_, he⟩, hB⟩
  have T14l : Hid (∀ W, Hid (Sa w N n i k c 20 W) → Calls Try.prog 14 #[.pointer (some ⟨N + 1, 0, none⟩), .int .i64 i] W fun e B => e = .returned (.bool false) ∧ Hid (Sa w N n i k c 21 B)) := fun W h => (h.out.add hik).mono fun e B ⟨he, hB⟩ => ⟨by rw [he, decide_eq_false (by omega)], hB⟩
  obtain ⟨ci, hci⟩ : ∃ ci : Nat, ci = if 0 ≤ i ∧ i < n then 15 else 0 := ⟨_, rfl⟩
  have T11i : Hid (∀ W, Hid (Sa w N n i k c 21 W) → Calls Try.prog 11 #[.pointer (some ⟨N + 1, 0, none⟩), .int .i64 i] W fun e B => e = .returned (.int .i64 (ci : Int)) ∧ Hid (Sa w N n i k c 21 B)) := fun W h => h.out.geti.mono fun e B ⟨he, hB⟩ => ⟨by rw [he, hci]; rfl, hB⟩
  have T18 : Hid (∀ W, Hid (Sa w N n i k c 21 W) → Calls Try.prog 18 #[.pointer none] W fun e B => e = .returned (.int .i64 0) ∧ Hid (Sa w N n i k c 21 B)) := fun W h => (sum_none W).mono fun e B ⟨he, hB⟩ => ⟨he, h.out.below hB⟩
  have T6 : Hid (∀ W, Hid (Sa w N n i k c 21 W) → Calls Try.prog 6 #[] W fun e B => e = .returned (.bool true) ∧ Hid (Below N w B)) := fun W h => (awake_any W).mono fun e B ⟨he, hB⟩ => ⟨he, h.out.old.1.trans (hB.out.mono h.out.old.2)⟩
  have HR : Hid ((0 ≤ i ∧ i < n ∧ ci = 15) ∨ (0 ≤ i ∧ ¬ i < n ∧ ci = 0) ∨ (¬ 0 ≤ i ∧ ci = 0)) := by
    rw [hci]
    by_cases h1 : 0 ≤ i
    · by_cases h2 : i < n
      · exact .inl ⟨h1, h2, if_pos ⟨h1, h2⟩⟩
      · exact .inr (.inl ⟨h1, h2, if_neg fun h => h2 h.2⟩)
    · exact .inr (.inr ⟨h1, if_neg fun h => h1 h.1⟩)
  have hd1 : decide (5000 < n) = false := by simpa using hn
  have hd2 : (i == k) = false := by simpa using hik
  rw [hN]
  clear hN hm hc hci
  go_enter Try.func5, Try.ntmps5
  go_wp2_with fail
  refine T7.out.mono ?_
  rintro e w1 ⟨rfl, h1⟩
  go_wp2_with fail
  refine (T14k.out _ h1).mono ?_
  rintro e w2 ⟨⟨b2, rfl⟩, h2⟩
  go_wp2_with fail
  refine (T11.out _ _ h2).mono ?_
  rintro e w3 ⟨rfl, h3⟩
  go_wp2_with fail
  go_loopw [9] (fun x wr => ∃ j : Nat, j ≤ 20 ∧ x = .int .i64 j ∧ Hid (Sa w N n i k c j wr)) (fun x _ => 20 - (intOf x).toNat)
  case atStart => exact ⟨0, by omega, rfl, h3⟩
  case round =>
    obtain ⟨j, hj, rfl, hH⟩ := hrel
    by_cases hlt : j < 20
    · go_wp2_with fail
      refine (T14.out _ _ hH).mono ?_
      rintro e w4 ⟨⟨b4, rfl⟩, h4⟩
      go_wp2_with fail
      refine (T11.out _ _ h4).mono ?_
      rintro e w5 ⟨rfl, h5⟩
      go_wp2
      go_roundw
      case rel => exact ⟨j + 1, by omega, by simp, h5⟩
      case measure => simp [intOf]; omega
    · obtain rfl : j = 20 := by omega
      clear T11 T14 T14k T7 hn hik hd1 hd2
      rcases HR.out with ⟨a1, a2, rfl⟩ | ⟨a1, a2, rfl⟩ | ⟨a1, rfl⟩
      all_goals (
        clear HR
        go_wp2_with (first
          | (go_at_call 8; refine (halve_none _).mono ?_; rintro e w6 ⟨rfl, e6⟩; subst e6)
          | (go_at_call 10; refine (clear_none _).mono ?_; rintro e w7 ⟨rfl, e7⟩; subst e7)
          | (go_at_call 14; refine (T14l.out _ hH).mono ?_; rintro e w8 ⟨rfl, h8⟩)
          | (go_at_call 11; refine (T11i.out _ h8).mono ?_; rintro e w9 ⟨rfl, h9⟩))
        refine (len_none _).mono ?_
        rintro e w10 ⟨rfl, e10⟩
        subst e10
        go_wp2_with fail
        refine (get_none 0 _).mono ?_
        rintro e w11 ⟨rfl, e11⟩
        subst e11
        go_wp2_with fail
        refine (T18.out _ h9).mono ?_
        rintro e w12 ⟨rfl, h12⟩
        go_wp2_with fail
        refine (add_none 0 _).mono ?_
        rintro e w13 ⟨rfl, e13⟩
        subst e13
        go_wp2_with fail
        refine (bytes_none _).mono ?_
        rintro e w14 ⟨rfl, e14⟩
        subst e14
        go_wp2_with fail
        refine (T6.out _ h12).mono ?_
        rintro e w15 ⟨rfl, h15⟩
        go_wp2
        go_ret
        exact ⟨by first | rfl | simp [a2], h15.out⟩)
theorem apart_walk (n i k : Int) (w : World) :
    Calls Try.prog 5 #[.int .i64 n, .int .i64 i, .int .i64 k] w fun e B => e = .returned (.bool true) ∧ Below w.heap.size w B := by
  by_cases h1 : n ≤ 5000
  · by_cases h2 : i = k
    · subst h2
      have hd1 : decide (5000 < n) = false := by simpa using h1
      have T := Lib.hid (awake_any w)
      clear h1
      go_enter Try.func5, Try.ntmps5
      go_wp2_with fail
      refine T.out.mono ?_
      rintro e B ⟨rfl, hb⟩
      go_wp2
      go_ret
      exact ⟨rfl, hb.out⟩
    · exact apart_some n i k w h1 h2
  · have h3 : 5000 < n := by omega
    have hd1 : decide (5000 < n) = true := by simpa using h3
    have T := Lib.hid (awake_any w)
    clear h1
    go_enter Try.func5, Try.ntmps5
    go_wp2_with fail
    refine T.out.mono ?_
    rintro e B ⟨rfl, hb⟩
    go_wp2
    go_ret
    exact ⟨rfl, hb.out⟩
end Go.Proofs.Ytnbgloooklgngaa
