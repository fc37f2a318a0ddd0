/-
  A ring that lies apart from the blocks of K ('Has'), and New, Send, Take, At, Len, Room, drained, told and awake by their contracts on it.
-/
import Derived.Test.YtgkiekidmadabaaDrained
namespace Go.Proofs.Ytgkiekidmadabaa
open Go.RowKit Go.Shelf
/-- a ring in block r has xs; none of its blocks is one of K. -/
def Has (K : Nat → Prop) (w : World) (r : Nat) (xs : List Int) (room : Nat) : Prop := ∃ s n f a, RingI w r s n f a xs room ∧ ∀ k, foot r s n k → ¬ K k
namespace Has
variable {K K' : Nat → Prop} {w w' : World} {r : Nat} {xs : List Int} {room : Nat}
theorem below (h : Has K w r xs room) (hb : Below w.heap.size w w') : Has K w' r xs room := by
  obtain ⟨s, n, f, a, hr, hk⟩ := h
  exact ⟨s, n, f, a, hr.below hb, hk⟩
theorem drewN (h : Has K w r xs room) (m : Nat) : Has K (w.drewN m) r xs room := by
  obtain ⟨s, n, f, a, hr, hk⟩ := h
  exact ⟨s, n, f, a, hr.drewN m, hk⟩
theorem more (h : Has K w r xs room) (hk : ∀ k, K' k → K k ∨ w.heap.size ≤ k) : Has K' w r xs room := by
  obtain ⟨s, n, f, a, hr, hf⟩ := h
  exact ⟨s, n, f, a, hr, fun k h h' => by rcases hk k h' with h'' | h''; exact hf k h h''; have := hr.lt h; omega⟩
theorem lid (h : Has K w r xs room) : xs.length ≤ room ∧ room ≤ 65536 := by
  obtain ⟨s, n, f, a, hr, _⟩ := h
  exact ⟨Nat.le_trans hr.fits hr.most, hr.lid⟩
theorem send (h : Has K w r xs room) (hK : ∀ k, K k → k < w.heap.size) (x : Int) : Calls Try.prog 10 #[.pointer (some ⟨r, 0, none⟩), .int .i64 x] w fun e B => e = .returned (.bool (decide (xs.length < room))) ∧ Has K B r (if xs.length < room then xs ++ [x] else xs) room ∧ Keep K w B := by
  have hl := h.lid
  obtain ⟨s, n, f, a, hr, hf⟩ := h
  by_cases hx : xs.length < room
  · refine (send_room hr hx x).mono fun e B ⟨he, s', n', f', a', hR, hn, hk⟩ => ⟨by rw [he, decide_eq_true hx], ?_, hk.mono fun k _ h h' => hf k h' h⟩
    rw [if_pos hx]
    exact ⟨s', n', f', a', hR, fun k h h' => by rcases hn k h with h'' | h''; exact hf k h'' h'; have := hK k h'; omega⟩
  · refine (send_full hr (by omega) x).mono fun e B ⟨he, m, hB⟩ => ⟨by rw [he, decide_eq_false hx], ?_, by rw [hB]; exact Keep.drewN _ _ _⟩
    rw [if_neg hx, hB]
    exact ⟨s, n, f, a, hr.drewN m, hf⟩
theorem take (h : Has K w r xs room) : Calls Try.prog 12 #[.pointer (some ⟨r, 0, none⟩)] w fun e B => e = .returned (.tuple #[.int .i64 (xs.headD 0), .bool (decide (0 < xs.length))]) ∧ Has K B r xs.tail room ∧ Keep K w B := by
  obtain ⟨s, n, f, a, hr, hf⟩ := h
  cases xs with
  | nil => exact (take_empty hr).mono fun e B ⟨he, hB⟩ => ⟨he, by rw [hB]; exact ⟨s, n, f, a, hr, hf⟩, by rw [hB]; exact Keep.refl _ _⟩
  | cons x ys => exact (take_some hr).mono fun e B ⟨he, hR, hk⟩ => ⟨by simp [he], ⟨s, n, _, a, hR, hf⟩, hk.mono fun k _ h h' => hf k h' h⟩
theorem at_ (h : Has K w r xs room) (i : Int) : Calls Try.prog 14 #[.pointer (some ⟨r, 0, none⟩), .int .i64 i] w fun e B => e = .returned (.tuple #[.int .i64 (if 0 ≤ i then xs.getD i.toNat 0 else 0), .bool (decide (0 ≤ i ∧ i < xs.length))]) ∧ ∃ m, B = w.drewN m := by
  obtain ⟨s, n, f, a, hr, hf⟩ := h
  by_cases hi : 0 ≤ i ∧ i < xs.length
  · obtain ⟨k, rfl⟩ : ∃ k : Nat, i = (k : Int) := ⟨i.toNat, by omega⟩
    have hk : k < xs.length := by omega
    refine (at_in hr k hk).mono fun e B ⟨he, hB⟩ => ⟨?_, hB⟩
    rw [he, decide_eq_true hi, if_pos hi.1]
    simp [List.getD_eq_getElem?_getD, hk]
  · refine (at_out hr i (by omega)).mono fun e B ⟨he, hB⟩ => ⟨?_, 0, hB⟩
    rw [he, decide_eq_false hi]
    by_cases h0 : 0 ≤ i
    · rw [if_pos h0, List.getD_eq_getElem?_getD, List.getElem?_eq_none (by omega)]
      rfl
    · rw [if_neg h0]
theorem len (h : Has K w r xs room) : Calls Try.prog 17 #[.pointer (some ⟨r, 0, none⟩)] w fun e w' => e = .returned (.int .i64 (xs.length : Int)) ∧ w' = w := by
  obtain ⟨s, n, f, a, hr, hf⟩ := h
  exact len_some hr
theorem room_ (h : Has K w r xs room) : Calls Try.prog 18 #[.pointer (some ⟨r, 0, none⟩)] w fun e w' => e = .returned (.int .i64 (room : Int)) ∧ w' = w := by
  obtain ⟨s, n, f, a, hr, hf⟩ := h
  exact room_some hr
theorem told (h : Has K w r xs room) (m : Nat) (hm : m ≤ 1000000) : Calls Try.prog 20 #[.pointer (some ⟨r, 0, none⟩), .int .i64 (m : Int)] w fun e B => ∃ v, e = .returned v ∧ Row B v (xs.take m) ∧ Below w.heap.size w B := by
  obtain ⟨s, n, f, a, hr, hf⟩ := h
  exact told_of _ xs w m hm fun W Bx hW hB => all1_tells Bx (hr.keep hW fun _ _ => trivial) hB
theorem drained (h : Has K w r xs room) (m : Nat) (hm : 1 ≤ m) : Calls Try.prog 16 #[.pointer (some ⟨r, 0, none⟩), .int .i64 (m : Int)] w fun e B => ∃ v, e = .returned v ∧ Row B v (xs.take m) ∧ Has K B r (xs.drop m) room ∧ Keep K w B := by
  have hl := h.lid
  obtain ⟨s, n, f, a, hr, hf⟩ := h
  refine (drained_of _ xs w (foot r s n) (fun i B => ∃ f', RingI B r s n f' a (xs.drop i) room) m hm (by omega) (fun k hk => hr.lt hk)
    (fun i A l o hlo ⟨f', h'⟩ => ⟨f', h'.keep (K := foot r s n) (Keep.putObj _ _ _ fun hk => by have := hr.lt hk; omega) fun _ h => h⟩)
    fun W hW hB => drain1_tells _ (hr.keep hW fun _ _ => trivial) hB fun hk => by have := hr.lt hk; omega).mono fun e B ⟨v, he, hv, ⟨f', hR⟩, hk⟩ => ⟨v, he, hv, ?_, hk.mono fun k _ h h' => hf k h' h⟩
  have e : xs.drop (min m xs.length) = xs.drop m := by
    by_cases hc : m ≤ xs.length
    · rw [Nat.min_eq_left hc]
    · rw [Nat.min_eq_right (by omega), List.drop_eq_nil_of_le (by omega), List.drop_eq_nil_of_le (by omega)]
  rw [← e]
  exact ⟨s, n, f', a, hR, hf⟩
end Has
theorem new_has (k : Int) (w : World) (K : Nat → Prop) (hK : ∀ k, K k → k < w.heap.size) : Calls Try.prog 7 #[.int .i64 k] w fun e B => e = .returned (.pointer (some ⟨w.heap.size, 0, none⟩)) ∧ Has K B w.heap.size [] (roomOf k) ∧ Below w.heap.size w B :=
  (new_any k w).mono fun e B ⟨he, hR, hb⟩ => ⟨he, ⟨0, 0, 0, none, hR, fun j hj h => by rcases hj with rfl | ⟨h0, _⟩; have := hK _ h; omega; omega⟩, hb⟩
theorem told_none (w : World) (m : Nat) (hm : m ≤ 1000000) : Calls Try.prog 20 #[.pointer none, .int .i64 (m : Int)] w fun e B => ∃ v, e = .returned v ∧ Row B v [] ∧ Below w.heap.size w B :=
  (told_of none [] w m hm fun _ Bx _ hB => all1_none Bx hB).mono fun _ _ ⟨v, he, hv, hb⟩ => ⟨v, he, by simpa using hv, hb⟩
theorem drained_none (w : World) (m : Nat) (hm : 1 ≤ m) : Calls Try.prog 16 #[.pointer none, .int .i64 (m : Int)] w fun e B => ∃ v, e = .returned v ∧ Row B v [] ∧ Below w.heap.size w B :=
  (drained_of none [] w (fun _ => False) (fun _ _ => True) m hm (by simp) (fun _ h => h.elim) (fun _ _ _ _ _ _ => trivial) fun W hW hB => by
    have h := drain1_none (W := W) (w.heap.size + 1 + 1) (by rw [cell_of hB]; rfl)
    intro l J Jx M0 hM hJ hY hJ0
    exact h l J Jx M0 (fun k hk => ⟨(hM k hk).1, id⟩) hJ hY hJ0).mono fun e B ⟨v, he, hv, _, hk⟩ => ⟨v, he, by simpa using hv, hk.below (fun _ _ => id) (Nat.le_refl _)⟩
attribute [local go_sem] Oper.semAt_some wide_fn wide_depth
set_option maxHeartbeats 2000000 in
theorem drained_zero (p : Option Addr) (m : Int) (hm : m < 1) (w : World) : Calls Try.prog 16 #[.pointer p, .int .i64 m] w fun e B => e = .returned (.slice none 0 0) ∧ Below w.heap.size w B := by
  refine callsIn_wide (n := 0).1 (callsIn_of_wp_marks Try.func16 rfl trivial ?_ rfl)
  simp only [Try.ntmps16, List.size_toArray, List.length_cons, List.length_nil, Nat.reduceAdd, Nat.reduceSub, Array.replicate_succ, Array.replicate_zero, List.push_toArray, List.append_toArray, List.nil_append, List.cons_append]
  have nn := drain_not_nil
  gi_wp2_with (gi_at_call 31; refine (callsIn_wide (n := 0).2 (drain_any _ _)).mono ?_; rintro e w1 ⟨rfl, rfl⟩)
  exact ⟨_, results_tmp rfl _ _ _, rfl, Keep.below (K := fun _ => True) (((Keep.alloc _ _ _).trans (Keep.alloc _ _ _)).trans (Keep.alloc _ _ _)) (fun _ _ => trivial) (Nat.le_refl _)⟩
theorem Keep.next {N : Nat} {w A B : World} (h : Below N w A) (k : Keep (fun k => k < N) A B) (hN : N ≤ A.heap.size) : Below N w B := h.trans (k.below (fun _ h => h) hN)
theorem awake_any (w : World) : Calls Try.prog 6 #[] w fun e B => e = .returned (.bool true) ∧ Below w.heap.size w B := by
  have r2 : roomOf 2 = 2 := by decide
  have T7 := Lib.hid (new_has 2 w (fun k => k < w.heap.size) fun _ h => h)
  rw [r2] at T7
  obtain ⟨N, hN⟩ : ∃ N, w.heap.size = N := ⟨_, rfl⟩
  have S1 : Hid (∀ W, Has (fun k => k < N) W N [] 2 ∧ Below N w W → Calls Try.prog 10 #[.pointer (some ⟨N, 0, none⟩), .int .i64 1] W fun e B => e = .returned (.bool true) ∧ Has (fun k => k < N) B N [1] 2 ∧ Below N w B) := fun W ⟨h, hb⟩ => by
    have hs : N ≤ W.heap.size := hN ▸ hb.size
    exact (h.send (fun k hk => Nat.lt_of_lt_of_le hk hs) 1).mono fun e B ⟨he, hB, hk⟩ => ⟨he, hB, Keep.next hb hk hs⟩
  have S2 : Hid (∀ W, Has (fun k => k < N) W N [1] 2 ∧ Below N w W → Calls Try.prog 10 #[.pointer (some ⟨N, 0, none⟩), .int .i64 2] W fun e B => e = .returned (.bool true) ∧ Has (fun k => k < N) B N [1, 2] 2 ∧ Below N w B) := fun W ⟨h, hb⟩ => by
    have hs : N ≤ W.heap.size := hN ▸ hb.size
    exact (h.send (fun k hk => Nat.lt_of_lt_of_le hk hs) 2).mono fun e B ⟨he, hB, hk⟩ => ⟨he, hB, Keep.next hb hk hs⟩
  have S3 : Hid (∀ W, Has (fun k => k < N) W N [1, 2] 2 ∧ Below N w W → Calls Try.prog 10 #[.pointer (some ⟨N, 0, none⟩), .int .i64 3] W fun e B => e = .returned (.bool false) ∧ Has (fun k => k < N) B N [1, 2] 2 ∧ Below N w B) := fun W ⟨h, hb⟩ => by
    have hs : N ≤ W.heap.size := hN ▸ hb.size
    exact (h.send (fun k hk => Nat.lt_of_lt_of_le hk hs) 3).mono fun e B ⟨he, hB, hk⟩ => ⟨he, hB, Keep.next hb hk hs⟩
  have S4 : Hid (∀ W, Has (fun k => k < N) W N [1, 2] 2 ∧ Below N w W → Calls Try.prog 12 #[.pointer (some ⟨N, 0, none⟩)] W fun e B => e = .returned (.tuple #[.int .i64 1, .bool true]) ∧ Below N w B) := fun W ⟨h, hb⟩ => by
    have hs : N ≤ W.heap.size := hN ▸ hb.size
    exact h.take.mono fun e B ⟨he, hB, hk⟩ => ⟨he, Keep.next hb hk hs⟩
  rw [hN] at T7 ⊢
  clear hN
  go_enter Try.func6, Try.ntmps6
  go_wp2_with fail
  refine T7.out.mono ?_
  rintro e w1 ⟨rfl, h1⟩
  have H1 := Lib.hid h1
  clear h1
  go_wp2_with fail
  refine (S1.out _ H1.out).mono ?_
  rintro e w2 ⟨rfl, h2⟩
  have H2 := Lib.hid h2
  clear h2
  go_wp2_with fail
  refine (S2.out _ H2.out).mono ?_
  rintro e w3 ⟨rfl, h3⟩
  have H3 := Lib.hid h3
  clear h3
  go_wp2_with fail
  refine (S3.out _ H3.out).mono ?_
  rintro e w4 ⟨rfl, h4⟩
  have H4 := Lib.hid h4
  clear h4
  go_wp2_with fail
  refine (S4.out _ H4.out).mono ?_
  rintro e w5 ⟨rfl, h5⟩
  go_wp2
  go_ret
  exact ⟨rfl, h5⟩
end Go.Proofs.Ytgkiekidmadabaa
