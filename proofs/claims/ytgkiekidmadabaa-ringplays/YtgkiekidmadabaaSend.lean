/-
  ring.New[int] and (*Ring[int]).Send by their contracts.
-/
import Derived.Test.YtgkiekidmadabaaGrow
namespace Go.Proofs.Ytgkiekidmadabaa
open Go.RowKit Go.Shelf
theorem mod_inj {f n i j : Nat} (hi : i < n) (hj : j < n) (h : (f + i) % n = (f + j) % n) : i = j := by
  rcases Nat.le_total i j with hij | hij
  · have h1 := Nat.sub_mod_eq_zero_of_mod_eq h.symm
    rw [show f + j - (f + i) = j - i by omega, Nat.mod_eq_of_lt (by omega)] at h1
    omega
  · have h1 := Nat.sub_mod_eq_zero_of_mod_eq h
    rw [show f + i - (f + j) = i - j by omega, Nat.mod_eq_of_lt (by omega)] at h1
    omega
/-- the room of a new ring. -/
def roomOf (k : Int) : Nat := (min (max k 0) 65536).toNat
theorem roomOf_le (k : Int) : roomOf k ≤ 65536 := by unfold roomOf; omega
theorem new_any (k : Int) (w : World) : Calls Try.prog 7 #[.int .i64 k] w fun e B => e = .returned (.pointer (some ⟨w.heap.size, 0, none⟩)) ∧ RingI B w.heap.size 0 0 0 none [] (roomOf k) ∧ Below w.heap.size w B := by
  have key : ∀ z : Int, z = roomOf k → RingI (w.alloc (.cells #[.slice none 0 0, .int .i64 0, .int .i64 0, .int .i64 z] 62)) w.heap.size 0 0 0 none [] (roomOf k) := fun z hz => by
    subst hz
    exact ⟨World.alloc_heap_new _ _, by simp, by simp, roomOf_le k, fun _ => rfl, fun h => by omega⟩
  have K := Lib.hid key
  clear key
  by_cases h1 : k < 0
  · go_enter Try.func7, Try.ntmps7
    go_wp2
    go_ret
    exact ⟨rfl, K.out _ (by unfold roomOf; omega), (Below.refl _ _).alloc (Nat.le_refl _) _⟩
  · by_cases h2 : k ≤ 65536
    · go_enter Try.func7, Try.ntmps7
      go_wp2
      go_ret
      exact ⟨rfl, K.out _ (by unfold roomOf; omega), (Below.refl _ _).alloc (Nat.le_refl _) _⟩
    · go_enter Try.func7, Try.ntmps7
      go_wp2
      go_ret
      exact ⟨rfl, K.out _ (by unfold roomOf; omega), (Below.refl _ _).alloc (Nat.le_refl _) _⟩
theorem send_none (w : World) (x : Int) : Calls Try.prog 10 #[.pointer none, .int .i64 x] w fun e B => e = .returned (.bool false) ∧ ∃ m, B = w.drewN m := by
  go_enter Try.func10, Try.ntmps10
  go_wp2_with fail
  go_quiet (fail)
  go_wp2
  go_ret
  exact ⟨rfl, _, rfl⟩
theorem send_full {w : World} {r s n f : Nat} {a : Option Addr} {xs : List Int} {room : Nat} (h : RingI w r s n f a xs room) (hf : xs.length = room) (x : Int) : Calls Try.prog 10 #[.pointer (some ⟨r, 0, none⟩), .int .i64 x] w fun e B => e = .returned (.bool false) ∧ ∃ m, B = w.drewN m := by
  have c2 := h.c2
  have c3 := h.c3
  rw [hf] at c2
  clear h hf
  go_enter Try.func10, Try.ntmps10
  go_wp2_with fail
  go_quiet (fail)
  go_wp2
  go_ret
  exact ⟨rfl, _, rfl⟩
/-- what is left when x was put behind xs. -/
theorem Ring.put {w : World} {r s n f : Nat} {a : Option Addr} {xs : List Int} {room : Nat} (h : RingI w r s n f a xs room) (hx : xs.length < n) (x c : Int) (hc : c = ((xs.length + 1 : Nat) : Int)) :
    RingI ((w.setCell ⟨s, (f + xs.length) % n, none⟩ (.int .i64 x)).setCell ⟨r, 2, none⟩ (.int .i64 c)) r s n f a (xs ++ [x]) room ∧ Keep (fun k => ¬ foot r s n k) w ((w.setCell ⟨s, (f + xs.length) % n, none⟩ (.int .i64 x)).setCell ⟨r, 2, none⟩ (.int .i64 c)) := by
  subst hc
  have hn : 0 < n := by omega
  obtain ⟨h1, h2, h3, arr, h4, h5, h6⟩ := h.full hn
  refine ⟨⟨?_, by simp; omega, h.most, h.lid, h.bare, fun _ => ⟨h1, h2, h3, _, heap_set_other (heap_set h4 _ _) h3 _ _, by simp [h5], fun i hi => ?_⟩⟩, (Keep.setCell _ _ _ fun hk => hk (.inr ⟨hn, rfl⟩)).trans (Keep.setCell _ _ _ fun hk => hk (.inl rfl))⟩
  · rw [heap_set (heap_set_other h.head (fun e => h3 e.symm) _ _) 2 _]
    simp
  · have hm := Nat.mod_lt (f + xs.length) hn
    rw [Array.getElem?_setIfInBounds]
    simp only [List.length_append, List.length_cons, List.length_nil] at hi
    by_cases e : i < xs.length
    · rw [if_neg (fun e' => by have := mod_inj (by omega) (by omega) e'; omega), h6 i e, List.getElem_append_left e]
    · obtain rfl : i = xs.length := by omega
      rw [if_pos rfl, if_pos (by rw [h5]; exact hm)]
      simp
theorem Ring.slotz {w : World} {r s n f : Nat} {a : Option Addr} {xs : List Int} {room : Nat} (h : RingI w r s n f a xs room) (hn : 0 < n) {k : Nat} (hk : k < n) : ∃ z, w.cell? ⟨s, k, none⟩ = some z := by
  obtain ⟨h1, h2, h3, arr, h4, h5, h6⟩ := h.full hn
  exact ⟨arr[k], by rw [cell_of h4]; exact Array.getElem?_eq_getElem (by omega)⟩
theorem Ring.slotf {w : World} {r s n f : Nat} {a : Option Addr} {xs : List Int} {room : Nat} (h : RingI w r s n f a xs room) (hn : 0 < n) (k : Nat) : w.frozen? ⟨s, k, none⟩ = false := by
  obtain ⟨h1, h2, h3, arr, h4, h5, h6⟩ := h.full hn
  exact frozen_of h4 k
set_option maxHeartbeats 2000000 in
theorem send_slot {W1 : World} {r s n f : Nat} {a : Option Addr} {xs : List Int} {room : Nat} (h : RingI W1 r s n f a xs room) (hx : xs.length < n) (x : Int) :
    Calls Try.prog 10 #[.pointer (some ⟨r, 0, none⟩), .int .i64 x] W1 fun e B => e = .returned (.bool true) ∧ RingI B r s n f a (xs ++ [x]) room ∧ Keep (fun k => ¬ foot r s n k) W1 B := by
  have hn : 0 < n := by omega
  have R1 := Lib.hid h
  have e1 : ¬ (xs.length : Int) = (room : Int) := by have := h.most; omega
  have e2 : ((xs.length : Int) == (room : Int)) = false := by simpa using e1
  have e3 : ¬ (xs.length : Int) = (n : Int) := by omega
  have e4 : ((xs.length : Int) == (n : Int)) = false := by simpa using e3
  have c3 := h.c3
  clear h
  have c0 := R1.out.c0
  have c2 := R1.out.c2
  have hsr : ¬ s = r := (R1.out.full hn).2.2.1
  obtain ⟨hfn, rfl⟩ : f < n ∧ a = some ⟨s, 0, none⟩ := ⟨(R1.out.full hn).1, (R1.out.full hn).2.1⟩
  have hk := Nat.mod_lt (f + xs.length) hn
  obtain ⟨z, cz⟩ := R1.out.slotz hn hk
  have fz : W1.frozen? ⟨s, (f + xs.length) % n, none⟩ = false := R1.out.slotf hn _
  have f2 := R1.out.fr 2
  have HS : Hid (∀ q, Calls Try.prog 30 #[.pointer (some ⟨r, 0, none⟩), .int .i64 (xs.length : Int)] (W1.drewN q) fun e w' => e = .returned (.int .i64 (((f + xs.length) % n : Nat) : Int)) ∧ ∃ m, w' = (W1.drewN q).drewN m) := fun q => slot_any (R1.out.drewN q) hn xs.length (by have := R1.out.fits; have := R1.out.most; have := R1.out.lid; omega)
  have P : Hid (∀ q, RingI (((W1.drewN q).setCell ⟨s, (f + xs.length) % n, none⟩ (.int .i64 x)).setCell ⟨r, 2, none⟩ (.int .i64 ((xs.length : Int) + 1))) r s n f (some ⟨s, 0, none⟩) (xs ++ [x]) room ∧ Keep (fun k => ¬ foot r s n k) W1 (((W1.drewN q).setCell ⟨s, (f + xs.length) % n, none⟩ (.int .i64 x)).setCell ⟨r, 2, none⟩ (.int .i64 ((xs.length : Int) + 1)))) :=
    fun q => ⟨((R1.out.drewN q).put hx x _ (by omega)).1, (Keep.drewN _ _ q).trans ((R1.out.drewN q).put hx x _ (by omega)).2⟩
  have D2 : ∀ q, ((W1.drewN q).setCell ⟨s, (f + xs.length) % n, none⟩ (.int .i64 x)).cell? ⟨r, 2, none⟩ = some (.int .i64 (xs.length : Int)) := fun q => (World.cell?_setCell_other _ _ _ _ (by intro e; injection e with e; exact hsr e)).trans c2
  have hlx : xs.length ≤ 65536 := by have := R1.out.fits; have := R1.out.most; have := R1.out.lid; omega
  generalize (f + xs.length) % n = k at *
  clear R1
  generalize xs.length = c at *
  go_enter Try.func10, Try.ntmps10
  go_wp2_with fail
  go_quiet (fail)
  go_wp2_with fail
  go_quiet (fail)
  go_wp2_with fail
  go_region_with (go_at_call 30; refine (HS.out _).mono ?_; rintro e w2 ⟨rfl, m2, rfl⟩)
  all_goals (
    go_wp2
    go_ret
    exact ⟨rfl, P.out _⟩)
theorem Keep.keeps {w W B : World} {r g m : Nat} (h : Keep (fun k => ¬ k = r) w W) (hg : w.heap.size ≤ g) (h2 : Keep (fun k => ¬ foot r g m k) W B) : Keep (fun k => ¬ k = r) w B :=
  ⟨h2.os.trans h.os, h2.tape.trans h.tape, h2.output.trans h.output, Nat.le_trans h.size h2.size, fun k hk hn => (h2.block k (Nat.lt_of_lt_of_le hk h.size) (fun hf => by rcases hf with rfl | ⟨_, rfl⟩; exact hn rfl; omega)).trans (h.block k hk hn)⟩
set_option maxHeartbeats 2000000 in
theorem send_grow {w : World} {r s n f : Nat} {a : Option Addr} {xs : List Int} {room : Nat} (h : RingI w r s n f a xs room) (hx : xs.length = n) (hr : n < room) (x : Int) :
    Calls Try.prog 10 #[.pointer (some ⟨r, 0, none⟩), .int .i64 x] w fun e B => e = .returned (.bool true) ∧ ∃ g m, RingI B r g m 0 (some ⟨g, 0, none⟩) (xs ++ [x]) room ∧ w.heap.size ≤ g ∧ Keep (fun k => ¬ k = r) w B := by
  have e1 : ¬ (xs.length : Int) = (room : Int) := by omega
  have e2 : ((xs.length : Int) == (room : Int)) = false := by simpa using e1
  have G : Hid (∀ q, Calls Try.prog 29 #[.pointer (some ⟨r, 0, none⟩)] (w.drewN q) fun e B => e = .returned (.tuple #[]) ∧ Hid (∃ g n', n < n' ∧ RingI B r g n' 0 (some ⟨g, 0, none⟩) xs room ∧ w.heap.size ≤ g ∧ Keep (fun k => ¬ k = r) w B)) :=
    fun q => (grow_any (h.drewN q) hx hr).mono fun e B ⟨he, g, n', h1, h2, h3, h4⟩ => ⟨he, g, n', h1, h2, h3, (Keep.drewN _ _ q).trans h4⟩
  have c3 := h.c3
  have c0 := h.c0
  have c2 := h.c2
  have HX := Lib.hid hx
  have hc : (xs.length : Int) = (n : Int) := by omega
  rw [hc] at c2 e1 e2
  clear h hx
  clear hc
  go_enter Try.func10, Try.ntmps10
  go_wp2_with fail
  go_quiet (fail)
  go_wp2_with fail
  go_quiet (fail)
  go_wp2_with fail
  refine (G.out _).mono ?_
  rintro e W1 ⟨rfl, ho⟩
  obtain ⟨g, m, hm, R, hg, hkk⟩ := ho.out
  have R1 := Lib.hid R
  have hx := HX.out
  replace hx : xs.length < m := by omega
  have hn : 0 < m := by omega
  have KK := Lib.hid hkk
  have HG := Lib.hid hg
  clear c0 c2 c3 R hkk ho G HX hg
  have e0 : (0 + xs.length) % m = xs.length := by rw [Nat.zero_add, Nat.mod_eq_of_lt hx]
  have c0 := R1.out.c0
  have c2 := R1.out.c2
  have hsr : ¬ g = r := (R1.out.full hn).2.2.1
  have hk := hx
  obtain ⟨z, cz⟩ := R1.out.slotz hn hk
  have fz : W1.frozen? ⟨g, xs.length, none⟩ = false := R1.out.slotf hn _
  have f2 := R1.out.fr 2
  have HS : Hid (∀ q, Calls Try.prog 30 #[.pointer (some ⟨r, 0, none⟩), .int .i64 (xs.length : Int)] (W1.drewN q) fun e w' => e = .returned (.int .i64 ((xs.length : Nat) : Int)) ∧ ∃ m, w' = (W1.drewN q).drewN m) := fun q => by have := slot_any (R1.out.drewN q) hn xs.length (by have := R1.out.fits; have := R1.out.most; have := R1.out.lid; omega); rwa [e0] at this
  have P : Hid (∀ q, RingI (((W1.drewN q).setCell ⟨g, xs.length, none⟩ (.int .i64 x)).setCell ⟨r, 2, none⟩ (.int .i64 ((xs.length : Int) + 1))) r g m 0 (some ⟨g, 0, none⟩) (xs ++ [x]) room ∧ Keep (fun k => ¬ foot r g m k) W1 (((W1.drewN q).setCell ⟨g, xs.length, none⟩ (.int .i64 x)).setCell ⟨r, 2, none⟩ (.int .i64 ((xs.length : Int) + 1)))) :=
    fun q => ⟨by have := ((R1.out.drewN q).put hx x ((xs.length : Int) + 1) (by omega)).1; rwa [e0] at this, (Keep.drewN _ _ q).trans (by have := ((R1.out.drewN q).put hx x ((xs.length : Int) + 1) (by omega)).2; rwa [e0] at this)⟩
  have D2 : ∀ q, ((W1.drewN q).setCell ⟨g, xs.length, none⟩ (.int .i64 x)).cell? ⟨r, 2, none⟩ = some (.int .i64 (xs.length : Int)) := fun q => (World.cell?_setCell_other _ _ _ _ (by intro e; injection e with e; exact hsr e)).trans c2
  have hlx : xs.length ≤ 65536 := by have := R1.out.fits; have := R1.out.most; have := R1.out.lid; omega
  clear e0
  clear R1
  generalize xs.length = c at *
  go_wp2_with fail
  go_region_with (go_at_call 30; refine (HS.out _).mono ?_; rintro e w2 ⟨rfl, m2, rfl⟩)
  all_goals (
    go_wp2
    go_ret
    exact ⟨rfl, g, m, (P.out _).1, HG.out, KK.out.keeps HG.out (P.out _).2⟩)
theorem send_room {w : World} {r s n f : Nat} {a : Option Addr} {xs : List Int} {room : Nat} (h : RingI w r s n f a xs room) (hr : xs.length < room) (x : Int) :
    Calls Try.prog 10 #[.pointer (some ⟨r, 0, none⟩), .int .i64 x] w fun e B => e = .returned (.bool true) ∧ ∃ s' n' f' a', RingI B r s' n' f' a' (xs ++ [x]) room ∧ (∀ k, foot r s' n' k → foot r s n k ∨ w.heap.size ≤ k) ∧ Keep (fun k => ¬ foot r s n k) w B := by
  by_cases hx : xs.length < n
  · exact (send_slot h hx x).mono fun e B ⟨he, hR, hk⟩ => ⟨he, s, n, f, a, hR, fun k hk => .inl hk, hk⟩
  · have hx' : xs.length = n := by have := h.fits; omega
    refine (send_grow h hx' (by omega) x).mono fun e B ⟨he, g, m, hR, hg, hk⟩ => ⟨he, g, m, 0, _, hR, fun k hk => ?_, hk.mono fun k _ h e => h (.inl e)⟩
    rcases hk with rfl | ⟨_, rfl⟩
    · exact .inl (.inl rfl)
    · exact .inr hg
end Go.Proofs.Ytgkiekidmadabaa
